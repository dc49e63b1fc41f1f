/-
  DiskKnown.
-/
import Derived.Test.YtkiacjjagjlgcaaWorks
namespace Go.Proofs.Ytkiacjjagjlgcaa
open Go.RowKit

def ones : Dk.Blk := List.replicate 256 1
def twos : Dk.Blk := List.replicate 256 2
def k1 : Dk.Dev := (Dk.new 80).begun.wr 5 ones
def k2 : Dk.Dev := k1.begun.wr 2 twos
def k3 : Dk.Dev := k2.cr [false, true] 9
def k4 : Dk.Dev := k3.fail 1 9
def k5 : Dk.Dev := k4.begun
def k6 : Dk.Dev := k5.begun
def k7 : Dk.Dev := k6.begun.fl
def k8 : Dk.Dev := k7.cut 0
def k9 : Dk.Dev := k8.begun
def k10 : Dk.Dev := k9.cr [] 0
theorem k1_err : k1.err = 0 := by kernel_rfl
theorem k4_err : k4.err = 0 := by kernel_rfl
theorem k5_err : k5.err = 9 := by kernel_rfl
theorem k6_err : k6.err = 0 := by kernel_rfl
theorem k8_err : k8.err = 30 := by kernel_rfl
theorem k10_err : k10.err = 0 := by kernel_rfl
theorem k3_a : k3.stab 5 = ones := by kernel_rfl
theorem k3_b : k3.stab 2 = List.replicate 9 2 ++ List.replicate 247 0 := by kernel_rfl
theorem k0_len : (Dk.new 80).st.length = 80 := by show (List.replicate 80 Dk.zeroB).length = 80; rw [List.length_replicate]
theorem k1_len : k1.st.length = 80 := k0_len
theorem k3_len : k3.st.length = 80 := by show ((List.range k2.st.length).map _).length = 80; rw [List.length_map, List.length_range]; exact k0_len
theorem k4_len : k4.st.length = 80 := k3_len
theorem bols_lit (w : World) (cs : Array Value) (l : List Bool) (n : Nat) (h : cs.toList = l.map Value.bool) (hn : n = l.length) : Bols (w.alloc (.cells cs 4)) (w.heap.size + 1) (.slice (some ⟨w.heap.size, 0, none⟩) n n) l := by
  subst hn
  refine ⟨_, _, rfl, Nat.le_refl _, fun _ => ⟨w.heap.size, 0, rfl, by omega, fun j hj => ?_⟩⟩
  have h1 := cell_of_row (w.alloc (.cells cs 4)) w.heap.size (0 + j) cs 4 (0, 0) (heap_alloc_new w _)
  rw [h1, ← Array.getElem?_toList, h]
  simp [List.getD, List.getElem?_eq_getElem hj]
theorem byts_lt {w : World} {B q : Nat} {l : List UInt8} {n c : Nat} (h : Byts w B (.slice (some ⟨q, 0, none⟩) n c) l) (hl : l.length = 256) : q < w.heap.size := by
  obtain ⟨ad, c', hv, _, _, hc⟩ := h
  simp only [Value.slice.injEq] at hv
  obtain ⟨rfl, _, _⟩ := hv
  obtain ⟨b, o, e, _, hcl⟩ := hc (by intro e; rw [e] at hl; simp at hl)
  cases e
  exact World.block_lt_of_cell? w _ (hcl 0 (by omega))

set_option maxRecDepth 100000 in
set_option maxHeartbeats 8000000 in
theorem known_any (w : World) : Calls Try.prog 3 #[] w fun e w' => e = .returned (.bool true) ∧ Below w.heap.size w w' := by
  go_enter Try.func3, Try.ntmps3
  go_wp2_with fail
  refine (works_any w).mono ?_
  rintro e w1 ⟨rfl, hb1⟩
  go_wp2_with fail
  refine (New_arg 79 w1 (by omega)).mono ?_
  rintro e w2 ⟨rfl, rfl⟩
  go_wp2_with fail
  refine (New_arg 4097 w2 (by omega)).mono ?_
  rintro e w3 ⟨rfl, rfl⟩
  go_wp2_with fail
  refine (New_ok 80 w3 (by omega) (by omega)).mono ?_
  rintro e w4 ⟨x, rfl, hx, hk, hb4⟩
  have hx0 : ∀ k, k ∈ x.bl → w.heap.size ≤ k := fun k hm => Nat.le_trans hb1.size (hx k hm)
  have hB4 : Below w.heap.size w w4 := hb1.trans (hb4.mono hb1.size)
  unfold ptr
  go_wp2_with fail
  refine (Repeat_256 _ 1 (w4.heap.size + 1) _ (byts_lit w4 _ [1] 1 rfl rfl) (by simp)).mono ?_
  rintro e w5 ⟨q1, rfl, hq1, hy1, hb5⟩
  have hB5 : Below w.heap.size w w5 := (hB4.alloc hB4.size _).trans (hb5.mono (by have := hB4.size; simp; omega))
  have hk5 := (hk.below ((Below.refl _ w4).alloc (Nat.le_refl _) _)).below hb5
  have hq1x : q1 ∉ x.bl := fun hm => by have := hk.lt q1 hm; simp at hq1; omega
  have hy1 : Byts w5 (q1 + 1) (.slice (some ⟨q1, 0, none⟩) 256 256) ones := hy1
  have hq1l := byts_lt hy1 List.length_replicate
  clear hb5 hq1
  go_wp2_with fail
  refine (Repeat_256 _ 2 (w5.heap.size + 1) _ (byts_lit w5 _ [2] 1 rfl rfl) (by simp)).mono ?_
  rintro e w6 ⟨q2, rfl, hq2, hy2, hb6⟩
  have hB6 : Below w.heap.size w w6 := (hB5.alloc hB5.size _).trans (hb6.mono (by have := hB5.size; simp; omega))
  have hk6 := (hk5.below ((Below.refl _ w5).alloc (Nat.le_refl _) _)).below hb6
  have hq2x : q2 ∉ x.bl := fun hm => by have := hk5.lt q2 hm; simp at hq2; omega
  have hy2 : Byts w6 (q2 + 1) (.slice (some ⟨q2, 0, none⟩) 256 256) twos := hy2
  have hq2l := byts_lt hy2 List.length_replicate
  have hy1 := (hy1.alloc (by omega) _).below hb6 (by simp; omega)
  have hq1l := byts_lt hy1 List.length_replicate
  clear hb6 hq2 hb4
  go_wp2_with fail
  refine (Write_no w6 x _ _ hk6 80 _ (.inr (by rw [k0_len]; omega))).mono ?_
  rintro e w7 ⟨rfl, rfl⟩
  go_wp2_with fail
  refine (Write_arg w7 x _ _ hk6 0 (by rw [k0_len]; omega) _ 255 256 (by omega)).mono ?_
  rintro e w8 ⟨rfl, rfl⟩
  go_wp2_with fail
  refine (Write_ok w8 x 0 _ hk6 (by omega) 5 (by rw [k0_len]; omega) _ ones (q1 + 1) hy1 (by omega) List.length_replicate (by intro k e; cases e; exact hq1x) (new_err 80)).mono ?_
  rintro e w9 ⟨rfl, hk9, ht9⟩
  have hk9 : Has w9 x 2 k1 := hk9
  have hB9 := below_turn hB6 ht9 hB6.size hx0
  have hy1 := hy1.turn ht9 (by omega) (by intro k e; cases e; exact hq1x)
  have hy2 := hy2.turn ht9 (by omega) (by intro k e; cases e; exact hq2x)
  have hq1l := byts_lt hy1 List.length_replicate
  have hq2l := byts_lt hy2 List.length_replicate
  go_wp2_with fail
  refine (Write_ok w9 x 2 k1 hk9 (by omega) 2 (by rw [k1_len]; omega) _ twos (q2 + 1) hy2 (by omega) List.length_replicate (by intro k e; cases e; exact hq2x) k1_err).mono ?_
  rintro e w10 ⟨rfl, hk10, ht10⟩
  have hk10 : Has w10 x 4 k2 := hk10
  have hB10 := below_turn hB9 ht10 hB9.size hx0
  have hy1 := hy1.turn ht10 (by omega) (by intro k e; cases e; exact hq1x)
  have hq1l := byts_lt hy1 List.length_replicate
  go_wp2_with fail
  have hk10a := hk10.below ((Below.refl _ w10).alloc (Nat.le_refl _) (.cells { toList := [false, true].map Value.bool } 4))
  refine (Crash_any _ x 4 k2 hk10a (by omega) _ [false, true] (w10.heap.size + 1) (bols_lit w10 _ [false, true] 2 rfl rfl) (by simp) (by intro _ k e; cases e; intro hm; exact Nat.lt_irrefl _ (hk10.lt w10.heap.size hm)) 9 9 (by decide)).mono ?_
  rintro e w11 ⟨rfl, hk11, ht11⟩
  have hk11 : Has w11 x 4 k3 := hk11
  have hB11 := below_turn (hB10.alloc hB10.size _) ht11 (by have := hB10.size; simp; omega) hx0
  have hy1 := (hy1.alloc (by omega) _).turn ht11 (by simp; omega) (by intro k e; cases e; exact hq1x)
  have hq1l := byts_lt hy1 List.length_replicate
  clear hk10a ht11
  go_wp2_with fail
  refine (Stable_ok w11 x 4 k3 hk11 5 (by rw [k3_len]; omega)).mono ?_
  rintro e w12 ⟨va, rfl, hoa, hb12⟩
  rw [k3_a] at hoa
  have hk12 := hk11.below hb12
  have hB12 := hB11.trans (hb12.mono hB11.size)
  have hy1 := hy1.below hb12 (by omega)
  have hya := hoa.byts
  clear hb12
  go_wp2_with fail
  refine (Stable_ok w12 x 4 k3 hk12 2 (by rw [k3_len]; omega)).mono ?_
  rintro e w13 ⟨vb, rfl, hob, hb13⟩
  rw [k3_b] at hob
  have hk13 := hk12.below hb13
  have hB13 := hB12.trans (hb13.mono hB12.size)
  have hy1 := hy1.below hb13 (by have := byts_lt hy1 List.length_replicate; omega)
  have hya := hya.below hb13 (Nat.le_refl _)
  obtain ⟨gb, cb, rfl, hcb, hgb, hgl, hfr, hcl⟩ := hob.open (by simp)
  have hlen : (List.replicate 9 (2 : UInt8) ++ List.replicate 247 0).length = 256 := by rw [List.length_append, List.length_replicate, List.length_replicate]
  have e8 := hcl 8 (by omega)
  have e9 := hcl 9 (by omega)
  have g8 : (List.replicate 9 (2 : UInt8) ++ List.replicate 247 0).getD 8 0 = 2 := rfl
  have g9 : (List.replicate 9 (2 : UInt8) ++ List.replicate 247 0).getD 9 0 = 0 := rfl
  rw [g8] at e8
  rw [g9] at e9
  rw [hlen]
  clear hcl g8 g9 hlen hb13 hob hoa
  go_wp2_with fail
  refine (Equal_any _ _ ones ones _ _ w13 hya hy1).mono ?_
  rintro e w14 ⟨rfl, rfl⟩
  rw [decide_eq_true (show ones = ones from rfl)]
  go_wp2_with fail
  refine (Fail_ok w14 x 4 k3 hk13 (by omega) 1 9 (by omega) (by omega) (.inr rfl)).mono ?_
  rintro e w15 ⟨rfl, hk15, ht15⟩
  have hk15 : Has w15 x 5 k4 := hk15
  have hB15 := below_turn hB13 ht15 hB13.size hx0
  have hy1 := hy1.turn ht15 (by have := byts_lt hy1 List.length_replicate; omega) (by intro k e; cases e; exact hq1x)
  go_wp2_with fail
  refine (Fail_arg w15 x 1 2 (by omega)).mono ?_
  rintro e w16 ⟨rfl, rfl⟩
  go_wp2_with fail
  refine (Fail_arg w16 x (-1) 9 (by omega)).mono ?_
  rintro e w17 ⟨rfl, rfl⟩
  go_wp2_with fail
  refine (Read_ok w17 x 5 k4 hk15 (by omega) 0 (by rw [k4_len]; omega) k4_err).mono ?_
  rintro e w18 ⟨v18, rfl, -, hk18, ht18⟩
  have hk18 : Has w18 x 6 k5 := hk18
  have hB18 := below_turn hB15 ht18 hB15.size hx0
  have hy1 := hy1.turn ht18 (by have := byts_lt hy1 List.length_replicate; omega) (by intro k e; cases e; exact hq1x)
  go_wp2_with fail
  refine (Flush_err w18 x 6 k5 hk18 (by omega) (by rw [k5_err]; decide)).mono ?_
  rintro e w19 ⟨rfl, hk19, ht19⟩
  rw [k5_err]
  have hk19 : Has w19 x 7 k6 := hk19
  have hB19 := below_turn hB18 ht19 hB18.size hx0
  have hy1 := hy1.turn ht19 (by have := byts_lt hy1 List.length_replicate; omega) (by intro k e; cases e; exact hq1x)
  go_wp2_with fail
  refine (Flush_ok w19 x 7 k6 hk19 (by omega) k6_err).mono ?_
  rintro e w20 ⟨rfl, hk20, ht20⟩
  have hk20 : Has w20 x 8 k7 := hk20
  have hB20 := below_turn hB19 ht20 hB19.size hx0
  have hy1 := hy1.turn ht20 (by have := byts_lt hy1 List.length_replicate; omega) (by intro k e; cases e; exact hq1x)
  go_wp2_with fail
  refine (Cut_ok w20 x 8 k7 hk20 (by omega) 0 (by omega) (by omega)).mono ?_
  rintro e w21 ⟨rfl, hk21, ht21⟩
  have hk21 : Has w21 x 9 k8 := hk21
  have hB21 := below_turn hB20 ht21 hB20.size hx0
  have hy1 := hy1.turn ht21 (by have := byts_lt hy1 List.length_replicate; omega) (by intro k e; cases e; exact hq1x)
  go_wp2_with fail
  refine (Cut_arg w21 x (-1) (by omega)).mono ?_
  rintro e w22 ⟨rfl, rfl⟩
  go_wp2_with fail
  refine (Flush_err w22 x 9 k8 hk21 (by omega) (by rw [k8_err]; decide)).mono ?_
  rintro e w23 ⟨rfl, hk23, ht23⟩
  rw [k8_err]
  have hk23 : Has w23 x 10 k9 := hk23
  have hB23 := below_turn hB21 ht23 hB21.size hx0
  have hy1 := hy1.turn ht23 (by have := byts_lt hy1 List.length_replicate; omega) (by intro k e; cases e; exact hq1x)
  go_wp2_with fail
  refine (Crash_any w23 x 10 k9 hk23 (by omega) _ [] 0 (Bols.nil0 _ _) (Nat.zero_le _) (by intro _ k e; cases e) 0 0 (by decide)).mono ?_
  rintro e w24 ⟨rfl, hk24, ht24⟩
  have hk24 : Has w24 x 10 k10 := hk24
  have hB24 := below_turn hB23 ht24 hB23.size hx0
  have hy1 := hy1.turn ht24 (by have := byts_lt hy1 List.length_replicate; omega) (by intro k e; cases e; exact hq1x)
  go_wp2_with fail
  refine (Flush_ok w24 x 10 k10 hk24 (by omega) k10_err).mono ?_
  rintro e w25 ⟨rfl, hk25, ht25⟩
  have hB25 := below_turn hB24 ht25 hB24.size hx0
  go_wp2_with fail
  refine (nil_Read w25 0).mono ?_
  rintro e w26 ⟨rfl, rfl⟩
  go_wp2_with fail
  refine (nil_Stable w26 0).mono ?_
  rintro e w27 ⟨rfl, rfl⟩
  go_wp2_with fail
  refine (nil_Write w27 0 _).mono ?_
  rintro e w28 ⟨rfl, rfl⟩
  go_wp2_with fail
  refine (nil_Flush w28).mono ?_
  rintro e w29 ⟨rfl, rfl⟩
  go_wp2_with fail
  refine (nil_Fail w29 0 9).mono ?_
  rintro e w30 ⟨rfl, rfl⟩
  go_wp2_with fail
  refine (nil_Cut w30 0).mono ?_
  rintro e w31 ⟨rfl, rfl⟩
  go_wp2_with fail
  refine (nil_Crash w31 _ 0).mono ?_
  rintro e w32 ⟨rfl, rfl⟩
  go_wp2_with fail
  refine (nil_Copy w32).mono ?_
  rintro e w33 ⟨rfl, rfl⟩
  go_wp2_with fail
  refine (nil_Dirty w33).mono ?_
  rintro e w34 ⟨rfl, rfl⟩
  go_wp2_with fail
  refine (nil_Size w34).mono ?_
  rintro e w35 ⟨rfl, rfl⟩
  go_wp2_with fail
  refine (nil_Ops w35).mono ?_
  rintro e w36 ⟨rfl, rfl⟩
  go_wp2
  go_ret
  exact ⟨rfl, hB25⟩
end Go.Proofs.Ytkiacjjagjlgcaa
