/-
  works.
-/
import Derived.Test.YtccfoafcfnhejaaEqs
namespace Go.Proofs.Ytccfoafcfnhejaa
open Go.RowKit

theorem Byts.turn {w w' : World} {B : Nat} {v : Value} {l : List UInt8} {S : List Nat} (h : Byts w B v l) (ht : Turn S w w') (hB : B ≤ w.heap.size) (hS : ∀ k, v.ownBlock = some k → k ∉ S) : Byts w' B v l := by
  obtain ⟨ad, c, rfl, h1, h2, h⟩ := h
  refine ⟨ad, c, rfl, h1, h2, fun hne => ?_⟩
  obtain ⟨b, o, rfl, hb, hc⟩ := h hne
  exact ⟨b, o, rfl, hb, fun j hj => (World.cell?_of_block (a := ⟨b, o + j, none⟩) (ht.block b (by omega) (hS b rfl))).trans (hc j hj)⟩
theorem ints_lit (w : World) (cs : Array Value) (l : List Int) (n : Nat) (h : cs.toList = l.map (Value.int .i64)) (hn : n = l.length) : Ints (w.alloc (.cells cs 3)) (w.heap.size + 1) (.slice (some ⟨w.heap.size, 0, none⟩) n n) l := by
  subst hn
  refine ⟨_, _, rfl, fun _ => ⟨w.heap.size, 0, rfl, by omega, fun j hj => ?_⟩⟩
  have h1 := cell_of_row (w.alloc (.cells cs 3)) w.heap.size (0 + j) cs 3 (0, 0) (heap_alloc_new w _)
  rw [h1, ← Array.getElem?_toList, h]
  simp [List.getD, List.getElem?_eq_getElem hj]
theorem Bols.nil0 (w : World) (B : Nat) : Bols w B (.slice none 0 0) [] := ⟨none, 0, rfl, Nat.le_refl _, fun h => absurd rfl h⟩

theorem below_turn {B : Nat} {a w w' : World} {S : List Nat} (h : Below B a w) (ht : Turn S w w') (hB : B ≤ w.heap.size) (hS : ∀ k, k ∈ S → B ≤ k) : Below B a w' :=
  h.trans ⟨ht.os, ht.tape, ht.output, ht.size, fun k hk => ht.block k (Nat.lt_of_lt_of_le hk hB) (fun hm => by have := hS k hm; omega)⟩

theorem EqualI_b (va vb : Value) (la lb : List Int) (B1 B2 : Nat) (w : World) (ha : Ints w B1 va la) (hb : Ints w B2 vb lb) (hl : la.length ≤ 1099511627776) :
    Calls Try.prog 25 #[va, vb] w fun e w' => e = .returned (.bool (decide (la = lb))) ∧ Below w.heap.size w w' := by
  refine (EqualI_any va vb la lb B1 B2 w ha hb hl).mono ?_
  rintro e w' ⟨h, q, rfl⟩
  exact ⟨h, below_drewN (Below.refl _ _) q⟩

theorem Own.open {w : World} {base : Nat} {v : Value} {l : List UInt8} (h : Own w base v l) (hne : l ≠ []) : ∃ g cap, v = .slice (some ⟨g, 0, none⟩) l.length cap ∧ l.length ≤ cap ∧ base ≤ g ∧ g < w.heap.size ∧ (∀ j, w.frozen? ⟨g, j, none⟩ = false) ∧ ∀ j, j < l.length → w.cell? ⟨g, j, none⟩ = some (.int .u8 ((l.getD j 0).toNat : Int)) := by
  have hby := h.byts
  rcases h.2 with ⟨rfl, h0⟩ | ⟨g, cap, cur, rfl, hb, hg, hle, _⟩
  · exact absurd (List.eq_nil_of_length_eq_zero h0) hne
  · refine ⟨g, cap, rfl, hle, hb, lt_of_heap hg, fun j => by simp [World.frozen?, hg], fun j hj => ?_⟩
    obtain ⟨ad, c, hv, _, _, hc⟩ := hby
    simp only [Value.slice.injEq] at hv
    obtain ⟨rfl, _, _⟩ := hv
    obtain ⟨b, o, e, _, hcl⟩ := hc hne
    cases e
    have := hcl j hj
    rwa [Nat.zero_add] at this

/-- the device of 'works' behind its crash -/
def dw : Dk.Dev := ((Dk.new 80).begun.wr 5 (List.replicate 256 1)).cr [] 3
theorem dw_err : dw.err = 0 := by kernel_rfl
theorem dw_cont : dw.cont 5 = [1, 1, 1] ++ List.replicate 253 0 := by kernel_rfl
theorem dw_op : dw.begun.op = 2 := rfl

theorem new_err (n : Nat) : (Dk.new n).err = 0 := by simp [Dk.Dev.err, Dk.new]
theorem wr5_dl (b : Dk.Blk) : dlI ((Dk.new 80).begun.wr 5 b) = [5] := by
  refine Dk.eq_of_rising (dlI_pw _) (by simp) fun y => ?_
  unfold dlI
  rw [List.mem_map]
  constructor
  · rintro ⟨i, hi, rfl⟩
    have := (Dk.mem_dl.1 hi).2
    simp only [Dk.Dev.wr, Dk.Dev.begun, Dk.new] at this
    split at this
    · simp; omega
    · simp at this
  · intro hy
    simp at hy
    subst hy
    refine ⟨5, Dk.mem_dl.2 ⟨?_, ?_⟩, rfl⟩
    · show 5 < (List.replicate 80 Dk.zeroB).length
      rw [List.length_replicate]; omega
    · simp [Dk.Dev.wr]

set_option maxRecDepth 100000 in
set_option maxHeartbeats 2000000 in
theorem works_any (w : World) : Calls Try.prog 7 #[] w fun e w' => e = .returned (.bool true) ∧ Below w.heap.size w w' := by
  go_enter Try.func7, Try.ntmps7
  go_wp2_with fail
  refine (New_ok 80 w (by omega) (by omega)).mono ?_
  rintro e w1 ⟨x, rfl, hx, hk, hb1⟩
  unfold ptr
  go_wp2_with fail
  refine (Size_any w1 x 0 _ hk).mono ?_
  rintro e w2 ⟨rfl, rfl⟩
  have hl80 : (Dk.new 80).st.length = 80 := by show (List.replicate 80 Dk.zeroB).length = 80; rw [List.length_replicate]
  rw [hl80]
  go_wp2_with fail
  refine (Repeat_256 _ 1 (w2.heap.size + 1) _ (byts_lit w2 _ [1] 1 rfl rfl) (by simp)).mono ?_
  rintro e w3 ⟨q, rfl, hq, hby, hb3⟩
  have hk3 : Has w3 x 0 (Dk.new 80) := (hk.below ((Below.refl _ w2).alloc (Nat.le_refl _) _)).below hb3
  have hb3' : Below w.heap.size w w3 := (hb1.alloc hb1.size _).trans (hb3.mono (by have := hb1.size; simp; omega))
  have hqx : q ∉ x.bl := fun hm => by have := hk.lt q hm; simp at hq; omega
  have hqlt : q < w3.heap.size := by obtain ⟨ad, c, hv, _, _, hc⟩ := hby; simp only [Value.slice.injEq] at hv; obtain ⟨rfl, _, _⟩ := hv; obtain ⟨b, o, e, _, hcl⟩ := hc (by intro e; have := congrArg List.length e; rw [List.length_replicate] at this; simp at this); cases e; exact World.block_lt_of_cell? w3 _ (hcl 0 (by rw [List.length_replicate]; omega))
  go_wp2_with fail
  refine (Write_ok w3 x 0 _ hk3 (by omega) 5 (by rw [hl80]; omega) _ (List.replicate 256 1) (q + 1) hby (by omega) List.length_replicate (by intro k e; cases e; exact hqx) (new_err 80)).mono ?_
  rintro e w4 ⟨rfl, hk4, ht4⟩
  have hb4 : Below w.heap.size w w4 := below_turn hb3' ht4 hb3'.size hx
  go_wp2_with fail
  refine (Dirty_any w4 x _ _ hk4 (by omega)).mono ?_
  rintro e w5 ⟨v5, rfl, ho5, hb5⟩
  rw [wr5_dl] at ho5
  have hk5 := hk4.below hb5
  have hb5' : Below w.heap.size w w5 := hb4.trans (hb5.mono hb4.size)
  go_wp2_with fail
  refine (EqualI_b _ _ [5] [5] w5.heap.size (w5.heap.size + 1) _ (ho5.ints.below ((Below.refl _ w5).alloc (Nat.le_refl _) _) (Nat.le_refl _)) (ints_lit w5 _ [5] 1 rfl rfl) (by simp)).mono ?_
  rintro e w6 ⟨rfl, hb6⟩
  have hb6' : Below w.heap.size w w6 := (hb5'.alloc hb5'.size _).trans (hb6.mono (by have := hb5'.size; simp; omega))
  have hk6 := (hk5.below ((Below.refl _ w5).alloc (Nat.le_refl _) _)).below hb6
  clear hb6 hb5 hb3 hq
  rw [decide_eq_true (show ([5] : List Int) = [5] from rfl)]
  go_wp2_with fail
  refine (Crash_any w6 x _ _ hk6 (by omega) _ [] 0 (Bols.nil0 _ _) (Nat.zero_le _) (by intro _ k e; cases e) 3 3 (by decide)).mono ?_
  rintro e w7 ⟨rfl, hk7, ht7⟩
  have hb7 : Below w.heap.size w w7 := below_turn hb6' ht7 hb6'.size hx
  have hl7 : dw.st.length = 80 := by simp [dw, Dk.Dev.cr, Dk.Dev.wr, Dk.Dev.begun, hl80]
  go_wp2_with fail
  refine (Read_ok w7 x _ dw hk7 (by omega) 5 (by rw [hl7]; omega) dw_err).mono ?_
  rintro e w8 ⟨v8, rfl, ho8, hk8, ht8⟩
  have hb8 : Below w.heap.size w w8 := below_turn hb7 ht8 hb7.size hx
  rw [dw_cont] at ho8
  obtain ⟨g8, c8, rfl, hc8, hg8, hgl8, hfr8, hcl8⟩ := ho8.open (by simp)
  have hlen8 : ([1, 1, 1] ++ List.replicate 253 (0 : UInt8)).length = 256 := by rw [List.length_append, List.length_replicate]; rfl
  have e2 := hcl8 2 (by omega)
  have e3 := hcl8 3 (by omega)
  have g2 : ([1, 1, 1] ++ List.replicate 253 (0 : UInt8)).getD 2 0 = 1 := rfl
  have g3 : ([1, 1, 1] ++ List.replicate 253 (0 : UInt8)).getD 3 0 = 0 := rfl
  rw [g2] at e2
  rw [g3] at e3
  rw [hlen8]
  clear hcl8 g2 g3 hlen8
  go_wp2_with fail
  refine (Ops_any w8 x _ _ hk8).mono ?_
  rintro e w9 ⟨rfl, rfl⟩
  rw [dw_op]
  go_wp2
  go_ret
  exact ⟨rfl, hb8⟩
end Go.Proofs.Ytccfoafcfnhejaa
