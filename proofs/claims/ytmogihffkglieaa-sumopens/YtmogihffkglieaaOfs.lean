/-
  THE WALKS OF SumOfs AND SumMore.
-/
import Derived.Test.YtmogihffkglieaaWorks
namespace Go.Proofs.Ytmogihffkglieaa
open Go.RowKit

theorem Equal_same (va vb : Value) (l : List UInt8) (B1 B2 : Nat) (w : World) (ha : Byts w B1 va l) (hb : Byts w B2 vb l) :
    Calls Try.prog 13 #[va, vb] w fun e w' => e = .returned (.bool true) ∧ w' = w :=
  (Equal_any va vb l l B1 B2 w ha hb).mono fun _ _ ⟨h1, h2⟩ => ⟨by rw [h1, decide_eq_true rfl], h2⟩
theorem Equal_other (va vb : Value) (la lb : List UInt8) (B1 B2 : Nat) (w : World) (ha : Byts w B1 va la) (hb : Byts w B2 vb lb) (h : la ≠ lb) :
    Calls Try.prog 13 #[va, vb] w fun e w' => e = .returned (.bool false) ∧ w' = w :=
  (Equal_any va vb la lb B1 B2 w ha hb).mono fun _ _ ⟨h1, h2⟩ => ⟨by rw [h1, decide_eq_false h], h2⟩

theorem Blk.all {w : World} {g n c : Nat} {X : List UInt8} (h : Blk w g X) (hn : n = X.length) (hc : n ≤ c) : Byts w (g + 1) (.slice (some ⟨g, 0, none⟩) n c) X := by
  have := h.byts 0 n c (by omega) hc
  rwa [List.drop_zero, hn, List.take_length, ← hn] at this

set_option maxRecDepth 100000 in
set_option maxHeartbeats 2000000 in
theorem ofs_walk (v : Value) (l : List UInt8) (w : World) (hv : Byts w w.heap.size v l) :
    Calls Try.prog 4 #[v] w fun e w' => e = .returned (.bool true) ∧ Below w.heap.size w w' := by
  have hv0 := hv
  obtain ⟨ad, c, rfl, -, -, -⟩ := hv0
  go_enter Try.func4, Try.ntmps4
  go_wp2_with fail
  refine (works_any w).mono ?_
  rintro e w1 ⟨rfl, hb1⟩
  by_cases hl : l.length ≤ 3000
  · have hl' : ¬ (3000 : Int) < (l.length : Int) := by omega
    have Hl : Hid (l.length ≤ 1099511627776) := by show _ ≤ _; omega
    go_wp2_with fail
    refine (CloneB_any l _ w.heap.size w1 (hv.below hb1 (Nat.le_refl _)) hb1.size Hl.out).mono ?_
    rintro e w2 ⟨v2, rfl, ho2, hb2⟩
    have hB2 := hb1.trans (hb2.mono hb1.size)
    obtain ⟨ad2, c2, rfl, -, -, -⟩ := ho2.byts
    have hy2 := ho2.byts
    go_wp2_with fail
    refine (Seal_any _ l w2 w2.heap.size (Nat.le_refl _) hy2 Hl).mono ?_
    rintro e w3 ⟨g, rfl, hg, hk3, hb3⟩
    have hB3 := hB2.trans (hb3.mono hB2.size)
    have hy3 := hy2.below hb3 (Nat.le_refl _)
    go_wp2_with fail
    refine (Of_any _ l w3 w2.heap.size hb3.size hy3 Hl).mono ?_
    rintro e w4 ⟨rfl, hb4⟩
    have hB4 := hB3.trans (hb4.mono hB3.size)
    have hy4 := hy3.below hb4 hb3.size
    have hk4 := hk3.below hb4 hk3.lt
    have hz4 := hb4.size
    have hv4 := hv.below hB4 (Nat.le_refl _)
    go_wp2_with fail
    refine (refOf_any _ l w4 w.heap.size hv4 Hl).mono ?_
    rintro e w5 ⟨rfl, hw5⟩
    rw [hw5]
    clear hw5 w5
    go_wp2_with fail
    refine (refSeal_any _ l w4 w.heap.size hB4.size hv4 Hl).mono ?_
    rintro e w5 ⟨v5, rfl, ho5, hb5⟩
    obtain ⟨ad5, c5, rfl, -, -, -⟩ := ho5.byts
    go_wp2_with fail
    refine (Equal_same _ _ (Sm.seal_ l) (g + 1) w5.heap.size w5 (((hk4.below hb5 (Nat.lt_of_lt_of_le hk3.lt hz4)).all (Sm.seal_length l).symm (Nat.le_refl _))) ho5.byts).mono ?_
    rintro e w6 ⟨rfl, hw6⟩
    rw [hw6]
    clear hw6 w6
    go_wp2_with fail
    refine (Equal_same _ _ l w2.heap.size w.heap.size w5 (hy4.below hb5 (Nat.le_trans hb3.size hz4)) (hv4.below hb5 hB4.size)).mono ?_
    rintro e w6 ⟨rfl, hw6⟩
    rw [hw6]
    clear hw6 w6
    go_wp2
    go_ret
    exact ⟨rfl, hB4.trans (hb5.mono hB4.size)⟩
  · have hl' : (3000 : Int) < (l.length : Int) := by omega
    go_wp2
    go_ret
    exact ⟨rfl, hb1⟩

theorem ByL_two (w : World) (a1 a2 : Option Addr) (c1 c2 B : Nat) (l1 l2 : List UInt8) (h1 : Byts w B (.slice a1 l1.length c1) l1) (h2 : Byts w B (.slice a2 l2.length c2) l2) (hB : B ≤ w.heap.size) :
    ByL (w.alloc (.cells #[.slice a1 l1.length c1, .slice a2 l2.length c2] 23)) B w.heap.size 0 [l1, l2] := by
  intro j hj
  match j, hj with
  | 0, _ => exact ⟨a1, c1, by simp [go_sem], h1.alloc hB _⟩
  | 1, _ => exact ⟨a2, c2, by simp [go_sem], h2.alloc hB _⟩

set_option maxRecDepth 100000 in
set_option maxHeartbeats 2000000 in
theorem more_walk (s : Nat) (va : Value) (a : List UInt8) (vb : Value) (b : List UInt8) (w : World) (hs : s < 4294967296) (ha : Byts w w.heap.size va a) (hb : Byts w w.heap.size vb b) :
    Calls Try.prog 6 #[.int .u32 (s : Int), va, vb] w fun e w' => e = .returned (.bool true) ∧ Below w.heap.size w w' := by
  have ha0 := ha
  have hb0 := hb
  have Hs : Hid (s < 4294967296) := hs
  clear hs
  obtain ⟨ad, c, rfl, -, -, -⟩ := ha0
  obtain ⟨bd, d, rfl, -, -, -⟩ := hb0
  go_enter Try.func6, Try.ntmps6
  go_wp2_with fail
  refine (works_any w).mono ?_
  rintro e w1 ⟨rfl, hb1⟩
  by_cases hl : a.length ≤ 3000
  · have hl' : decide ((3000 : Int) < (a.length : Int)) = false := decide_eq_false (by omega)
    by_cases hm : b.length ≤ 3000
    · have hm' : decide ((3000 : Int) < (b.length : Int)) = false := decide_eq_false (by omega)
      have Hl : Hid (a.length ≤ 1099511627776) := by show _ ≤ _; omega
      have Hm : Hid (b.length ≤ 1099511627776) := by show _ ≤ _; omega
      have Hab : Hid ((a ++ b).length ≤ 1099511627776) := by show _ ≤ _; simp; omega
      have ha1 := ha.below hb1 (Nat.le_refl _)
      have hb1' := hb.below hb1 (Nat.le_refl _)
      go_wp2_with fail
      refine (Concat_any [a, b] w.heap.size w1.heap.size 0 2 _ (ByL_two w1 ad bd c d w.heap.size a b ha1 hb1' hb1.size) (by simp) (by have := hb1.size; simp; omega) (by simp) (by simp; omega)).mono ?_
      rintro e w2 ⟨v2, rfl, ho2, hb2⟩
      have ho2' : Own w2 (w1.alloc (.cells #[.slice ad a.length c, .slice bd b.length d] 23)).heap.size v2 (a ++ b) := by simpa using ho2
      obtain ⟨ad2, c2, rfl, -, -, -⟩ := ho2'.byts
      have hy2 := ho2'.byts
      have hB2 := (hb1.alloc hb1.size (.cells #[.slice ad a.length c, .slice bd b.length d] 23)).trans (hb2.mono (by have := hb1.size; simp; omega))
      clear ho2 ho2' hb2 ha1 hb1'
      have ha2 := ha.below hB2 (Nat.le_refl _)
      have hbb2 := hb.below hB2 (Nat.le_refl _)
      have He : Hid (Sm.more (Sm.more s a) b = Sm.more s (a ++ b)) := Sm.more_append s a b
      have He2 : Hid (Sm.more (Sm.of a) b = Sm.of (a ++ b)) := Sm.more_append 0 a b
      have Hn : Hid (Sm.more s [] = s) := Sm.more_nil s
      generalize a ++ b = ab at *
      have hz2 : w2.heap.size ≤ w2.heap.size := Nat.le_refl _
      go_wp2_with fail
      refine (More_any s Hs _ a w2 w.heap.size hB2.size ha2 Hl).mono ?_
      rintro e w3 ⟨rfl, hb3⟩
      have hB3 := hB2.trans (hb3.mono hB2.size)
      have hz3 := Nat.le_trans hz2 hb3.size
      have ha3 := ha.below hB3 (Nat.le_refl _)
      have hbb3 := hb.below hB3 (Nat.le_refl _)
      have hy3 := hy2.below hb3 hz2
      clear hb3 ha2 hbb2 hy2
      go_wp2_with fail
      refine (More_any (Sm.more s a) (Sm.more_lt Hs.out a) _ b w3 w.heap.size hB3.size hbb3 Hm).mono ?_
      rintro e w4 ⟨rfl, hb4⟩
      have hB4 := hB3.trans (hb4.mono hB3.size)
      have hz4 := Nat.le_trans hz3 hb4.size
      have ha4 := ha.below hB4 (Nat.le_refl _)
      have hbb4 := hb.below hB4 (Nat.le_refl _)
      have hy4 := hy3.below hb4 hz3
      clear hb4 ha3 hbb3 hy3
      go_wp2_with fail
      refine (More_any s Hs _ ab w4 w2.heap.size hz4 hy4 Hab).mono ?_
      rintro e w5 ⟨rfl, hb5⟩
      rw [He.out]
      have hB5 := hB4.trans (hb5.mono hB4.size)
      have hz5 := Nat.le_trans hz4 hb5.size
      have ha5 := ha.below hB5 (Nat.le_refl _)
      have hbb5 := hb.below hB5 (Nat.le_refl _)
      have hy5 := hy4.below hb5 hz4
      clear hb5 ha4 hbb4 hy4
      go_wp2_with fail
      refine (More_any 0 (show _ < _ by decide) _ a w5 w.heap.size hB5.size ha5 Hl).mono ?_
      rintro e w6 ⟨rfl, hb6⟩
      have hB6 := hB5.trans (hb6.mono hB5.size)
      have hz6 := Nat.le_trans hz5 hb6.size
      have ha6 := ha.below hB6 (Nat.le_refl _)
      have hbb6 := hb.below hB6 (Nat.le_refl _)
      have hy6 := hy5.below hb6 hz5
      clear hb6 ha5 hbb5 hy5
      go_wp2_with fail
      refine (Of_any _ a w6 w.heap.size hB6.size ha6 Hl).mono ?_
      rintro e w7 ⟨rfl, hb7⟩
      rw [show Sm.of a = Sm.more 0 a from rfl]
      have hB7 := hB6.trans (hb7.mono hB6.size)
      have hz7 := Nat.le_trans hz6 hb7.size
      have ha7 := ha.below hB7 (Nat.le_refl _)
      have hbb7 := hb.below hB7 (Nat.le_refl _)
      have hy7 := hy6.below hb7 hz6
      clear hb7 ha6 hbb6 hy6
      go_wp2_with fail
      refine (Of_any _ a w7 w.heap.size hB7.size ha7 Hl).mono ?_
      rintro e w8 ⟨rfl, hb8⟩
      have hB8 := hB7.trans (hb8.mono hB7.size)
      have hz8 := Nat.le_trans hz7 hb8.size
      have ha8 := ha.below hB8 (Nat.le_refl _)
      have hbb8 := hb.below hB8 (Nat.le_refl _)
      have hy8 := hy7.below hb8 hz7
      clear hb8 ha7 hbb7 hy7
      go_wp2_with fail
      refine (More_any (Sm.of a) (Sm.of_lt a) _ b w8 w.heap.size hB8.size hbb8 Hm).mono ?_
      rintro e w9 ⟨rfl, hb9⟩
      rw [He2.out]
      have hB9 := hB8.trans (hb9.mono hB8.size)
      have hz9 := Nat.le_trans hz8 hb9.size
      have ha9 := ha.below hB9 (Nat.le_refl _)
      have hbb9 := hb.below hB9 (Nat.le_refl _)
      have hy9 := hy8.below hb9 hz8
      clear hb9 ha8 hbb8 hy8
      go_wp2_with fail
      refine (Of_any _ ab w9 w2.heap.size hz9 hy9 Hab).mono ?_
      rintro e w10 ⟨rfl, hb10⟩
      have hB10 := hB9.trans (hb10.mono hB9.size)
      have hz10 := Nat.le_trans hz9 hb10.size
      have ha10 := ha.below hB10 (Nat.le_refl _)
      have hbb10 := hb.below hB10 (Nat.le_refl _)
      have hy10 := hy9.below hb10 hz9
      clear hb10 ha9 hbb9 hy9
      go_wp2_with fail
      refine (More_any s Hs _ [] w10 0 (Nat.zero_le _) (Byts.nil _ _) (show _ ≤ _ by decide)).mono ?_
      rintro e w11 ⟨rfl, hb11⟩
      rw [Hn.out]
      have hB11 := hB10.trans (hb11.mono hB10.size)
      have hz11 := Nat.le_trans hz10 hb11.size
      have ha11 := ha.below hB11 (Nat.le_refl _)
      have hbb11 := hb.below hB11 (Nat.le_refl _)
      have hy11 := hy10.below hb11 hz10
      clear hb11 ha10 hbb10 hy10
      go_wp2
      go_ret
      exact ⟨rfl, hB11⟩
    · have hm' : decide ((3000 : Int) < (b.length : Int)) = true := decide_eq_true (by omega)
      go_wp2
      go_ret
      exact ⟨rfl, hb1⟩
  · have hl' : decide ((3000 : Int) < (a.length : Int)) = true := decide_eq_true (by omega)
    go_wp2
    go_ret
    exact ⟨rfl, hb1⟩
end Go.Proofs.Ytmogihffkglieaa
