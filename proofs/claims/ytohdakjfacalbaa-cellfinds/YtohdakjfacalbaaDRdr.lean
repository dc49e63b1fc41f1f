/-
  A READER IN MEMORY; THE WALKS OF number, text, bytes, page, value, onlyNoughts.
-/
import Derived.Test.YtohdakjfacalbaaCRead
import Derived.Test.YtohdakjfacalbaaTurn
import Derived.Test.YtohdakjfacalbaaWText
import Derived.Test.YtohdakjfacalbaaWNew
import Derived.Test.YtohdakjfacalbaaRForm
namespace Go.Proofs.Ytohdakjfacalbaa
open Go.RowKit

/-- a reader at block r, its cursor at block p: what is left to be read; is it bad -/
def RdS (w : World) (r p base : Nat) (rho : List UInt8) (bad : Bool) : Prop :=
  ∃ v vr bs a, w.heap[r]? = some (.cells #[.pointer (some ⟨p, 0, none⟩), vr, .bool bad] 72 (0, 0)) ∧ HasCur w p v a ∧ Own w base v bs ∧ Byts w base vr bs ∧ a ≤ bs.length ∧ bs.length ≤ 1000 ∧ rho = bs.drop a ∧ base ≤ p ∧ base ≤ r

theorem RdS.lt {w : World} {r p base : Nat} {rho : List UInt8} {bad : Bool} (h : RdS w r p base rho bad) : r < w.heap.size ∧ p < w.heap.size ∧ base ≤ r ∧ base ≤ p := by
  obtain ⟨v, vr, bs, a, h1, h2, _, _, _, _, _, h3, h4⟩ := h
  exact ⟨lt_of_heap h1, h2.lt, h4, h3⟩
theorem Byts.turn {w w' : World} {base : Nat} {v : Value} {l : List UInt8} {S : List Nat} (h : Byts w base v l) (ht : Turn S w w') (hs : ∀ x ∈ S, base ≤ x) (hB : base ≤ w.heap.size) : Byts w' base v l :=
  h.below (B' := base) ⟨ht.os, ht.tape, ht.output, ht.size, fun k hk => ht.block k (by omega) (fun hx => by have := hs k hx; omega)⟩ (Nat.le_refl _)
/-- what leaves the reader's blocks as they are, and changes blocks of other types alone -/
theorem RdS.turn {w w' : World} {r p base : Nat} {rho : List UInt8} {bad : Bool} {S : List Nat} (h : RdS w r p base rho bad) (ht : Turn S w w') (hr : r ∉ S) (hp : p ∉ S) (hS : ∀ x ∈ S, base ≤ x ∧ ∀ cs f, w.heap[x]? ≠ some (.cells cs 5 f)) : RdS w' r p base rho bad := by
  obtain ⟨v, vr, bs, a, h1, h2, h3, h4, h5, h6, h7, h8, h9⟩ := h
  have hB : base ≤ w.heap.size := by have := lt_of_heap h1; omega
  refine ⟨v, vr, bs, a, (ht.block r (lt_of_heap h1) hr).trans h1, (ht.block p h2.lt hp).trans h2, Row.turn h3 ht fun g hg hx => ?_, h4.turn ht (fun x hx => (hS x hx).1) hB, h5, h6, h7, h8, h9⟩
  rcases h3.2 with ⟨rfl, _⟩ | ⟨k, cap, cur, rfl, _, hgg, _⟩
  · simp [Value.ownBlock] at hg
  · simp only [Value.ownBlock, Option.some.injEq] at hg
    subst hg
    exact (hS _ hx).2 _ _ hgg

/-- a number: what is answered; what is left; is it bad -/
def Cm.num1 (rho : List UInt8) (most : Nat) : Nat × List UInt8 × Bool :=
  match Cm.rnum rho most with
  | .none => (0, rho, true)
  | some (n, r1) => (n, r1, false)
def Cm.text1 (rho : List UInt8) (most : Nat) : List UInt8 × List UInt8 × Bool :=
  match Cm.rtext rho most with
  | .none => ([], rho, true)
  | some (l, r1) => (l, r1, false)
theorem num1_ask (bs : List UInt8) (a most : Nat) : Cm.num1 (bs.drop a) most = ((askU bs a most).1, bs.drop (a + (askU bs a most).2.2), decide ((askU bs a most).2.1 ≠ 0)) := by
  unfold Cm.num1 Cm.rnum askU
  cases hg : Wm.getU 0 (bs.drop a) with
  | none => simp
  | some q =>
    obtain ⟨n, c⟩ := q
    simp only
    by_cases h : n ≤ most
    · simp [h, List.drop_drop]
    · simp [h]
theorem askU_le {bs : List UInt8} {a most : Nat} (ha : a ≤ bs.length) : a + (askU bs a most).2.2 ≤ bs.length := by
  unfold askU
  cases hg : Wm.getU 0 (bs.drop a) with
  | none => simpa using ha
  | some q =>
    obtain ⟨n, c⟩ := q
    have := (Wm.put_get hg).2.1
    rw [List.length_drop] at this
    simp only
    by_cases h : n ≤ most
    · simp [h]; omega
    · simp [h]; omega
theorem text1_ask (bs : List UInt8) (a most : Nat) : Cm.text1 (bs.drop a) most = ((askT bs a (most : Int)).1, bs.drop (a + (askT bs a (most : Int)).2.2), decide ((askT bs a (most : Int)).2.1 ≠ 0)) := by
  cases hg : Wm.getU 0 (bs.drop a) with
  | none =>
    have eN : askN bs a (most : Int) = (0, 7, 0) := by unfold askN; rw [hg]
    simp [Cm.text1, Cm.rtext, Cm.rnum, askT, eN, hg]
  | some q =>
    obtain ⟨n, c⟩ := q
    have h1 := (Wm.put_get hg).2.1
    rw [List.length_drop] at h1
    by_cases h : n ≤ most
    · have h2 : ¬ ((most : Int) < 0 ∨ (most : Int) < (n : Int)) := by omega
      by_cases h3 : bs.length - (a + c) < n
      · have eN : askN bs a (most : Int) = (0, 7, 0) := by unfold askN; rw [hg]; simp only; rw [if_neg h2, if_pos h3]
        have h4 : ¬ n ≤ bs.length - (a + c) := by omega
        simp [Cm.text1, Cm.rtext, Cm.rnum, Cm.rbytes, askT, eN, hg, h, h4]
      · have eN : askN bs a (most : Int) = (n, 0, c) := by unfold askN; rw [hg]; simp only; rw [if_neg h2, if_neg h3]
        have h4 : n ≤ bs.length - (a + c) := by omega
        simp [Cm.text1, Cm.rtext, Cm.rnum, Cm.rbytes, askT, eN, hg, h, h4, List.drop_drop, Nat.add_assoc]
    · have h2 : (most : Int) < 0 ∨ (most : Int) < (n : Int) := by omega
      have eN : askN bs a (most : Int) = (0, 3, 0) := by unfold askN; rw [hg]; simp only; rw [if_pos h2]
      simp [Cm.text1, Cm.rtext, Cm.rnum, askT, eN, hg, h]
theorem askT_le {bs : List UInt8} {a : Nat} {most : Int} (ha : a ≤ bs.length) : a + (askT bs a most).2.2 ≤ bs.length := by
  unfold askT
  by_cases h : (askN bs a most).2.1 = 0
  · have := (askN_ok h).1
    rw [if_pos h]
    simp only
    omega
  · rw [if_neg h]
    simpa using ha

theorem RdS.bad {w : World} {r p base : Nat} {rho : List UInt8} {bad : Bool} (h : RdS w r p base rho bad) : w.cell? ⟨r, 2, none⟩ = some (.bool bad) := by
  obtain ⟨v, vr, bs, a, h1, _⟩ := h
  exact (cells3_of h1).2.2

theorem RdS.setBad {w : World} {r p base : Nat} {rho : List UInt8} {bad : Bool} (h : RdS w r p base rho bad) (b : Bool) : RdS (w.setCell ⟨r, 2, none⟩ (.bool b)) r p base rho b := by
  obtain ⟨v, vr, bs, a, h1, h2, h3, h4, h5, h6, h7, h8, h9⟩ := h
  have hB : base ≤ w.heap.size := by have := lt_of_heap h1; omega
  have hne : r ≠ p := by rintro rfl; unfold HasCur at h2; rw [h1] at h2; simp at h2
  have ht : Turn [r] w (w.setCell ⟨r, 2, none⟩ (.bool b)) := (Turn.refl [r] w).set (by simp) _
  refine ⟨v, vr, bs, a, heap_setCell_same w r 2 _ _ (.bool b) h1, (ht.block p h2.lt (by simpa using hne.symm)).trans h2, Row.turn h3 ht fun g hg hx => ?_, h4.turn ht (by simpa using h9) hB, h5, h6, h7, h8, h9⟩
  simp only [List.mem_singleton] at hx
  exact Row.ne h3 h1 (by decide) hg hx
theorem RdS.free {w : World} {r p base : Nat} {rho : List UInt8} {bad : Bool} (h : RdS w r p base rho bad) (j : Nat) : w.frozen? ⟨r, j, none⟩ = false := by
  obtain ⟨v, vr, bs, a, h1, _⟩ := h
  exact frozen_of_row w r j _ _ h1

set_option maxRecDepth 100000 in
set_option maxHeartbeats 1000000 in
theorem rnumber_any (most r p base : Nat) (rho : List UInt8) (bad : Bool) (w : World) (hR : RdS w r p base rho bad) :
    Calls Try.prog 47 #[.pointer (some ⟨r, 0, none⟩), .int .u64 (most : Int)] w fun e w' => e = .returned (.int .u64 ((Cm.num1 rho most).1 : Int)) ∧
      RdS w' r p base (Cm.num1 rho most).2.1 (bad || (Cm.num1 rho most).2.2) ∧ Turn [r, p] w w' := by
  obtain ⟨v, vr, bs, a, h1, h2, h3, h4, h5, h6, h7, h8, h9⟩ := hR
  have Hle : Hid _ := askU_le (most := most) h5
  subst h7
  rw [num1_ask bs a most]
  obtain ⟨A, hA⟩ : ∃ A, askU bs a most = A := ⟨_, rfl⟩
  rw [hA] at Hle ⊢
  obtain ⟨n0, n1, n2⟩ := cells3_of h1
  go_enter Try.func47, Try.ntmps47
  go_wp2_with fail
  refine (Uint_any p v a base bs most _ h2 h3 h5 (by omega)).mono ?_
  rw [hA]
  rintro e w1 ⟨rfl, hc1, hg1⟩
  have hne : r ≠ p := by rintro rfl; unfold HasCur at h2; rw [h1] at h2; simp at h2
  have hr1 := (hg1.block r (lt_of_heap h1) (by simpa using hne)).trans h1
  have ho1 := h3.kept h2 hg1
  have hby1 := h4.turn (Turn.of_grown hg1) (by simp; exact h8) (by have := lt_of_heap h1; omega)
  have hR1 : RdS w1 r p base (bs.drop (a + A.2.2)) bad := ⟨v, vr, bs, _, hr1, hc1, ho1, hby1, Hle.out, h6, rfl, h8, h9⟩
  have ht1 : Turn [r, p] w w1 := (Turn.of_grown hg1).mono (by intro x hx _; simp at hx; simp [hx])
  clear n0 n1 n2 hA Hle hg1 ho1 hby1 hr1 hc1 h1 h2 h3 h4 h5 h6
  have n0 := hR1.bad
  have n1 := hR1.free 2
  obtain ⟨A0, A1, A2⟩ := A
  have hs := fun b : Bool => hR1.setBad b
  have hts := fun b : Bool => ht1.set (p := ⟨r, 2, none⟩) (by simp) (.bool b)
  simp only at hs hts ⊢
  cases bad
  · by_cases hA1 : A1 = 0
    · subst hA1
      go_wp2
      go_ret
      exact ⟨rfl, hs false, hts false⟩
    · have hA2 : ((A1 : Int) != 0) = true := by simp [hA1]
      go_wp2
      go_ret
      refine ⟨rfl, ?_, hts true⟩
      exact hs true
  · go_wp2
    go_ret
    exact ⟨rfl, hs true, hts true⟩

set_option maxRecDepth 100000 in
set_option maxHeartbeats 1000000 in
theorem rtext_any (most r p base : Nat) (hm : most ≤ 1000) (rho : List UInt8) (bad : Bool) (w : World) (hR : RdS w r p base rho bad) :
    Calls Try.prog 49 #[.pointer (some ⟨r, 0, none⟩), .int .i64 (most : Int)] w fun e w' => e = .returned (.string (str (Cm.text1 rho most).1)) ∧
      RdS w' r p base (Cm.text1 rho most).2.1 (bad || (Cm.text1 rho most).2.2) ∧ Turn [r, p] w w' := by
  obtain ⟨v, vr, bs, a, h1, h2, h3, h4, h5, h6, h7, h8, h9⟩ := hR
  have Hle : Hid _ := askT_le (most := (most : Int)) h5
  subst h7
  rw [text1_ask bs a most]
  obtain ⟨A, hA⟩ : ∃ A, askT bs a (most : Int) = A := ⟨_, rfl⟩
  rw [hA] at Hle ⊢
  obtain ⟨n0, n1, n2⟩ := cells3_of h1
  go_enter Try.func49, Try.ntmps49
  go_wp2_with fail
  refine (Text_any p v a base bs (most : Int) _ h2 h3 h5 (by omega) (by omega)).mono ?_
  rw [hA]
  rintro e w1 ⟨rfl, hc1, hg1⟩
  have hne : r ≠ p := by rintro rfl; unfold HasCur at h2; rw [h1] at h2; simp at h2
  have hr1 := (hg1.block r (lt_of_heap h1) (by simpa using hne)).trans h1
  have ho1 := h3.kept h2 hg1
  have hby1 := h4.turn (Turn.of_grown hg1) (by simp; exact h8) (by have := lt_of_heap h1; omega)
  have hR1 : RdS w1 r p base (bs.drop (a + A.2.2)) bad := ⟨v, vr, bs, _, hr1, hc1, ho1, hby1, Hle.out, h6, rfl, h8, h9⟩
  have ht1 : Turn [r, p] w w1 := (Turn.of_grown hg1).mono (by intro x hx _; simp at hx; simp [hx])
  clear n0 n1 n2 hA Hle hg1 ho1 hby1 hr1 hc1 h1 h2 h3 h4 h5 h6
  have n0 := hR1.bad
  have n1 := hR1.free 2
  obtain ⟨A0, A1, A2⟩ := A
  have hs := fun b : Bool => hR1.setBad b
  have hts := fun b : Bool => ht1.set (p := ⟨r, 2, none⟩) (by simp) (.bool b)
  simp only at hs hts ⊢
  cases bad
  · by_cases hA1 : A1 = 0
    · subst hA1
      go_wp2
      go_ret
      exact ⟨rfl, hs false, hts false⟩
    · have hA2 : ((A1 : Int) != 0) = true := by simp [hA1]
      go_wp2
      go_ret
      refine ⟨rfl, ?_, hts true⟩
      exact hs true
  · go_wp2
    go_ret
    exact ⟨rfl, hs true, hts true⟩

end Go.Proofs.Ytohdakjfacalbaa
