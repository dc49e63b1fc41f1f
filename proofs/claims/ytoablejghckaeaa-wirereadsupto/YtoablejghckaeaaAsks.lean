/-
  WHAT IS READ, PUT AGAIN, ARE THE BYTES THAT WERE GONE OVER; what was put is read. Plain mathematics of askU, askT, askL.
-/
import Derived.Test.YtoablejghckaeaaList
namespace Go.Proofs.Ytoablejghckaeaa
open Go.RowKit

theorem askU_max (bs : List UInt8) (a : Nat) : ((askU bs a 18446744073709551615).2.1 = 0 ∧ (askU bs a 18446744073709551615).1 < 18446744073709551616 ∧ (askU bs a 18446744073709551615).2.2 ≤ (bs.drop a).length ∧
      (bs.drop a).take (askU bs a 18446744073709551615).2.2 = Wm.putU (askU bs a 18446744073709551615).1) ∨ ((askU bs a 18446744073709551615).2.1 ≠ 0 ∧ (askU bs a 18446744073709551615).2.2 = 0) := by
  unfold askU
  cases hg : Wm.getU 0 (bs.drop a) with
  | none => right; simp
  | some q =>
    obtain ⟨n, c⟩ := q
    obtain ⟨h1, h2, h3, h4⟩ := Wm.put_get hg
    left
    simp only
    rw [if_pos (by omega)]
    exact ⟨rfl, h1, h2, h4⟩

theorem askN_put {bs : List UInt8} {a : Nat} {most : Int} (h : (askN bs a most).2.1 = 0) : (bs.drop a).take (askN bs a most).2.2 = Wm.putU (askN bs a most).1 := by
  unfold askN at *
  cases hg : Wm.getU 0 (bs.drop a) with
  | none => rw [hg] at h; simp at h
  | some q =>
    obtain ⟨n, c⟩ := q
    rw [hg] at h
    simp only at h ⊢
    by_cases h1 : most < 0 ∨ most < (n : Int)
    · rw [if_pos h1] at h; simp at h
    rw [if_neg h1] at h ⊢
    by_cases h2 : bs.length - (a + c) < n
    · rw [if_pos h2] at h; simp at h
    rw [if_neg h2]
    exact (Wm.put_get hg).2.2.2

theorem askT_err {bs : List UInt8} {a : Nat} {most : Int} (h : ¬ (askT bs a most).2.1 = 0) : askT bs a most = ([], (askT bs a most).2.1, 0) := by
  unfold askT at *
  by_cases h1 : (askN bs a most).2.1 = 0
  · rw [if_pos h1] at h; simp at h
  · rw [if_neg h1]

theorem askT_put {bs : List UInt8} {a : Nat} {most : Int} (h : (askT bs a most).2.1 = 0) :
    (bs.drop a).take (askT bs a most).2.2 = Wm.putT (askT bs a most).1 ∧ (askT bs a most).2.2 ≤ (bs.drop a).length ∧ (askT bs a most).1.length ≤ bs.length ∧ 0 < (askT bs a most).2.2 := by
  have hN : (askN bs a most).2.1 = 0 := by
    unfold askT at h
    by_cases h1 : (askN bs a most).2.1 = 0
    · exact h1
    · rw [if_neg h1] at h; exact absurd h h1
  have hp := askN_put hN
  have hok := (askN_ok hN).1
  unfold askT
  rw [if_pos hN]
  simp only
  have hlen : ((bs.drop (a + (askN bs a most).2.2)).take (askN bs a most).1).length = (askN bs a most).1 := by simp; omega
  have hu := Wm.putU_length (askN bs a most).1
  have hul : (askN bs a most).2.2 = (Wm.putU (askN bs a most).1).length := by
    rw [← hp]; simp; omega
  refine ⟨?_, by simp; omega, by simp; omega, by omega⟩
  rw [List.take_add, hp, List.drop_drop]
  unfold Wm.putT
  rw [hlen]

theorem getTs_put (bs : List UInt8) (longest : Int) : ∀ (n x : Nat), (getTs bs longest n x).2.1 = 0 →
    (bs.drop x).take (getTs bs longest n x).2.2 = Wm.putTs (getTs bs longest n x).1 ∧ (getTs bs longest n x).2.2 ≤ (bs.drop x).length ∧ (getTs bs longest n x).1.length = n ∧ ∀ s ∈ (getTs bs longest n x).1, s.length ≤ bs.length := by
  intro n
  induction n with
  | zero => intro x _; simp [getTs, Wm.putTs]
  | succ n ih =>
    intro x h
    simp only [getTs] at h ⊢
    by_cases h1 : (askT bs x longest).2.1 = 0
    · rw [if_pos h1] at h ⊢
      by_cases h2 : (getTs bs longest n (x + (askT bs x longest).2.2)).2.1 = 0
      · rw [if_pos h2]
        obtain ⟨i1, i2, i3, i4⟩ := ih _ h2
        obtain ⟨j1, j2, j3, _⟩ := askT_put h1
        simp only
        refine ⟨?_, ?_, by simp only [List.length_cons, i3], ?_⟩
        · rw [List.take_add, j1, List.drop_drop, i1]
          rfl
        · simp only [List.length_drop] at i2 j2 ⊢; omega
        · intro s hs
          cases List.mem_cons.1 hs with
          | inl e => rw [e]; exact j3
          | inr e => exact i4 s e
      · rw [if_neg h2] at h; exact absurd h h2
    · rw [if_neg h1] at h; exact absurd h h1

theorem askL_put {bs : List UInt8} {a : Nat} {most longest : Int} (h : (askL bs a most longest).2.1 = 0) :
    (bs.drop a).take (askL bs a most longest).2.2 = Wm.putL (askL bs a most longest).1 ∧ (askL bs a most longest).2.2 ≤ (bs.drop a).length := by
  unfold askL at *
  by_cases h1 : (askN bs a most).2.1 = 0
  · rw [if_pos h1] at h ⊢
    by_cases h2 : (getTs bs longest (askN bs a most).1 (a + (askN bs a most).2.2)).2.1 = 0
    · rw [if_pos h2]
      obtain ⟨i1, i2, i3, i4⟩ := getTs_put bs longest _ _ h2
      simp only
      have hp := askN_put h1
      have hok := (askN_ok h1).1
      refine ⟨?_, ?_⟩
      · rw [List.take_add, hp, List.drop_drop, i1]
        unfold Wm.putL
        rw [i3]
      · simp only [List.length_drop] at i2 ⊢; omega
    · rw [if_neg h2] at h; exact absurd h h2
  · rw [if_neg h1] at h; exact absurd h h1

theorem askL_err {bs : List UInt8} {a : Nat} {most longest : Int} (h : ¬ (askL bs a most longest).2.1 = 0) : (askL bs a most longest).2.2 = 0 := by
  unfold askL at *
  by_cases h1 : (askN bs a most).2.1 = 0
  · rw [if_pos h1] at h ⊢
    by_cases h2 : (getTs bs longest (askN bs a most).1 (a + (askN bs a most).2.2)).2.1 = 0
    · rw [if_pos h2] at h; exact absurd rfl h
    · rw [if_neg h2]
  · rw [if_neg h1]

/-! ### what was put is read -/
theorem askU_putU (n : Nat) (hn : n < 18446744073709551616) (pre r : List UInt8) : askU (pre ++ (Wm.putU n ++ r)) pre.length n = (n, 0, (Wm.putU n).length) := by
  unfold askU
  rw [List.drop_left, Wm.get_put n r hn]
  simp

theorem askN_putU (n : Nat) (hn : n < 18446744073709551616) (pre r : List UInt8) (most : Int) (hm : (n : Int) ≤ most) (hr : n ≤ r.length) : askN (pre ++ (Wm.putU n ++ r)) pre.length most = (n, 0, (Wm.putU n).length) := by
  unfold askN
  rw [List.drop_left, Wm.get_put n r hn]
  simp only
  rw [if_neg (by omega), if_neg (by simp only [List.length_append]; omega)]

theorem askT_putT (s : List UInt8) (hs : s.length < 18446744073709551616) (pre r : List UInt8) (most : Int) (hm : (s.length : Int) ≤ most) : askT (pre ++ (Wm.putT s ++ r)) pre.length most = (s, 0, (Wm.putT s).length) := by
  have h := askN_putU s.length hs pre (s ++ r) most hm (by simp)
  have e : pre ++ (Wm.putT s ++ r) = pre ++ (Wm.putU s.length ++ (s ++ r)) := by simp [Wm.putT]
  rw [e]
  unfold askT
  rw [h]
  simp only [if_true]
  have e2 : (pre ++ (Wm.putU s.length ++ (s ++ r))).drop (pre.length + (Wm.putU s.length).length) = s ++ r := by
    rw [← List.append_assoc, ← List.length_append, List.drop_left]
  rw [e2, List.take_left]
  simp [Wm.putT]

theorem getTs_putTs (longest : Int) (r : List UInt8) : ∀ (l : List (List UInt8)) (pre : List UInt8), (∀ s ∈ l, s.length < 18446744073709551616 ∧ (s.length : Int) ≤ longest) →
    getTs (pre ++ (Wm.putTs l ++ r)) longest l.length pre.length = (l, 0, (Wm.putTs l).length) := by
  intro l
  induction l with
  | nil => intro pre _; simp [getTs, Wm.putTs]
  | cons s q ih =>
    intro pre h
    have hs := h s (by simp)
    have e : pre ++ (Wm.putTs (s :: q) ++ r) = pre ++ (Wm.putT s ++ (Wm.putTs q ++ r)) := by simp [Wm.putTs]
    rw [e]
    have h1 := askT_putT s hs.1 pre (Wm.putTs q ++ r) longest hs.2
    have h2 := ih (pre ++ Wm.putT s) (fun x hx => h x (by simp [hx]))
    rw [List.append_assoc, List.length_append] at h2
    simp only [List.length_cons, getTs]
    rw [h1]
    simp only [if_true]
    rw [h2]
    simp [Wm.putTs]

theorem askL_putL (l : List (List UInt8)) (pre r : List UInt8) (most longest : Int) (hl : l.length < 18446744073709551616) (hm : (l.length : Int) ≤ most) (hs : ∀ s ∈ l, s.length < 18446744073709551616 ∧ (s.length : Int) ≤ longest)
    (hlen : l.length ≤ (Wm.putTs l).length) : askL (pre ++ (Wm.putL l ++ r)) pre.length most longest = (l, 0, (Wm.putL l).length) := by
  have e : pre ++ (Wm.putL l ++ r) = pre ++ (Wm.putU l.length ++ (Wm.putTs l ++ r)) := by simp [Wm.putL]
  rw [e]
  have h1 := askN_putU l.length hl pre (Wm.putTs l ++ r) most hm (by simp only [List.length_append]; omega)
  have h2 := getTs_putTs longest r l (pre ++ Wm.putU l.length) hs
  rw [List.append_assoc, List.length_append] at h2
  unfold askL
  rw [h1]
  simp only [if_true]
  rw [h2]
  simp [Wm.putL]
end Go.Proofs.Ytoablejghckaeaa
