/-
  PARENTS AND BASES; PATTERNS AND STEMS. No program here.
-/
import Derived.Test.YtppcfidaalejfaaPMath
namespace Go.Proofs.Ytppcfidaalejfaa.Pm

def parent (p : B) : B × Bool := if isP p = true ∧ 2 ≤ (cut p).length then (join (cut p).dropLast, true) else ([], false)
def base (p : B) : B := if isP p = true then (cut p).getLastD [] else []
theorem seg_len {s : B} (h : seg s = true) : s.length ≤ 32 := by
  simp only [seg, Bool.and_eq_true, decide_eq_true_eq] at h
  exact h.1.1.1.2
theorem join_append (l : List B) (hl : l ≠ []) (a : B) : join (l ++ [a]) = join l ++ 47 :: a := by
  induction l with
  | nil => exact absurd rfl hl
  | cons b r ih =>
    cases r with
    | nil => rfl
    | cons c r =>
      rw [List.cons_append, join_cons b _ (by simp), ih (by simp), join_cons b (c :: r) (by simp)]
      simp
theorem cut_last (p : B) : (cut p).dropLast ++ [(cut p).getLastD []] = cut p := by
  have h := cut_ne p
  rw [List.getLastD_eq_getLast?, List.getLast?_eq_some_getLast h]
  exact List.dropLast_concat_getLast h
/-- P9.6: parent, slash, base -/
theorem parent_base {p q : B} (h : parent p = (q, true)) : isP p = true ∧ isP q = true ∧ q ++ 47 :: base p = p := by
  unfold parent at h
  split at h
  · rename_i hp
    simp only [Prod.mk.injEq, and_true] at h
    obtain ⟨hp1, hp2⟩ := hp
    have hne : (cut p).dropLast ≠ [] := by
      intro e
      have := congrArg List.length e
      rw [List.length_dropLast] at this
      simp at this
      omega
    have hb : q ++ 47 :: base p = p := by
      rw [← h, base, if_pos hp1, ← join_append _ hne, cut_last, join_cut]
    obtain ⟨h60, hs⟩ := isP_parts hp1
    have hds : ∀ x ∈ (cut p).dropLast, seg x = true := fun x hx => hs x (List.dropLast_subset _ hx)
    refine ⟨hp1, ?_, hb⟩
    have hc := cut_join _ hne (fun x hx => (seg_facts (hds x hx)).2.2.2)
    rw [h] at hc
    simp only [isP, hc, Bool.and_eq_true, decide_eq_true_eq, List.all_eq_true]
    refine ⟨?_, hds⟩
    have := congrArg List.length hb
    simp only [List.length_append, List.length_cons] at this
    omega
  · simp at h
theorem parent_none {p q : B} (hp : isP p = true) (h : parent p = (q, false)) : q = [] ∧ cut p = [p] ∧ base p = p := by
  unfold parent at h
  split at h
  · simp at h
  · rename_i hn
    simp only [Prod.mk.injEq, and_true] at h
    have hl : (cut p).length ≤ 1 := by
      rcases Nat.lt_or_ge (cut p).length 2 with h' | h'
      · omega
      · exact absurd ⟨hp, h'⟩ hn
    have hc : cut p = [p] := by
      cases he : cut p with
      | nil => exact absurd he (cut_ne p)
      | cons a r =>
        rw [he] at hl
        have : r = [] := List.eq_nil_of_length_eq_zero (by simp only [List.length_cons] at hl; omega)
        subst this
        have hj := join_cut p
        rw [he] at hj
        simp only [join] at hj
        rw [hj]
    exact ⟨h.symm, hc, by rw [base, if_pos hp, hc]; rfl⟩
/-- P9.5, P9.6: a path, and .. behind it -/
theorem norm_up {p : B} (hp : isP p = true) : norm (p ++ [47, 46, 46]) = if (parent p).2 = true then ((parent p).1, 0) else ([], 2) := by
  obtain ⟨h60, hs⟩ := isP_parts hp
  have e : cut (p ++ 47 :: [46, 46]) = cut p ++ [[46, 46]] := by rw [cut_slash]; rfl
  unfold norm kept
  rw [e, List.foldl_append, fold_segs _ _ hs, List.nil_append]
  simp only [List.foldl_cons, List.foldl_nil, step]
  rw [if_neg (by simp), if_pos trivial, if_neg (cut_ne p)]
  cases hq : parent p with
  | mk q b =>
    cases b with
    | true =>
      obtain ⟨-, hq1, -⟩ := parent_base hq
      have h2 : parent p = (q, true) := hq
      unfold parent at h2
      split at h2
      · simp only [Prod.mk.injEq, and_true] at h2
        rename_i hc
        cases hd : (cut p).dropLast with
        | nil =>
          have := congrArg List.length hd
          rw [List.length_dropLast] at this
          simp at this
          omega
        | cons a r =>
          simp only [told]
          rw [← hd, h2, if_neg (by have := (isP_parts hq1).1; omega)]
          rfl
      · simp at h2
    | false =>
      obtain ⟨-, hc, -⟩ := parent_none hp hq
      rw [hc]
      rfl
theorem base_two {p q : B} (hq : isP q = true) (hn : isP (p ++ 47 :: q) = true) : base (p ++ 47 :: q) = base q := by
  unfold base
  rw [if_pos hn, if_pos hq, cut_slash]
  have h := cut_ne q
  rw [List.getLastD_eq_getLast?, List.getLastD_eq_getLast?, List.getLast?_append]
  rw [List.getLast?_eq_some_getLast h]
  rfl

/-- a pattern filled with a stem -/
def fill (p stem : B) : B := p.flatMap fun c => if c = 37 then stem else [c]
/-- how often the mark stands in a text -/
def marks (p : B) : Nat := p.countP (· == 37)
/-- P9.3 -/
def matchP (p s : B) : B × Bool :=
  if marks p = 0 then ([], decide (p = s))
  else if marks p = 1 ∧ p.length ≤ s.length ∧ (p.takeWhile (· != 37)).isPrefixOf s = true ∧ ((p.dropWhile (· != 37)).drop 1).isSuffixOf s = true then ((s.drop (p.takeWhile (· != 37)).length).take (s.length - (p.length - 1)), true) else ([], false)
theorem fill_plain (p stem : B) (h : (37 : UInt8) ∉ p) : fill p stem = p := by
  induction p with
  | nil => rfl
  | cons c r ih =>
    simp only [List.mem_cons, not_or] at h
    simp only [fill, List.flatMap_cons, if_neg (fun e : c = 37 => h.1 e.symm)]
    rw [show List.flatMap (fun c => if c = 37 then stem else [c]) r = r from ih h.2]
    rfl
theorem fill_one (a b stem : B) (ha : (37 : UInt8) ∉ a) (hb : (37 : UInt8) ∉ b) : fill (a ++ 37 :: b) stem = a ++ stem ++ b := by
  have e1 := fill_plain a stem ha
  have e2 := fill_plain b stem hb
  unfold fill at e1 e2 ⊢
  rw [List.flatMap_append, List.flatMap_cons, e1, e2, if_pos rfl, List.append_assoc]
theorem marks_one (a b : B) (ha : (37 : UInt8) ∉ a) (hb : (37 : UInt8) ∉ b) : marks (a ++ 37 :: b) = 1 := by
  have e1 : a.countP (· == 37) = 0 := List.countP_eq_zero.2 fun x hx => by simp; rintro rfl; exact ha hx
  have e2 : b.countP (· == 37) = 0 := List.countP_eq_zero.2 fun x hx => by simp; rintro rfl; exact hb hx
  unfold marks
  rw [List.countP_append, List.countP_cons, e1, e2]
  rfl
theorem take_mark (a b : B) (ha : (37 : UInt8) ∉ a) : (a ++ 37 :: b).takeWhile (· != 37) = a ∧ ((a ++ 37 :: b).dropWhile (· != 37)).drop 1 = b := by
  induction a with
  | nil => simp
  | cons c r ih =>
    simp only [List.mem_cons, not_or] at ha
    have hc : (c != 37) = true := by simp; exact fun e => ha.1 e.symm
    obtain ⟨h1, h2⟩ := ih ha.2
    simp only [List.cons_append, List.takeWhile_cons, List.dropWhile_cons, hc, if_true]
    exact ⟨by rw [h1], h2⟩
/-- what Match says of a pattern with one mark -/
theorem match_one (a b s : B) (ha : (37 : UInt8) ∉ a) (hb : (37 : UInt8) ∉ b) :
    (∃ st, st ≠ [] ∧ s = a ++ st ++ b ∧ matchP (a ++ 37 :: b) s = (st, true)) ∨ ((∀ st, st ≠ [] → s ≠ a ++ st ++ b) ∧ matchP (a ++ 37 :: b) s = ([], false)) := by
  obtain ⟨e1, e2⟩ := take_mark a b ha
  have e3 := marks_one a b ha hb
  unfold matchP
  rw [e1, e2, e3]
  simp only [Nat.one_ne_zero, if_false, true_and]
  by_cases h : ∃ st, st ≠ [] ∧ s = a ++ st ++ b
  · obtain ⟨st, hst, rfl⟩ := h
    left
    refine ⟨st, hst, rfl, ?_⟩
    have hl : 1 ≤ st.length := by cases st with | nil => exact absurd rfl hst | cons => simp
    rw [if_pos ⟨by simp; omega, by rw [List.append_assoc]; simp, by rw [List.isSuffixOf_iff_suffix]; exact ⟨a ++ st, rfl⟩⟩]
    simp only [Prod.mk.injEq, and_true, List.append_assoc, List.drop_left, List.length_append, List.length_cons]
    rw [show a.length + (st.length + b.length) - (a.length + (b.length + 1) - 1) = st.length by omega, List.take_left]
  · right
    refine ⟨fun st h1 h2 => h ⟨st, h1, h2⟩, ?_⟩
    rw [if_neg]
    rintro ⟨h1, h2, h3⟩
    rw [List.isPrefixOf_iff_prefix] at h2
    rw [List.isSuffixOf_iff_suffix] at h3
    obtain ⟨t, rfl⟩ := h2
    obtain ⟨u, hu⟩ := h3
    simp only [List.length_append, List.length_cons] at h1
    have hlu := congrArg List.length hu
    simp only [List.length_append] at hlu
    have hua : a.length ≤ u.length := by omega
    have h4 : u.take a.length = a := by
      have := congrArg (List.take a.length) hu
      rw [List.take_append_of_le_length hua, List.take_left] at this
      exact this
    refine h ⟨u.drop a.length, ?_, ?_⟩
    · intro e
      have := congrArg List.length e
      rw [List.length_drop] at this
      simp at this
      omega
    · rw [← hu]
      conv => lhs; rw [← List.take_append_drop a.length u, h4]

end Go.Proofs.Ytppcfidaalejfaa.Pm
