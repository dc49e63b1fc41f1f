/-
  THE PLAIN WORDS OF LAYER 9 (path): pieces, segments, paths, the one form of a text. No program here.
-/
namespace Go.Proofs.Ytppcfidaalejfaa.Pm

abbrev B := List UInt8
/-- a byte of a segment -/
def okB (c : UInt8) : Bool := (97 ≤ c && c ≤ 122) || (48 ≤ c && c ≤ 57) || c == 95 || c == 46 || c == 45
/-- a segment -/
def seg (s : B) : Bool := decide (1 ≤ s.length) && decide (s.length ≤ 32) && !decide (s = [46]) && !decide (s = [46, 46]) && s.all okB
/-- the pieces between a text's slashes -/
def cut : B → List B
  | [] => [[]]
  | c :: r => if c = 47 then [] :: cut r else match cut r with
    | [] => [[c]]
    | p :: ps => (c :: p) :: ps
/-- pieces, a slash between two -/
def join : List B → B
  | [] => []
  | [a] => a
  | a :: b :: r => a ++ 47 :: join (b :: r)
/-- a path -/
def isP (s : B) : Bool := decide (s.length ≤ 60) && (cut s).all seg
/-- what is kept, behind one piece more; none: refused -/
def step (k : Option (List B)) (p : B) : Option (List B) :=
  match k with
  | none => none
  | some k => if p = [] ∨ p = [46] then some k else if p = [46, 46] then (if k = [] then none else some k.dropLast) else if seg p = true then some (k ++ [p]) else none
/-- what is kept of the pieces -/
def kept (l : List B) : Option (List B) := l.foldl step (some [])
/-- what comes of what is kept -/
def told : Option (List B) → B × Nat
  | none => ([], 2)
  | some [] => ([], 2)
  | some (a :: r) => if 60 < (join (a :: r)).length then ([], 3) else (join (a :: r), 0)
def norm (s : B) : B × Nat := told (kept (cut s))

theorem cut_ne (s : B) : cut s ≠ [] := by
  cases s with
  | nil => simp [cut]
  | cons c r =>
    unfold cut
    split
    · simp
    · split <;> simp
theorem cut_slash (a b : B) : cut (a ++ 47 :: b) = cut a ++ cut b := by
  induction a with
  | nil => simp [cut]
  | cons c r ih =>
    rw [List.cons_append]
    by_cases hc : c = 47
    · simp [cut, hc, ih]
    · have e1 : cut (c :: (r ++ 47 :: b)) = match cut (r ++ 47 :: b) with | [] => [[c]] | p :: ps => (c :: p) :: ps := by rw [cut, if_neg hc]
      have e2 : cut (c :: r) = match cut r with | [] => [[c]] | p :: ps => (c :: p) :: ps := by rw [cut, if_neg hc]
      rw [e1, e2, ih]
      cases h : cut r with
      | nil => exact absurd h (cut_ne r)
      | cons p ps => rfl
theorem cut_plain (s : B) (h : (47 : UInt8) ∉ s) : cut s = [s] := by
  induction s with
  | nil => rfl
  | cons c r ih =>
    simp only [List.mem_cons, not_or] at h
    rw [cut, if_neg (fun e => h.1 e.symm), ih h.2]
theorem join_cons (a : B) (l : List B) (h : l ≠ []) : join (a :: l) = a ++ 47 :: join l := by
  cases l with
  | nil => exact absurd rfl h
  | cons b r => rfl
/-- a piece has no slash -/
theorem cut_mem (s : B) : ∀ p ∈ cut s, (47 : UInt8) ∉ p := by
  induction s with
  | nil => simp [cut]
  | cons c r ih =>
    by_cases hc : c = 47
    · rw [cut, if_pos hc]
      intro p hp
      rcases List.mem_cons.1 hp with rfl | h
      · simp
      · exact ih p h
    · rw [cut, if_neg hc]
      cases h : cut r with
      | nil => exact absurd h (cut_ne r)
      | cons q qs =>
        rw [h] at ih
        intro p hp
        rcases List.mem_cons.1 hp with rfl | h'
        · simp only [List.mem_cons, not_or]
          exact ⟨fun e => hc e.symm, ih q (by simp)⟩
        · exact ih p (by simp [h'])
theorem join_cut (s : B) : join (cut s) = s := by
  induction s with
  | nil => rfl
  | cons c r ih =>
    by_cases hc : c = 47
    · rw [cut, if_pos hc, join_cons _ _ (cut_ne r), ih, hc]; rfl
    · rw [cut, if_neg hc]
      cases h : cut r with
      | nil => exact absurd h (cut_ne r)
      | cons q qs =>
        rw [h] at ih
        cases qs with
        | nil => simp only [join] at ih ⊢; rw [ih]
        | cons q2 q3 => simp only [join] at ih ⊢; rw [← ih]; rfl
theorem cut_join (l : List B) (hne : l ≠ []) (h : ∀ p ∈ l, (47 : UInt8) ∉ p) : cut (join l) = l := by
  induction l with
  | nil => exact absurd rfl hne
  | cons a r ih =>
    cases r with
    | nil => exact cut_plain a (h a (by simp))
    | cons b r =>
      rw [join_cons a (b :: r) (by simp), cut_slash, ih (by simp) (fun p hp => h p (by simp [hp])), cut_plain a (h a (by simp))]
      rfl

theorem seg_facts {s : B} (h : seg s = true) : s ≠ [] ∧ s ≠ [46] ∧ s ≠ [46, 46] ∧ (47 : UInt8) ∉ s := by
  simp only [seg, Bool.and_eq_true, decide_eq_true_eq, Bool.not_eq_true', decide_eq_false_iff_not, List.all_eq_true] at h
  obtain ⟨⟨⟨⟨h1, -⟩, h3⟩, h4⟩, h5⟩ := h
  refine ⟨?_, h3, h4, fun hm => ?_⟩
  · rintro rfl; simp at h1
  · have := h5 47 hm; exact absurd this (by decide)
theorem step_seg {p : B} (h : seg p = true) (k : List B) : step (some k) p = some (k ++ [p]) := by
  obtain ⟨h1, h2, h3, -⟩ := seg_facts h
  simp only [step]
  rw [if_neg (by simp [h1, h2]), if_neg h3, if_pos h]
theorem step_none (l : List B) : l.foldl step none = none := by
  induction l with
  | nil => rfl
  | cons a r ih => simpa [step] using ih
theorem fold_segs (l : List B) : ∀ k : List B, (∀ p ∈ l, seg p = true) → l.foldl step (some k) = some (k ++ l) := by
  induction l with
  | nil => intro k _; simp
  | cons a r ih =>
    intro k h
    rw [List.foldl_cons, step_seg (h a (by simp)), ih _ (fun p hp => h p (by simp [hp]))]
    simp
/-- what is kept are segments -/
theorem fold_kept (l : List B) : ∀ k k' : List B, (∀ p ∈ k, seg p = true) → l.foldl step (some k) = some k' → ∀ p ∈ k', seg p = true := by
  induction l with
  | nil => intro k k' h e; simp at e; subst e; exact h
  | cons a r ih =>
    intro k k' h e
    rw [List.foldl_cons] at e
    cases hs : step (some k) a with
    | none => rw [hs, step_none] at e; cases e
    | some k2 =>
      rw [hs] at e
      refine ih k2 k' ?_ e
      simp only [step] at hs
      split at hs
      · simp at hs; subst hs; exact h
      · split at hs
        · split at hs
          · cases hs
          · simp at hs; subst hs; exact fun p hp => h p (List.dropLast_subset k hp)
        · split at hs
          · rename_i hg
            simp at hs; subst hs
            intro p hp
            rcases List.mem_append.1 hp with h' | h'
            · exact h p h'
            · simp at h'; subst h'; exact hg
          · cases hs

theorem told_zero {o : Option (List B)} {p : B} (h : told o = (p, 0)) : ∃ a r, o = some (a :: r) ∧ p = join (a :: r) ∧ p.length ≤ 60 := by
  match o with
  | none => simp [told] at h
  | some [] => simp [told] at h
  | some (a :: r) =>
    simp only [told] at h
    split at h
    · simp at h
    · simp only [Prod.mk.injEq, and_true] at h
      subst h
      exact ⟨a, r, rfl, rfl, by omega⟩
theorem told_no {o : Option (List B)} {p : B} {e : Nat} (h : told o = (p, e)) (he : e ≠ 0) : p = [] ∧ (e = 2 ∨ e = 3) := by
  match o with
  | none => simp [told] at h; exact ⟨h.1, .inl h.2.symm⟩
  | some [] => simp [told] at h; exact ⟨h.1, .inl h.2.symm⟩
  | some (a :: r) =>
    simp only [told] at h
    split at h
    · simp at h; exact ⟨h.1, .inr h.2.symm⟩
    · simp at h; exact absurd h.2.symm he
/-- P9.5: what Norm answers is a path, and of a path it answers the path -/
theorem norm_path {s p : B} (h : norm s = (p, 0)) : isP p = true ∧ norm p = (p, 0) := by
  obtain ⟨a, r, h1, rfl, h3⟩ := told_zero h
  have hs := fold_kept (cut s) [] (a :: r) (by simp) h1
  have hc := cut_join (a :: r) (by simp) (fun p hp => (seg_facts (hs p hp)).2.2.2)
  refine ⟨by simp only [isP, hc, Bool.and_eq_true, decide_eq_true_eq, List.all_eq_true]; exact ⟨h3, hs⟩, ?_⟩
  unfold norm kept
  rw [hc, fold_segs _ _ hs]
  simp only [List.nil_append, told]
  rw [if_neg (by omega)]
theorem isP_parts {s : B} (h : isP s = true) : s.length ≤ 60 ∧ ∀ p ∈ cut s, seg p = true := by
  simpa [isP, Bool.and_eq_true, List.all_eq_true] using h
theorem norm_of_path {s : B} (h : isP s = true) : norm s = (s, 0) := by
  obtain ⟨h1, h2⟩ := isP_parts h
  unfold norm kept
  rw [fold_segs _ _ h2, List.nil_append]
  cases hc : cut s with
  | nil => exact absurd hc (cut_ne s)
  | cons a r =>
    simp only [told]
    rw [← hc, join_cut, if_neg (by omega)]
/-- P9.6: two paths, one behind the other -/
theorem norm_two {p q : B} (hp : isP p = true) (hq : isP q = true) : norm (p ++ 47 :: q) = if 60 < (p ++ 47 :: q).length then ([], 3) else (p ++ 47 :: q, 0) := by
  obtain ⟨-, h2⟩ := isP_parts hp
  obtain ⟨-, h4⟩ := isP_parts hq
  unfold norm kept
  rw [cut_slash, fold_segs _ _ (fun x hx => (List.mem_append.1 hx).elim (h2 x) (h4 x)), List.nil_append]
  have hj : join (cut p ++ cut q) = p ++ 47 :: q := by rw [← cut_slash, join_cut]
  cases hc : cut p ++ cut q with
  | nil => exact absurd (List.append_eq_nil_iff.1 hc).1 (cut_ne p)
  | cons a r => simp only [told]; rw [← hc, hj]
/-- P9.5: detours change nothing -/
theorem fold_detour (l1 l2 d : List B) (hd : ∀ k : List B, d.foldl step (some k) = some k) : (l1 ++ d ++ l2).foldl step (some []) = (l1 ++ l2).foldl step (some []) := by
  rw [List.foldl_append, List.foldl_append, List.foldl_append]
  cases h : l1.foldl step (some []) with
  | none => rw [step_none]
  | some k => rw [hd]
theorem way_none : ∀ k : List B, [([] : B)].foldl step (some k) = some k := fun k => by simp [step]
theorem way_dot : ∀ k : List B, [([46] : B)].foldl step (some k) = some k := fun k => by simp [step]
theorem way_seg {s : B} (h : seg s = true) : ∀ k : List B, [s, [46, 46]].foldl step (some k) = some k := fun k => by
  rw [List.foldl_cons, step_seg h]
  simp [step]
/-- behind a slash, or at the beginning: what is put in there -/
theorem norm_detour (a b more : B) (d : List B) (ha : a = [] ∨ ∃ a', a = a' ++ [47]) (hm : ∃ m, more = m ++ [47] ∧ cut m = d) (hd : ∀ k : List B, d.foldl step (some k) = some k) : norm (a ++ more ++ b) = norm (a ++ b) := by
  obtain ⟨m, rfl, hc⟩ := hm
  unfold norm kept
  rcases ha with rfl | ⟨a', rfl⟩
  · rw [List.nil_append, List.nil_append, List.append_assoc, List.singleton_append, cut_slash, hc]
    have := fold_detour [] (cut b) d hd
    rw [List.nil_append, List.nil_append] at this
    rw [this]
  · have e1 : a' ++ [47] ++ (m ++ [47]) ++ b = a' ++ 47 :: (m ++ 47 :: b) := by simp
    have e2 : a' ++ [47] ++ b = a' ++ 47 :: b := by simp
    rw [e1, e2, cut_slash, cut_slash, cut_slash, hc, ← List.append_assoc, fold_detour _ _ d hd]

end Go.Proofs.Ytppcfidaalejfaa.Pm
