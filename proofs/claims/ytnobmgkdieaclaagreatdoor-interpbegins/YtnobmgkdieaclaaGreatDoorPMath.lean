/-
  THE PLAIN WORDS OF LAYER 9 (path): pieces, segments, paths, the one form of a text. No program here.
-/
namespace Go.Proofs.YtnobmgkdieaclaaGreatDoor.Pm

abbrev B := List UInt8
/-- a byte of a segment -/
def okB (c : UInt8) : Bool := (97 ≤ c && c ≤ 122) || (48 ≤ c && c ≤ 57) || c == 95 || c == 46 || c == 45
/-- a segment -/
def seg (s : B) : Bool := decide (1 ≤ s.length) && decide (s.length ≤ 32) && !decide (s = [46]) && !decide (s = [46, 46]) && s.all okB
/-- the pieces between a text's slashes -/
def cut : B → List B
  | [] => [[]]
  | c :: r => if c = 47 then [] :: cut r else match cut r with
    | [] => [[c]]
    | p :: ps => (c :: p) :: ps
/-- pieces, a slash between two -/
def join : List B → B
  | [] => []
  | [a] => a
  | a :: b :: r => a ++ 47 :: join (b :: r)
/-- a path -/
def isP (s : B) : Bool := decide (s.length ≤ 60) && (cut s).all seg
/-- what is kept, behind one piece more; none: refused -/
def step (k : Option (List B)) (p : B) : Option (List B) :=
  match k with
  | none => none
  | some k => if p = [] ∨ p = [46] then some k else if p = [46, 46] then (if k = [] then none else some k.dropLast) else if seg p = true then some (k ++ [p]) else none
/-- what is kept of the pieces -/
def kept (l : List B) : Option (List B) := l.foldl step (some [])
/-- what comes of what is kept -/
def told : Option (List B) → B × Nat
  | none => ([], 2)
  | some [] => ([], 2)
  | some (a :: r) => if 60 < (join (a :: r)).length then ([], 3) else (join (a :: r), 0)
def norm (s : B) : B × Nat := told (kept (cut s))

theorem cut_ne (s : B) : cut s ≠ [] := by
  cases s with
  | nil => simp [cut]
  | cons c r =>
    unfold cut
    split
    · simp
    · split <;> simp
theorem cut_slash (a b : B) : cut (a ++ 47 :: b) = cut a ++ cut b := by
  induction a with
  | nil => simp [cut]
  | cons c r ih =>
    rw [List.cons_append]
    by_cases hc : c = 47
    · simp [cut, hc, ih]
    · have e1 : cut (c :: (r ++ 47 :: b)) = match cut (r ++ 47 :: b) with | [] => [[c]] | p :: ps => (c :: p) :: ps := by rw [cut, if_neg hc]
      have e2 : cut (c :: r) = match cut r with | [] => [[c]] | p :: ps => (c :: p) :: ps := by rw [cut, if_neg hc]
      rw [e1, e2, ih]
      cases h : cut r with
      | nil => exact absurd h (cut_ne r)
      | cons p ps => rfl
theorem cut_plain (s : B) (h : (47 : UInt8) ∉ s) : cut s = [s] := by
  induction s with
  | nil => rfl
  | cons c r ih =>
    simp only [List.mem_cons, not_or] at h
    rw [cut, if_neg (fun e => h.1 e.symm), ih h.2]
theorem join_cons (a : B) (l : List B) (h : l ≠ []) : join (a :: l) = a ++ 47 :: join l := by
  cases l with
  | nil => exact absurd rfl h
  | cons b r => rfl
/-- a piece has no slash -/
theorem cut_mem (s : B) : ∀ p ∈ cut s, (47 : UInt8) ∉ p := by
  induction s with
  | nil => simp [cut]
  | cons c r ih =>
    by_cases hc : c = 47
    · rw [cut, if_pos hc]
      intro p hp
      rcases List.mem_cons.1 hp with rfl | h
      · simp
      · exact ih p h
    · rw [cut, if_neg hc]
      cases h : cut r with
      | nil => exact absurd h (cut_ne r)
      | cons q qs =>
        rw [h] at ih
        intro p hp
        rcases List.mem_cons.1 hp with rfl | h'
        · simp only [List.mem_cons, not_or]
          exact ⟨fun e => hc e.symm, ih q (by simp)⟩
        · exact ih p (by simp [h'])
theorem join_cut (s : B) : join (cut s) = s := by
  induction s with
  | nil => rfl
  | cons c r ih =>
    by_cases hc : c = 47
    · rw [cut, if_pos hc, join_cons _ _ (cut_ne r), ih, hc]; rfl
    · rw [cut, if_neg hc]
      cases h : cut r with
      | nil => exact absurd h (cut_ne r)
      | cons q qs =>
        rw [h] at ih
        cases qs with
        | nil => simp only [join] at ih ⊢; rw [ih]
        | cons q2 q3 => simp only [join] at ih ⊢; rw [← ih]; rfl
theorem cut_join (l : List B) (hne : l ≠ []) (h : ∀ p ∈ l, (47 : UInt8) ∉ p) : cut (join l) = l := by
  induction l with
  | nil => exact absurd rfl hne
  | cons a r ih =>
    cases r with
    | nil => exact cut_plain a (h a (by simp))
    | cons b r =>
      rw [join_cons a (b :: r) (by simp), cut_slash, ih (by simp) (fun p hp => h p (by simp [hp])), cut_plain a (h a (by simp))]
      rfl

theorem seg_facts {s : B} (h : seg s = true) : s ≠ [] ∧ s ≠ [46] ∧ s ≠ [46, 46] ∧ (47 : UInt8) ∉ s := by
  simp only [seg, Bool.and_eq_true, decide_eq_true_eq, Bool.not_eq_true', decide_eq_false_iff_not, List.all_eq_true] at h
  obtain ⟨⟨⟨⟨h1, -⟩, h3⟩, h4⟩, h5⟩ := h
  refine ⟨?_, h3, h4, fun hm => ?_⟩
  · rintro rfl; simp at h1
  · have := h5 47 hm; exact absurd this (by decide)
theorem step_seg {p : B} (h : seg p = true) (k : List B) : step (some k) p = some (k ++ [p]) := by
  obtain ⟨h1, h2, h3, -⟩ := seg_facts h
  simp only [step]
  rw [if_neg (by simp [h1, h2]), if_neg h3, if_pos h]
theorem step_none (l : List B) : l.foldl step none = none := by
  induction l with
  | nil => rfl
  | cons a r ih => simpa [step] using ih
theorem fold_segs (l : List B) : ∀ k : List B, (∀ p ∈ l, seg p = true) → l.foldl step (some k) = some (k ++ l) := by
  induction l with
  | nil => intro k _; simp
  | cons a r ih =>
    intro k h
    rw [List.foldl_cons, step_seg (h a (by simp)), ih _ (fun p hp => h p (by simp [hp]))]
    simp
/-- what is kept are segments -/
theorem fold_kept (l : List B) : ∀ k k' : List B, (∀ p ∈ k, seg p = true) → l.foldl step (some k) = some k' → ∀ p ∈ k', seg p = true := by
  induction l with
  | nil => intro k k' h e; simp at e; subst e; exact h
  | cons a r ih =>
    intro k k' h e
    rw [List.foldl_cons] at e
    cases hs : step (some k) a with
    | none => rw [hs, step_none] at e; cases e
    | some k2 =>
      rw [hs] at e
      refine ih k2 k' ?_ e
      simp only [step] at hs
      split at hs
      · simp at hs; subst hs; exact h
      · split at hs
        · split at hs
          · cases hs
          · simp at hs; subst hs; exact fun p hp => h p (List.dropLast_subset k hp)
        · split at hs
          · rename_i hg
            simp at hs; subst hs
            intro p hp
            rcases List.mem_append.1 hp with h' | h'
            · exact h p h'
            · simp at h'; subst h'; exact hg
          · cases hs

theorem told_zero {o : Option (List B)} {p : B} (h : told o = (p, 0)) : ∃ a r, o = some (a :: r) ∧ p = join (a :: r) ∧ p.length ≤ 60 := by
  match o with
  | none => simp [told] at h
  | some [] => simp [told] at h
  | some (a :: r) =>
    simp only [told] at h
    split at h
    · simp at h
    · simp only [Prod.mk.injEq, and_true] at h
      subst h
      exact ⟨a, r, rfl, rfl, by omega⟩
theorem told_no {o : Option (List B)} {p : B} {e : Nat} (h : told o = (p, e)) (he : e ≠ 0) : p = [] ∧ (e = 2 ∨ e = 3) := by
  match o with
  | none => simp [told] at h; exact ⟨h.1, .inl h.2.symm⟩
  | some [] => simp [told] at h; exact ⟨h.1, .inl h.2.symm⟩
  | some (a :: r) =>
    simp only [told] at h
    split at h
    · simp at h; exact ⟨h.1, .inr h.2.symm⟩
    · simp at h; exact absurd h.2.symm he
/-- P9.5: what Norm answers is a path, and of a path it answers the path -/
theorem norm_path {s p : B} (h : norm s = (p, 0)) : isP p = true ∧ norm p = (p, 0) := by
  obtain ⟨a, r, h1, rfl, h3⟩ := told_zero h
  have hs := fold_kept (cut s) [] (a :: r) (by simp) h1
  have hc := cut_join (a :: r) (by simp) (fun p hp => (seg_facts (hs p hp)).2.2.2)
  refine ⟨by simp only [isP, hc, Bool.and_eq_true, decide_eq_true_eq, List.all_eq_true]; exact ⟨h3, hs⟩, ?_⟩
  unfold norm kept
  rw [hc, fold_segs _ _ hs]
  simp only [List.nil_append, told]
  rw [if_neg (by omega)]
theorem isP_parts {s : B} (h : isP s = true) : s.length ≤ 60 ∧ ∀ p ∈ cut s, seg p = true := by
  simpa [isP, Bool.and_eq_true, List.all_eq_true] using h
theorem norm_of_path {s : B} (h : isP s = true) : norm s = (s, 0) := by
  obtain ⟨h1, h2⟩ := isP_parts h
  unfold norm kept
  rw [fold_segs _ _ h2, List.nil_append]
  cases hc : cut s with
  | nil => exact absurd hc (cut_ne s)
  | cons a r =>
    simp only [told]
    rw [← hc, join_cut, if_neg (by omega)]
/-- P9.6: two paths, one behind the other -/
theorem norm_two {p q : B} (hp : isP p = true) (hq : isP q = true) : norm (p ++ 47 :: q) = if 60 < (p ++ 47 :: q).length then ([], 3) else (p ++ 47 :: q, 0) := by
  obtain ⟨-, h2⟩ := isP_parts hp
  obtain ⟨-, h4⟩ := isP_parts hq
  unfold norm kept
  rw [cut_slash, fold_segs _ _ (fun x hx => (List.mem_append.1 hx).elim (h2 x) (h4 x)), List.nil_append]
  have hj : join (cut p ++ cut q) = p ++ 47 :: q := by rw [← cut_slash, join_cut]
  cases hc : cut p ++ cut q with
  | nil => exact absurd (List.append_eq_nil_iff.1 hc).1 (cut_ne p)
  | cons a r => simp only [told]; rw [← hc, hj]
/-- P9.5: detours change nothing -/
theorem fold_detour (l1 l2 d : List B) (hd : ∀ k : List B, d.foldl step (some k) = some k) : (l1 ++ d ++ l2).foldl step (some []) = (l1 ++ l2).foldl step (some []) := by
  rw [List.foldl_append, List.foldl_append, List.foldl_append]
  cases h : l1.foldl step (some []) with
  | none => rw [step_none]
  | some k => rw [hd]
theorem way_none : ∀ k : List B, [([] : B)].foldl step (some k) = some k := fun k => by simp [step]
theorem way_dot : ∀ k : List B, [([46] : B)].foldl step (some k) = some k := fun k => by simp [step]
theorem way_seg {s : B} (h : seg s = true) : ∀ k : List B, [s, [46, 46]].foldl step (some k) = some k := fun k => by
  rw [List.foldl_cons, step_seg h]
  simp [step]
/-- behind a slash, or at the beginning: what is put in there -/
theorem norm_detour (a b more : B) (d : List B) (ha : a = [] ∨ ∃ a', a = a' ++ [47]) (hm : ∃ m, more = m ++ [47] ∧ cut m = d) (hd : ∀ k : List B, d.foldl step (some k) = some k) : norm (a ++ more ++ b) = norm (a ++ b) := by
  obtain ⟨m, rfl, hc⟩ := hm
  unfold norm kept
  rcases ha with rfl | ⟨a', rfl⟩
  · rw [List.nil_append, List.nil_append, List.append_assoc, List.singleton_append, cut_slash, hc]
    have := fold_detour [] (cut b) d hd
    rw [List.nil_append, List.nil_append] at this
    rw [this]
  · have e1 : a' ++ [47] ++ (m ++ [47]) ++ b = a' ++ 47 :: (m ++ 47 :: b) := by simp
    have e2 : a' ++ [47] ++ b = a' ++ 47 :: b := by simp
    rw [e1, e2, cut_slash, cut_slash, cut_slash, hc, ← List.append_assoc, fold_detour _ _ d hd]

end Go.Proofs.YtnobmgkdieaclaaGreatDoor.Pm

namespace Go.Proofs.YtnobmgkdieaclaaGreatDoor.Pm

def parent (p : B) : B × Bool := if isP p = true ∧ 2 ≤ (cut p).length then (join (cut p).dropLast, true) else ([], false)
def base (p : B) : B := if isP p = true then (cut p).getLastD [] else []
theorem seg_len {s : B} (h : seg s = true) : s.length ≤ 32 := by
  simp only [seg, Bool.and_eq_true, decide_eq_true_eq] at h
  exact h.1.1.1.2
theorem join_append (l : List B) (hl : l ≠ []) (a : B) : join (l ++ [a]) = join l ++ 47 :: a := by
  induction l with
  | nil => exact absurd rfl hl
  | cons b r ih =>
    cases r with
    | nil => rfl
    | cons c r =>
      rw [List.cons_append, join_cons b _ (by simp), ih (by simp), join_cons b (c :: r) (by simp)]
      simp
theorem cut_last (p : B) : (cut p).dropLast ++ [(cut p).getLastD []] = cut p := by
  have h := cut_ne p
  rw [List.getLastD_eq_getLast?, List.getLast?_eq_some_getLast h]
  exact List.dropLast_concat_getLast h
/-- P9.6: parent, slash, base -/
theorem parent_base {p q : B} (h : parent p = (q, true)) : isP p = true ∧ isP q = true ∧ q ++ 47 :: base p = p := by
  unfold parent at h
  split at h
  · rename_i hp
    simp only [Prod.mk.injEq, and_true] at h
    obtain ⟨hp1, hp2⟩ := hp
    have hne : (cut p).dropLast ≠ [] := by
      intro e
      have := congrArg List.length e
      rw [List.length_dropLast] at this
      simp at this
      omega
    have hb : q ++ 47 :: base p = p := by
      rw [← h, base, if_pos hp1, ← join_append _ hne, cut_last, join_cut]
    obtain ⟨h60, hs⟩ := isP_parts hp1
    have hds : ∀ x ∈ (cut p).dropLast, seg x = true := fun x hx => hs x (List.dropLast_subset _ hx)
    refine ⟨hp1, ?_, hb⟩
    have hc := cut_join _ hne (fun x hx => (seg_facts (hds x hx)).2.2.2)
    rw [h] at hc
    simp only [isP, hc, Bool.and_eq_true, decide_eq_true_eq, List.all_eq_true]
    refine ⟨?_, hds⟩
    have := congrArg List.length hb
    simp only [List.length_append, List.length_cons] at this
    omega
  · simp at h
theorem parent_none {p q : B} (hp : isP p = true) (h : parent p = (q, false)) : q = [] ∧ cut p = [p] ∧ base p = p := by
  unfold parent at h
  split at h
  · simp at h
  · rename_i hn
    simp only [Prod.mk.injEq, and_true] at h
    have hl : (cut p).length ≤ 1 := by
      rcases Nat.lt_or_ge (cut p).length 2 with h' | h'
      · omega
      · exact absurd ⟨hp, h'⟩ hn
    have hc : cut p = [p] := by
      cases he : cut p with
      | nil => exact absurd he (cut_ne p)
      | cons a r =>
        rw [he] at hl
        have : r = [] := List.eq_nil_of_length_eq_zero (by simp only [List.length_cons] at hl; omega)
        subst this
        have hj := join_cut p
        rw [he] at hj
        simp only [join] at hj
        rw [hj]
    exact ⟨h.symm, hc, by rw [base, if_pos hp, hc]; rfl⟩
/-- P9.5, P9.6: a path, and .. behind it -/
theorem norm_up {p : B} (hp : isP p = true) : norm (p ++ [47, 46, 46]) = if (parent p).2 = true then ((parent p).1, 0) else ([], 2) := by
  obtain ⟨h60, hs⟩ := isP_parts hp
  have e : cut (p ++ 47 :: [46, 46]) = cut p ++ [[46, 46]] := by rw [cut_slash]; rfl
  unfold norm kept
  rw [e, List.foldl_append, fold_segs _ _ hs, List.nil_append]
  simp only [List.foldl_cons, List.foldl_nil, step]
  rw [if_neg (by simp), if_pos trivial, if_neg (cut_ne p)]
  cases hq : parent p with
  | mk q b =>
    cases b with
    | true =>
      obtain ⟨-, hq1, -⟩ := parent_base hq
      have h2 : parent p = (q, true) := hq
      unfold parent at h2
      split at h2
      · simp only [Prod.mk.injEq, and_true] at h2
        rename_i hc
        cases hd : (cut p).dropLast with
        | nil =>
          have := congrArg List.length hd
          rw [List.length_dropLast] at this
          simp at this
          omega
        | cons a r =>
          simp only [told]
          rw [← hd, h2, if_neg (by have := (isP_parts hq1).1; omega)]
          rfl
      · simp at h2
    | false =>
      obtain ⟨-, hc, -⟩ := parent_none hp hq
      rw [hc]
      rfl
theorem base_two {p q : B} (hq : isP q = true) (hn : isP (p ++ 47 :: q) = true) : base (p ++ 47 :: q) = base q := by
  unfold base
  rw [if_pos hn, if_pos hq, cut_slash]
  have h := cut_ne q
  rw [List.getLastD_eq_getLast?, List.getLastD_eq_getLast?, List.getLast?_append]
  rw [List.getLast?_eq_some_getLast h]
  rfl

/-- a pattern filled with a stem -/
def fill (p stem : B) : B := p.flatMap fun c => if c = 37 then stem else [c]
/-- how often the mark stands in a text -/
def marks (p : B) : Nat := p.countP (· == 37)
/-- P9.3 -/
def matchP (p s : B) : B × Bool :=
  if marks p = 0 then ([], decide (p = s))
  else if marks p = 1 ∧ p.length ≤ s.length ∧ (p.takeWhile (· != 37)).isPrefixOf s = true ∧ ((p.dropWhile (· != 37)).drop 1).isSuffixOf s = true then ((s.drop (p.takeWhile (· != 37)).length).take (s.length - (p.length - 1)), true) else ([], false)
theorem fill_plain (p stem : B) (h : (37 : UInt8) ∉ p) : fill p stem = p := by
  induction p with
  | nil => rfl
  | cons c r ih =>
    simp only [List.mem_cons, not_or] at h
    simp only [fill, List.flatMap_cons, if_neg (fun e : c = 37 => h.1 e.symm)]
    rw [show List.flatMap (fun c => if c = 37 then stem else [c]) r = r from ih h.2]
    rfl
theorem fill_one (a b stem : B) (ha : (37 : UInt8) ∉ a) (hb : (37 : UInt8) ∉ b) : fill (a ++ 37 :: b) stem = a ++ stem ++ b := by
  have e1 := fill_plain a stem ha
  have e2 := fill_plain b stem hb
  unfold fill at e1 e2 ⊢
  rw [List.flatMap_append, List.flatMap_cons, e1, e2, if_pos rfl, List.append_assoc]
theorem marks_one (a b : B) (ha : (37 : UInt8) ∉ a) (hb : (37 : UInt8) ∉ b) : marks (a ++ 37 :: b) = 1 := by
  have e1 : a.countP (· == 37) = 0 := List.countP_eq_zero.2 fun x hx => by simp; rintro rfl; exact ha hx
  have e2 : b.countP (· == 37) = 0 := List.countP_eq_zero.2 fun x hx => by simp; rintro rfl; exact hb hx
  unfold marks
  rw [List.countP_append, List.countP_cons, e1, e2]
  rfl
theorem take_mark (a b : B) (ha : (37 : UInt8) ∉ a) : (a ++ 37 :: b).takeWhile (· != 37) = a ∧ ((a ++ 37 :: b).dropWhile (· != 37)).drop 1 = b := by
  induction a with
  | nil => simp
  | cons c r ih =>
    simp only [List.mem_cons, not_or] at ha
    have hc : (c != 37) = true := by simp; exact fun e => ha.1 e.symm
    obtain ⟨h1, h2⟩ := ih ha.2
    simp only [List.cons_append, List.takeWhile_cons, List.dropWhile_cons, hc, if_true]
    exact ⟨by rw [h1], h2⟩
/-- what Match says of a pattern with one mark -/
theorem match_one (a b s : B) (ha : (37 : UInt8) ∉ a) (hb : (37 : UInt8) ∉ b) :
    (∃ st, st ≠ [] ∧ s = a ++ st ++ b ∧ matchP (a ++ 37 :: b) s = (st, true)) ∨ ((∀ st, st ≠ [] → s ≠ a ++ st ++ b) ∧ matchP (a ++ 37 :: b) s = ([], false)) := by
  obtain ⟨e1, e2⟩ := take_mark a b ha
  have e3 := marks_one a b ha hb
  unfold matchP
  rw [e1, e2, e3]
  simp only [Nat.one_ne_zero, if_false, true_and]
  by_cases h : ∃ st, st ≠ [] ∧ s = a ++ st ++ b
  · obtain ⟨st, hst, rfl⟩ := h
    left
    refine ⟨st, hst, rfl, ?_⟩
    have hl : 1 ≤ st.length := by cases st with | nil => exact absurd rfl hst | cons => simp
    rw [if_pos ⟨by simp; omega, by rw [List.append_assoc]; simp, by rw [List.isSuffixOf_iff_suffix]; exact ⟨a ++ st, rfl⟩⟩]
    simp only [Prod.mk.injEq, and_true, List.append_assoc, List.drop_left, List.length_append, List.length_cons]
    rw [show a.length + (st.length + b.length) - (a.length + (b.length + 1) - 1) = st.length by omega, List.take_left]
  · right
    refine ⟨fun st h1 h2 => h ⟨st, h1, h2⟩, ?_⟩
    rw [if_neg]
    rintro ⟨h1, h2, h3⟩
    rw [List.isPrefixOf_iff_prefix] at h2
    rw [List.isSuffixOf_iff_suffix] at h3
    obtain ⟨t, rfl⟩ := h2
    obtain ⟨u, hu⟩ := h3
    simp only [List.length_append, List.length_cons] at h1
    have hlu := congrArg List.length hu
    simp only [List.length_append] at hlu
    have hua : a.length ≤ u.length := by omega
    have h4 : u.take a.length = a := by
      have := congrArg (List.take a.length) hu
      rw [List.take_append_of_le_length hua, List.take_left] at this
      exact this
    refine h ⟨u.drop a.length, ?_, ?_⟩
    · intro e
      have := congrArg List.length e
      rw [List.length_drop] at this
      simp at this
      omega
    · rw [← hu]
      conv => lhs; rw [← List.take_append_drop a.length u, h4]

end Go.Proofs.YtnobmgkdieaclaaGreatDoor.Pm
