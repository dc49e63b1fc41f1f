/-
  WHAT IS WRITTEN IS READ: words, lines, whatever parts them. Places do not matter here.
-/
import Derived.Test.YtfgdlnidfkjbdaaDoorXTwo
namespace Go.Proofs.YtfgdlnidfkjbdaaDoor.Lx
variable {α β : Type}

/-- a byte without a place -/
def u (c : UInt8) : B Unit := ⟨c, false, ()⟩
/-- a text's bytes without places -/
def eb (s : List UInt8) : List (B Unit) := (bytes 0 s).map (B.map fun _ => ())
theorem eb_at (p : Nat) (s : List UInt8) : (bytes p s).map (B.map fun _ => ()) = eb s := by
  have := bytes_shift p _ 0 s (Nat.le_refl _)
  rw [Nat.zero_add] at this
  rw [this, List.map_map]
  rfl
theorem bytes_app (t : List UInt8) : ∀ (n p : Nat) (s : List UInt8), s.length ≤ n → s.getLast? ≠ some 92 → bytes p (s ++ t) = bytes p s ++ bytes (p + s.length) t := by
  intro n
  induction n with
  | zero =>
    intro p a h _
    have : a = [] := List.eq_nil_of_length_eq_zero (by omega)
    subst this
    simp [bytes]
  | succ n ih =>
    intro p a h hl
    rcases bytes_cases a with rfl | ⟨r, rfl⟩ | ⟨c, r, rfl, hc⟩
    · simp [bytes]
    · simp only [List.length_cons] at h ⊢
      rw [List.cons_append, List.cons_append, bytes_join, bytes_join, List.cons_append, ih (p + 2) r (by omega) (by
        intro e
        apply hl
        cases r with
        | nil => simp at e
        | cons x r => simpa [List.getLast?_cons_cons] using e)]
      rw [show p + 2 + r.length = p + (r.length + 1 + 1) by omega]
    · simp only [List.length_cons] at h ⊢
      rw [List.cons_append, bytes_one _ _ _ hc, List.cons_append, bytes_one _ _ (r ++ t) (by
        cases r with
        | nil =>
          left
          rintro rfl
          simp at hl
        | cons x r => simpa using hc), ih (p + 1) r (by omega) (by
        intro e
        apply hl
        cases r with
        | nil => simp at e
        | cons x r => simpa [List.getLast?_cons_cons] using e)]
      rw [show p + 1 + r.length = p + (r.length + 1) by omega]
theorem eb_app {s t : List UInt8} (h : s.getLast? ≠ some 92) : eb (s ++ t) = eb s ++ eb t := by
  unfold eb
  rw [bytes_app t _ 0 s (Nat.le_refl _) h, List.map_append, eb_at, eb_at, eb_at]
theorem eb_one {c : UInt8} {r : List UInt8} (h : c ≠ 92) : eb (c :: r) = u c :: eb r := by
  unfold eb
  rw [bytes_one _ _ _ (.inl h), List.map_cons, eb_at]
  rfl
theorem bytes_plain : ∀ (n p : Nat) (s : List UInt8), s.length ≤ n → 10 ∉ s → (bytes p s).map (B.map fun _ => ()) = s.map u := by
  intro n
  induction n with
  | zero =>
    intro p s h _
    have : s = [] := List.eq_nil_of_length_eq_zero (by omega)
    subst this
    simp [bytes]
  | succ n ih =>
    intro p s h hn
    rcases bytes_cases s with rfl | ⟨r, rfl⟩ | ⟨c, r, rfl, hc⟩
    · simp [bytes]
    · simp at hn
    · simp only [List.length_cons] at h
      rw [bytes_one _ _ _ hc, List.map_cons, List.map_cons, ih (p + 1) r (by omega) (fun h => hn (List.mem_cons_of_mem _ h))]
      rfl
theorem eb_plain {s : List UInt8} (h : 10 ∉ s) : eb s = s.map u := bytes_plain _ 0 s (Nat.le_refl _) h

/-- a word as it may come: a mark, a quoted one, one of bare bytes -/
def WOk (w : W α) : Prop := (w.mark = true ∧ w.quoted = false ∧ (w.text = [58] ∨ w.text = [61])) ∨ (w.mark = false ∧ w.quoted = true) ∨ (w.mark = false ∧ w.quoted = false ∧ plain w.text = true)
def W.er (w : W α) : W Unit := w.map fun _ => ()

theorem bare_all {s : List UInt8} (h : plain s = true) : s ≠ [] ∧ ∀ c ∈ s, bare c = true := by
  unfold plain at h
  simp only [Bool.and_eq_true, Bool.not_eq_true', List.all_eq_true] at h
  exact ⟨fun e => by rw [e] at h; simp at h, h.2⟩
theorem qb_no (c : UInt8) : 10 ∉ qb c := by
  unfold qb
  split
  · rename_i h; rcases h with rfl | rfl <;> decide
  · split
    · decide
    · split
      · decide
      · rename_i h _; simpa using Ne.symm h
theorem quote_no (s : List UInt8) : 10 ∉ quote s := by
  unfold quote
  simp only [List.mem_cons, List.mem_append, List.mem_flatMap, List.not_mem_nil, or_false]
  rintro (h | ⟨c, -, h⟩ | h)
  · exact absurd h (by decide)
  · exact qb_no c h
  · exact absurd h (by decide)
theorem quote_last (s : List UInt8) : (quote s).getLast? = some 34 := by
  unfold quote
  rw [← List.cons_append, List.getLast?_append]
  rfl
theorem plain_no {s : List UInt8} (h : plain s = true) : 10 ∉ s ∧ s.getLast? ≠ some 92 := by
  obtain ⟨-, ha⟩ := bare_all h
  refine ⟨fun hm => (not_bare (ha 10 hm)).2.2.2.2.1 rfl, fun e => (not_bare (ha 92 (List.mem_of_getLast? e))).2.2.2.2.2.2 rfl⟩
theorem wtext_mark {w : W α} (h : w.mark = true) : wtext w = w.text := by unfold wtext; rw [if_pos h]
theorem wtext_quoted {w : W α} (h : w.mark = false) (hq : w.quoted = true) : wtext w = quote w.text := by unfold wtext; rw [if_neg (by rw [h]; simp), if_pos hq]
theorem wtext_plain {w : W α} (h : w.mark = false) (hq : w.quoted = false) (hp : plain w.text = true) : wtext w = w.text := by
  unfold wtext show_; rw [if_neg (by rw [h]; simp), if_neg (by rw [hq]; simp), if_pos hp]
theorem wtext_no {w : W α} (h : WOk w) : 10 ∉ wtext w ∧ (wtext w).getLast? ≠ some 92 := by
  rcases h with ⟨h1, -, h3 | h3⟩ | ⟨h1, h2⟩ | ⟨h1, h2, h3⟩
  · rw [wtext_mark h1, h3]; decide
  · rw [wtext_mark h1, h3]; decide
  · rw [wtext_quoted h1 h2]; exact ⟨quote_no _, by rw [quote_last]; decide⟩
  · rw [wtext_plain h1 h2 h3]; exact plain_no h3
theorem wtext_head {w : W α} (h : WOk w) : ∃ c r, wtext w = c :: r ∧ c ≠ 9 ∧ c ≠ 92 := by
  rcases h with ⟨h1, -, h3 | h3⟩ | ⟨h1, h2⟩ | ⟨h1, h2, h3⟩
  · rw [wtext_mark h1, h3]; exact ⟨58, [], rfl, by decide, by decide⟩
  · rw [wtext_mark h1, h3]; exact ⟨61, [], rfl, by decide, by decide⟩
  · rw [wtext_quoted h1 h2]; exact ⟨34, _, rfl, by decide, by decide⟩
  · rw [wtext_plain h1 h2 h3]
    obtain ⟨hn, ha⟩ := bare_all h3
    cases ht : w.text with
    | nil => exact absurd ht hn
    | cons c r =>
      have := not_bare (ha c (by rw [ht]; simp))
      exact ⟨c, r, rfl, this.2.2.2.2.2.1, this.2.2.2.2.2.2⟩

theorem quo_back (R' : List (B Unit)) : ∀ (s acc : List UInt8), quo ((s.flatMap qb ++ [34]).map u ++ R') acc = .ok (some (acc ++ s, R')) := by
  intro s
  induction s with
  | nil => intro acc; simp [quo, u]
  | cons c s ih =>
    intro acc
    have e : ((c :: s).flatMap qb ++ [34]).map u ++ R' = (qb c).map u ++ ((s.flatMap qb ++ [34]).map u ++ R') := by simp
    rw [e]
    have step : ∀ (d x : UInt8), esc d = some x → quo (u 92 :: u d :: ((s.flatMap qb ++ [34]).map u ++ R')) acc = .ok (some (acc ++ x :: s, R')) := fun d x hd => by
      rw [quo, if_neg (by decide), if_neg (by decide), quo.qesc, if_neg (show ¬ (u d).join = true by simp [u])]
      show (match esc d with | some x => _ | none => _) = _
      rw [hd]
      show quo _ (acc ++ [x]) = _
      rw [ih (acc ++ [x])]
      simp
    have hq : qb c = if c = 34 ∨ c = 92 then [92, c] else if c = 10 then [92, 110] else if c = 9 then [92, 116] else [c] := rfl
    rw [hq]
    by_cases h1 : c = 34 ∨ c = 92
    · rw [if_pos h1]; exact step c c (by unfold esc; rw [if_pos h1])
    rw [if_neg h1]
    by_cases h2 : c = 10
    · rw [if_pos h2]; subst h2; exact step 110 10 (by decide)
    rw [if_neg h2]
    by_cases h3 : c = 9
    · rw [if_pos h3]; subst h3; exact step 116 9 (by decide)
    rw [if_neg h3]
    show quo (u c :: ((s.flatMap qb ++ [34]).map u ++ R')) acc = _
    rw [quo, if_neg (show ¬ (u c).c = 34 from fun h => h1 (.inl h)), if_pos (show (u c).c ≠ 92 from fun h => h1 (.inr h))]
    show quo ((s.flatMap qb ++ [34]).map u ++ R') (acc ++ [c]) = _
    rw [ih (acc ++ [c])]
    simp
/-- what stands behind a word and is no more of it -/
def Parted (l : List (B Unit)) : Prop := ∀ b, l.head? = some b → bare b.c = false
theorem tw_bare {s : List UInt8} {R' : List (B Unit)} (hs : ∀ c ∈ s, bare c = true) (hR : Parted R') : ((s.map u ++ R').takeWhile fun x => bare x.c) = s.map u ∧ ((s.map u ++ R').dropWhile fun x => bare x.c) = R' := by
  induction s with
  | nil =>
    cases R' with
    | nil => exact ⟨rfl, rfl⟩
    | cons b r =>
      have := hR b rfl
      exact ⟨by rw [List.map_nil, List.nil_append, List.takeWhile_cons, if_neg (by rw [this]; simp)], by rw [List.map_nil, List.nil_append, List.dropWhile_cons, if_neg (by rw [this]; simp)]⟩
  | cons c s ih =>
    have h1 := hs c (by simp)
    obtain ⟨h2, h3⟩ := ih fun d hd => hs d (List.mem_cons_of_mem _ hd)
    rw [List.map_cons, List.cons_append, List.takeWhile_cons, List.dropWhile_cons, if_pos (show bare (u c).c = true from h1), if_pos (show bare (u c).c = true from h1), h2, h3]
    exact ⟨rfl, rfl⟩
/-- a word is read -/
theorem rd_word {w : W α} (h : WOk w) {R' : List (B Unit)} (hR : Parted R') : rd (eb (wtext w) ++ R') = (rd R').map id (w.er :: ·) := by
  rw [eb_plain (wtext_no h).1]
  obtain ⟨text, at_, quoted, mark⟩ := w
  rcases h with ⟨h1, h2, h3 | h3⟩ | ⟨h1, h2⟩ | ⟨h1, h2, h3⟩
  · rw [wtext_mark h1]
    simp only at h1 h2 h3
    subst h1 h2 h3
    exact rd_mark (b := u 58) (.inl rfl)
  · rw [wtext_mark h1]
    simp only at h1 h2 h3
    subst h1 h2 h3
    exact rd_mark (b := u 61) (.inr rfl)
  · rw [wtext_quoted h1 h2]
    simp only at h1 h2
    subst h1 h2
    show rd (u 34 :: ((text.flatMap qb ++ [34]).map u ++ R')) = _
    rw [rd_quote rfl, quo_back R' text []]
    rfl
  · rw [wtext_plain h1 h2 h3]
    simp only at h1 h2 h3 ⊢
    subst h1 h2
    obtain ⟨hn, ha⟩ := bare_all h3
    cases text with
    | nil => exact absurd rfl hn
    | cons c s =>
      obtain ⟨t1, t2⟩ := tw_bare (s := s) (fun d hd => ha d (List.mem_cons_of_mem _ hd)) hR
      show rd (u c :: (s.map u ++ R')) = _
      rw [rd_bare (show bare (u c).c = true from ha c (by simp)), t1, t2, List.map_map]
      have : s.map (B.c ∘ u) = s := by
        rw [show (B.c ∘ u) = (id : UInt8 → UInt8) from rfl, List.map_id]
      rw [this]
      rfl

end Go.Proofs.YtfgdlnidfkjbdaaDoor.Lx
