/-
  WORDS AND LINES, case by case; what places are does not matter.
-/
import Derived.Test.YtnobmgkdieaclaaGreatDoorKit
namespace Go.Proofs.YtnobmgkdieaclaaGreatDoor.Lx
variable {α β : Type}

theorem rd_hash {b : B α} {r : List (B α)} (h : b.c = 35) : rd (b :: r) = .ok [] := by rw [rd, if_pos h]
theorem rd_blank {b : B α} {r : List (B α)} (h : b.c = 32) : rd (b :: r) = rd r := by rw [rd, if_neg (by rw [h]; decide), if_pos h]
theorem rd_mark {b : B α} {r : List (B α)} (h : b.c = 58 ∨ b.c = 61) : rd (b :: r) = (rd r).map id (⟨[b.c], b.at_, false, true⟩ :: ·) := by
  rw [rd, if_neg (by rcases h with h | h <;> rw [h] <;> decide), if_neg (by rcases h with h | h <;> rw [h] <;> decide), if_pos h]
/-- a quoted word and what follows, by what its quotes hold -/
def afterQ (a : α) : R α (Option (List UInt8 × List (B α))) → R α (List (W α))
  | .bad x => .bad x
  | .ok none => .bad a
  | .ok (some (s, r')) => (rd r').map id (⟨s, a, true, false⟩ :: ·)
theorem rd_quote {b : B α} {r : List (B α)} (h : b.c = 34) : rd (b :: r) = afterQ b.at_ (quo r []) := by
  rw [rd, if_neg (by rw [h]; decide), if_neg (by rw [h]; decide), if_neg (by rw [h]; decide), if_pos h]
  unfold afterQ
  split <;> simp_all
theorem not_bare {c : UInt8} (h : bare c = true) : c ≠ 35 ∧ c ≠ 32 ∧ ¬ (c = 58 ∨ c = 61) ∧ c ≠ 34 ∧ c ≠ 10 ∧ c ≠ 9 ∧ c ≠ 92 := by
  unfold bare at h
  simp only [decide_eq_true_eq] at h
  obtain ⟨h1, h2, h3, h4, h5, h6, h7⟩ := h
  refine ⟨h4, ?_, fun h => h.elim h5 h6, h3, ?_, ?_, h7⟩ <;> (rintro rfl; revert h1; decide)
theorem rd_bare {b : B α} {r : List (B α)} (h : bare b.c = true) : rd (b :: r) = (rd (r.dropWhile fun x => bare x.c)).map id (⟨b.c :: (r.takeWhile fun x => bare x.c).map B.c, b.at_, false, false⟩ :: ·) := by
  obtain ⟨h1, h2, h3, h4, -⟩ := not_bare h
  rw [rd, if_neg h1, if_neg h2, if_neg h3, if_neg h4, if_pos h]
theorem rd_bad {b : B α} {r : List (B α)} (h1 : b.c ≠ 35) (h2 : b.c ≠ 32) (h3 : ¬ (b.c = 58 ∨ b.c = 61)) (h4 : b.c ≠ 34) (h5 : bare b.c = false) : rd (b :: r) = .bad b.at_ := by
  rw [rd, if_neg h1, if_neg h2, if_neg h3, if_neg h4, if_neg (by rw [h5]; simp)]

theorem map_takeWhile (f : α → β) (p : UInt8 → Bool) (l : List (B α)) : (l.map (B.map f)).takeWhile (fun x => p x.c) = (l.takeWhile fun x => p x.c).map (B.map f) := by
  induction l with
  | nil => rfl
  | cons b r ih =>
    rw [List.map_cons, List.takeWhile_cons, List.takeWhile_cons, ih]
    show (if p b.c = true then _ else _) = _
    split <;> rfl
theorem map_dropWhile (f : α → β) (p : UInt8 → Bool) (l : List (B α)) : (l.map (B.map f)).dropWhile (fun x => p x.c) = (l.dropWhile fun x => p x.c).map (B.map f) := by
  induction l with
  | nil => rfl
  | cons b r ih =>
    rw [List.map_cons, List.dropWhile_cons, List.dropWhile_cons, ih]
    show (if p b.c = true then _ else _) = _
    split <;> rfl
theorem quo_map (f : α → β) : ∀ (n : Nat) (l : List (B α)) (acc : List UInt8), l.length ≤ n → quo (l.map (B.map f)) acc = (quo l acc).map f (Option.map fun p => (p.1, p.2.map (B.map f))) := by
  intro n
  induction n with
  | zero =>
    intro l acc h
    have : l = [] := List.eq_nil_of_length_eq_zero (by omega)
    subst this
    rfl
  | succ n ih =>
    intro l acc h
    cases l with
    | nil => rfl
    | cons b r =>
      simp only [List.length_cons] at h
      rw [List.map_cons, quo, quo]
      by_cases h1 : b.c = 34
      · rw [if_pos (show (B.map f b).c = 34 from h1), if_pos h1]; rfl
      rw [if_neg (show ¬ (B.map f b).c = 34 from h1), if_neg h1]
      by_cases h2 : b.c ≠ 92
      · rw [if_pos (show (B.map f b).c ≠ 92 from h2), if_pos h2]
        exact ih r _ (by omega)
      rw [if_neg (show ¬ (B.map f b).c ≠ 92 from h2), if_neg h2]
      cases r with
      | nil => rfl
      | cons e r' =>
        simp only [List.length_cons] at h
        rw [List.map_cons, quo.qesc, quo.qesc]
        by_cases h3 : e.join = true
        · rw [if_pos (show (B.map f e).join = true from h3), if_pos h3]; rfl
        rw [if_neg (show ¬ (B.map f e).join = true from h3), if_neg h3]
        show (match esc e.c with | some x => _ | none => _) = _
        cases esc e.c with
        | none => rfl
        | some x => exact ih r' _ (by omega)
theorem R.map_map {γ δ ε ζ : Type} (f : α → γ) (g : β → δ) (f' : γ → ε) (g' : δ → ζ) (r : R α β) : (r.map f g).map f' g' = r.map (f' ∘ f) (g' ∘ g) := by cases r <;> rfl
theorem rd_map (f : α → β) : ∀ (n : Nat) (l : List (B α)), l.length ≤ n → rd (l.map (B.map f)) = (rd l).map f (List.map (W.map f)) := by
  intro n
  induction n with
  | zero =>
    intro l h
    have : l = [] := List.eq_nil_of_length_eq_zero (by omega)
    subst this
    simp [rd, R.map]
  | succ n ih =>
    intro l h
    cases l with
    | nil => simp [rd, R.map]
    | cons b r =>
      simp only [List.length_cons] at h
      rw [List.map_cons]
      have hc : (B.map f b).c = b.c := rfl
      have fin : ∀ (r' : List (B α)) (w : W α), r'.length ≤ n → (rd (r'.map (B.map f))).map id (W.map f w :: ·) = ((rd r').map id (w :: ·)).map f (List.map (W.map f)) := fun r' w hr => by
        rw [ih r' hr, R.map_map, R.map_map]; rfl
      by_cases h1 : b.c = 35
      · rw [rd_hash h1, rd_hash (by rw [hc]; exact h1)]; rfl
      by_cases h2 : b.c = 32
      · rw [rd_blank h2, rd_blank (by rw [hc]; exact h2)]; exact ih r (by omega)
      by_cases h3 : b.c = 58 ∨ b.c = 61
      · rw [rd_mark h3, rd_mark (by rw [hc]; exact h3)]; exact fin r ⟨[b.c], b.at_, false, true⟩ (by omega)
      by_cases h4 : b.c = 34
      · rw [rd_quote h4, rd_quote (by rw [hc]; exact h4), quo_map f _ r [] (Nat.le_refl _)]
        have hq := fun s r' => quo_len _ r [] s r' (Nat.le_refl _)
        cases hqr : quo r [] with
        | bad a => rfl
        | ok o =>
          cases o with
          | none => rfl
          | some p =>
            obtain ⟨s, r'⟩ := p
            exact fin r' ⟨s, b.at_, true, false⟩ (by have := hq s r' hqr; omega)
      cases h5 : bare b.c with
      | true =>
        rw [rd_bare h5, rd_bare (by rw [hc]; exact h5), map_dropWhile f bare, map_takeWhile f bare, List.map_map]
        exact fin (r.dropWhile fun x => bare x.c) ⟨b.c :: (r.takeWhile fun x => bare x.c).map B.c, b.at_, false, false⟩ (Nat.le_trans (List.Sublist.length_le (List.dropWhile_sublist _)) (by omega))
      | false => rw [rd_bad h1 h2 h3 h4 h5, rd_bad (by rw [hc]; exact h1) (by rw [hc]; exact h2) (by rw [hc]; exact h3) (by rw [hc]; exact h4) (by rw [hc]; exact h5)]; rfl
theorem line_map (f : α → β) (l : List (B α)) : line (l.map (B.map f)) = (line l).map f (fun p => (p.1, p.2.map (W.map f))) := by
  cases l with
  | nil => rfl
  | cons b r =>
    rw [List.map_cons, line, line]
    by_cases h : b.c = 9
    · rw [if_pos (show (B.map f b).c = 9 from h), if_pos h, rd_map f _ r (Nat.le_refl _), R.map_map, R.map_map]; rfl
    · rw [if_neg (show ¬ (B.map f b).c = 9 from h), if_neg h, ← List.map_cons, rd_map f _ (b :: r) (Nat.le_refl _), R.map_map, R.map_map]; rfl
theorem lns_map (f : α → β) : ∀ (n : Nat) (l : List (B α)), l.length ≤ n → lns (l.map (B.map f)) = (lns l).map f (List.map (Ln.map f)) := by
  intro n
  induction n with
  | zero =>
    intro l h
    have : l = [] := List.eq_nil_of_length_eq_zero (by omega)
    subst this
    simp [lns, R.map]
  | succ n ih =>
    intro l h
    cases l with
    | nil => simp [lns, R.map]
    | cons b r =>
      simp only [List.length_cons] at h
      rw [List.map_cons, lns, lns, ← List.map_cons, map_takeWhile f (fun c => c != 10), map_dropWhile f (fun c => c != 10), line_map, ← List.map_drop]
      cases line ((b :: r).takeWhile fun x => x.c != 10) with
      | bad a => rfl
      | ok p =>
        obtain ⟨i, ws⟩ := p
        have hd := List.Sublist.length_le (List.dropWhile_sublist (fun x : B α => x.c != 10) (l := b :: r))
        simp only [List.length_cons] at hd
        show (lns _).map id _ = _
        rw [ih _ (by rw [List.length_drop]; omega), R.map_map]
        show _ = ((lns _).map id _).map f _
        rw [R.map_map]
        cases lns (((b :: r).dropWhile fun x => x.c != 10).drop 1) with
        | bad a => rfl
        | ok t =>
          show R.ok _ = R.ok _
          congr 1
          cases ws with
          | nil => rfl
          | cons w ws => rfl

end Go.Proofs.YtnobmgkdieaclaaGreatDoor.Lx

namespace Go.Proofs.YtnobmgkdieaclaaGreatDoor.Lx
variable {α β : Type}

theorem bytes_join (p : Nat) (r : List UInt8) : bytes p (92 :: 10 :: r) = ⟨32, true, p⟩ :: bytes (p + 2) r := by rw [bytes]
theorem bytes_one (p : Nat) (c : UInt8) (r : List UInt8) (h : c ≠ 92 ∨ r.head? ≠ some 10) : bytes p (c :: r) = ⟨c, false, p⟩ :: bytes (p + 1) r := by
  rw [bytes.eq_3]
  rintro r' rfl rfl
  rcases h with h | h <;> simp at h
/-- a text's bytes: the first ones -/
theorem bytes_cases (t : List UInt8) : t = [] ∨ (∃ r, t = 92 :: 10 :: r) ∨ ∃ c r, t = c :: r ∧ (c ≠ 92 ∨ r.head? ≠ some 10) := by
  cases t with
  | nil => exact .inl rfl
  | cons c r =>
    by_cases h : c = 92 ∧ r.head? = some 10
    · obtain ⟨rfl, h⟩ := h
      cases r with
      | nil => simp at h
      | cons d r =>
        simp only [List.head?_cons, Option.some.injEq] at h
        subst h
        exact .inr (.inl ⟨r, rfl⟩)
    · refine .inr (.inr ⟨c, r, rfl, ?_⟩)
      by_cases h1 : c = 92
      · exact .inr fun h2 => h ⟨h1, h2⟩
      · exact .inl h1
theorem bytes_shift (k : Nat) : ∀ (n p : Nat) (t : List UInt8), t.length ≤ n → bytes (p + k) t = (bytes p t).map (B.map (· + k)) := by
  intro n
  induction n with
  | zero =>
    intro p t h
    have : t = [] := List.eq_nil_of_length_eq_zero (by omega)
    subst this
    simp [bytes]
  | succ n ih =>
    intro p t h
    rcases bytes_cases t with rfl | ⟨r, rfl⟩ | ⟨c, r, rfl, hc⟩
    · simp [bytes]
    · simp only [List.length_cons] at h
      rw [bytes_join, bytes_join, List.map_cons, ← ih (p + 2) r (by omega), show p + k + 2 = p + 2 + k by omega]; rfl
    · simp only [List.length_cons] at h
      rw [bytes_one _ _ _ hc, bytes_one _ _ _ hc, List.map_cons, ← ih (p + 1) r (by omega), show p + k + 1 = p + 1 + k by omega]; rfl
theorem bytes_nl (b : List UInt8) : ∀ (n p : Nat) (a : List UInt8), a.length ≤ n → a.getLast? ≠ some 92 → bytes p (a ++ 10 :: b) = bytes p a ++ ⟨10, false, p + a.length⟩ :: bytes (p + a.length + 1) b := by
  intro n
  induction n with
  | zero =>
    intro p a h _
    have : a = [] := List.eq_nil_of_length_eq_zero (by omega)
    subst this
    rw [List.nil_append, bytes_one _ _ _ (.inl (by decide))]
    simp [bytes]
  | succ n ih =>
    intro p a h hl
    rcases bytes_cases a with rfl | ⟨r, rfl⟩ | ⟨c, r, rfl, hc⟩
    · rw [List.nil_append, bytes_one _ _ _ (.inl (by decide))]
      simp [bytes]
    · simp only [List.length_cons] at h ⊢
      rw [List.cons_append, List.cons_append, bytes_join, bytes_join, List.cons_append, ih (p + 2) r (by omega) (by
        intro e
        apply hl
        cases r with
        | nil => simp at e
        | cons x r => simpa [List.getLast?_cons_cons] using e)]
      rw [show p + 2 + r.length = p + (r.length + 1 + 1) by omega]
    · simp only [List.length_cons] at h ⊢
      rw [List.cons_append, bytes_one _ _ _ hc, List.cons_append, bytes_one _ _ (r ++ 10 :: b) (by
        cases r with
        | nil =>
          left
          rintro rfl
          simp at hl
        | cons x r => simpa using hc), ih (p + 1) r (by omega) (by
        intro e
        apply hl
        cases r with
        | nil => simp at e
        | cons x r => simpa [List.getLast?_cons_cons] using e)]
      rw [show p + 1 + r.length = p + (r.length + 1) by omega]

theorem tw_append {γ : Type} (p : γ → Bool) (x y : List γ) (n : γ) (hn : p n = false) : (x ++ n :: y).takeWhile p = x.takeWhile p ∧ (x ++ n :: y).dropWhile p = x.dropWhile p ++ n :: y := by
  induction x with
  | nil => simp [hn]
  | cons a x ih =>
    rw [List.cons_append, List.takeWhile_cons, List.dropWhile_cons, List.takeWhile_cons, List.dropWhile_cons]
    cases p a with
    | true => exact ⟨by rw [if_pos rfl, if_pos rfl, ih.1], by rw [if_pos rfl, if_pos rfl, ih.2]⟩
    | false => exact ⟨rfl, rfl⟩
theorem lns_nl {nl : B α} (hn : nl.c = 10) (y : List (B α)) : ∀ (n : Nat) (x : List (B α)), x.length ≤ n → lns (x ++ nl :: y) = (lns x).andThen fun l => (lns y).map id (l ++ ·) := by
  have hp : (fun x : B α => x.c != 10) nl = false := by simp [hn]
  have h0 : lns (nl :: y) = lns y := by
    rw [lns, List.takeWhile_cons, List.dropWhile_cons, if_neg (by simp [hn]), if_neg (by simp [hn])]
    show (lns y).map id _ = _
    cases lns y <;> rfl
  have hid : ∀ r : R α (List (Ln α)), r.map id ([] ++ ·) = r := fun r => by cases r <;> rfl
  intro n
  induction n with
  | zero =>
    intro x h
    have : x = [] := List.eq_nil_of_length_eq_zero (by omega)
    subst this
    rw [List.nil_append, h0, lns]
    exact (hid _).symm
  | succ n ih =>
    intro x h
    cases x with
    | nil =>
      rw [List.nil_append, h0, lns]
      exact (hid _).symm
    | cons b r =>
      simp only [List.length_cons] at h
      obtain ⟨t1, t2⟩ := tw_append (fun x : B α => x.c != 10) (b :: r) y nl hp
      rw [List.cons_append, lns, lns, ← List.cons_append, t1, t2]
      cases line ((b :: r).takeWhile fun x => x.c != 10) with
      | bad a => rfl
      | ok p =>
        obtain ⟨i, ws⟩ := p
        have hd := List.Sublist.length_le (List.dropWhile_sublist (fun x : B α => x.c != 10) (l := b :: r))
        simp only [List.length_cons] at hd
        have key : lns (((b :: r).dropWhile (fun x => x.c != 10) ++ nl :: y).drop 1) = (lns (((b :: r).dropWhile fun x => x.c != 10).drop 1)).andThen fun l => (lns y).map id (l ++ ·) := by
          cases hdw : (b :: r).dropWhile (fun x => x.c != 10) with
          | nil =>
            show lns y = (lns []).andThen _
            rw [lns]
            exact (hid _).symm
          | cons z zs =>
            rw [hdw] at hd
            simp only [List.length_cons] at hd
            exact ih zs (by omega)
        show (lns _).map id _ = R.andThen ((lns _).map id _) _
        rw [key]
        cases lns (((b :: r).dropWhile fun x => x.c != 10).drop 1) with
        | bad a => rfl
        | ok t =>
          show ((lns y).map id (t ++ ·)).map id _ = (lns y).map id _
          rw [R.map_map]
          cases lns y with
          | bad a => rfl
          | ok u =>
            show R.ok _ = R.ok _
            congr 1
            cases ws with
            | nil => rfl
            | cons w ws => rfl
/-- two texts, the first one not ending with a backslash -/
theorem lex_two {a b : List UInt8} (ha : a.getLast? ≠ some 92) : lex (a ++ 10 :: b) = (lex a).andThen fun l => ((lex b).map (· + (a.length + 1)) (List.map (Ln.map (· + (a.length + 1))))).map id (l ++ ·) := by
  unfold lex
  rw [bytes_nl b _ 0 a (Nat.le_refl _) ha, lns_nl rfl _ _ _ (Nat.le_refl _), Nat.zero_add, show a.length + 1 = 0 + (a.length + 1) by omega, bytes_shift (a.length + 1) _ 0 b (Nat.le_refl _), lns_map _ _ _ (Nat.le_refl _)]
  simp only [Nat.zero_add]

theorem place_low {a b : List UInt8} {n : Nat} (h : n ≤ a.length) : place (a ++ b) n = place a n := by
  unfold place
  rw [List.take_append_of_le_length h]
theorem place_high (a b : List UInt8) (n : Nat) : place (a ++ 10 :: b) (n + (a.length + 1)) = ((place b n).1 + (a.count 10 + 1), (place b n).2) := by
  unfold place
  rw [show n + (a.length + 1) = a.length + (n + 1) by omega, List.take_length_add_append, List.take_succ_cons]
  refine Prod.ext ?_ ?_
  · simp only [List.count_append, List.count_cons_self]
    omega
  · show (List.takeWhile _ (a ++ 10 :: b.take n).reverse).length = _
    rw [List.reverse_append, List.reverse_cons, List.append_assoc, List.singleton_append, (tw_append (fun c : UInt8 => c != 10) (b.take n).reverse a.reverse 10 rfl).1]

end Go.Proofs.YtnobmgkdieaclaaGreatDoor.Lx
