/-
  TWO TEXTS, ONE BEHIND THE OTHER.
-/
import Derived.Test.YtfgdlnidfkjbdaaDoorXNat
namespace Go.Proofs.YtfgdlnidfkjbdaaDoor.Lx
variable {α β : Type}

theorem bytes_join (p : Nat) (r : List UInt8) : bytes p (92 :: 10 :: r) = ⟨32, true, p⟩ :: bytes (p + 2) r := by rw [bytes]
theorem bytes_one (p : Nat) (c : UInt8) (r : List UInt8) (h : c ≠ 92 ∨ r.head? ≠ some 10) : bytes p (c :: r) = ⟨c, false, p⟩ :: bytes (p + 1) r := by
  rw [bytes.eq_3]
  rintro r' rfl rfl
  rcases h with h | h <;> simp at h
/-- a text's bytes: the first ones -/
theorem bytes_cases (t : List UInt8) : t = [] ∨ (∃ r, t = 92 :: 10 :: r) ∨ ∃ c r, t = c :: r ∧ (c ≠ 92 ∨ r.head? ≠ some 10) := by
  cases t with
  | nil => exact .inl rfl
  | cons c r =>
    by_cases h : c = 92 ∧ r.head? = some 10
    · obtain ⟨rfl, h⟩ := h
      cases r with
      | nil => simp at h
      | cons d r =>
        simp only [List.head?_cons, Option.some.injEq] at h
        subst h
        exact .inr (.inl ⟨r, rfl⟩)
    · refine .inr (.inr ⟨c, r, rfl, ?_⟩)
      by_cases h1 : c = 92
      · exact .inr fun h2 => h ⟨h1, h2⟩
      · exact .inl h1
theorem bytes_shift (k : Nat) : ∀ (n p : Nat) (t : List UInt8), t.length ≤ n → bytes (p + k) t = (bytes p t).map (B.map (· + k)) := by
  intro n
  induction n with
  | zero =>
    intro p t h
    have : t = [] := List.eq_nil_of_length_eq_zero (by omega)
    subst this
    simp [bytes]
  | succ n ih =>
    intro p t h
    rcases bytes_cases t with rfl | ⟨r, rfl⟩ | ⟨c, r, rfl, hc⟩
    · simp [bytes]
    · simp only [List.length_cons] at h
      rw [bytes_join, bytes_join, List.map_cons, ← ih (p + 2) r (by omega), show p + k + 2 = p + 2 + k by omega]; rfl
    · simp only [List.length_cons] at h
      rw [bytes_one _ _ _ hc, bytes_one _ _ _ hc, List.map_cons, ← ih (p + 1) r (by omega), show p + k + 1 = p + 1 + k by omega]; rfl
theorem bytes_nl (b : List UInt8) : ∀ (n p : Nat) (a : List UInt8), a.length ≤ n → a.getLast? ≠ some 92 → bytes p (a ++ 10 :: b) = bytes p a ++ ⟨10, false, p + a.length⟩ :: bytes (p + a.length + 1) b := by
  intro n
  induction n with
  | zero =>
    intro p a h _
    have : a = [] := List.eq_nil_of_length_eq_zero (by omega)
    subst this
    rw [List.nil_append, bytes_one _ _ _ (.inl (by decide))]
    simp [bytes]
  | succ n ih =>
    intro p a h hl
    rcases bytes_cases a with rfl | ⟨r, rfl⟩ | ⟨c, r, rfl, hc⟩
    · rw [List.nil_append, bytes_one _ _ _ (.inl (by decide))]
      simp [bytes]
    · simp only [List.length_cons] at h ⊢
      rw [List.cons_append, List.cons_append, bytes_join, bytes_join, List.cons_append, ih (p + 2) r (by omega) (by
        intro e
        apply hl
        cases r with
        | nil => simp at e
        | cons x r => simpa [List.getLast?_cons_cons] using e)]
      rw [show p + 2 + r.length = p + (r.length + 1 + 1) by omega]
    · simp only [List.length_cons] at h ⊢
      rw [List.cons_append, bytes_one _ _ _ hc, List.cons_append, bytes_one _ _ (r ++ 10 :: b) (by
        cases r with
        | nil =>
          left
          rintro rfl
          simp at hl
        | cons x r => simpa using hc), ih (p + 1) r (by omega) (by
        intro e
        apply hl
        cases r with
        | nil => simp at e
        | cons x r => simpa [List.getLast?_cons_cons] using e)]
      rw [show p + 1 + r.length = p + (r.length + 1) by omega]

theorem tw_append {γ : Type} (p : γ → Bool) (x y : List γ) (n : γ) (hn : p n = false) : (x ++ n :: y).takeWhile p = x.takeWhile p ∧ (x ++ n :: y).dropWhile p = x.dropWhile p ++ n :: y := by
  induction x with
  | nil => simp [hn]
  | cons a x ih =>
    rw [List.cons_append, List.takeWhile_cons, List.dropWhile_cons, List.takeWhile_cons, List.dropWhile_cons]
    cases p a with
    | true => exact ⟨by rw [if_pos rfl, if_pos rfl, ih.1], by rw [if_pos rfl, if_pos rfl, ih.2]⟩
    | false => exact ⟨rfl, rfl⟩
theorem lns_nl {nl : B α} (hn : nl.c = 10) (y : List (B α)) : ∀ (n : Nat) (x : List (B α)), x.length ≤ n → lns (x ++ nl :: y) = (lns x).andThen fun l => (lns y).map id (l ++ ·) := by
  have hp : (fun x : B α => x.c != 10) nl = false := by simp [hn]
  have h0 : lns (nl :: y) = lns y := by
    rw [lns, List.takeWhile_cons, List.dropWhile_cons, if_neg (by simp [hn]), if_neg (by simp [hn])]
    show (lns y).map id _ = _
    cases lns y <;> rfl
  have hid : ∀ r : R α (List (Ln α)), r.map id ([] ++ ·) = r := fun r => by cases r <;> rfl
  intro n
  induction n with
  | zero =>
    intro x h
    have : x = [] := List.eq_nil_of_length_eq_zero (by omega)
    subst this
    rw [List.nil_append, h0, lns]
    exact (hid _).symm
  | succ n ih =>
    intro x h
    cases x with
    | nil =>
      rw [List.nil_append, h0, lns]
      exact (hid _).symm
    | cons b r =>
      simp only [List.length_cons] at h
      obtain ⟨t1, t2⟩ := tw_append (fun x : B α => x.c != 10) (b :: r) y nl hp
      rw [List.cons_append, lns, lns, ← List.cons_append, t1, t2]
      cases line ((b :: r).takeWhile fun x => x.c != 10) with
      | bad a => rfl
      | ok p =>
        obtain ⟨i, ws⟩ := p
        have hd := List.Sublist.length_le (List.dropWhile_sublist (fun x : B α => x.c != 10) (l := b :: r))
        simp only [List.length_cons] at hd
        have key : lns (((b :: r).dropWhile (fun x => x.c != 10) ++ nl :: y).drop 1) = (lns (((b :: r).dropWhile fun x => x.c != 10).drop 1)).andThen fun l => (lns y).map id (l ++ ·) := by
          cases hdw : (b :: r).dropWhile (fun x => x.c != 10) with
          | nil =>
            show lns y = (lns []).andThen _
            rw [lns]
            exact (hid _).symm
          | cons z zs =>
            rw [hdw] at hd
            simp only [List.length_cons] at hd
            exact ih zs (by omega)
        show (lns _).map id _ = R.andThen ((lns _).map id _) _
        rw [key]
        cases lns (((b :: r).dropWhile fun x => x.c != 10).drop 1) with
        | bad a => rfl
        | ok t =>
          show ((lns y).map id (t ++ ·)).map id _ = (lns y).map id _
          rw [R.map_map]
          cases lns y with
          | bad a => rfl
          | ok u =>
            show R.ok _ = R.ok _
            congr 1
            cases ws with
            | nil => rfl
            | cons w ws => rfl
/-- two texts, the first one not ending with a backslash -/
theorem lex_two {a b : List UInt8} (ha : a.getLast? ≠ some 92) : lex (a ++ 10 :: b) = (lex a).andThen fun l => ((lex b).map (· + (a.length + 1)) (List.map (Ln.map (· + (a.length + 1))))).map id (l ++ ·) := by
  unfold lex
  rw [bytes_nl b _ 0 a (Nat.le_refl _) ha, lns_nl rfl _ _ _ (Nat.le_refl _), Nat.zero_add, show a.length + 1 = 0 + (a.length + 1) by omega, bytes_shift (a.length + 1) _ 0 b (Nat.le_refl _), lns_map _ _ _ (Nat.le_refl _)]
  simp only [Nat.zero_add]

theorem place_low {a b : List UInt8} {n : Nat} (h : n ≤ a.length) : place (a ++ b) n = place a n := by
  unfold place
  rw [List.take_append_of_le_length h]
theorem place_high (a b : List UInt8) (n : Nat) : place (a ++ 10 :: b) (n + (a.length + 1)) = ((place b n).1 + (a.count 10 + 1), (place b n).2) := by
  unfold place
  rw [show n + (a.length + 1) = a.length + (n + 1) by omega, List.take_length_add_append, List.take_succ_cons]
  refine Prod.ext ?_ ?_
  · simp only [List.count_append, List.count_cons_self]
    omega
  · show (List.takeWhile _ (a ++ 10 :: b.take n).reverse).length = _
    rw [List.reverse_append, List.reverse_cons, List.append_assoc, List.singleton_append, (tw_append (fun c : UInt8 => c != 10) (b.take n).reverse a.reverse 10 rfl).1]

end Go.Proofs.YtfgdlnidfkjbdaaDoor.Lx
