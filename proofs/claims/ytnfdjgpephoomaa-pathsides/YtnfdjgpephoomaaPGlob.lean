/-
  GLOBS: the parts of a glob, which texts they fit. No program here.
-/
import Derived.Test.YtnfdjgpephoomaaPMath
namespace Go.Proofs.Ytnfdjgpephoomaa.Pm

/-- a glob's part -/
inductive Tok where
  | any2 | any1 | one
  | lit (c : UInt8)
/-- a glob, read from the left -/
def toks : B → List Tok
  | [] => []
  | [c] => if c = 42 then [.any1] else if c = 63 then [.one] else [.lit c]
  | c :: c' :: r => if c = 42 then (if c' = 42 then .any2 :: toks r else .any1 :: toks (c' :: r)) else if c = 63 then .one :: toks (c' :: r) else .lit c :: toks (c' :: r)
/-- what a part stands for -/
def stands : Tok → B → Prop
  | .any2, _ => True
  | .any1, a => (47 : UInt8) ∉ a
  | .one, a => ∃ c, a = [c] ∧ c ≠ 47
  | .lit x, a => a = [x]
/-- parts fit a text -/
def Fits : List Tok → B → Prop
  | [], s => s = []
  | t :: r, s => ∃ a b, s = a ++ b ∧ stands t a ∧ Fits r b

theorem fits_append (t1 t2 : List Tok) (s : B) : Fits (t1 ++ t2) s ↔ ∃ a b, s = a ++ b ∧ Fits t1 a ∧ Fits t2 b := by
  induction t1 generalizing s with
  | nil =>
    simp only [List.nil_append, Fits]
    exact ⟨fun h => ⟨[], s, rfl, rfl, h⟩, fun ⟨a, b, e, h1, h2⟩ => by rw [e, h1]; exact h2⟩
  | cons t r ih =>
    simp only [List.cons_append, Fits]
    constructor
    · rintro ⟨a, b, rfl, h1, h2⟩
      obtain ⟨c, d, rfl, h3, h4⟩ := (ih b).1 h2
      exact ⟨a ++ c, d, by simp, ⟨a, c, rfl, h1, h3⟩, h4⟩
    · rintro ⟨x, d, rfl, ⟨a, c, rfl, h1, h3⟩, h4⟩
      exact ⟨a, c ++ d, by simp, h1, (ih _).2 ⟨c, d, rfl, h3, h4⟩⟩

theorem toks_star2 (b : B) : toks (42 :: 42 :: b) = .any2 :: toks b := by simp [toks]
theorem toks_star (b : B) (h : ∀ r, b ≠ 42 :: r) : toks (42 :: b) = .any1 :: toks b := by
  cases b with
  | nil => simp [toks]
  | cons c r => simp only [toks, if_true]; rw [if_neg (fun e => h r (by rw [e]))]
theorem toks_one (b : B) : toks (63 :: b) = .one :: toks b := by
  cases b <;> simp [toks]
theorem toks_lit (c : UInt8) (b : B) (h1 : c ≠ 42) (h2 : c ≠ 63) : toks (c :: b) = .lit c :: toks b := by
  cases b <;> simp [toks, h1, h2]

/-- one star more: what a text's end fits, the text fits, and the other way -/
theorem star_both : ∀ (n : Nat) (b : B), b.length ≤ n → (∀ r, Fits (toks (42 :: b)) r → ∃ a c, r = a ++ c ∧ Fits (toks b) c) ∧ (∀ r, Fits (toks b) r → Fits (toks (42 :: b)) r) := by
  intro n
  induction n with
  | zero =>
    intro b hb
    have : b = [] := List.eq_nil_of_length_eq_zero (by omega)
    subst this
    refine ⟨fun r h => ?_, fun r h => ?_⟩
    · rw [toks_star [] (by simp)] at h
      obtain ⟨a, c, e, -, h2⟩ := h
      exact ⟨a, c, e, h2⟩
    · rw [toks_star [] (by simp)]
      exact ⟨[], r, by simp, by simp [stands], h⟩
  | succ n ih =>
    intro b hb
    by_cases hs : ∃ r, b = 42 :: r
    · obtain ⟨b', rfl⟩ := hs
      have hi := ih b' (by simp at hb; omega)
      refine ⟨fun r h => ?_, fun r h => ?_⟩
      · rw [toks_star2] at h
        obtain ⟨a, c, e, -, h2⟩ := h
        exact ⟨a, c, e, hi.2 c h2⟩
      · rw [toks_star2]
        obtain ⟨a, c, e, h2⟩ := hi.1 r h
        exact ⟨a, c, e, trivial, h2⟩
    · have hn : ∀ r, b ≠ 42 :: r := fun r e => hs ⟨r, e⟩
      refine ⟨fun r h => ?_, fun r h => ?_⟩
      · rw [toks_star b hn] at h
        obtain ⟨a, c, e, -, h2⟩ := h
        exact ⟨a, c, e, h2⟩
      · rw [toks_star b hn]
        exact ⟨[], r, by simp, by simp [stands], h⟩
/-- P9.8: globs one behind the other -/
theorem fits_behind : ∀ (n : Nat) (a b : B), a.length ≤ n → ∀ s, Fits (toks a ++ toks b) s → Fits (toks (a ++ b)) s := by
  intro n
  induction n with
  | zero =>
    intro a b ha s h
    have : a = [] := List.eq_nil_of_length_eq_zero (by omega)
    subst this
    simpa [toks] using h
  | succ n ih =>
    intro a b ha s h
    match a with
    | [] => simpa [toks] using h
    | c :: r =>
      have hr : r.length ≤ n := by simp at ha; omega
      by_cases h42 : c = 42
      · subst h42
        match r with
        | [] =>
          rw [toks_star [] (by simp)] at h
          simp only [toks, List.cons_append, List.nil_append] at h ⊢
          by_cases hb : ∃ b', b = 42 :: b'
          · obtain ⟨b', rfl⟩ := hb
            rw [toks_star2]
            obtain ⟨x, y, rfl, -, h2⟩ := h
            obtain ⟨p, q, rfl, h3⟩ := (star_both b'.length b' (Nat.le_refl _)).1 y h2
            exact ⟨x ++ p, q, by simp, trivial, h3⟩
          · rw [toks_star b (fun r e => hb ⟨r, e⟩)]
            exact h
        | c' :: r' =>
          by_cases h2 : c' = 42
          · subst h2
            rw [toks_star2] at h
            rw [show (42 :: 42 :: r') ++ b = 42 :: 42 :: (r' ++ b) by rfl, toks_star2]
            obtain ⟨x, y, e, h1, h3⟩ := h
            exact ⟨x, y, e, h1, ih r' b (by simp at hr; omega) y h3⟩
          · rw [toks_star (c' :: r') (fun r e => h2 (by injection e))] at h
            rw [show (42 :: c' :: r') ++ b = 42 :: ((c' :: r') ++ b) by rfl, toks_star _ (fun r e => h2 (by injection e))]
            obtain ⟨x, y, e, h1, h3⟩ := h
            exact ⟨x, y, e, h1, ih (c' :: r') b hr y h3⟩
      · by_cases h63 : c = 63
        · subst h63
          rw [toks_one] at h
          rw [show (63 :: r) ++ b = 63 :: (r ++ b) by rfl, toks_one]
          obtain ⟨x, y, e, h1, h3⟩ := h
          exact ⟨x, y, e, h1, ih r b hr y h3⟩
        · rw [toks_lit c r h42 h63] at h
          rw [show (c :: r) ++ b = c :: (r ++ b) by rfl, toks_lit c _ h42 h63]
          obtain ⟨x, y, e, h1, h3⟩ := h
          exact ⟨x, y, e, h1, ih r b hr y h3⟩
theorem glob_two {a b x y : B} (h1 : Fits (toks a) x) (h2 : Fits (toks b) y) : Fits (toks (a ++ b)) (x ++ y) :=
  fits_behind a.length a b (Nat.le_refl _) _ ((fits_append _ _ _).2 ⟨x, y, rfl, h1, h2⟩)
theorem glob_all (s : B) : Fits (toks [42, 42]) s := by
  rw [toks_star2]
  exact ⟨s, [], by simp, trivial, rfl⟩
theorem glob_plain (x : B) (h : ∀ c ∈ x, c ≠ 42 ∧ c ≠ 63) : ∀ y, Fits (toks x) y ↔ x = y := by
  induction x with
  | nil => intro y; simp [toks, Fits, eq_comm]
  | cons c r ih =>
    intro y
    rw [toks_lit c r (h c (by simp)).1 (h c (by simp)).2]
    have ih := ih (fun d hd => h d (by simp [hd]))
    constructor
    · rintro ⟨a, b, rfl, h1, h2⟩
      simp only [stands] at h1
      rw [h1, (ih b).1 h2]; rfl
    · rintro rfl
      exact ⟨[c], r, rfl, rfl, (ih r).2 rfl⟩

/-- the beginnings of a text: parts so far, one more -/
theorem fits_any2 (T : List Tok) (s : B) (k : Nat) (hk : k < s.length) : Fits (T ++ [.any2]) (s.take (k + 1)) ↔ Fits T (s.take (k + 1)) ∨ Fits (T ++ [.any2]) (s.take k) := by
  rw [fits_append, fits_append]
  constructor
  · rintro ⟨a, b, e, h1, ⟨c, d, rfl, -, rfl⟩⟩
    simp only [List.append_nil] at e
    rcases List.eq_nil_or_concat c with rfl | ⟨c', x, rfl⟩
    · exact .inl (by simpa [e] using h1)
    · right
      rw [List.concat_eq_append] at e
      refine ⟨a, c', ?_, h1, ⟨c', [], by simp, trivial, rfl⟩⟩
      have := congrArg List.dropLast e
      rw [List.take_succ_eq_append_getElem hk, List.dropLast_concat] at this
      rw [this, ← List.append_assoc, List.dropLast_concat]
  · rintro (h | ⟨a, b, e, h1, -⟩)
    · exact ⟨_, [], by simp, h, ⟨[], [], by simp, trivial, rfl⟩⟩
    · refine ⟨a, b ++ [s[k]], ?_, h1, ⟨b ++ [s[k]], [], by simp, trivial, rfl⟩⟩
      rw [List.take_succ_eq_append_getElem hk, e]; simp
theorem fits_any1 (T : List Tok) (s : B) (k : Nat) (hk : k < s.length) : Fits (T ++ [.any1]) (s.take (k + 1)) ↔ Fits T (s.take (k + 1)) ∨ (Fits (T ++ [.any1]) (s.take k) ∧ s[k] ≠ 47) := by
  rw [fits_append, fits_append]
  constructor
  · rintro ⟨a, b, e, h1, ⟨c, d, rfl, h3, rfl⟩⟩
    simp only [List.append_nil] at e
    rcases List.eq_nil_or_concat c with rfl | ⟨c', x, rfl⟩
    · exact .inl (by simpa [e] using h1)
    · right
      rw [List.concat_eq_append] at e h3
      rw [List.take_succ_eq_append_getElem hk, ← List.append_assoc] at e
      obtain ⟨e1, e2⟩ := List.append_inj' e rfl
      simp only [stands, List.mem_append, not_or] at h3
      refine ⟨⟨a, c', e1, h1, ⟨c', [], by simp, h3.1, rfl⟩⟩, ?_⟩
      have : s[k] = x := by simpa using e2
      rw [this]
      intro h; exact h3.2 (by rw [h]; simp)
  · rintro (h | ⟨⟨a, b, e, h1, ⟨c, d, e2, h3, h4⟩⟩, h5⟩)
    · exact ⟨_, [], by simp, h, ⟨[], [], by simp, by simp [stands], rfl⟩⟩
    · simp only [Fits] at h4
      subst h4
      rw [List.append_nil] at e2
      subst e2
      refine ⟨a, b ++ [s[k]], ?_, h1, ⟨b ++ [s[k]], [], by simp, ?_, rfl⟩⟩
      · rw [List.take_succ_eq_append_getElem hk, e]; simp
      · simp only [stands, List.mem_append, not_or] at h3 ⊢
        exact ⟨h3, by simp; exact fun h => h5 h.symm⟩
theorem fits_star0 (T : List Tok) (t : Tok) (ht : t = .any1 ∨ t = .any2) (s : B) : Fits (T ++ [t]) (s.take 0) ↔ Fits T (s.take 0) := by
  rw [fits_append]
  constructor
  · rintro ⟨a, b, e, h1, -⟩
    simp only [List.take_zero] at e ⊢
    rw [(List.append_eq_nil_iff.1 e.symm).1] at h1
    exact h1
  · intro h
    refine ⟨s.take 0, [], by simp, h, ⟨[], [], by simp, ?_, rfl⟩⟩
    rcases ht with rfl | rfl <;> simp [stands]
/-- a part that stands for one byte -/
def isB : Tok → UInt8 → Prop
  | .one, c => c ≠ 47
  | .lit x, c => c = x
  | _, _ => False
theorem fits_byte (T : List Tok) (t : Tok) (ht : t ≠ .any1 ∧ t ≠ .any2) (s : B) (k : Nat) (hk : k < s.length) : Fits (T ++ [t]) (s.take (k + 1)) ↔ Fits T (s.take k) ∧ isB t s[k] := by
  rw [fits_append, List.take_succ_eq_append_getElem hk]
  constructor
  · rintro ⟨a, b, e, h1, ⟨c, d, rfl, h3, rfl⟩⟩
    simp only [List.append_nil] at e
    have hc : ∃ x, c = [x] ∧ isB t x := by
      match t, ht, h3 with
      | .one, _, ⟨x, h, h'⟩ => exact ⟨x, h, h'⟩
      | .lit x, _, h => exact ⟨x, h, rfl⟩
      | .any1, ht, _ => exact absurd rfl ht.1
      | .any2, ht, _ => exact absurd rfl ht.2
    obtain ⟨x, rfl, hx⟩ := hc
    obtain ⟨e1, e2⟩ := List.append_inj' e rfl
    have : s[k] = x := by simpa using e2
    rw [e1, this]
    exact ⟨h1, hx⟩
  · rintro ⟨h1, h2⟩
    refine ⟨s.take k, [s[k]], rfl, h1, ⟨[s[k]], [], rfl, ?_, rfl⟩⟩
    match t, ht, h2 with
    | .one, _, h => exact ⟨_, rfl, h⟩
    | .lit x, _, h => simp only [stands]; rw [show s[k] = x from h]
    | .any1, ht, _ => exact absurd rfl ht.1
    | .any2, ht, _ => exact absurd rfl ht.2
theorem fits_byte0 (T : List Tok) (t : Tok) (ht : t ≠ .any1 ∧ t ≠ .any2) (s : B) : ¬ Fits (T ++ [t]) (s.take 0) := by
  rw [fits_append]
  rintro ⟨a, b, e, -, ⟨c, d, rfl, h3, rfl⟩⟩
  simp only [List.take_zero, List.append_nil] at e
  have hc := (List.append_eq_nil_iff.1 e.symm).2
  subst hc
  match t, ht, h3 with
  | .one, _, ⟨x, h, _⟩ => cases h
  | .lit x, _, h => cases h
  | .any1, ht, _ => exact absurd rfl ht.1
  | .any2, ht, _ => exact absurd rfl ht.2

end Go.Proofs.Ytnfdjgpephoomaa.Pm
