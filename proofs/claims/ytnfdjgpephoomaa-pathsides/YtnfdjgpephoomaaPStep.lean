/-
  GLOBS READ IN ONE PASS: its steps at the glob's own bytes, and the measure that each step lowers. No program here.
-/
import Derived.Test.YtnfdjgpephoomaaPRun
namespace Go.Proofs.Ytnfdjgpephoomaa.Pm

theorem pre_two {p : B} {g : Nat} (h : [42, 42].isPrefixOf (p.drop g) = true) : toks (p.drop g) = .any2 :: toks (p.drop (g + 2)) ∧ g + 2 ≤ p.length := by
  obtain ⟨r, hr⟩ := List.isPrefixOf_iff_prefix.1 h
  have hl := congrArg List.length hr
  simp only [List.length_append, List.length_cons, List.length_nil, List.length_drop] at hl
  refine ⟨?_, by omega⟩
  rw [show p.drop (g + 2) = (p.drop g).drop 2 by rw [List.drop_drop], ← hr]
  exact toks_star2 r
theorem pre_one {p : B} {g : Nat} (h2 : [42, 42].isPrefixOf (p.drop g) = false) (h : [42].isPrefixOf (p.drop g) = true) : toks (p.drop g) = .any1 :: toks (p.drop (g + 1)) ∧ g + 1 ≤ p.length := by
  obtain ⟨r, hr⟩ := List.isPrefixOf_iff_prefix.1 h
  have hl := congrArg List.length hr
  simp only [List.length_append, List.length_cons, List.length_nil, List.length_drop] at hl
  refine ⟨?_, by omega⟩
  rw [show p.drop (g + 1) = (p.drop g).drop 1 by rw [List.drop_drop], ← hr]
  refine toks_star r fun r' e => ?_
  rw [← hr, e] at h2
  simp [List.isPrefixOf] at h2
/-- the part that one byte stands for -/
def tokOf (c : UInt8) : Tok := if c = 63 then .one else .lit c
theorem tokOf_plain (c : UInt8) : tokOf c ≠ .any1 ∧ tokOf c ≠ .any2 := by
  unfold tokOf
  split <;> exact ⟨Tok.noConfusion, Tok.noConfusion⟩
theorem pre_byte {p : B} {g : Nat} (h : [42].isPrefixOf (p.drop g) = false) (hg : g < p.length) : toks (p.drop g) = tokOf p[g] :: toks (p.drop (g + 1)) := by
  rw [List.drop_eq_getElem_cons hg] at h ⊢
  have h42 : p[g] ≠ 42 := by
    intro e
    rw [e] at h
    simp [List.isPrefixOf] at h
  unfold tokOf
  by_cases h63 : p[g] = 63
  · rw [if_pos h63, h63, toks_one]
  · rw [if_neg h63, toks_lit _ _ h42 h63]
/-- a byte of a glob fits a byte of a text -/
def fitB (c b : UInt8) : Bool := if c = 63 then decide (b ≠ 47) else decide (c = b)
theorem run_byte {s : B} {c : UInt8} {i : Nat} (hi : i < s.length) : Run [tokOf c] s i (i + 1) ↔ fitB c s[i] = true := by
  have e : (s.drop i).take (i + 1 - i) = [s[i]] := by rw [show i + 1 - i = 1 by omega, List.drop_eq_getElem_cons hi]; rfl
  unfold Run
  rw [e]
  have hF : ∀ t : Tok, Fits [t] [s[i]] ↔ stands t [s[i]] ∨ (stands t [] ∧ False) := by
    intro t
    constructor
    · rintro ⟨a, b, e1, h1, h2⟩
      simp only [Fits] at h2
      subst h2
      rw [List.append_nil] at e1
      rw [e1]
      exact .inl h1
    · rintro (h | h)
      · exact ⟨[s[i]], [], rfl, h, rfl⟩
      · exact absurd h.2 id
  rw [hF]
  unfold tokOf fitB
  by_cases h63 : c = 63
  · rw [if_pos h63, if_pos h63]
    simp only [stands, decide_eq_true_eq]
    constructor
    · rintro ⟨-, -, (⟨x, e1, e2⟩ | h)⟩
      · simp only [List.cons.injEq, and_true] at e1
        rw [e1]; exact e2
      · exact absurd h.2 id
    · intro h
      exact ⟨by omega, by omega, .inl ⟨_, rfl, h⟩⟩
  · rw [if_neg h63, if_neg h63]
    simp only [stands, decide_eq_true_eq]
    constructor
    · rintro ⟨-, -, (h | h)⟩
      · simp only [List.cons.injEq, and_true] at h
        exact h.symm
      · exact absurd h.2 id
    · intro h
      exact ⟨by omega, by omega, .inl (by rw [h])⟩
theorem no_byte {p s : B} {g i : Nat} (h : [42].isPrefixOf (p.drop g) = false) (hg : g < p.length) (hi : i < s.length) (hf : fitB p[g] s[i] = false) : ¬ FF p s g i := by
  unfold FF
  rw [pre_byte h hg, show (tokOf p[g] :: toks (p.drop (g + 1)) : List Tok) = [tokOf p[g]] ++ toks (p.drop (g + 1)) from rfl, fits_run (by omega)]
  rintro ⟨j, hj, -⟩
  have e := hj.plain (fun u hu => by rw [List.mem_singleton.1 hu]; exact tokOf_plain _)
  rw [List.length_singleton] at e
  rw [e, run_byte hi, hf] at hj
  cases hj
theorem no_end {p s : B} {g i : Nat} (hg : p.length ≤ g) (hi : i < s.length) : ¬ FF p s g i := by
  unfold FF
  rw [List.drop_eq_nil_of_le hg]
  simp only [toks, Fits]
  intro h
  have := congrArg List.length h
  rw [List.length_drop, List.length_nil] at this
  omega
theorem at_end {p s : B} {g i : Nat} (h : [42].isPrefixOf (p.drop g) = false) (hi : i = s.length) : FF p s g i ↔ p.length ≤ g := by
  constructor
  · intro hf
    apply Decidable.byContradiction
    intro hg
    unfold FF at hf
    rw [pre_byte h (by omega), hi, List.drop_length] at hf
    obtain ⟨a, b, e, h1, -⟩ := hf
    have ha : a = [] := (List.append_eq_nil_iff.1 e.symm).1
    subst ha
    unfold tokOf at h1
    split at h1
    · obtain ⟨c, hc, -⟩ := h1; cases hc
    · simp only [stands] at h1; cases h1
  · intro hg
    unfold FF
    rw [List.drop_eq_nil_of_le hg, hi, List.drop_length]
    rfl
variable {p s : B} {g i og oi tg ti : Nat}
theorem GI.byte' (h : GI p s g i og oi tg ti) (h1 : [42].isPrefixOf (p.drop g) = false) (hg : g < p.length) (hi : i < s.length) (hf : fitB p[g] s[i] = true) : GI p s (g + 1) (i + 1) og oi tg ti :=
  h.byte (tokOf_plain _) (pre_byte h1 hg) hg hi ((run_byte hi).2 hf)

/-- one number behind another, below N each -/
def lex (N a b : Nat) : Nat := a * N + b
theorem lex_left {N a a' b b' : Nat} (h : a' < a) (hb : b' < N) : lex N a' b' < lex N a b := by
  unfold lex
  have h1 : (a' + 1) * N ≤ a * N := Nat.mul_le_mul_right N h
  rw [Nat.add_mul, Nat.one_mul] at h1
  omega
theorem lex_right {N a b b' : Nat} (h : b' < b) : lex N a b' < lex N a b := by unfold lex; omega
/-- how far a reading is from its end -/
def far (N g i og oi tg ti : Nat) : Nat := lex N (lex N (lex N (lex N (N - 1 - tg) (N - 1 - ti)) (N - 1 - og)) (N - 1 - oi)) (N - 1 - i + 0 * g)
theorem far_two {N g i og oi tg ti g' i' og' oi' tg' ti' : Nat} (hN : 0 < N) (h : tg < tg') (h2 : tg' < N) : far N g' i' og' oi' tg' ti' < far N g i og oi tg ti :=
  lex_left (lex_left (lex_left (lex_left (by omega) (by omega)) (by omega)) (by omega)) (by omega)
theorem far_ti {N g i og oi tg ti g' i' og' oi' ti' : Nat} (hN : 0 < N) (h : ti < ti') (h2 : ti' < N) : far N g' i' og' oi' tg ti' < far N g i og oi tg ti :=
  lex_left (lex_left (lex_left (lex_right (by omega)) (by omega)) (by omega)) (by omega)
theorem far_one {N g i og oi tg ti g' i' og' oi' : Nat} (hN : 0 < N) (h : og < og') (h2 : og' < N) : far N g' i' og' oi' tg ti < far N g i og oi tg ti :=
  lex_left (lex_left (lex_right (by omega)) (by omega)) (by omega)
theorem far_oi {N g i og oi tg ti g' i' oi' : Nat} (hN : 0 < N) (h : oi < oi') (h2 : oi' < N) : far N g' i' og oi' tg ti < far N g i og oi tg ti :=
  lex_left (lex_right (by omega)) (by omega)
theorem far_i {N g i og oi tg ti g' i' : Nat} (h : i < i') (h2 : i' < N) : far N g' i' og oi tg ti < far N g i og oi tg ti := lex_right (by omega)

end Go.Proofs.Ytnfdjgpephoomaa.Pm
