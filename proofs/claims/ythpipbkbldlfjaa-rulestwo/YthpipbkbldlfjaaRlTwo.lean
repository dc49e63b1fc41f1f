/-
  TWO FILES OF RULES, one behind the other: what both say. No program here.
-/
import Derived.Test.YthpipbkbldlfjaaRAns
namespace Go.Proofs.Ythpipbkbldlfjaa.Rl
open Lx

theorem answer_lex {t : List UInt8} (hl : t.length ≤ 32768) {ls : List (Ln Nat)} (h : lex t = .ok ls) : answer t = parse [] (ls.map (toldL t)) := by
  unfold answer
  rw [if_neg (by omega), h]
theorem answer_lexbad {t : List UInt8} (hl : t.length ≤ 32768) {a : Nat} (h : lex t = .bad a) : answer t = .bad (6, ((place t a).1 : Nat), ((place t a).2 : Nat)) := by
  unfold answer
  rw [if_neg (by omega), h]
/-- both texts' lines -/
theorem two_lex {a b : List UInt8} (ha : a.getLast? ≠ some 92) {M : List (Ln Nat)} (h : lex (a ++ 10 :: b) = .ok M) : ∃ la lb, lex a = .ok la ∧ lex b = .ok lb ∧ M.map (toldL (a ++ 10 :: b)) = la.map (toldL a) ++ (lb.map (toldL b)).map (shiftL ((a.count 10 + 1 : Nat) : Int)) := by
  rw [lex_two ha] at h
  cases hla : lex a with
  | bad x => rw [hla] at h; cases h
  | ok la =>
    rw [hla] at h
    cases hlb : lex b with
    | bad x => rw [hlb] at h; cases h
    | ok lb =>
      rw [hlb] at h
      simp only [R.andThen, R.map, R.ok.injEq] at h
      refine ⟨la, lb, rfl, rfl, ?_⟩
      rw [← h]
      exact told_two hla
theorem two_bad {a b : List UInt8} (ha : a.getLast? ≠ some 92) (hl : a.length + b.length + 1 ≤ 32768) {M : List (Ln Nat)} (h : lex (a ++ 10 :: b) = .ok M) {x : Int × Int × Int} (hx : answer a = .bad x) : answer (a ++ 10 :: b) = .bad x := by
  obtain ⟨la, lb, h1, h2, h3⟩ := two_lex ha h
  rw [answer_lex (by omega) h1] at hx
  rw [answer_lex (by rw [List.length_append, List.length_cons]; omega) h, h3, parse_app, hx]
  rfl
theorem two_ok {a b : List UInt8} (ha : a.getLast? ≠ some 92) (hl : a.length + b.length + 1 ≤ 32768) {M : List (Ln Nat)} (h : lex (a ++ 10 :: b) = .ok M) {A : List It} (hx : answer a = .ok A)
    (hi : ∀ lb, lex b = .ok lb → ∀ l, lb.head? = some l → l.ind = false) :
    answer (a ++ 10 :: b) = ((answer b).map (shiftE ((a.count 10 + 1 : Nat) : Int)) (List.map (shiftI ((a.count 10 + 1 : Nat) : Int)))).map id (A ++ ·) := by
  obtain ⟨la, lb, h1, h2, h3⟩ := two_lex ha h
  have hi2 := hi lb h2
  rw [answer_lex (by omega) h1] at hx
  rw [answer_lex (by rw [List.length_append, List.length_cons]; omega) h, h3, parse_app, hx, answer_lex (by omega) h2]
  have hw : ∀ l ∈ lb.map (toldL b), l.words ≠ [] := fun l hl => (told_ok h2 l hl).1
  rw [← parse_shift ((a.count 10 + 1 : Nat) : Int) (lb.map (toldL b)) [] hw]
  show parse A _ = _
  have := parse_front A ((lb.map (toldL b)).map (shiftL ((a.count 10 + 1 : Nat) : Int))) [] (.inr (by
    intro l hl
    cases lb with
    | nil => cases hl
    | cons x lb =>
      simp only [List.map_cons, List.head?_cons, Option.some.injEq] at hl
      rw [← hl]
      exact hi2 x rfl))
  rw [List.append_nil] at this
  exact this
theorem shift_bi (d : Int) (A : List It) : (A.map (shiftI d)).map bi = A.map bi := by
  rw [List.map_map]
  apply List.map_congr_left
  intro x _
  have hb : bw ∘ shiftV d = bw := by funext v; rfl
  have hl : ((fun l : L => l.words.map bw) ∘ shiftL d) = fun l : L => l.words.map bw := by
    funext l
    show (l.words.map (shiftV d)).map bw = l.words.map bw
    rw [List.map_map, hb]
  simp only [Function.comp_apply, bi, shiftI, List.map_map, hb, hl]

end Go.Proofs.Ythpipbkbldlfjaa.Rl
