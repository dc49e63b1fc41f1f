/-
  HOW A LINE IS READ BY ITS FIRST MARK; a rule and the lines of its code. No program here.
-/
import Derived.Test.YthpipbkbldlfjaaRlMath
namespace Go.Proofs.Ythpipbkbldlfjaa.Rl
open Lx

/-- which of the words is the first mark; how many they are, if none is one -/
def fm (ws : List V) : Nat := ws.findIdx fun v => v.mark
theorem fm_cons (w : V) (ws : List V) : fm (w :: ws) = if w.mark = true then 0 else fm ws + 1 := by
  unfold fm
  rw [List.findIdx_cons]
  cases w.mark <;> rfl
theorem fm_le (ws : List V) : fm ws ≤ ws.length := List.findIdx_le_length
theorem clean_fm : ∀ (n : Nat) (ws : List V), clean n ws = if fm ws < ws.length then some (n + fm ws) else none
  | n, [] => rfl
  | n, w :: ws => by
    rw [clean, fm_cons]
    cases w.mark with
    | false =>
      simp only [Bool.false_eq_true, if_false, List.length_cons]
      rw [clean_fm (n + 1) ws]
      by_cases h : fm ws < ws.length
      · rw [if_pos h, if_pos (by omega)]
        congr 1
        omega
      · rw [if_neg h, if_neg (by omega)]
    | true => simp
theorem ruleOf_fm (num : Int) : ∀ (r T : List V) (n : Nat), ruleOf num T n r = if fm r = r.length then .bad (120, n + r.length - 1) else if T ++ r.take (fm r) = [] ∨ (r.getD (fm r) noV).text ≠ [58] then .bad (120, n + fm r) else depsOf num (T ++ r.take (fm r)) (n + fm r + 1) (r.drop (fm r + 1))
  | [], T, n => by simp [ruleOf, fm]
  | w :: r, T, n => by
    rw [ruleOf, fm_cons]
    cases h : w.mark with
    | false =>
      simp only [Bool.false_eq_true, if_false, List.length_cons, List.take_succ_cons, List.getD_cons_succ, List.drop_succ_cons]
      rw [ruleOf_fm num r (T ++ [w]) (n + 1), List.append_assoc, List.singleton_append]
      have e1 : (fm r + 1 = r.length + 1) = (fm r = r.length) := by rw [Nat.add_right_cancel_iff]
      have e2 : n + 1 + r.length - 1 = n + (r.length + 1) - 1 := by omega
      have e3 : n + 1 + fm r = n + (fm r + 1) := by omega
      simp only [e1, e2, e3]
    | true => simp
/-- what a line says, whatever stands ahead of it -/
def readR (l : L) : R (Int × Nat) It := if l.ind = true then .bad (120, 0) else item l
/-- a line that does not go on with a rule -/
def NoTail (out : List It) (ls : List L) : Prop := ∀ l, ls.head? = some l → l.ind = true → ∀ x, out.getLast? = some x → x.kind ≠ 3
theorem parse_read {out : List It} {l : L} {r : List L} (h : NoTail out (l :: r)) : parse out (l :: r) = match readR l with
    | .bad (e, i) => .bad (at_ l e i)
    | .ok x => parse (out ++ [x]) r := by
  rw [parse, readR]
  cases hi : l.ind with
  | false =>
    simp only [Bool.false_eq_true, if_false]
    rfl
  | true =>
    simp only [if_true]
    cases hx : out.getLast? with
    | none => rfl
    | some x =>
      have := h l rfl hi x hx
      simp only
      rw [if_neg this]
theorem parse_codes : ∀ (I : List L) (out : List It) (x : It) (R : List L), x.kind = 3 → (∀ l ∈ I, l.ind = true) → parse (out ++ [x]) (I ++ R) = parse (out ++ [{ x with code := x.code ++ I }]) R
  | [], out, x, R, _, _ => by simp
  | l :: I, out, x, R, hk, hI => by
    rw [List.cons_append, parse, if_pos (hI l (List.mem_cons_self))]
    simp only [List.getLast?_append, List.getLast?_singleton, Option.some_or, List.dropLast_concat]
    rw [if_pos hk, parse_codes I out (x.with l) R hk (fun m hm => hI m (List.mem_cons_of_mem _ hm))]
    simp [It.with]
/-- what is read is a rule, or has no code -/
theorem readR_ok {l : L} {x : It} (h : readR l = .ok x) : l.ind = false ∧ item l = .ok x := by
  unfold readR at h
  cases hi : l.ind with
  | true => rw [hi] at h; simp at h
  | false =>
    rw [hi] at h
    simp only [Bool.false_eq_true, if_false] at h
    exact ⟨rfl, h⟩
/-- the words of a line that lex reads -/
def Lexed (l : L) : Prop := l.words ≠ [] ∧ ∀ u ∈ l.words, u.mark = true → u.text = [58] ∨ u.text = [61]
/-- by its first word -/
theorem readR_by {l : L} {w : V} {r : List V} (hw : l.words = w :: r) (hm : w.mark = true → w.text = [58] ∨ w.text = [61]) :
    readR l = if l.ind = true ∨ w.quoted = true then .bad (120, 0) else if w.text = sLet then letOf l.num r else if w.text = sIncl then inclOf l.num r else if w.text = sRule then ruleOf l.num [] 1 r else .bad (120, 0) := by
  unfold readR item
  rw [hw]
  cases hi : l.ind with
  | true => simp
  | false =>
    simp only [Bool.false_eq_true, if_false, false_or]
    unfold isW
    cases hq : w.quoted with
    | true => simp
    | false =>
      simp only [Bool.false_eq_true, if_false, Bool.not_false, Bool.true_and]
      cases hk : w.mark with
      | false => simp
      | true =>
        have h1 : w.text ≠ sLet := by rcases hm hk with h | h <;> rw [h] <;> decide
        have h2 : w.text ≠ sIncl := by rcases hm hk with h | h <;> rw [h] <;> decide
        have h3 : w.text ≠ sRule := by rcases hm hk with h | h <;> rw [h] <;> decide
        rw [if_neg h1, if_neg h2, if_neg h3]
        simp
theorem name_mark {t : List UInt8} (h : t = [58] ∨ t = [61]) : name t = false := by rcases h with rfl | rfl <;> decide

end Go.Proofs.Ythpipbkbldlfjaa.Rl
