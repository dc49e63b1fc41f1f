/-
  ACTIONS BY DEFINITION: statements, lines, what may be; there and back. No program here.
-/
import Derived.Test.YtfgdlnidfkjbdaaDoorXMath
namespace Go.Proofs.YtfgdlnidfkjbdaaDoor.Ac
open Lx

/-- statements one behind the other, each with its body -/
inductive Fo where
  | nil : Fo
  | cons (op : Int) (args : List (List UInt8)) (n : Int) (body rest : Fo) : Fo
deriving DecidableEq
namespace Fo
def app : Fo → Fo → Fo
  | nil, g => g
  | cons o a n b r, g => cons o a n b (r.app g)
def len : Fo → Nat
  | nil => 0
  | cons _ _ _ _ r => r.len + 1
def take : Nat → Fo → Fo
  | _, nil => nil
  | 0, cons _ _ _ _ _ => nil
  | k + 1, cons o a n b r => cons o a n b (r.take k)
theorem app_nil : ∀ f : Fo, f.app nil = f
  | nil => rfl
  | cons _ _ _ _ r => by rw [app, app_nil r]
theorem app_assoc : ∀ f g h : Fo, (f.app g).app h = f.app (g.app h)
  | nil, _, _ => rfl
  | cons _ _ _ _ r, g, h => by rw [app, app, app, app_assoc r]
theorem len_app : ∀ f g : Fo, (f.app g).len = f.len + g.len
  | nil, g => by simp [app, len]
  | cons _ _ _ _ r, g => by rw [app, len, len, len_app r]; omega
theorem take_app : ∀ f g : Fo, (f.app g).take f.len = f
  | nil, g => by cases g <;> simp [app, len, take]
  | cons _ _ _ _ r, g => by rw [app, len, take, take_app r]
end Fo

def sEnd : List UInt8 := [101, 110, 100]
/-- a kind's first word -/
def word (op : Int) : List UInt8 :=
  if op = 1 then [110, 101, 101, 100] else if op = 2 then [99, 97, 116] else if op = 3 then [116, 101, 120, 116] else if op = 4 then [117, 112, 112, 101, 114] else if op = 5 then [115, 111, 114, 116] else if op = 6 then [117, 110, 105, 113] else if op = 7 then [99, 111, 117, 110, 116] else if op = 8 then [119, 114, 105, 116, 101] else if op = 9 then [102, 97, 105, 108] else if op = 10 then [114, 101, 112, 101, 97, 116] else if op = 11 then [101, 97, 99, 104] else if op = 12 then [119, 104, 101, 110] else []
def opens (op : Int) : Bool := decide (op = 10 ∨ op = 11 ∨ op = 12)
/-- has a kind so many words? -/
def argsOk (op : Int) (k : Nat) : Bool :=
  if op = 1 ∨ op = 2 ∨ op = 8 ∨ op = 11 then decide (k = 1) else if op = 3 ∨ op = 9 then true else if op = 12 then decide (k = 2) else decide (k = 0)
/-- the kind of a first word -/
def opOf (w : List UInt8) : Option Int := [1, 2, 3, 4, 5, 6, 7, 8, 9, 10, 11, 12].find? fun op => decide (word op = w)
def digit (k : Nat) : UInt8 := UInt8.ofNat (48 + k)
/-- a number from 0 to 9999 in decimal digits -/
def digits (n : Nat) : List UInt8 :=
  if n < 10 then [digit n] else if n < 100 then [digit (n / 10), digit (n % 10)] else if n < 1000 then [digit (n / 100), digit (n / 10 % 10), digit (n % 10)] else [digit (n / 1000), digit (n / 100 % 10), digit (n / 10 % 10), digit (n % 10)]
def value (s : List UInt8) : Nat := s.foldl (fun n c => 10 * n + (c.toNat - 48)) 0
/-- a repeat's number -/
def number (s : List UInt8) : Option Nat :=
  if 1 ≤ s.length ∧ s.length ≤ 4 ∧ (s.all fun c => decide (48 ≤ c.toNat ∧ c.toNat ≤ 57)) = true ∧ value s ≤ 1000 ∧ digits (value s) = s then some (value s) else none
/-- a repeat's words -/
def repOf : List (List UInt8) → Option (Int × List (List UInt8) × Int)
  | [s] => (number s).map fun (n : Nat) => ((10 : Int), ([] : List (List UInt8)), (n : Int))
  | _ => none
/-- a statement of that kind, of these words -/
def stmtW (op : Int) (r : List (List UInt8)) : Option (Int × List (List UInt8) × Int) :=
  if op = 10 then repOf r else if argsOk op r.length = true then some (op, r, 0) else none
/-- a line as a statement without its body -/
def stmtOf : List (List UInt8) → Option (Int × List (List UInt8) × Int)
  | [] => none
  | w :: r => (opOf w).bind fun op => stmtW op r
theorem stmtOf_cons (w : List UInt8) (r : List (List UInt8)) : stmtOf (w :: r) = (opOf w).bind fun op => stmtW op r := rfl
/-- a statement's line -/
def lineOf (op : Int) (args : List (List UInt8)) (n : Int) : List (List UInt8) := word op :: (args ++ if op = 10 then [digits n.toNat] else [])
/-- is a statement as the table says, its body apart? -/
def ok1 (op : Int) (args : List (List UInt8)) (n : Int) : Bool := decide (word op ≠ []) && argsOk op args.length && decide (0 ≤ n ∧ n ≤ 1000) && decide (op = 10 ∨ n = 0)
/-- is each statement as the table says, in bodies too? -/
def one : Fo → Bool
  | .nil => true
  | .cons op args n b r => ok1 op args n && (opens op || decide (b = .nil)) && one b && one r
def size : Fo → Nat
  | .nil => 0
  | .cons _ _ _ b r => 1 + size b + size r
def deep : Fo → Nat
  | .nil => 0
  | .cons op _ _ b r => max (if opens op = true then 1 + deep b else 0) (deep r)
def may (f : Fo) : Bool := one f && decide (size f ≤ 256) && decide (deep f ≤ 8)
/-- the lines of a list -/
def all : Fo → List (List (List UInt8))
  | .nil => []
  | .cons op args n b r => lineOf op args n :: ((if opens op = true then all b ++ [[sEnd]] else []) ++ all r)
/-- the first error of lines -/
def chk (open_ many i : Nat) : List (List (List UInt8)) → Option (Int × Nat)
  | [] => if 0 < open_ then some (131, i) else none
  | l :: r =>
    if l = [sEnd] then (if open_ = 0 then some (131, i) else chk (open_ - 1) many (i + 1) r)
    else match stmtOf l with
      | none => some (130, i)
      | some (op, _, _) =>
        if 256 < many + 1 then some (3, i)
        else if opens op = true then (if open_ = 8 then some (132, i) else chk (open_ + 1) (many + 1) (i + 1) r)
        else chk open_ (many + 1) (i + 1) r
/-- the statements up to the end that closes them; and what stands behind it -/
def unt : Nat → List (List (List UInt8)) → Fo × List (List (List UInt8))
  | 0, ls => (.nil, ls)
  | _ + 1, [] => (.nil, [])
  | f + 1, l :: r =>
    if l = [sEnd] then (.nil, r)
    else match stmtOf l with
      | none => (.nil, r)
      | some (op, a, n) =>
        if opens op = true then (.cons op a n (unt f r).1 (unt f (unt f r).2).1, (unt f (unt f r).2).2)
        else (.cons op a n .nil (unt f r).1, (unt f r).2)
/-- what lines say -/
def parse (ls : List (List (List UInt8))) : R (Int × Nat) Fo :=
  match chk 0 0 0 ls with
  | some e => .bad e
  | none => .ok (unt (ls.length + 1) ls).1

theorem number_digits : ∀ n : Nat, n ≤ 1000 → number (digits n) = some n := by
  have h : ∀ n : Fin 1001, number (digits n.1) = some n.1 := by decide +kernel
  intro n hn
  exact h ⟨n, by omega⟩
theorem number_some {s : List UInt8} {n : Nat} (h : number s = some n) : s = digits n ∧ n ≤ 1000 := by
  unfold number at h
  split at h
  · rename_i hc
    simp only [Option.some.injEq] at h
    subst h
    exact ⟨hc.2.2.2.2.symm, hc.2.2.2.1⟩
  · cases h
theorem word_of {op : Int} (h : word op ≠ []) : op = 1 ∨ op = 2 ∨ op = 3 ∨ op = 4 ∨ op = 5 ∨ op = 6 ∨ op = 7 ∨ op = 8 ∨ op = 9 ∨ op = 10 ∨ op = 11 ∨ op = 12 := by
  apply Classical.byContradiction
  intro hn
  simp only [not_or] at hn
  obtain ⟨h1, h2, h3, h4, h5, h6, h7, h8, h9, h10, h11, h12⟩ := hn
  apply h
  unfold word
  rw [if_neg h1, if_neg h2, if_neg h3, if_neg h4, if_neg h5, if_neg h6, if_neg h7, if_neg h8, if_neg h9, if_neg h10, if_neg h11, if_neg h12]
theorem opOf_word {op : Int} (h : word op ≠ []) : opOf (word op) = some op := by
  rcases word_of h with rfl | rfl | rfl | rfl | rfl | rfl | rfl | rfl | rfl | rfl | rfl | rfl <;> decide
theorem opOf_some {w : List UInt8} {op : Int} (h : opOf w = some op) : w = word op ∧ word op ≠ [] := by
  unfold opOf at h
  have h1 := List.find?_some h
  have h2 := List.mem_of_find?_eq_some h
  simp only [decide_eq_true_eq] at h1
  refine ⟨h1.symm, ?_⟩
  simp only [List.mem_cons, List.not_mem_nil, or_false] at h2
  rcases h2 with rfl | rfl | rfl | rfl | rfl | rfl | rfl | rfl | rfl | rfl | rfl | rfl <;> decide
theorem opOf_end : opOf sEnd = none := by decide
theorem stmt_line {op : Int} {args : List (List UInt8)} {n : Int} (h : ok1 op args n = true) : stmtOf (lineOf op args n) = some (op, args, n) := by
  unfold ok1 at h
  simp only [Bool.and_eq_true, decide_eq_true_eq] at h
  obtain ⟨⟨⟨h1, h2⟩, h3, h4⟩, h5⟩ := h
  rw [lineOf, stmtOf_cons, opOf_word h1, Option.bind_some, stmtW]
  by_cases h10 : op = 10
  · subst h10
    rw [if_pos rfl, if_pos rfl]
    have ha : args = [] := by
      unfold argsOk at h2
      simp at h2
      exact h2
    subst ha
    rw [List.nil_append, repOf, number_digits _ (by omega)]
    simp only [Option.map_some, Option.some.injEq, Prod.mk.injEq, true_and]
    omega
  · rw [if_neg h10, if_neg h10, List.append_nil, if_pos h2]
    have : n = 0 := by omega
    rw [this]
theorem stmt_some {l : List (List UInt8)} {op : Int} {args : List (List UInt8)} {n : Int} (h : stmtOf l = some (op, args, n)) : l = lineOf op args n ∧ ok1 op args n = true := by
  cases l with
  | nil => cases h
  | cons w r =>
    rw [stmtOf_cons] at h
    cases ho : opOf w with
    | none => rw [ho] at h; cases h
    | some o =>
      rw [ho, Option.bind_some, stmtW] at h
      obtain ⟨rfl, hw⟩ := opOf_some ho
      split at h
      · rename_i h10
        subst h10
        unfold repOf at h
        split at h
        · rename_i s
          cases hn : number s with
          | none => rw [hn] at h; cases h
          | some m =>
            rw [hn] at h
            simp only [Option.map_some, Option.some.injEq, Prod.mk.injEq] at h
            obtain ⟨rfl, rfl, rfl⟩ := h
            obtain ⟨rfl, hm⟩ := number_some hn
            refine ⟨by simp [lineOf], ?_⟩
            unfold ok1
            simp only [Bool.and_eq_true, decide_eq_true_eq]
            exact ⟨⟨⟨hw, rfl⟩, by omega, by omega⟩, .inl trivial⟩
        · cases h
      · rename_i h10
        split at h
        · rename_i ha
          simp only [Option.some.injEq, Prod.mk.injEq] at h
          obtain ⟨rfl, rfl, rfl⟩ := h
          refine ⟨by simp [lineOf, h10], ?_⟩
          unfold ok1
          simp only [Bool.and_eq_true, decide_eq_true_eq]
          exact ⟨⟨⟨hw, ha⟩, by omega, by omega⟩, .inr trivial⟩
        · cases h
theorem line_ne {op : Int} {args : List (List UInt8)} {n : Int} (h : ok1 op args n = true) : lineOf op args n ≠ [sEnd] := by
  intro e
  have h1 := stmt_line h
  rw [e] at h1
  simp [stmtOf, opOf_end] at h1
theorem all_app : ∀ f g : Fo, all (f.app g) = all f ++ all g
  | .nil, _ => rfl
  | .cons op a n b r, g => by rw [Fo.app, all, all, all_app r g]; simp
theorem size_app : ∀ f g : Fo, size (f.app g) = size f + size g
  | .nil, g => by simp [Fo.app, size]
  | .cons _ _ _ _ r, g => by rw [Fo.app, size, size, size_app r g]; omega
theorem deep_app : ∀ f g : Fo, deep (f.app g) = max (deep f) (deep g)
  | .nil, g => by simp [Fo.app, deep]
  | .cons _ _ _ _ r, g => by rw [Fo.app, deep, deep, deep_app r g]; omega
theorem one_app : ∀ f g : Fo, one (f.app g) = (one f && one g)
  | .nil, g => by simp [Fo.app, one]
  | .cons _ _ _ _ r, g => by rw [Fo.app, one, one, one_app r g]; simp [Bool.and_assoc]

/-- the lines of a list that may be are gone over without an error -/
theorem chk_all : ∀ (f : Fo) (o m i : Nat) (r : List (List (List UInt8))), one f = true → o + deep f ≤ 8 → m + size f ≤ 256 → chk o m i (all f ++ r) = chk o (m + size f) (i + (all f).length) r
  | .nil, o, m, i, r, _, _, _ => by simp [all, size]
  | .cons op a n b t, o, m, i, r, h1, h2, h3 => by
    simp only [one, Bool.and_eq_true] at h1
    obtain ⟨⟨⟨k1, k2⟩, k3⟩, k4⟩ := h1
    rw [deep] at h2
    rw [size] at h3
    rw [all, List.cons_append, chk, if_neg (line_ne k1), stmt_line k1]
    simp only
    rw [if_neg (by omega)]
    by_cases ho : opens op = true
    · rw [if_pos ho] at h2
      rw [if_pos ho, if_neg (by omega), if_pos ho]
      rw [show all b ++ [[sEnd]] ++ all t ++ r = all b ++ ([sEnd] :: (all t ++ r)) by simp]
      rw [chk_all b (o + 1) (m + 1) (i + 1) _ k3 (by omega) (by omega), chk, if_pos rfl, if_neg (by omega), Nat.add_sub_cancel]
      rw [chk_all t o (m + 1 + size b) _ r k4 (by omega) (by omega)]
      congr 1
      · rw [size]; omega
      · simp only [List.length_cons, List.length_append, List.length_nil]; omega
    · rw [if_neg ho, if_neg ho, List.nil_append]
      have hb : b = .nil := by
        rcases (by simpa using k2 : opens op = true ∨ b = .nil) with h | h
        · exact absurd h ho
        · exact h
      subst hb
      rw [chk_all t o (m + 1) (i + 1) r k4 (by omega) (by simp only [size] at h3; omega)]
      congr 1
      · simp only [size]; omega
      · simp only [List.length_cons]; omega
/-- they are read as that list -/
theorem unt_all : ∀ (k : Nat) (f : Fo) (r : List (List (List UInt8))), one f = true → (all f).length < k → unt k (all f ++ [sEnd] :: r) = (f, r) ∧ unt k (all f) = (f, [])
  | 0, _, _, _, h => by omega
  | k + 1, .nil, r, _, _ => by simp [all, unt]
  | k + 1, .cons op a n b t, r, h1, h2 => by
    simp only [one, Bool.and_eq_true] at h1
    obtain ⟨⟨⟨k1, k2⟩, k3⟩, k4⟩ := h1
    rw [all, List.length_cons, List.length_append] at h2
    rw [all, List.cons_append, unt, unt, if_neg (line_ne k1), if_neg (line_ne k1), stmt_line k1]
    simp only
    by_cases ho : opens op = true
    · simp only [if_pos ho, List.length_append, List.length_cons, List.length_nil] at h2 ⊢
      have e1 : ∀ x, unt k (all b ++ [[sEnd]] ++ x) = (b, x) := fun x => by
        rw [show all b ++ [[sEnd]] ++ x = all b ++ [sEnd] :: x by simp]
        exact (unt_all k b x k3 (by omega)).1
      have e2 := unt_all k t r k4 (by omega)
      rw [List.append_assoc (all b ++ [[sEnd]]), e1, e1]
      simp only
      rw [e2.1, e2.2]
      exact ⟨rfl, rfl⟩
    · have hb : b = .nil := by
        rcases (by simpa using k2 : opens op = true ∨ b = .nil) with h | h
        · exact absurd h ho
        · exact h
      subst hb
      simp only [if_neg ho, List.nil_append, List.length_nil, Nat.zero_add] at h2 ⊢
      have e2 := unt_all k t r k4 (by omega)
      rw [e2.1, e2.2]
      exact ⟨rfl, rfl⟩
/-- P13.4: lines of a list that may be are read as it -/
theorem parse_all {f : Fo} (h : may f = true) : parse (all f) = .ok f := by
  unfold may at h
  simp only [Bool.and_eq_true, decide_eq_true_eq] at h
  unfold parse
  have h1 := chk_all f 0 0 0 [] h.1.1 (by omega) (by omega)
  rw [List.append_nil] at h1
  rw [h1, chk, if_neg (by omega)]
  simp only
  rw [(unt_all ((all f).length + 1) f [] h.1.1 (Nat.lt_succ_self _)).2]
/-- lines that are gone over without an error are those of a list, and what stands behind its end -/
theorem chk_none : ∀ (k : Nat) (ls : List (List (List UInt8))) (o m i : Nat), ls.length ≤ k → o ≤ 8 → chk o m i ls = none → ∃ f, one f = true ∧ o + deep f ≤ 8 ∧ (size f = 0 ∨ m + size f ≤ 256) ∧ ((o = 0 ∧ ls = all f) ∨ (0 < o ∧ ∃ r, ls = all f ++ [sEnd] :: r ∧ chk (o - 1) (m + size f) (i + (all f).length + 1) r = none))
  | _, [], o, m, i, _, ho, h => by
    rw [chk] at h
    split at h
    · cases h
    · exact ⟨.nil, rfl, by simp [deep]; exact ho, .inl rfl, .inl ⟨by omega, rfl⟩⟩
  | 0, l :: ls, _, _, _, hk, _, _ => by simp at hk
  | k + 1, l :: ls, o, m, i, hk, ho, h => by
    simp only [List.length_cons] at hk
    rw [chk] at h
    split at h
    · rename_i he
      split at h
      · cases h
      · refine ⟨.nil, rfl, by simp [deep]; exact ho, .inl rfl, .inr ⟨by omega, ls, by rw [he]; rfl, ?_⟩⟩
        simpa [size, all] using h
    · cases hs : stmtOf l with
      | none => rw [hs] at h; cases h
      | some x =>
        obtain ⟨op, a, n⟩ := x
        rw [hs] at h
        simp only at h
        obtain ⟨rfl, hok⟩ := stmt_some hs
        split at h
        · cases h
        · rename_i hm
          split at h
          · rename_i hop
            split at h
            · cases h
            · rename_i ho8
              obtain ⟨b, b1, b2, b3, b4⟩ := chk_none k ls (o + 1) (m + 1) (i + 1) (by omega) (by omega) h
              rcases b4 with ⟨h0, -⟩ | ⟨-, r, rfl, hr⟩
              · omega
              · rw [Nat.add_sub_cancel] at hr
                obtain ⟨t, t1, t2, t3, t4⟩ := chk_none k r o (m + 1 + size b) _ (by simp only [List.length_append, List.length_cons] at hk; omega) ho hr
                refine ⟨.cons op a n b t, by simp [one, hok, hop, b1, t1], by rw [deep, if_pos hop]; omega, .inr (by rw [size]; omega), ?_⟩
                rcases t4 with ⟨h0, rfl⟩ | ⟨h0, r', rfl, hr'⟩
                · exact .inl ⟨h0, by rw [all, if_pos hop]; simp⟩
                · refine .inr ⟨h0, r', by rw [all, if_pos hop]; simp, ?_⟩
                  rw [← hr']
                  congr 1
                  · rw [size]; omega
                  · rw [all, if_pos hop]; simp only [List.length_cons, List.length_append, List.length_nil]; omega
          · rename_i hop
            obtain ⟨t, t1, t2, t3, t4⟩ := chk_none k ls o (m + 1) (i + 1) (by omega) ho h
            refine ⟨.cons op a n .nil t, by simp [one, hok, t1], by rw [deep, if_neg hop]; omega, .inr (by simp only [size]; omega), ?_⟩
            rcases t4 with ⟨h0, rfl⟩ | ⟨h0, r', rfl, hr'⟩
            · exact .inl ⟨h0, by rw [all, if_neg hop]; rfl⟩
            · refine .inr ⟨h0, r', by rw [all, if_neg hop]; rfl, ?_⟩
              rw [← hr']
              congr 1
              · simp only [size]; omega
              · rw [all, if_neg hop]; simp only [List.length_cons, List.nil_append]; omega
/-- P13.4: what is read may be, and its lines are the lines -/
theorem parse_ok {ls : List (List (List UInt8))} {f : Fo} (h : parse ls = .ok f) : may f = true ∧ all f = ls := by
  unfold parse at h
  cases hc : chk 0 0 0 ls with
  | some e => rw [hc] at h; cases h
  | none =>
    obtain ⟨g, g1, g2, g3, g4⟩ := chk_none ls.length ls 0 0 0 (Nat.le_refl _) (by omega) hc
    rcases g4 with ⟨-, rfl⟩ | ⟨h0, -⟩
    · have hmay : may g = true := by
        unfold may
        simp only [Bool.and_eq_true, decide_eq_true_eq]
        exact ⟨⟨g1, by omega⟩, by omega⟩
      have := parse_all hmay
      unfold parse at this
      rw [this] at h
      cases h
      exact ⟨hmay, rfl⟩
    · omega

end Go.Proofs.YtfgdlnidfkjbdaaDoor.Ac

namespace Go.Proofs.YtfgdlnidfkjbdaaDoor.Ac
open Lx

/-- too many, or too deep: it is told so -/
theorem chk_over : ∀ (f : Fo) (o m i : Nat) (r : List (List (List UInt8))), one f = true → o ≤ 8 → m ≤ 256 → (8 < o + deep f ∨ 256 < m + size f) → ∃ e j, chk o m i (all f ++ r) = some (e, j) ∧ (e = 3 ∨ (e = 132 ∧ 8 < o + deep f))
  | .nil, o, m, i, r, _, ho, hm, h => by
    simp only [deep, size] at h
    omega
  | .cons op a n b t, o, m, i, r, h1, ho, hm, h => by
    simp only [one, Bool.and_eq_true] at h1
    obtain ⟨⟨⟨k1, k2⟩, k3⟩, k4⟩ := h1
    rw [all, List.cons_append, chk, if_neg (line_ne k1), stmt_line k1]
    simp only
    by_cases hm2 : 256 < m + 1
    · rw [if_pos hm2]
      exact ⟨3, i, rfl, .inl rfl⟩
    rw [if_neg hm2]
    by_cases hop : opens op = true
    · rw [if_pos hop, if_pos hop]
      rw [deep, if_pos hop, size] at h
      by_cases h8 : o = 8
      · rw [if_pos h8]
        refine ⟨132, i, rfl, .inr ⟨rfl, ?_⟩⟩
        rw [deep, if_pos hop]
        omega
      rw [if_neg h8, show all b ++ [[sEnd]] ++ all t ++ r = all b ++ ([sEnd] :: (all t ++ r)) by simp]
      by_cases hb : 8 < o + 1 + deep b ∨ 256 < m + 1 + size b
      · obtain ⟨e, j, h2, h3⟩ := chk_over b (o + 1) (m + 1) (i + 1) ([sEnd] :: (all t ++ r)) k3 (by omega) (by omega) hb
        refine ⟨e, j, h2, ?_⟩
        rcases h3 with h3 | ⟨h3, h4⟩
        · exact .inl h3
        · refine .inr ⟨h3, ?_⟩
          rw [deep, if_pos hop]
          omega
      · rw [chk_all b (o + 1) (m + 1) (i + 1) _ k3 (by omega) (by omega), chk, if_pos rfl, if_neg (by omega), Nat.add_sub_cancel]
        obtain ⟨e, j, h2, h3⟩ := chk_over t o (m + 1 + size b) (i + 1 + (all b).length + 1) r k4 ho (by omega) (by omega)
        refine ⟨e, j, h2, ?_⟩
        rcases h3 with h3 | ⟨h3, h4⟩
        · exact .inl h3
        · refine .inr ⟨h3, ?_⟩
          rw [deep]
          omega
    · rw [if_neg hop, if_neg hop, List.nil_append]
      have hb : b = .nil := by
        rcases (by simpa using k2 : opens op = true ∨ b = .nil) with h | h
        · exact absurd h hop
        · exact h
      subst hb
      rw [deep, if_neg hop] at h
      simp only [size] at h
      obtain ⟨e, j, h2, h3⟩ := chk_over t o (m + 1) (i + 1) r k4 ho (by omega) (by omega)
      refine ⟨e, j, h2, ?_⟩
      rcases h3 with h3 | ⟨h3, h4⟩
      · exact .inl h3
      · refine .inr ⟨h3, ?_⟩
        rw [deep, if_neg hop]
        omega
theorem may_iff {f : Fo} : may f = true ↔ one f = true ∧ size f ≤ 256 ∧ deep f ≤ 8 := by
  unfold may
  simp only [Bool.and_eq_true, decide_eq_true_eq, and_assoc]
/-- P13.5: two lists, one behind the other -/
theorem parse_join {f g : Fo} (hf : may f = true) (hg : may g = true) : (size f + size g ≤ 256 → parse (all f ++ all g) = .ok (f.app g) ∧ may (f.app g) = true) ∧ (256 < size f + size g → (∃ j, parse (all f ++ all g) = .bad (3, j)) ∧ may (f.app g) = false) := by
  obtain ⟨f1, f2, f3⟩ := may_iff.1 hf
  obtain ⟨g1, g2, g3⟩ := may_iff.1 hg
  refine ⟨fun h => ?_, fun h => ⟨?_, ?_⟩⟩
  · have hm : may (f.app g) = true := may_iff.2 ⟨by rw [one_app, f1, g1]; rfl, by rw [size_app]; exact h, by rw [deep_app]; omega⟩
    rw [← all_app]
    exact ⟨parse_all hm, hm⟩
  · have h1 := chk_all f 0 0 0 (all g) f1 (by omega) (by omega)
    obtain ⟨e, j, h2, h3⟩ := chk_over g 0 (0 + size f) (0 + (all f).length) [] g1 (by omega) (by omega) (.inr (by omega))
    rw [List.append_nil] at h2
    rcases h3 with rfl | ⟨-, h3⟩
    · refine ⟨j, ?_⟩
      unfold parse
      rw [h1, h2]
    · omega
  · rw [← Bool.not_eq_true]
    intro hm
    have := (may_iff.1 hm).2.1
    rw [size_app] at this
    omega
/-- P13.5: a list in a repeat -/
theorem parse_body {f : Fo} {n : Nat} (hf : may f = true) (hn : n ≤ 1000) : (size f < 256 ∧ deep f < 8 → parse ([word 10, digits n] :: (all f ++ [[sEnd]])) = .ok (.cons 10 [] (n : Int) f .nil) ∧ may (.cons 10 [] (n : Int) f .nil) = true) ∧
    (¬ (size f < 256 ∧ deep f < 8) → (∃ e j, parse ([word 10, digits n] :: (all f ++ [[sEnd]])) = .bad (e, j) ∧ (e = 3 ∨ e = 132)) ∧ may (.cons 10 [] (n : Int) f .nil) = false) := by
  obtain ⟨f1, f2, f3⟩ := may_iff.1 hf
  have hok : ok1 10 [] (n : Int) = true := by
    unfold ok1
    simp only [Bool.and_eq_true, decide_eq_true_eq]
    exact ⟨⟨⟨by decide, rfl⟩, by omega, by omega⟩, .inl trivial⟩
  have hone : one (.cons 10 [] (n : Int) f .nil) = true := by simp [one, hok, f1, opens]
  have hop : opens 10 = true := rfl
  have ha : all (.cons 10 [] (n : Int) f .nil) = [word 10, digits n] :: (all f ++ [[sEnd]]) := by
    rw [all, if_pos hop]
    simp [lineOf, all]
  rw [← ha]
  refine ⟨fun h => ?_, fun h => ⟨?_, ?_⟩⟩
  · have hm : may (.cons 10 [] (n : Int) f .nil) = true := may_iff.2 ⟨hone, by simp only [size]; omega, by rw [deep, if_pos hop]; simp only [deep]; omega⟩
    exact ⟨parse_all hm, hm⟩
  · obtain ⟨e, j, h2, h3⟩ := chk_over (.cons 10 [] (n : Int) f .nil) 0 0 0 [] hone (by omega) (by omega) (by rw [deep, if_pos hop]; simp only [deep, size]; omega)
    rw [List.append_nil] at h2
    refine ⟨e, j, ?_, ?_⟩
    · unfold parse
      rw [h2]
    · rcases h3 with h3 | ⟨h3, -⟩
      · exact .inl h3
      · exact .inr h3
  · rw [← Bool.not_eq_true]
    intro hm
    obtain ⟨-, h1, h2⟩ := may_iff.1 hm
    rw [deep, if_pos hop] at h2
    simp only [size, deep] at h1 h2
    omega
/-- an error stands at this line or behind it -/
theorem chk_at : ∀ (ls : List (List (List UInt8))) (o m i : Nat) (e : Int) (j : Nat), chk o m i ls = some (e, j) → i ≤ j ∧ j ≤ i + ls.length
  | [], o, m, i, e, j, h => by
    rw [chk] at h
    split at h
    · simp only [Option.some.injEq, Prod.mk.injEq] at h
      simp; omega
    · cases h
  | l :: r, o, m, i, e, j, h => by
    rw [chk] at h
    simp only [List.length_cons]
    have here : ∀ x : Int, (some (x, i) : Option (Int × Nat)) = some (e, j) → i ≤ j ∧ j ≤ i + (r.length + 1) := by
      intro x h
      simp only [Option.some.injEq, Prod.mk.injEq] at h
      omega
    have next : ∀ o' m', chk o' m' (i + 1) r = some (e, j) → i ≤ j ∧ j ≤ i + (r.length + 1) := by
      intro o' m' h
      have := chk_at r o' m' (i + 1) e j h
      omega
    split at h
    · split at h
      · exact here _ h
      · exact next _ _ h
    · cases hs : stmtOf l with
      | none => rw [hs] at h; exact here _ h
      | some x =>
        obtain ⟨op, a, n⟩ := x
        rw [hs] at h
        simp only at h
        split at h
        · exact here _ h
        · split at h
          · split at h
            · exact here _ h
            · exact next _ _ h
          · exact next _ _ h
/-- the first lines alone: they go wrong within, whatever follows, or not -/
theorem chk_split : ∀ (a : List (List (List UInt8))) (o m i : Nat), (∃ e j, j < i + a.length ∧ ∀ r, chk o m i (a ++ r) = some (e, j)) ∨ (∃ o' m', ∀ r, chk o m i (a ++ r) = chk o' m' (i + a.length) r)
  | [], o, m, i => .inr ⟨o, m, fun r => by simp⟩
  | l :: a, o, m, i => by
    have here : ∀ x : Int, (∀ r, chk o m i (l :: a ++ r) = some (x, i)) → (∃ e j, j < i + (l :: a).length ∧ ∀ r, chk o m i (l :: a ++ r) = some (e, j)) := fun x h => ⟨x, i, by simp, h⟩
    have next : ∀ o1 m1, (∀ r, chk o m i (l :: a ++ r) = chk o1 m1 (i + 1) (a ++ r)) → (∃ e j, j < i + (l :: a).length ∧ ∀ r, chk o m i (l :: a ++ r) = some (e, j)) ∨ (∃ o' m', ∀ r, chk o m i (l :: a ++ r) = chk o' m' (i + (l :: a).length) r) := by
      intro o1 m1 h
      rcases chk_split a o1 m1 (i + 1) with ⟨e, j, h1, h2⟩ | ⟨o', m', h2⟩
      · exact .inl ⟨e, j, by simp only [List.length_cons]; omega, fun r => (h r).trans (h2 r)⟩
      · refine .inr ⟨o', m', fun r => ?_⟩
        rw [h r, h2 r]
        congr 1
        simp only [List.length_cons]
        omega
    by_cases he : l = [sEnd]
    · by_cases h0 : o = 0
      · exact .inl (here 131 fun r => by rw [List.cons_append, chk, if_pos he, if_pos h0])
      · exact next (o - 1) m fun r => by rw [List.cons_append, chk, if_pos he, if_neg h0]
    · cases hs : stmtOf l with
      | none => exact .inl (here 130 fun r => by rw [List.cons_append, chk, if_neg he, hs])
      | some x =>
        obtain ⟨op, b, n⟩ := x
        by_cases hm : 256 < m + 1
        · exact .inl (here 3 fun r => by rw [List.cons_append, chk, if_neg he, hs]; simp only; rw [if_pos hm])
        · by_cases hop : opens op = true
          · by_cases h8 : o = 8
            · exact .inl (here 132 fun r => by rw [List.cons_append, chk, if_neg he, hs]; simp only; rw [if_neg hm, if_pos hop, if_pos h8])
            · exact next (o + 1) (m + 1) fun r => by rw [List.cons_append, chk, if_neg he, hs]; simp only; rw [if_neg hm, if_pos hop, if_neg h8]
          · exact next o (m + 1) fun r => by rw [List.cons_append, chk, if_neg he, hs]; simp only; rw [if_neg hm, if_neg hop]
theorem line_inj {op op' : Int} {a a' : List (List UInt8)} {n n' : Int} (h : ok1 op a n = true) (h' : ok1 op' a' n' = true) (e : lineOf op a n = lineOf op' a' n') : op = op' ∧ a = a' ∧ n = n' := by
  have h1 := stmt_line h
  rw [e, stmt_line h'] at h1
  simp only [Option.some.injEq, Prod.mk.injEq] at h1
  exact ⟨h1.1.symm, h1.2.1.symm, h1.2.2.symm⟩
/-- a list whose lines begin with those of another begins with it -/
theorem all_prefix : ∀ (m f : Fo) (r : List (List (List UInt8))), one m = true → one f = true → all f = all m ++ r → ∃ g, f = m.app g
  | .nil, f, _, _, _, _ => ⟨f, rfl⟩
  | .cons op a n b t, .nil, r, _, _, h => by simp [all] at h
  | .cons op a n b t, .cons op' a' n' b' t', r, h1, h2, h => by
    simp only [one, Bool.and_eq_true] at h1 h2
    obtain ⟨⟨⟨k1, k2⟩, k3⟩, k4⟩ := h1
    obtain ⟨⟨⟨q1, q2⟩, q3⟩, q4⟩ := h2
    rw [all, all, List.cons_append, List.cons.injEq] at h
    obtain ⟨e, h⟩ := h
    obtain ⟨rfl, rfl, rfl⟩ := line_inj q1 k1 e
    by_cases hop : opens op' = true
    · rw [if_pos hop, if_pos hop] at h
      have h' : all b' ++ [sEnd] :: all t' = all b ++ [sEnd] :: (all t ++ r) := by simpa using h
      have u1 := (unt_all ((all b').length + (all b).length + 1) b' (all t') q3 (by omega)).1
      have u2 := (unt_all ((all b').length + (all b).length + 1) b (all t ++ r) k3 (by omega)).1
      rw [h', u2] at u1
      simp only [Prod.mk.injEq] at u1
      obtain ⟨rfl, e2⟩ := u1
      obtain ⟨g, rfl⟩ := all_prefix t t' r k4 q4 e2.symm
      exact ⟨g, rfl⟩
    · have hb : b = .nil := by
        rcases (by simpa using k2 : opens op' = true ∨ b = .nil) with h | h
        · exact absurd h hop
        · exact h
      have hb' : b' = .nil := by
        rcases (by simpa using q2 : opens op' = true ∨ b' = .nil) with h | h
        · exact absurd h hop
        · exact h
      subst hb hb'
      rw [if_neg hop, List.nil_append, List.nil_append] at h
      obtain ⟨g, rfl⟩ := all_prefix t t' r k4 q4 h
      exact ⟨g, rfl⟩
/-- P13.6: the first lines alone -/
theorem parse_cut (a r : List (List (List UInt8))) : (∀ e j, parse (a ++ r) = .bad (e, j) → a.length ≤ j ∨ parse a = .bad (e, j)) ∧
    (∀ f, parse (a ++ r) = .ok f → parse a = .bad (131, a.length) ∨ ∃ m g, parse a = .ok m ∧ f = m.app g) := by
  have hb : ∀ {ls : List (List (List UInt8))} {e : Int} {j : Nat}, parse ls = .bad (e, j) ↔ chk 0 0 0 ls = some (e, j) := by
    intro ls e j
    unfold parse
    cases hc : chk 0 0 0 ls with
    | none => simp
    | some x => simp
  rcases chk_split a 0 0 0 with ⟨e', j', h1, h2⟩ | ⟨o', m', h2⟩
  · have ha := h2 []
    rw [List.append_nil] at ha
    refine ⟨fun e j h => ?_, fun f h => ?_⟩
    · rw [hb, h2 r] at h
      right
      rw [hb, ha, h]
    · have := hb.2 (h2 r)
      rw [this] at h
      cases h
  · have ha := h2 []
    rw [List.append_nil, Nat.zero_add] at ha
    refine ⟨fun e j h => ?_, fun f h => ?_⟩
    · rw [hb, h2 r, Nat.zero_add] at h
      left
      exact (chk_at r o' m' a.length e j h).1
    · by_cases ho : 0 < o'
      · left
        rw [hb, ha, chk, if_pos ho]
      · right
        have hn : chk 0 0 0 a = none := by rw [ha, chk, if_neg ho]
        have hp : parse a = .ok (unt (a.length + 1) a).1 := by unfold parse; rw [hn]
        obtain ⟨m1, m2⟩ := parse_ok hp
        obtain ⟨f1, f2⟩ := parse_ok h
        have m3 := (may_iff.1 m1).1
        have f3 := (may_iff.1 f1).1
        obtain ⟨g, hg⟩ := all_prefix (unt (a.length + 1) a).1 f r m3 f3 (by rw [f2, m2])
        exact ⟨_, g, hp, hg⟩

/-- a line of words as it is written -/
def asLn (l : List (List UInt8)) : Ln Unit := ⟨(), false, l.map fun w => ⟨w, (), !plain w, false⟩⟩
def lineText (l : List (List UInt8)) : List UInt8 := inter (l.map show_) ++ [10]
/-- the text of a list -/
def print (f : Fo) : List UInt8 := (all f).flatMap lineText
theorem line_text (l : List (List UInt8)) : wline (asLn l) = lineText l := by
  unfold wline asLn lineText
  simp only [Bool.false_eq_true, if_false, List.nil_append, List.map_map]
  congr 2
  refine List.map_congr_left fun w _ => ?_
  simp only [Function.comp, wtext, Bool.false_eq_true, if_false]
  by_cases h : plain w = true
  · simp [h, show_]
  · simp [h, show_]
theorem print_write (f : Fo) : print f = write ((all f).map asLn) := by
  unfold print write
  rw [List.flatMap_map]
  congr 1
  funext l
  exact (line_text l).symm
theorem asLn_ok {l : List (List UInt8)} (h : l ≠ []) : LOk (asLn l) := by
  refine ⟨by simpa [asLn] using h, fun w hw => ?_⟩
  simp only [asLn, List.mem_map] at hw
  obtain ⟨u, -, rfl⟩ := hw
  by_cases hp : plain u = true
  · exact .inr (.inr ⟨rfl, by simp [hp], hp⟩)
  · exact .inr (.inl ⟨rfl, by simp [hp]⟩)
theorem all_ne : ∀ (f : Fo), ∀ l ∈ all f, l ≠ []
  | .nil, _, h => by cases h
  | .cons op a n b t, l, h => by
    rw [all] at h
    rcases List.mem_cons.1 h with rfl | h
    · simp [lineOf]
    · rcases List.mem_append.1 h with h | h
      · split at h
        · rcases List.mem_append.1 h with h | h
          · exact all_ne b l h
          · rw [List.mem_singleton] at h; subst h; simp
        · cases h
      · exact all_ne t l h
/-- P13.4: the text's words are the lines' -/
theorem lex_print (f : Fo) : ∃ ls, lex (print f) = .ok ls ∧ ls.map Ln.er = (all f).map asLn := by
  have h1 := lexE_write (ls := (all f).map asLn) (fun l hl => by
    obtain ⟨x, hx, rfl⟩ := List.mem_map.1 hl
    exact asLn_ok (all_ne f x hx))
  rw [← print_write, lexE_lex] at h1
  cases hm : lex (print f) with
  | bad a => rw [hm] at h1; cases h1
  | ok ls =>
    rw [hm] at h1
    simp only [R.map, R.ok.injEq] at h1
    refine ⟨ls, rfl, ?_⟩
    rw [h1, List.map_map]
    refine List.map_congr_left fun l _ => ?_
    simp [Function.comp, asLn, Ln.er, Ln.map, W.map]

end Go.Proofs.YtfgdlnidfkjbdaaDoor.Ac

namespace Go.Proofs.YtfgdlnidfkjbdaaDoor.Ac
open Lx

/-- a line as the landed code reads it: 0 is the end -/
def rdLine (l : List (List UInt8)) : Option (Int × List (List UInt8) × Int) := if l = [sEnd] then some (0, [], 0) else stmtOf l
/-- what a body says: its statements, how many were read, the next line's number, the lines behind it -/
def bod : Nat → Nat → Nat → Nat → List (List (List UInt8)) → R (Int × Nat) (Fo × Nat × Nat × List (List (List UInt8)))
  | 0, _, _, _, _ => .bad (0, 0)
  | _ + 1, o, m, i, [] => if 0 < o then .bad (131, i) else .ok (.nil, m, i, [])
  | f + 1, o, m, i, l :: r =>
    if l = [sEnd] then (if o = 0 then .bad (131, i) else .ok (.nil, m, i + 1, r))
    else match stmtOf l with
      | none => .bad (130, i)
      | some (op, a, n) =>
        if m = 256 then .bad (3, i)
        else if opens op = true then
          (if o = 8 then .bad (132, i)
          else match bod f (o + 1) (m + 1) (i + 1) r with
            | .bad e => .bad e
            | .ok (b, m', i', r') => match bod f o m' i' r' with
              | .bad e => .bad e
              | .ok (t, x) => .ok (.cons op a n b t, x))
        else match bod f o (m + 1) (i + 1) r with
          | .bad e => .bad e
          | .ok (t, x) => .ok (.cons op a n .nil t, x)
theorem unt_nil (k : Nat) : unt k [] = (.nil, []) := by cases k <;> rfl
/-- bodies one in another, and the document's way -/
theorem bod_chk : ∀ (f : Nat) (ls : List (List (List UInt8))) (o m i : Nat), ls.length < f → o ≤ 8 → m ≤ 256 →
    (∀ e, bod f o m i ls = .bad e → chk o m i ls = some e) ∧
    (∀ t m' i' r, bod f o m i ls = .ok (t, m', i', r) → m' ≤ 256 ∧ i' + r.length = i + ls.length ∧ r.length ≤ ls.length ∧ (0 < o → r.length < ls.length) ∧ (o = 0 → r = [] ∧ chk o m i ls = none) ∧ (0 < o → chk o m i ls = chk (o - 1) m' i' r) ∧ ∀ k, ls.length < k → unt k ls = (t, r))
  | 0, ls, _, _, _, h, _, _ => by omega
  | f + 1, [], o, m, i, _, _, _ => by
    rw [bod]
    refine ⟨fun e h => ?_, fun t m' i' r h => ?_⟩
    · split at h
      · rename_i ho
        rw [chk, if_pos ho]
        simpa using h
      · cases h
    · split at h
      · cases h
      · rename_i ho
        simp only [R.ok.injEq, Prod.mk.injEq] at h
        obtain ⟨rfl, rfl, rfl, rfl⟩ := h
        exact ⟨by assumption, rfl, Nat.le_refl _, fun h => absurd h ho, fun _ => ⟨rfl, by rw [chk, if_neg ho]⟩, fun h => absurd h ho, fun k _ => unt_nil k⟩
  | f + 1, l :: ls, o, m, i, hf, ho8, hm8 => by
    simp only [List.length_cons] at hf
    have hu : ∀ k, (l :: ls).length < k → ∃ k', k = k' + 1 ∧ ls.length < k' := fun k hk => ⟨k - 1, by simp at hk; omega, by simp at hk; omega⟩
    rw [bod, chk]
    by_cases he : l = [sEnd]
    · rw [if_pos he, if_pos he]
      by_cases h0 : o = 0
      · rw [if_pos h0, if_pos h0]
        exact ⟨fun e h => by simpa using h, fun t m' i' r h => by cases h⟩
      · rw [if_neg h0, if_neg h0]
        refine ⟨fun e h => by (cases h), fun t m' i' r h => ?_⟩
        simp only [R.ok.injEq, Prod.mk.injEq] at h
        obtain ⟨rfl, rfl, rfl, rfl⟩ := h
        refine ⟨hm8, by simp only [List.length_cons]; omega, by simp, fun _ => by simp, fun h => absurd h h0, fun _ => rfl, fun k hk => ?_⟩
        obtain ⟨k', rfl, -⟩ := hu k hk
        rw [unt, if_pos he]
    · rw [if_neg he, if_neg he]
      cases hs : stmtOf l with
      | none => exact ⟨fun e h => by simpa using h, fun t m' i' r h => by cases h⟩
      | some x =>
        obtain ⟨op, a, n⟩ := x
        simp only
        by_cases hm : m = 256
        · rw [if_pos hm, if_pos (show 256 < m + 1 by omega)]
          exact ⟨fun e h => by simpa using h, fun t m' i' r h => by cases h⟩
        · rw [if_neg hm, if_neg (show ¬ 256 < m + 1 by omega)]
          by_cases hop : opens op = true
          · rw [if_pos hop, if_pos hop]
            by_cases h8 : o = 8
            · rw [if_pos h8, if_pos h8]
              exact ⟨fun e h => by simpa using h, fun t m' i' r h => by cases h⟩
            · rw [if_neg h8, if_neg h8]
              have hb := bod_chk f ls (o + 1) (m + 1) (i + 1) (by omega) (by omega) (by omega)
              cases hbe : bod f (o + 1) (m + 1) (i + 1) ls with
              | bad e' =>
                simp only
                have := hb.1 e' hbe
                exact ⟨fun e h => by rw [this]; simpa using h, fun t m' i' r h => by cases h⟩
              | ok y =>
                obtain ⟨b, m1, i1, r1⟩ := y
                simp only
                obtain ⟨q1, q2, q3, q4, -, q5, q6⟩ := hb.2 b m1 i1 r1 hbe
                have q5 := q5 (by omega)
                rw [Nat.add_sub_cancel] at q5
                have ht := bod_chk f r1 o m1 i1 (by omega) ho8 q1
                rw [q5]
                cases hte : bod f o m1 i1 r1 with
                | bad e' =>
                  simp only
                  have := ht.1 e' hte
                  exact ⟨fun e h => by rw [this]; simpa using h, fun t m' i' r h => by cases h⟩
                | ok z =>
                  obtain ⟨t, m2, i2, r2⟩ := z
                  simp only
                  obtain ⟨s1, s2, s3, s4, s5, s6, s7⟩ := ht.2 t m2 i2 r2 hte
                  refine ⟨fun e h => by (cases h), fun t' m' i' r h => ?_⟩
                  simp only [R.ok.injEq, Prod.mk.injEq] at h
                  obtain ⟨rfl, rfl, rfl, rfl⟩ := h
                  refine ⟨s1, by simp only [List.length_cons]; omega, by simp only [List.length_cons]; omega, fun _ => by simp only [List.length_cons]; omega, s5, s6, fun k hk => ?_⟩
                  obtain ⟨k', rfl, hk'⟩ := hu k hk
                  rw [unt, if_neg he, hs]
                  simp only
                  rw [if_pos hop, q6 k' hk']
                  simp only
                  rw [s7 k' (by omega)]
          · rw [if_neg hop, if_neg hop]
            have ht := bod_chk f ls o (m + 1) (i + 1) (by omega) ho8 (by omega)
            cases hte : bod f o (m + 1) (i + 1) ls with
            | bad e' =>
              simp only
              have := ht.1 e' hte
              exact ⟨fun e h => by rw [this]; simpa using h, fun t m' i' r h => by cases h⟩
            | ok z =>
              obtain ⟨t, m2, i2, r2⟩ := z
              simp only
              obtain ⟨s1, s2, s3, s4, s5, s6, s7⟩ := ht.2 t m2 i2 r2 hte
              refine ⟨fun e h => by (cases h), fun t' m' i' r h => ?_⟩
              simp only [R.ok.injEq, Prod.mk.injEq] at h
              obtain ⟨rfl, rfl, rfl, rfl⟩ := h
              refine ⟨s1, by simp only [List.length_cons]; omega, by simp only [List.length_cons]; omega, fun h => by have := s4 h; simp only [List.length_cons]; omega, s5, s6, fun k hk => ?_⟩
              obtain ⟨k', rfl, hk'⟩ := hu k hk
              rw [unt, if_neg he, hs]
              simp only
              rw [if_neg hop, s7 k' hk']
/-- the landed code's reading is the document's -/
theorem bod_parse (f : Nat) (ls : List (List (List UInt8))) (hf : ls.length < f) :
    (∀ e, bod f 0 0 0 ls = .bad e → parse ls = .bad e) ∧ (∀ t x, bod f 0 0 0 ls = .ok (t, x) → parse ls = .ok t) := by
  have h := bod_chk f ls 0 0 0 hf (by omega) (by omega)
  refine ⟨fun e he => ?_, fun t x he => ?_⟩
  · unfold parse
    rw [h.1 e he]
  · obtain ⟨m', i', r⟩ := x
    obtain ⟨-, -, -, -, h5, -, h7⟩ := h.2 t m' i' r he
    unfold parse
    rw [(h5 rfl).2]
    simp only
    rw [h7 (ls.length + 1) (by omega)]
theorem stmtOf_op {l : List (List UInt8)} {op : Int} {a : List (List UInt8)} {n : Int} (h : stmtOf l = some (op, a, n)) : 1 ≤ op ∧ op ≤ 12 := by
  have hk := (stmt_some h).2
  unfold ok1 at hk
  simp only [Bool.and_eq_true, decide_eq_true_eq] at hk
  have := word_of hk.1.1.1
  omega

/-- how many levels a list has -/
def ht : Fo → Nat
  | .nil => 0
  | .cons _ _ _ b t => max (1 + ht b) (ht t)
theorem ht_at : ∀ {f : Fo} {o : Int} {a : List (List UInt8)} {n : Int} {b r : Fo}, f = .cons o a n b r → 1 + ht b ≤ ht f ∧ ht r ≤ ht f := by
  intro f o a n b r e
  subst e
  rw [ht]
  omega
theorem ht_nil {f : Fo} (h : ht f = 0) : f = .nil := by
  cases f with
  | nil => rfl
  | cons _ _ _ _ _ => rw [ht] at h; omega
theorem ht_size : ∀ f : Fo, ht f ≤ size f
  | .nil => Nat.le_refl _
  | .cons _ _ _ b t => by
    have h1 := ht_size b
    have h2 := ht_size t
    rw [ht, size]
    omega
/-- a depth that counts each body that is there -/
def deepL : Fo → Nat
  | .nil => 0
  | .cons op _ _ b t => max (if opens op = true ∨ b ≠ .nil then 1 + deepL b else 0) (deepL t)
theorem deepL_one : ∀ {f : Fo}, one f = true → deepL f = deep f
  | .nil, _ => rfl
  | .cons op a n b t, h => by
    simp only [one, Bool.and_eq_true] at h
    obtain ⟨⟨⟨-, k2⟩, k3⟩, k4⟩ := h
    rw [deepL, deep, deepL_one k3, deepL_one k4]
    congr 1
    by_cases hop : opens op = true
    · rw [if_pos hop, if_pos (.inl hop)]
    · have hb : b = .nil := by
        rcases (by simpa using k2 : opens op = true ∨ b = .nil) with h | h
        · exact absurd h hop
        · exact h
      rw [if_neg hop, if_neg (by simp [hop, hb])]
theorem deepL_ht : ∀ f : Fo, deepL f ≤ ht f
  | .nil => Nat.le_refl _
  | .cons _ _ _ b t => by
    have h1 := deepL_ht b
    have h2 := deepL_ht t
    rw [ht, deepL]
    split <;> omega
/-- is a statement as the table says? of its body alone whether it may have one -/
def alone (op : Int) (a : List (List UInt8)) (n : Int) (b : Fo) : Bool := ok1 op a n && (opens op || decide (b = .nil))
/-- what may be, counted down: how many are left -/
def mayL : Fo → Nat → Nat → Option Nat
  | .nil, _, m => some m
  | .cons op a n b t, k, m =>
    if m = 0 ∨ alone op a n b = false then none
    else if opens op = true then (if k = 0 then none else (mayL b (k - 1) (m - 1)).bind fun m' => mayL t k m')
    else mayL t k (m - 1)
theorem mayL_eq : ∀ (f : Fo) (k m : Nat), mayL f k m = if one f = true ∧ deep f ≤ k ∧ size f ≤ m then some (m - size f) else none
  | .nil, k, m => by rw [mayL, if_pos ⟨rfl, Nat.zero_le _, Nat.zero_le _⟩]; rfl
  | .cons op a n b t, k, m => by
    rw [mayL]
    by_cases h1 : m = 0 ∨ alone op a n b = false
    · rw [if_pos h1, if_neg]
      rintro ⟨g1, g2, g3⟩
      rcases h1 with rfl | h1
      · rw [size] at g3; omega
      · simp only [one, Bool.and_eq_true] at g1
        unfold alone at h1
        rw [g1.1.1.1, g1.1.1.2] at h1
        cases h1
    · rw [if_neg h1]
      have h2 : m ≠ 0 := fun e => h1 (.inl e)
      have h3 : alone op a n b = true := by simpa using fun e => h1 (.inr e)
      unfold alone at h3
      simp only [Bool.and_eq_true] at h3
      have ho : one (.cons op a n b t) = (one b && one t) := by simp [one, h3.1, h3.2]
      simp only [ho, Bool.and_eq_true, size]
      by_cases hop : opens op = true
      · rw [if_pos hop, deep, if_pos hop]
        by_cases hk : k = 0
        · rw [if_pos hk, if_neg (by omega)]
        · rw [if_neg hk, mayL_eq b]
          by_cases hb : one b = true ∧ deep b ≤ k - 1 ∧ size b ≤ m - 1
          · rw [if_pos hb, Option.bind_some, mayL_eq t]
            by_cases ht : one t = true ∧ deep t ≤ k ∧ size t ≤ m - 1 - size b
            · rw [if_pos ht, if_pos ⟨⟨hb.1, ht.1⟩, by omega, by omega⟩]
              congr 1
              omega
            · rw [if_neg ht, if_neg (fun h => ht ⟨h.1.2, by omega, by omega⟩)]
          · rw [if_neg hb, Option.bind_none, if_neg (fun h => hb ⟨h.1.1, by omega, by omega⟩)]
      · rw [if_neg hop, deep, if_neg hop, mayL_eq t]
        have hb : b = .nil := by
          rcases (by simpa using h3.2 : opens op = true ∨ b = .nil) with h | h
          · exact absurd h hop
          · exact h
        subst hb
        simp only [one, size, true_and]
        by_cases ht : one t = true ∧ deep t ≤ k ∧ size t ≤ m - 1
        · rw [if_pos ht, if_pos ⟨ht.1, by omega, by omega⟩]
          congr 1
          omega
        · rw [if_neg ht, if_neg (fun h => ht ⟨h.1, by omega, by omega⟩)]
theorem mayL_may (f : Fo) : (mayL f 8 256).isSome = may f := by
  rw [mayL_eq, Bool.eq_iff_iff, may_iff]
  split
  · rename_i h
    simp only [Option.isSome_some, true_iff]
    exact ⟨h.1, h.2.2, h.2.1⟩
  · rename_i h
    simp only [Option.isSome_none, Bool.false_eq_true, false_iff]
    exact fun g => h ⟨g.1, g.2.2, g.2.1⟩

end Go.Proofs.YtfgdlnidfkjbdaaDoor.Ac
