/-
  ACTIONS BY DEFINITION: statements, lines, what may be; there and back. No program here.
-/
import Derived.Test.YtnobmgkdieaclaaGreatDoorKit
namespace Go.Proofs.YtnobmgkdieaclaaGreatDoor.Ac
open Lx

/-- statements one behind the other, each with its body -/
inductive Fo where
  | nil : Fo
  | cons (op : Int) (args : List (List UInt8)) (n : Int) (body rest : Fo) : Fo
deriving DecidableEq
namespace Fo
def app : Fo → Fo → Fo
  | nil, g => g
  | cons o a n b r, g => cons o a n b (r.app g)
def len : Fo → Nat
  | nil => 0
  | cons _ _ _ _ r => r.len + 1
def take : Nat → Fo → Fo
  | _, nil => nil
  | 0, cons _ _ _ _ _ => nil
  | k + 1, cons o a n b r => cons o a n b (r.take k)
theorem app_nil : ∀ f : Fo, f.app nil = f
  | nil => rfl
  | cons _ _ _ _ r => by rw [app, app_nil r]
theorem app_assoc : ∀ f g h : Fo, (f.app g).app h = f.app (g.app h)
  | nil, _, _ => rfl
  | cons _ _ _ _ r, g, h => by rw [app, app, app, app_assoc r]
theorem len_app : ∀ f g : Fo, (f.app g).len = f.len + g.len
  | nil, g => by simp [app, len]
  | cons _ _ _ _ r, g => by rw [app, len, len, len_app r]; omega
theorem take_app : ∀ f g : Fo, (f.app g).take f.len = f
  | nil, g => by cases g <;> simp [app, len, take]
  | cons _ _ _ _ r, g => by rw [app, len, take, take_app r]
end Fo

def sEnd : List UInt8 := [101, 110, 100]
/-- a kind's first word -/
def word (op : Int) : List UInt8 :=
  if op = 1 then [110, 101, 101, 100] else if op = 2 then [99, 97, 116] else if op = 3 then [116, 101, 120, 116] else if op = 4 then [117, 112, 112, 101, 114] else if op = 5 then [115, 111, 114, 116] else if op = 6 then [117, 110, 105, 113] else if op = 7 then [99, 111, 117, 110, 116] else if op = 8 then [119, 114, 105, 116, 101] else if op = 9 then [102, 97, 105, 108] else if op = 10 then [114, 101, 112, 101, 97, 116] else if op = 11 then [101, 97, 99, 104] else if op = 12 then [119, 104, 101, 110] else []
def opens (op : Int) : Bool := decide (op = 10 ∨ op = 11 ∨ op = 12)
/-- has a kind so many words? -/
def argsOk (op : Int) (k : Nat) : Bool :=
  if op = 1 ∨ op = 2 ∨ op = 8 ∨ op = 11 then decide (k = 1) else if op = 3 ∨ op = 9 then true else if op = 12 then decide (k = 2) else decide (k = 0)
/-- the kind of a first word -/
def opOf (w : List UInt8) : Option Int := [1, 2, 3, 4, 5, 6, 7, 8, 9, 10, 11, 12].find? fun op => decide (word op = w)
def digit (k : Nat) : UInt8 := UInt8.ofNat (48 + k)
/-- a number from 0 to 9999 in decimal digits -/
def digits (n : Nat) : List UInt8 :=
  if n < 10 then [digit n] else if n < 100 then [digit (n / 10), digit (n % 10)] else if n < 1000 then [digit (n / 100), digit (n / 10 % 10), digit (n % 10)] else [digit (n / 1000), digit (n / 100 % 10), digit (n / 10 % 10), digit (n % 10)]
def value (s : List UInt8) : Nat := s.foldl (fun n c => 10 * n + (c.toNat - 48)) 0
/-- a repeat's number -/
def number (s : List UInt8) : Option Nat :=
  if 1 ≤ s.length ∧ s.length ≤ 4 ∧ (s.all fun c => decide (48 ≤ c.toNat ∧ c.toNat ≤ 57)) = true ∧ value s ≤ 1000 ∧ digits (value s) = s then some (value s) else none
/-- a repeat's words -/
def repOf : List (List UInt8) → Option (Int × List (List UInt8) × Int)
  | [s] => (number s).map fun (n : Nat) => ((10 : Int), ([] : List (List UInt8)), (n : Int))
  | _ => none
/-- a statement of that kind, of these words -/
def stmtW (op : Int) (r : List (List UInt8)) : Option (Int × List (List UInt8) × Int) :=
  if op = 10 then repOf r else if argsOk op r.length = true then some (op, r, 0) else none
/-- a line as a statement without its body -/
def stmtOf : List (List UInt8) → Option (Int × List (List UInt8) × Int)
  | [] => none
  | w :: r => (opOf w).bind fun op => stmtW op r
theorem stmtOf_cons (w : List UInt8) (r : List (List UInt8)) : stmtOf (w :: r) = (opOf w).bind fun op => stmtW op r := rfl
/-- a statement's line -/
def lineOf (op : Int) (args : List (List UInt8)) (n : Int) : List (List UInt8) := word op :: (args ++ if op = 10 then [digits n.toNat] else [])
/-- is a statement as the table says, its body apart? -/
def ok1 (op : Int) (args : List (List UInt8)) (n : Int) : Bool := decide (word op ≠ []) && argsOk op args.length && decide (0 ≤ n ∧ n ≤ 1000) && decide (op = 10 ∨ n = 0)
/-- is each statement as the table says, in bodies too? -/
def one : Fo → Bool
  | .nil => true
  | .cons op args n b r => ok1 op args n && (opens op || decide (b = .nil)) && one b && one r
def size : Fo → Nat
  | .nil => 0
  | .cons _ _ _ b r => 1 + size b + size r
def deep : Fo → Nat
  | .nil => 0
  | .cons op _ _ b r => max (if opens op = true then 1 + deep b else 0) (deep r)
def may (f : Fo) : Bool := one f && decide (size f ≤ 256) && decide (deep f ≤ 8)
/-- the lines of a list -/
def all : Fo → List (List (List UInt8))
  | .nil => []
  | .cons op args n b r => lineOf op args n :: ((if opens op = true then all b ++ [[sEnd]] else []) ++ all r)
/-- the first error of lines -/
def chk (open_ many i : Nat) : List (List (List UInt8)) → Option (Int × Nat)
  | [] => if 0 < open_ then some (131, i) else none
  | l :: r =>
    if l = [sEnd] then (if open_ = 0 then some (131, i) else chk (open_ - 1) many (i + 1) r)
    else match stmtOf l with
      | none => some (130, i)
      | some (op, _, _) =>
        if 256 < many + 1 then some (3, i)
        else if opens op = true then (if open_ = 8 then some (132, i) else chk (open_ + 1) (many + 1) (i + 1) r)
        else chk open_ (many + 1) (i + 1) r
/-- the statements up to the end that closes them; and what stands behind it -/
def unt : Nat → List (List (List UInt8)) → Fo × List (List (List UInt8))
  | 0, ls => (.nil, ls)
  | _ + 1, [] => (.nil, [])
  | f + 1, l :: r =>
    if l = [sEnd] then (.nil, r)
    else match stmtOf l with
      | none => (.nil, r)
      | some (op, a, n) =>
        if opens op = true then (.cons op a n (unt f r).1 (unt f (unt f r).2).1, (unt f (unt f r).2).2)
        else (.cons op a n .nil (unt f r).1, (unt f r).2)
/-- what lines say -/
def parse (ls : List (List (List UInt8))) : R (Int × Nat) Fo :=
  match chk 0 0 0 ls with
  | some e => .bad e
  | none => .ok (unt (ls.length + 1) ls).1

theorem number_digits : ∀ n : Nat, n ≤ 1000 → number (digits n) = some n := by
  have h : ∀ n : Fin 1001, number (digits n.1) = some n.1 := by decide +kernel
  intro n hn
  exact h ⟨n, by omega⟩
theorem number_some {s : List UInt8} {n : Nat} (h : number s = some n) : s = digits n ∧ n ≤ 1000 := by
  unfold number at h
  split at h
  · rename_i hc
    simp only [Option.some.injEq] at h
    subst h
    exact ⟨hc.2.2.2.2.symm, hc.2.2.2.1⟩
  · cases h
theorem word_of {op : Int} (h : word op ≠ []) : op = 1 ∨ op = 2 ∨ op = 3 ∨ op = 4 ∨ op = 5 ∨ op = 6 ∨ op = 7 ∨ op = 8 ∨ op = 9 ∨ op = 10 ∨ op = 11 ∨ op = 12 := by
  apply Classical.byContradiction
  intro hn
  simp only [not_or] at hn
  obtain ⟨h1, h2, h3, h4, h5, h6, h7, h8, h9, h10, h11, h12⟩ := hn
  apply h
  unfold word
  rw [if_neg h1, if_neg h2, if_neg h3, if_neg h4, if_neg h5, if_neg h6, if_neg h7, if_neg h8, if_neg h9, if_neg h10, if_neg h11, if_neg h12]
theorem opOf_word {op : Int} (h : word op ≠ []) : opOf (word op) = some op := by
  rcases word_of h with rfl | rfl | rfl | rfl | rfl | rfl | rfl | rfl | rfl | rfl | rfl | rfl <;> decide
theorem opOf_some {w : List UInt8} {op : Int} (h : opOf w = some op) : w = word op ∧ word op ≠ [] := by
  unfold opOf at h
  have h1 := List.find?_some h
  have h2 := List.mem_of_find?_eq_some h
  simp only [decide_eq_true_eq] at h1
  refine ⟨h1.symm, ?_⟩
  simp only [List.mem_cons, List.not_mem_nil, or_false] at h2
  rcases h2 with rfl | rfl | rfl | rfl | rfl | rfl | rfl | rfl | rfl | rfl | rfl | rfl <;> decide
theorem opOf_end : opOf sEnd = none := by decide
theorem stmt_line {op : Int} {args : List (List UInt8)} {n : Int} (h : ok1 op args n = true) : stmtOf (lineOf op args n) = some (op, args, n) := by
  unfold ok1 at h
  simp only [Bool.and_eq_true, decide_eq_true_eq] at h
  obtain ⟨⟨⟨h1, h2⟩, h3, h4⟩, h5⟩ := h
  rw [lineOf, stmtOf_cons, opOf_word h1, Option.bind_some, stmtW]
  by_cases h10 : op = 10
  · subst h10
    rw [if_pos rfl, if_pos rfl]
    have ha : args = [] := by
      unfold argsOk at h2
      simp at h2
      exact h2
    subst ha
    rw [List.nil_append, repOf, number_digits _ (by omega)]
    simp only [Option.map_some, Option.some.injEq, Prod.mk.injEq, true_and]
    omega
  · rw [if_neg h10, if_neg h10, List.append_nil, if_pos h2]
    have : n = 0 := by omega
    rw [this]
theorem stmt_some {l : List (List UInt8)} {op : Int} {args : List (List UInt8)} {n : Int} (h : stmtOf l = some (op, args, n)) : l = lineOf op args n ∧ ok1 op args n = true := by
  cases l with
  | nil => cases h
  | cons w r =>
    rw [stmtOf_cons] at h
    cases ho : opOf w with
    | none => rw [ho] at h; cases h
    | some o =>
      rw [ho, Option.bind_some, stmtW] at h
      obtain ⟨rfl, hw⟩ := opOf_some ho
      split at h
      · rename_i h10
        subst h10
        unfold repOf at h
        split at h
        · rename_i s
          cases hn : number s with
          | none => rw [hn] at h; cases h
          | some m =>
            rw [hn] at h
            simp only [Option.map_some, Option.some.injEq, Prod.mk.injEq] at h
            obtain ⟨rfl, rfl, rfl⟩ := h
            obtain ⟨rfl, hm⟩ := number_some hn
            refine ⟨by simp [lineOf], ?_⟩
            unfold ok1
            simp only [Bool.and_eq_true, decide_eq_true_eq]
            exact ⟨⟨⟨hw, rfl⟩, by omega, by omega⟩, .inl trivial⟩
        · cases h
      · rename_i h10
        split at h
        · rename_i ha
          simp only [Option.some.injEq, Prod.mk.injEq] at h
          obtain ⟨rfl, rfl, rfl⟩ := h
          refine ⟨by simp [lineOf, h10], ?_⟩
          unfold ok1
          simp only [Bool.and_eq_true, decide_eq_true_eq]
          exact ⟨⟨⟨hw, ha⟩, by omega, by omega⟩, .inr trivial⟩
        · cases h
theorem line_ne {op : Int} {args : List (List UInt8)} {n : Int} (h : ok1 op args n = true) : lineOf op args n ≠ [sEnd] := by
  intro e
  have h1 := stmt_line h
  rw [e] at h1
  simp [stmtOf, opOf_end] at h1
theorem all_app : ∀ f g : Fo, all (f.app g) = all f ++ all g
  | .nil, _ => rfl
  | .cons op a n b r, g => by rw [Fo.app, all, all, all_app r g]; simp
theorem size_app : ∀ f g : Fo, size (f.app g) = size f + size g
  | .nil, g => by simp [Fo.app, size]
  | .cons _ _ _ _ r, g => by rw [Fo.app, size, size, size_app r g]; omega
theorem deep_app : ∀ f g : Fo, deep (f.app g) = max (deep f) (deep g)
  | .nil, g => by simp [Fo.app, deep]
  | .cons _ _ _ _ r, g => by rw [Fo.app, deep, deep, deep_app r g]; omega
theorem one_app : ∀ f g : Fo, one (f.app g) = (one f && one g)
  | .nil, g => by simp [Fo.app, one]
  | .cons _ _ _ _ r, g => by rw [Fo.app, one, one, one_app r g]; simp [Bool.and_assoc]

/-- the lines of a list that may be are gone over without an error -/
theorem chk_all : ∀ (f : Fo) (o m i : Nat) (r : List (List (List UInt8))), one f = true → o + deep f ≤ 8 → m + size f ≤ 256 → chk o m i (all f ++ r) = chk o (m + size f) (i + (all f).length) r
  | .nil, o, m, i, r, _, _, _ => by simp [all, size]
  | .cons op a n b t, o, m, i, r, h1, h2, h3 => by
    simp only [one, Bool.and_eq_true] at h1
    obtain ⟨⟨⟨k1, k2⟩, k3⟩, k4⟩ := h1
    rw [deep] at h2
    rw [size] at h3
    rw [all, List.cons_append, chk, if_neg (line_ne k1), stmt_line k1]
    simp only
    rw [if_neg (by omega)]
    by_cases ho : opens op = true
    · rw [if_pos ho] at h2
      rw [if_pos ho, if_neg (by omega), if_pos ho]
      rw [show all b ++ [[sEnd]] ++ all t ++ r = all b ++ ([sEnd] :: (all t ++ r)) by simp]
      rw [chk_all b (o + 1) (m + 1) (i + 1) _ k3 (by omega) (by omega), chk, if_pos rfl, if_neg (by omega), Nat.add_sub_cancel]
      rw [chk_all t o (m + 1 + size b) _ r k4 (by omega) (by omega)]
      congr 1
      · rw [size]; omega
      · simp only [List.length_cons, List.length_append, List.length_nil]; omega
    · rw [if_neg ho, if_neg ho, List.nil_append]
      have hb : b = .nil := by
        rcases (by simpa using k2 : opens op = true ∨ b = .nil) with h | h
        · exact absurd h ho
        · exact h
      subst hb
      rw [chk_all t o (m + 1) (i + 1) r k4 (by omega) (by simp only [size] at h3; omega)]
      congr 1
      · simp only [size]; omega
      · simp only [List.length_cons]; omega
/-- they are read as that list -/
theorem unt_all : ∀ (k : Nat) (f : Fo) (r : List (List (List UInt8))), one f = true → (all f).length < k → unt k (all f ++ [sEnd] :: r) = (f, r) ∧ unt k (all f) = (f, [])
  | 0, _, _, _, h => by omega
  | k + 1, .nil, r, _, _ => by simp [all, unt]
  | k + 1, .cons op a n b t, r, h1, h2 => by
    simp only [one, Bool.and_eq_true] at h1
    obtain ⟨⟨⟨k1, k2⟩, k3⟩, k4⟩ := h1
    rw [all, List.length_cons, List.length_append] at h2
    rw [all, List.cons_append, unt, unt, if_neg (line_ne k1), if_neg (line_ne k1), stmt_line k1]
    simp only
    by_cases ho : opens op = true
    · simp only [if_pos ho, List.length_append, List.length_cons, List.length_nil] at h2 ⊢
      have e1 : ∀ x, unt k (all b ++ [[sEnd]] ++ x) = (b, x) := fun x => by
        rw [show all b ++ [[sEnd]] ++ x = all b ++ [sEnd] :: x by simp]
        exact (unt_all k b x k3 (by omega)).1
      have e2 := unt_all k t r k4 (by omega)
      rw [List.append_assoc (all b ++ [[sEnd]]), e1, e1]
      simp only
      rw [e2.1, e2.2]
      exact ⟨rfl, rfl⟩
    · have hb : b = .nil := by
        rcases (by simpa using k2 : opens op = true ∨ b = .nil) with h | h
        · exact absurd h ho
        · exact h
      subst hb
      simp only [if_neg ho, List.nil_append, List.length_nil, Nat.zero_add] at h2 ⊢
      have e2 := unt_all k t r k4 (by omega)
      rw [e2.1, e2.2]
      exact ⟨rfl, rfl⟩
/-- P13.4: lines of a list that may be are read as it -/
theorem parse_all {f : Fo} (h : may f = true) : parse (all f) = .ok f := by
  unfold may at h
  simp only [Bool.and_eq_true, decide_eq_true_eq] at h
  unfold parse
  have h1 := chk_all f 0 0 0 [] h.1.1 (by omega) (by omega)
  rw [List.append_nil] at h1
  rw [h1, chk, if_neg (by omega)]
  simp only
  rw [(unt_all ((all f).length + 1) f [] h.1.1 (Nat.lt_succ_self _)).2]
/-- lines that are gone over without an error are those of a list, and what stands behind its end -/
theorem chk_none : ∀ (k : Nat) (ls : List (List (List UInt8))) (o m i : Nat), ls.length ≤ k → o ≤ 8 → chk o m i ls = none → ∃ f, one f = true ∧ o + deep f ≤ 8 ∧ (size f = 0 ∨ m + size f ≤ 256) ∧ ((o = 0 ∧ ls = all f) ∨ (0 < o ∧ ∃ r, ls = all f ++ [sEnd] :: r ∧ chk (o - 1) (m + size f) (i + (all f).length + 1) r = none))
  | _, [], o, m, i, _, ho, h => by
    rw [chk] at h
    split at h
    · cases h
    · exact ⟨.nil, rfl, by simp [deep]; exact ho, .inl rfl, .inl ⟨by omega, rfl⟩⟩
  | 0, l :: ls, _, _, _, hk, _, _ => by simp at hk
  | k + 1, l :: ls, o, m, i, hk, ho, h => by
    simp only [List.length_cons] at hk
    rw [chk] at h
    split at h
    · rename_i he
      split at h
      · cases h
      · refine ⟨.nil, rfl, by simp [deep]; exact ho, .inl rfl, .inr ⟨by omega, ls, by rw [he]; rfl, ?_⟩⟩
        simpa [size, all] using h
    · cases hs : stmtOf l with
      | none => rw [hs] at h; cases h
      | some x =>
        obtain ⟨op, a, n⟩ := x
        rw [hs] at h
        simp only at h
        obtain ⟨rfl, hok⟩ := stmt_some hs
        split at h
        · cases h
        · rename_i hm
          split at h
          · rename_i hop
            split at h
            · cases h
            · rename_i ho8
              obtain ⟨b, b1, b2, b3, b4⟩ := chk_none k ls (o + 1) (m + 1) (i + 1) (by omega) (by omega) h
              rcases b4 with ⟨h0, -⟩ | ⟨-, r, rfl, hr⟩
              · omega
              · rw [Nat.add_sub_cancel] at hr
                obtain ⟨t, t1, t2, t3, t4⟩ := chk_none k r o (m + 1 + size b) _ (by simp only [List.length_append, List.length_cons] at hk; omega) ho hr
                refine ⟨.cons op a n b t, by simp [one, hok, hop, b1, t1], by rw [deep, if_pos hop]; omega, .inr (by rw [size]; omega), ?_⟩
                rcases t4 with ⟨h0, rfl⟩ | ⟨h0, r', rfl, hr'⟩
                · exact .inl ⟨h0, by rw [all, if_pos hop]; simp⟩
                · refine .inr ⟨h0, r', by rw [all, if_pos hop]; simp, ?_⟩
                  rw [← hr']
                  congr 1
                  · rw [size]; omega
                  · rw [all, if_pos hop]; simp only [List.length_cons, List.length_append, List.length_nil]; omega
          · rename_i hop
            obtain ⟨t, t1, t2, t3, t4⟩ := chk_none k ls o (m + 1) (i + 1) (by omega) ho h
            refine ⟨.cons op a n .nil t, by simp [one, hok, t1], by rw [deep, if_neg hop]; omega, .inr (by simp only [size]; omega), ?_⟩
            rcases t4 with ⟨h0, rfl⟩ | ⟨h0, r', rfl, hr'⟩
            · exact .inl ⟨h0, by rw [all, if_neg hop]; rfl⟩
            · refine .inr ⟨h0, r', by rw [all, if_neg hop]; rfl, ?_⟩
              rw [← hr']
              congr 1
              · simp only [size]; omega
              · rw [all, if_neg hop]; simp only [List.length_cons, List.nil_append]; omega
/-- P13.4: what is read may be, and its lines are the lines -/
theorem parse_ok {ls : List (List (List UInt8))} {f : Fo} (h : parse ls = .ok f) : may f = true ∧ all f = ls := by
  unfold parse at h
  cases hc : chk 0 0 0 ls with
  | some e => rw [hc] at h; cases h
  | none =>
    obtain ⟨g, g1, g2, g3, g4⟩ := chk_none ls.length ls 0 0 0 (Nat.le_refl _) (by omega) hc
    rcases g4 with ⟨-, rfl⟩ | ⟨h0, -⟩
    · have hmay : may g = true := by
        unfold may
        simp only [Bool.and_eq_true, decide_eq_true_eq]
        exact ⟨⟨g1, by omega⟩, by omega⟩
      have := parse_all hmay
      unfold parse at this
      rw [this] at h
      cases h
      exact ⟨hmay, rfl⟩
    · omega

end Go.Proofs.YtnobmgkdieaclaaGreatDoor.Ac

namespace Go.Proofs.YtnobmgkdieaclaaGreatDoor
open Go.RowKit

theorem bV_oneCell (l : List UInt8) : ∀ u ∈ bV l, u.oneCell' = true := by
  intro u hu
  simp only [bV, List.mem_map] at hu
  obtain ⟨b, _, rfl⟩ := hu
  rfl

/-- the cells that an append copies -/
theorem byts_news {w : World} {b o : Nat} {l : List UInt8} (h : ∀ j, j < l.length → w.cell? ⟨b, o + j, none⟩ = some (.int .u8 ((l.getD j 0).toNat : Int))) :
    ∀ j u, (bV l)[j]? = some u → w.cell? ((⟨b, o, none⟩ : Addr).add j) = some u := by
  intro j u hu
  have hj : j < l.length := by
    rcases Nat.lt_or_ge j l.length with h | h
    · exact h
    · rw [List.getElem?_eq_none (by rw [bV_length]; exact h)] at hu; cases hu
  have e : (⟨b, o, none⟩ : Addr).add j = ⟨b, o + j, none⟩ := by unfold Addr.add; split <;> simp_all
  rw [e, h j hj]
  simp only [bV, List.getElem?_map, List.getElem?_eq_getElem hj, Option.map_some, Option.some.injEq] at hu
  rw [← hu]
  simp [List.getD, List.getElem?_eq_getElem hj]

/-- 'append(out, b...)' on a row of the call's own, b whatever bytes -/
theorem wpList_append_byts {ops : Array Oper} {rest : List Oper} {o : Oper} {a : Act} {Q : Exit → Act → World → Prop} {w : World} (hgd : o.guard = none) (s x : Operand)
    (ho : o.op = .call { callee := .builtin .append, args := #[s, x], argTypes := #[78, 78] }) (base B : Nat) (v vx : Value) (l m : List UInt8)
    (hs : a.eval s = v) (hown : Own w base v l) (hx : a.eval x = vx) (hb : Byts w B vx m) (hlen : Hid (l.length + m.length ≤ 1099511627800)) (hbase : base ≤ w.heap.size)
    (h : ∀ v' w', Own w' base v' (l ++ m) → w.grownBy w' v.ownBlock → wpList Tryz.prog ops Q rest (a.put o.dst v') w') :
    wpList Tryz.prog ops Q (o :: rest) a w := by
  obtain ⟨i0, hi, hz0, hz1, hz2⟩ := info_parts info5
  have hl := hlen.out
  obtain ⟨ad, c, rfl, hle, hn, hcells⟩ := hb
  cases ad with
  | none =>
    have hc0 := hn rfl
    subst hc0
    have hm : m = [] := List.eq_nil_of_length_eq_zero (by omega)
    subst hm
    refine wpList_append_own_none hgd s x 78 ho base 5 i0 1 Tryz.underlying78 hi v l.length (bV l) hs hown hx ?_
    refine h v w ?_ (World.grownBy.refl w _)
    rw [List.append_nil]; exact hown
  | some ad =>
    refine wpList_append_own _ hgd s x 78 ho base 5 i0 (.int .u8 0) 1 1 Tryz.underlying78 hi hz0 hz1 hz2 rfl (by decide) v l.length (bV l) hs hown ad m.length c (bV m) hx (by rw [bV_length, Nat.mul_one]) ?_ (bV_oneCell m) ?_ ?_ hbase ?_
    · by_cases hne : m = []
      · subst hne; intro j u hu; simp [bV] at hu
      · obtain ⟨b, o', e, _, hcell⟩ := hcells hne
        simp only [Option.some.injEq] at e
        subst e
        exact byts_news hcell
    · unfold maxLen; omega
    · omega
    · intro v' w' h1 h2 _
      refine h v' w' ?_ h2
      unfold Own; rw [bV_append, List.length_append]; exact h1

/-- one byte more: 'append(out, b)' on a row of the call's own -/
theorem wpList_append_byte {ops : Array Oper} {rest : List Oper} {o : Oper} {a : Act} {Q : Exit → Act → World → Prop} (w0 : World) (hgd : o.guard = none) (s x : Operand)
    (ho : o.op = .call { callee := .builtin .append, args := #[s, x], argTypes := #[78, 78] }) (base : Nat) (v : Value) (l : List UInt8) (c : Int) (b : UInt8) (hc : c = (b.toNat : Int))
    (hs : a.eval s = v) (hown : Own w0 base v l) (hx : a.eval x = .slice (some ⟨w0.heap.size, 0, none⟩) 1 1) (hlen : Hid (l.length ≤ 1099511627800)) (hbase : base ≤ w0.heap.size)
    (h : ∀ v' w', Own w' base v' (l ++ [b]) → Below base w0 w' → wpList Tryz.prog ops Q rest (a.put o.dst v') w') :
    wpList Tryz.prog ops Q (o :: rest) a (w0.alloc (.cells #[.int .u8 c] 5)) := by
  obtain ⟨i0, hi, hz0, hz1, hz2⟩ := info_parts info5
  have hl := hlen.out
  subst hc
  refine wpList_append_own _ hgd s x 78 ho base 5 i0 (.int .u8 0) 1 1 Tryz.underlying78 hi hz0 hz1 hz2 rfl (by decide) v l.length (bV l) hs (hown.alloc _) ⟨w0.heap.size, 0, none⟩ 1 1 [.int .u8 (b.toNat : Int)] hx rfl
    (cell_one_new _ _ _) ?_ ?_ ?_ ?_ ?_
  · intro u hu; simp at hu; subst hu; rfl
  · unfold maxLen; omega
  · omega
  · simp; omega
  · intro v' w' h1 h2 _
    refine h v' w' ?_ ?_
    · unfold Own; rw [bV_append, List.length_append]; exact h1
    · refine ((Below.refl base w0).alloc hbase _).grown h2 (by simp; omega) fun k hk => ?_
      exact (World.ownsRow.lt hown k hk).1

/-- bytes that are laid out in the text -/
theorem byts_lit (w : World) (cs : Array Value) (l : List UInt8) (n : Nat) (h : cs.toList = bV l) (hn : n = l.length) : Byts (w.alloc (.cells cs 5)) (w.heap.size + 1) (.slice (some ⟨w.heap.size, 0, none⟩) n n) l := by
  subst hn
  refine ⟨_, _, rfl, Nat.le_refl _, (fun h => by cases h), fun _ => ⟨w.heap.size, 0, rfl, by omega, fun j hj => ?_⟩⟩
  have h1 := cell_of_row (w.alloc (.cells cs 5)) w.heap.size (0 + j) cs 5 (0, 0) (heap_alloc_new w _)
  rw [h1, ← Array.getElem?_toList, h]
  simp [bV, List.getD, List.getElem?_eq_getElem hj]
theorem Byts.alloc {w : World} {B : Nat} {v : Value} {l : List UInt8} (h : Byts w B v l) (hB : B ≤ w.heap.size) (o : Obj) : Byts (w.alloc o) B v l := h.below ((Below.refl w.heap.size w).alloc (Nat.le_refl _) o) hB
theorem Own.below {w w' : World} {base B : Nat} {v : Value} {l : List UInt8} (h : Own w base v l) (hb : Below B w w') (hB : w.heap.size ≤ B) : Own w' base v l :=
  World.ownsRow.kept h (row := none) ⟨hb.os, hb.tape, hb.output, hb.size, fun k hk _ => hb.block k (by omega)⟩ (by cases hv : v.ownBlock <;> simp)
theorem below_grow {B : Nat} {a w w' : World} {p : Nat} (h : Below B a w) (hg : w.grownBy w' (some p)) (hB : B ≤ w.heap.size) (hp : B ≤ p) : Below B a w' :=
  h.grown hg hB fun k hk => by simp only [Option.some.injEq] at hk; omega

/-- a list of bytes as a text -/
def str (l : List UInt8) : ByteArray := ⟨l.toArray⟩
theorem str_toList (l : List UInt8) : (str l).data.toList = l := by simp [str]
theorem str_size (l : List UInt8) : (str l).size = l.length := by simp [str, ByteArray.size]
theorem str_of (s : ByteArray) : str s.data.toList = s := by cases s; simp [str]

theorem strOfNums_str (t : List UInt8) : strOfNums (t.map fun b => (b.toNat : Int)) = str t := by
  unfold strOfNums str
  congr 1
  rw [List.map_map]
  congr 1
  conv => rhs; rw [← List.map_id t]
  apply List.map_congr_left
  intro x _
  simp

theorem conv_byts {W : World} {B : Nat} {v : Value} {t : List UInt8} (h : Byts W B v t) : (convert 78 9 v).run Tryz.prog W = .ok (.string (str t)) W := by
  obtain ⟨ad, c, rfl, _, _, hc⟩ := h
  by_cases hne : t = []
  · subst hne
    cases ad with
    | none => rw [run_convert_bytes_nil (P := Tryz.prog) W 78 5 Tryz.underlying78 Tryz.underlying5 _ _ 9 Tryz.underlying9]; rfl
    | some x =>
      rw [run_convert_bytes_string W 78 9 5 _ _ c Tryz.underlying78 Tryz.underlying5 Tryz.underlying9]
      have hl := run_loadCells_list (P := Tryz.prog) W x [] (fun j v hj => by simp at hj)
      have := run_bytesToString (P := Tryz.prog) W x 0 c [] (by simpa using hl)
      rw [List.length_nil, this]
      rfl
  · obtain ⟨b, o, rfl, _, hcell⟩ := hc hne
    have := run_convert_bytes_arg (P := Tryz.prog) W 78 5 Tryz.underlying78 Tryz.underlying5 b o t.length c (t.map fun b => (b.toNat : Int)) (by simp) (fun i hi => by
      rw [hcell i hi]
      simp [List.getD, List.getElem?_eq_getElem hi]) 9 Tryz.underlying9
    rw [this, strOfNums_str]

/-- a part of bytes -/
theorem Byts.sub {W : World} {B g n cap : Nat} {t : List UInt8} (h : Byts W B (.slice (some ⟨g, 0, none⟩) t.length n) t) (l m : Nat) (hlm : l + m ≤ t.length) (hcap : l + m ≤ cap) :
    Byts W B (.slice (if cap = l then some ⟨g, 0, none⟩ else some ⟨g, l, none⟩) (l + m - l) (cap - l)) ((t.drop l).take m) := by
  have e : l + m - l = ((t.drop l).take m).length := by simp; omega
  rw [e]
  refine ⟨if cap = l then some ⟨g, 0, none⟩ else some ⟨g, l, none⟩, cap - l, rfl, by rw [← e]; omega, (fun h => by split at h <;> cases h), fun hne => ?_⟩
  have hm : m ≠ 0 := by intro h0; subst h0; simp at hne
  rw [if_neg (by omega)]
  obtain ⟨ad, c', hv, _, _, h⟩ := h
  simp only [Value.slice.injEq] at hv
  obtain ⟨rfl, _, rfl⟩ := hv
  have htn : t ≠ [] := by intro e; subst e; simp at hne
  obtain ⟨b, o, ha, hb, hcell⟩ := h htn
  simp only [Option.some.injEq, Addr.mk.injEq] at ha
  obtain ⟨rfl, rfl, _⟩ := ha
  refine ⟨g, l, rfl, hb, fun j hj => ?_⟩
  have hjm : j < m := by simp at hj; omega
  have := hcell (l + j) (by omega)
  rw [Nat.zero_add] at this
  rw [this]
  simp [List.getD, hjm, List.getElem?_drop]

theorem Byts.kept {w w' : World} {B g n c : Nat} {o : Nat} {l : List UInt8} {row : Option Nat} (h : Byts w B (.slice (some ⟨g, o, none⟩) n c) l) (hg : w.grownBy w' row) (hB : B ≤ w.heap.size) (hne : some g ≠ row) : Byts w' B (.slice (some ⟨g, o, none⟩) n c) l := by
  obtain ⟨ad, c', hv, hle, hn0, h⟩ := h
  simp only [Value.slice.injEq] at hv
  obtain ⟨rfl, rfl, rfl⟩ := hv
  refine ⟨_, _, rfl, hle, hn0, fun hn => ?_⟩
  obtain ⟨b, o', ha, hb, hcell⟩ := h hn
  simp only [Option.some.injEq, Addr.mk.injEq, and_true] at ha
  obtain ⟨rfl, rfl⟩ := ha
  exact ⟨g, o, rfl, hb, fun j hj => (World.cell?_of_block (a := ⟨g, o + j, none⟩) (hg.block g (Nat.lt_of_lt_of_le hb hB) hne)).trans (hcell j hj)⟩

theorem beq_str (la lb : List UInt8) : ((str la).toList == (str lb).toList) = decide (la = lb) := by
  rw [ByteArray.toList_eq, ByteArray.toList_eq, str_toList, str_toList, Bool.eq_iff_iff]
  simp

theorem Byts.head {w : World} {B : Nat} {ad : Option Addr} {n c : Nat} {l : List UInt8} (h : Byts w B (.slice ad n c) l) (m : Nat) (hm : m ≤ l.length) : Byts w B (.slice ad m c) (l.take m) := by
  obtain ⟨ad', c', hv, hle, hn0, h⟩ := h
  simp only [Value.slice.injEq] at hv
  obtain ⟨rfl, rfl, rfl⟩ := hv
  have e : (l.take m).length = m := by simp; omega
  refine ⟨ad, c, by rw [e], by omega, hn0, fun hne => ?_⟩
  have hl : l ≠ [] := by intro h0; subst h0; simp at hne
  obtain ⟨b, o, ha, hb, hcell⟩ := h hl
  refine ⟨b, o, ha, hb, fun j hj => ?_⟩
  rw [hcell j (by omega)]
  simp [List.getD, show j < m by omega]

theorem addr_add_zero (x : Addr) : x.add 0 = x := rfl
theorem map_add_zero (ad : Option Addr) : ad.map (fun x => x.add 0) = ad := by cases ad <;> rfl
theorem size5 (w : World) : (Go.sizeOf 5).run Tryz.prog w = .ok 1 w := by
  obtain ⟨i0, hi, hz0, hz1, hz2⟩ := info_parts info5
  simp [sizeOf, typeInfo, hi, hz1]
theorem elem27 : Tryz.prog.elem 78 = 5 := by simp [Program.elem, Tryz.underlying78]

theorem slice_head (W : World) (ad : Option Addr) (n c m : Nat) (hm : m ≤ c) :
    (Instr.slice 78 (.slice ad n c) none (some (.int .i64 (m : Int))) none).run Tryz.prog W = .ok (.slice ad m c) W := by
  rw [run_slice_h W 78 ad n c (by rw [elem27]; exact Tryz.underlying78) .i64 (m : Int) (by omega) (by omega), elem27, size5]
  simp [Result.andThen, sliced, addr_add_zero]

theorem Own_zeros (w : World) (n c : Nat) (hn : n ≤ c) (hc : c ≤ maxLen) : Own (w.alloc (.cells (Builtin.zeroCells (Value.int .u8 0).cells n ++ Builtin.zeroCells (Value.int .u8 0).cells (c - n)) 5)) w.heap.size (.slice (some ⟨w.heap.size, 0, none⟩) 0 c) [] := by
  refine ⟨by simp [bV], .inr ⟨w.heap.size, c, _, rfl, Nat.le_refl _, heap_alloc_new w _, Nat.zero_le _, hc, ?_, by simp [bV]⟩⟩
  rw [Array.size_append, size_zeroCells, size_zeroCells]
  have : (Value.int IntKind.u8 0).cells.size = 1 := rfl
  rw [this]
  omega

theorem addr_add (b o m : Nat) : (⟨b, o, none⟩ : Addr).add m = ⟨b, o + m, none⟩ := by unfold Addr.add; split <;> simp_all

/-- 's[m:]' -/
theorem slice_tail {w : World} {B : Nat} {ad : Option Addr} {n c : Nat} {l : List UInt8} (h : Byts w B (.slice ad n c) l) (m : Nat) (hm : m ≤ l.length) :
    ∃ A, (∀ W : World, (Instr.slice 78 (.slice ad n c) (some (.int .i64 (m : Int))) none none).run Tryz.prog W = .ok (.slice A (n - m) (c - m)) W) ∧ Byts w B (.slice A (n - m) (c - m)) (l.drop m) := by
  obtain ⟨ad', c', hv, hle, hn0, h⟩ := h
  simp only [Value.slice.injEq] at hv
  obtain ⟨rfl, rfl, rfl⟩ := hv
  refine ⟨if c = m then ad else ad.map (·.add m), fun W => ?_, if c = m then ad else ad.map (·.add m), c - m, by rw [List.length_drop], by rw [List.length_drop]; omega, fun h0 => ?_, fun hne => ?_⟩
  · rw [run_slice_l W 78 ad l.length c (by rw [elem27]; exact Tryz.underlying78) .i64 (m : Int) (by omega) (by omega), elem27, size5]
    simp [Result.andThen, sliced]
  · by_cases hcm : c = m
    · omega
    · rw [if_neg hcm] at h0
      cases ad with
      | none => have := hn0 rfl; omega
      | some x => simp at h0
  · have hlm : m < l.length := by
      rcases Nat.lt_or_ge m l.length with h | h
      · exact h
      · exact absurd (List.drop_eq_nil_of_le h) hne
    obtain ⟨b, o, rfl, hb, hcell⟩ := h (by intro e; subst e; simp at hlm)
    rw [if_neg (by omega)]
    refine ⟨b, o + m, by simp [addr_add], hb, fun j hj => ?_⟩
    rw [List.length_drop] at hj
    rw [Nat.add_assoc, hcell (m + j) (by omega)]
    simp [List.getD, List.getElem?_drop]

/-- block g holds just the bytes X, and may be written -/
def Blk (w : World) (g : Nat) (X : List UInt8) : Prop := w.heap[g]? = some (.cells (bV X).toArray 5 (0, 0))

theorem Blk.cell {w : World} {g : Nat} {X : List UInt8} (h : Blk w g X) (j : Nat) (hj : j < X.length) : w.cell? ⟨g, j, none⟩ = some (.int .u8 ((X.getD j 0).toNat : Int)) := by
  rw [cell_of_row w g j _ 5 (0, 0) h]
  simp [bV, List.getD, List.getElem?_eq_getElem hj]
theorem Blk.free {w : World} {g : Nat} {X : List UInt8} (h : Blk w g X) (j : Nat) : w.frozen? ⟨g, j, none⟩ = false := by
  unfold Blk at h
  simp [World.frozen?, h]
theorem Blk.lt {w : World} {g : Nat} {X : List UInt8} (h : Blk w g X) : g < w.heap.size := by
  unfold Blk at h
  rcases Nat.lt_or_ge g w.heap.size with h1 | h1
  · exact h1
  · rw [Array.getElem?_eq_none h1] at h; cases h
theorem Blk.set {w : World} {g : Nat} {X : List UInt8} (h : Blk w g X) (j : Nat) (b : UInt8) : Blk (w.setCell ⟨g, j, none⟩ (.int .u8 (b.toNat : Int))) g (X.set j b) := by
  have hlt := h.lt
  unfold Blk at h ⊢
  have h1 : w.heap[g] = .cells (bV X).toArray 5 (0, 0) := by
    rw [Array.getElem?_eq_getElem hlt] at h
    exact Option.some.inj h
  have h2 : bV (X.set j b) = (bV X).set j (.int .u8 (b.toNat : Int)) := by simp [bV, List.map_set]
  rw [h2]
  simp [World.setCell, hlt]
  rw [Array.getElem_modify_self, h1]
  simp
theorem Blk.below {w w' : World} {B g : Nat} {X : List UInt8} (h : Blk w g X) (hb : Below B w w') (hg : g < B) : Blk w' g X := (hb.block g hg).trans h
theorem Blk.byts {w : World} {g : Nat} {X : List UInt8} (h : Blk w g X) (off n c : Nat) (hn : off + n ≤ X.length) (hc : n ≤ c) : Byts w (g + 1) (.slice (some ⟨g, off, none⟩) n c) ((X.drop off).take n) := by
  have e : ((X.drop off).take n).length = n := by simp; omega
  refine ⟨_, c, by rw [e], by rw [e]; exact hc, (fun h => by cases h), fun _ => ⟨g, off, rfl, by omega, fun j hj => ?_⟩⟩
  rw [e] at hj
  rw [h.cell (off + j) (by omega)]
  simp [List.getD, hj, List.getElem?_drop]

theorem zeros_cells (n : Nat) : madeCells (Value.int .u8 0).cells n = (bV (List.replicate n 0)).toArray := by
  apply Array.ext
  · simp [size_madeCells, bV]
  · intro j h1 h2
    have hz : (Value.int IntKind.u8 0).cells = #[Value.int .u8 0] := rfl
    simp [madeCells, bV, hz, Nat.mod_one]

/-- 'make([]byte, n)' -/
theorem make_byts (z : Int) (n : Nat) (hz : z = (n : Int)) (hn : n ≤ 1099511627800) (W : World) :
    (Instr.makeSlice 78 (.int .i64 z) (.int .i64 z)).run Tryz.prog W = .ok (.slice (some ⟨W.heap.size, 0, none⟩) n n) (W.alloc (.cells (bV (List.replicate n 0)).toArray 5)) := by
  obtain ⟨i0, hi, hz0, hz1, hz2⟩ := info_parts info5
  subst hz
  rw [run_make W 78 5 i0 (.int .u8 0) Tryz.underlying78 hi hz0 .i64 .i64 (n : Int) (n : Int) (by omega) (by omega) (by rw [hz2]; omega) (by omega), hz1]
  simp only [Int.toNat_natCast, Nat.mul_one, zeros_cells]
theorem Blk.made (W : World) (X : List UInt8) : Blk (W.alloc (.cells (bV X).toArray 5)) W.heap.size X := heap_alloc_new W _
end Go.Proofs.YtnobmgkdieaclaaGreatDoor
