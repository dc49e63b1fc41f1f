/-
  FILES OF RULES BY DEFINITION: names, items of lines, what may be, what is the same, what is printed. No program here.
-/
import Derived.Test.YthpipbkbldlfjaaYWrite
import Derived.Test.YthpipbkbldlfjaaXMath
import Derived.Test.YthpipbkbldlfjaaXSize
namespace Go.Proofs.Ythpipbkbldlfjaa.Rl
open Lx

/-- an item as it is told -/
structure It where
  kind : Int
  line : Int
  name : List UInt8
  targets : List V
  words : List V
  code : List L
deriving DecidableEq

def big (c : UInt8) : Bool := decide (65 ≤ c.toNat ∧ c.toNat ≤ 90)
def other (c : UInt8) : Bool := decide (48 ≤ c.toNat ∧ c.toNat ≤ 57) || decide (c = 95)
/-- is it a name? -/
def name : List UInt8 → Bool
  | [] => false
  | c :: r => big c && r.all (fun x => big x || other x) && decide (r.length ≤ 15)
def sLet : List UInt8 := [108, 101, 116]
def sIncl : List UInt8 := [105, 110, 99, 108, 117, 100, 101]
def sRule : List UInt8 := [114, 117, 108, 101]
/-- is a word this one, without quotes? -/
def isW (w : V) (s : List UInt8) : Bool := !w.quoted && !w.mark && decide (w.text = s)
/-- is a word this mark? -/
def isM (w : V) (s : List UInt8) : Bool := w.mark && decide (w.text = s)
/-- words without a mark, or where the first mark is, counted from n on -/
def clean (n : Nat) : List V → Option Nat
  | [] => none
  | w :: r => if w.mark = true then some n else clean (n + 1) r
/-- a let's words -/
def letOf (num : Int) : List V → R (Int × Nat) It
  | [] => .bad (120, 0)
  | [a] => if a.quoted = true ∨ a.mark = true ∨ name a.text = false then .bad (121, 1) else .bad (120, 1)
  | a :: m :: r => if a.quoted = true ∨ a.mark = true ∨ name a.text = false then .bad (121, 1) else if isM m [61] = false then .bad (120, 2)
    else match clean 3 r with
    | some i => .bad (120, i)
    | none => .ok ⟨1, num, a.text, [], r, []⟩
def inclOf (num : Int) : List V → R (Int × Nat) It
  | [] => .bad (120, 0)
  | [a] => if a.mark = true then .bad (120, 1) else .ok ⟨2, num, [], [], [a], []⟩
  | a :: _ :: _ => if a.mark = true then .bad (120, 1) else .bad (120, 2)
/-- a rule's words behind its mark, the n-th on -/
def depsOf (num : Int) (T : List V) (n : Nat) (r : List V) : R (Int × Nat) It :=
  match clean n r with
  | some i => .bad (120, i)
  | none => .ok ⟨3, num, [], T, r, []⟩
/-- a rule's words from the n-th on, the targets T ahead of them -/
def ruleOf (num : Int) (T : List V) (n : Nat) : List V → R (Int × Nat) It
  | [] => .bad (120, n - 1)
  | w :: r => if w.mark = true then (if T = [] ∨ w.text ≠ [58] then .bad (120, n) else depsOf num T (n + 1) r) else ruleOf num (T ++ [w]) (n + 1) r
/-- a line as an item; or an error, and the number of the word at which it stands -/
def item (l : L) : R (Int × Nat) It :=
  match l.words with
  | [] => .bad (120, 0)
  | w :: r => if isW w sLet = true then letOf l.num r else if isW w sIncl = true then inclOf l.num r else if isW w sRule = true then ruleOf l.num [] 1 r else .bad (120, 0)
/-- an item with a line of code more -/
def It.with (x : It) (l : L) : It := { x with code := x.code ++ [l] }
/-- where a word of a line stands -/
def at_ (l : L) (e : Int) (i : Nat) : Int × Int × Int := (e, (l.words.getD i noV).line, (l.words.getD i noV).col)
/-- the items of lines, behind those that are there already -/
def parse : List It → List L → R (Int × Int × Int) (List It)
  | out, [] => .ok out
  | out, l :: r =>
    if l.ind = true then
      match out.getLast? with
      | some x => if x.kind = 3 then parse (out.dropLast ++ [x.with l]) r else .bad (at_ l 120 0)
      | none => .bad (at_ l 120 0)
    else match item l with
      | .bad (e, i) => .bad (at_ l e i)
      | .ok x => parse (out ++ [x]) r

/-- may a word be? -/
def okW (marks : Bool) (w : V) : Bool := if w.mark = true then marks && !w.quoted && (decide (w.text = [58]) || decide (w.text = [61])) else w.quoted || plain w.text
def okL (l : L) : Bool := l.ind && !l.words.isEmpty && l.words.all (okW true)
def mayI (x : It) : Bool :=
  x.targets.all (okW false) && x.words.all (okW false) &&
  (if x.kind = 1 then name x.name && x.targets.isEmpty && x.code.isEmpty
   else if x.kind = 2 then x.name.isEmpty && x.targets.isEmpty && decide (x.words.length = 1) && x.code.isEmpty
   else if x.kind = 3 then x.name.isEmpty && !x.targets.isEmpty && x.code.all okL
   else false)
def may (l : List It) : Bool := l.all mayI

/-- a word but for its place -/
def bw (v : V) : List UInt8 × Bool × Bool := (v.text, v.quoted, v.mark)
/-- an item but for numbers and places -/
def bi (x : It) : Int × List UInt8 × List (List UInt8 × Bool × Bool) × List (List UInt8 × Bool × Bool) × List (List (List UInt8 × Bool × Bool)) :=
  (x.kind, x.name, x.targets.map bw, x.words.map bw, x.code.map fun l => l.words.map bw)
instance decW : DecidableEq (List UInt8 × Bool × Bool) := inferInstance
instance decWs : DecidableEq (List (List UInt8 × Bool × Bool)) := inferInstance
instance decLs : DecidableEq (List (List (List UInt8 × Bool × Bool))) := inferInstance
instance decI : DecidableEq (Int × List UInt8 × List (List UInt8 × Bool × Bool) × List (List UInt8 × Bool × Bool) × List (List (List UInt8 × Bool × Bool))) := inferInstance
/-- a line but for numbers and places -/
def bl (l : L) : Bool × List (List UInt8 × Bool × Bool) := (l.ind, l.words.map bw)

def wd (s : List UInt8) (m : Bool) : V := ⟨s, 0, 0, false, m⟩
/-- the words of an item's first line -/
def head (x : It) : List V :=
  if x.kind = 1 then [wd sLet false, wd x.name false, wd [61] true] ++ x.words
  else if x.kind = 2 then wd sIncl false :: x.words
  else wd sRule false :: (x.targets ++ wd [58] true :: x.words)
def linesI (x : It) : List L := ⟨0, false, head x⟩ :: x.code
def lines (l : List It) : List L := l.flatMap linesI
def print (l : List It) : List UInt8 := vwrite (lines l)

end Go.Proofs.Ythpipbkbldlfjaa.Rl

namespace Go.Proofs.Ythpipbkbldlfjaa.Rl
open Lx

/-- two answers but for places -/
def RI : R (Int × Nat) It → R (Int × Nat) It → Prop
  | .ok x, .ok y => bi x = bi y
  | .bad a, .bad b => a = b
  | _, _ => False
theorem bw_eq {v u : V} (h : bw v = bw u) : v.text = u.text ∧ v.quoted = u.quoted ∧ v.mark = u.mark := by
  simp only [bw, Prod.mk.injEq] at h
  exact h
theorem isW_bw {v u : V} (h : bw v = bw u) (s : List UInt8) : isW v s = isW u s := by
  obtain ⟨h1, h2, h3⟩ := bw_eq h
  unfold isW
  rw [h1, h2, h3]
theorem isM_bw {v u : V} (h : bw v = bw u) (s : List UInt8) : isM v s = isM u s := by
  obtain ⟨h1, h2, h3⟩ := bw_eq h
  unfold isM
  rw [h1, h3]
theorem clean_bw : ∀ {r q : List V} (n : Nat), r.map bw = q.map bw → clean n r = clean n q
  | [], [], _, _ => rfl
  | [], _ :: _, _, h => by simp at h
  | _ :: _, [], _, h => by simp at h
  | a :: r, b :: q, n, h => by
    simp only [List.map_cons, List.cons.injEq] at h
    rw [clean, clean, (bw_eq h.1).2.2, clean_bw (n + 1) h.2]
theorem letOf_bw (x y : Int) {r q : List V} (h : r.map bw = q.map bw) : RI (letOf x r) (letOf y q) := by
  cases r with
  | nil =>
    cases q with
    | nil => rfl
    | cons b q => simp at h
  | cons a r =>
    cases q with
    | nil => simp at h
    | cons b q =>
      simp only [List.map_cons, List.cons.injEq] at h
      obtain ⟨h1, h2⟩ := h
      obtain ⟨e1, e2, e3⟩ := bw_eq h1
      cases r with
      | nil =>
        cases q with
        | nil =>
          rw [letOf, letOf, e1, e2, e3]
          split <;> rfl
        | cons c q => simp at h2
      | cons m r =>
        cases q with
        | nil => simp at h2
        | cons c q =>
          simp only [List.map_cons, List.cons.injEq] at h2
          rw [letOf, letOf, e1, e2, e3, isM_bw h2.1, clean_bw 3 h2.2]
          split
          · rfl
          · split
            · rfl
            · split
              · rfl
              · show bi _ = bi _
                simp only [bi, h2.2, List.map_nil]
theorem inclOf_bw (x y : Int) {r q : List V} (h : r.map bw = q.map bw) : RI (inclOf x r) (inclOf y q) := by
  cases r with
  | nil =>
    cases q with
    | nil => rfl
    | cons b q => simp at h
  | cons a r =>
    cases q with
    | nil => simp at h
    | cons b q =>
      simp only [List.map_cons, List.cons.injEq] at h
      obtain ⟨h1, h2⟩ := h
      obtain ⟨e1, e2, e3⟩ := bw_eq h1
      cases r with
      | nil =>
        cases q with
        | nil =>
          rw [inclOf, inclOf, e3]
          split
          · rfl
          · show bi _ = bi _
            simp only [bi, List.map_cons, List.map_nil, h1]
        | cons c q => simp at h2
      | cons m r =>
        cases q with
        | nil => simp at h2
        | cons c q =>
          rw [inclOf, inclOf, e3]
          split <;> rfl
theorem depsOf_bw (x y : Int) (n : Nat) {T U r q : List V} (hT : T.map bw = U.map bw) (h : r.map bw = q.map bw) : RI (depsOf x T n r) (depsOf y U n q) := by
  unfold depsOf
  rw [clean_bw n h]
  split
  · rfl
  · show bi _ = bi _
    simp only [bi, hT, h, List.map_nil]
theorem nil_bw {T U : List V} (h : T.map bw = U.map bw) : T = [] ↔ U = [] := by
  cases T <;> cases U <;> simp at h ⊢
theorem ruleOf_bw (x y : Int) : ∀ {r q : List V} {T U : List V} (n : Nat), T.map bw = U.map bw → r.map bw = q.map bw → RI (ruleOf x T n r) (ruleOf y U n q)
  | [], [], _, _, _, _, _ => rfl
  | [], _ :: _, _, _, _, _, h => by simp at h
  | _ :: _, [], _, _, _, _, h => by simp at h
  | a :: r, b :: q, T, U, n, hT, h => by
    simp only [List.map_cons, List.cons.injEq] at h
    obtain ⟨h1, h2⟩ := h
    obtain ⟨e1, e2, e3⟩ := bw_eq h1
    rw [ruleOf, ruleOf, e1, e3]
    simp only [nil_bw hT]
    split
    · split
      · rfl
      · exact depsOf_bw x y (n + 1) hT h2
    · exact ruleOf_bw x y (n + 1) (by rw [List.map_append, List.map_append, hT, List.map_cons, List.map_cons, h1, List.map_nil]) h2
theorem item_bw {l m : L} (h : l.words.map bw = m.words.map bw) : RI (item l) (item m) := by
  obtain ⟨x, i, r⟩ := l
  obtain ⟨y, j, q⟩ := m
  simp only at h
  unfold item
  cases r with
  | nil =>
    cases q with
    | nil => rfl
    | cons b q => simp at h
  | cons a r =>
    cases q with
    | nil => simp at h
    | cons b q =>
      simp only [List.map_cons, List.cons.injEq] at h
      simp only [isW_bw h.1]
      split
      · exact letOf_bw x y h.2
      · split
        · exact inclOf_bw x y h.2
        · split
          · exact ruleOf_bw x y 1 rfl h.2
          · rfl
theorem bi_kind {x y : It} (h : bi x = bi y) : x.kind = y.kind := congrArg Prod.fst h
theorem with_bi {x y : It} {l m : L} (h : bi x = bi y) (hl : l.words.map bw = m.words.map bw) : bi (x.with l) = bi (y.with m) := by
  simp only [bi, Prod.mk.injEq] at h
  simp only [bi, It.with, List.map_append, List.map_cons, List.map_nil, h.1, h.2.1, h.2.2.1, h.2.2.2.1, h.2.2.2.2, hl]
theorem last_bi {o p : List It} (h : o.map bi = p.map bi) : (o = [] ∧ p = []) ∨ ∃ o' x p' y, o = o' ++ [x] ∧ p = p' ++ [y] ∧ bi x = bi y ∧ o'.map bi = p'.map bi := by
  rcases List.eq_nil_or_concat o with rfl | ⟨o', x, rfl⟩
  · left
    cases p <;> simp at h ⊢
  · right
    rcases List.eq_nil_or_concat p with rfl | ⟨p', y, rfl⟩
    · simp at h
    · simp only [List.concat_eq_append, List.map_append, List.map_cons, List.map_nil] at h
      have h2 := List.append_inj' h rfl
      refine ⟨o', x, p', y, by rw [List.concat_eq_append], by rw [List.concat_eq_append], ?_, h2.1⟩
      simpa using h2.2
/-- lines that are the same but for numbers and places have items that are the same -/
theorem parse_bl : ∀ {ls ms : List L} {o p C : List It}, ls.map bl = ms.map bl → o.map bi = p.map bi → parse o ls = .ok C → ∃ D, parse p ms = .ok D ∧ C.map bi = D.map bi
  | [], [], o, p, C, _, ho, h => by
    rw [parse] at h
    cases h
    exact ⟨p, by rw [parse], ho⟩
  | [], _ :: _, _, _, _, h, _, _ => by simp at h
  | _ :: _, [], _, _, _, h, _, _ => by simp at h
  | l :: ls, m :: ms, o, p, C, h, ho, hp => by
    simp only [List.map_cons, List.cons.injEq] at h
    obtain ⟨h1, h2⟩ := h
    simp only [bl, Prod.mk.injEq] at h1
    rw [parse] at hp ⊢
    rw [← h1.1]
    split at hp
    · rename_i hi
      rw [if_pos hi]
      rcases last_bi ho with ⟨rfl, rfl⟩ | ⟨o', x, p', y, rfl, rfl, hb, hob⟩
      · simp at hp
      · simp only [List.getLast?_append, List.getLast?_singleton, Option.some_or] at hp ⊢
        rw [← bi_kind hb]
        split at hp
        · rename_i hk
          rw [if_pos hk]
          rw [List.dropLast_concat] at hp ⊢
          exact parse_bl h2 (by rw [List.map_append, List.map_append, hob, List.map_cons, List.map_cons, with_bi hb h1.2, List.map_nil]) hp
        · cases hp
    · rename_i hi
      rw [if_neg hi]
      have hI := item_bw h1.2
      revert hp
      cases hl : item l with
      | bad a => intro hp; cases hp
      | ok x =>
        rw [hl] at hI
        cases hm : item m with
        | bad a => rw [hm] at hI; exact hI.elim
        | ok y =>
          rw [hm] at hI
          intro hp
          exact parse_bl h2 (by rw [List.map_append, List.map_append, ho, List.map_cons, List.map_cons, show bi x = bi y from hI, List.map_nil]) hp

theorem okW_unmarked {w : V} (h : okW false w = true) : w.mark = false ∧ okW true w = true := by
  unfold okW at h ⊢
  cases hm : w.mark
  · simp [hm] at h ⊢; exact h
  · simp [hm] at h
theorem clean_none : ∀ {r : List V} (n : Nat), r.all (okW false) = true → clean n r = none
  | [], _, _ => rfl
  | w :: r, n, h => by
    simp only [List.all_cons, Bool.and_eq_true] at h
    rw [clean, if_neg (by rw [(okW_unmarked h.1).1]; simp), clean_none (n + 1) h.2]
theorem ruleOf_run (num : Int) (q : List V) : ∀ (r : List V) (T : List V) (n : Nat), r.all (okW false) = true → ruleOf num T n (r ++ q) = ruleOf num (T ++ r) (n + r.length) q
  | [], T, n, _ => by simp
  | w :: r, T, n, h => by
    simp only [List.all_cons, Bool.and_eq_true] at h
    rw [List.cons_append, ruleOf, if_neg (by rw [(okW_unmarked h.1).1]; simp), ruleOf_run num q r (T ++ [w]) (n + 1) h.2, List.append_assoc, List.length_cons]
    congr 1
    omega
/-- an item's first line -/
theorem item_head {x : It} (h : mayI x = true) : item ⟨0, false, head x⟩ = .ok { x with line := 0, code := [] } := by
  obtain ⟨k, ln, nm, ts, ws, cd⟩ := x
  unfold mayI at h
  simp only [Bool.and_eq_true] at h
  obtain ⟨⟨hT, hW⟩, h⟩ := h
  unfold item head
  split at h
  · rename_i hk
    simp only [Bool.and_eq_true, List.isEmpty_iff] at h
    obtain ⟨⟨hn, rfl⟩, rfl⟩ := h
    subst hk
    simp only [if_pos, List.cons_append, List.nil_append]
    rw [if_pos (by decide), letOf, if_neg (by simp [wd, hn]), if_neg (by simp [isM, wd]), clean_none 3 hW]
    rfl
  · split at h
    · rename_i hk
      simp only [Bool.and_eq_true, List.isEmpty_iff, decide_eq_true_eq] at h
      obtain ⟨⟨⟨rfl, rfl⟩, hl⟩, rfl⟩ := h
      subst hk
      simp only [show ¬ (2 : Int) = 1 by decide, if_false, if_true]
      rw [if_neg (by decide), if_pos (by decide)]
      match ws, hl with
      | [a], _ =>
        simp only [List.all_cons, List.all_nil, Bool.and_true] at hW
        rw [inclOf, if_neg (by rw [(okW_unmarked hW).1]; simp)]
    · split at h
      · rename_i hk
        simp only [Bool.and_eq_true, List.isEmpty_iff, Bool.not_eq_true', List.isEmpty_eq_false_iff] at h
        obtain ⟨⟨rfl, hne⟩, hc⟩ := h
        subst hk
        simp only [show ¬ (3 : Int) = 1 by decide, show ¬ (3 : Int) = 2 by decide, if_false]
        rw [if_neg (by decide), if_neg (by decide), if_pos (by decide), ruleOf_run 0 _ ts [] 1 hT, List.nil_append, ruleOf, if_pos (by rfl), if_neg (by simp [wd, hne])]
        unfold depsOf
        rw [clean_none _ hW]
      · cases h
/-- a rule's lines of code -/
theorem parse_code (r : List L) : ∀ (c : List L) (o : List It) (x : It), x.kind = 3 → c.all okL = true → parse (o ++ [x]) (c ++ r) = parse (o ++ [{ x with code := x.code ++ c }]) r
  | [], o, x, _, _ => by simp
  | l :: c, o, x, hk, h => by
    simp only [List.all_cons, Bool.and_eq_true] at h
    have hi : l.ind = true := by
      have := h.1
      unfold okL at this
      simp only [Bool.and_eq_true] at this
      exact this.1.1
    rw [List.cons_append, parse, if_pos hi]
    simp only [List.getLast?_append, List.getLast?_singleton, Option.some_or, List.dropLast_concat]
    rw [if_pos hk, parse_code r c o (x.with l) hk h.2]
    simp only [It.with, List.append_assoc, List.singleton_append]
theorem parse_lines : ∀ (A : List It) (o : List It), may A = true → parse o (lines A) = .ok (o ++ A.map fun x => { x with line := 0 })
  | [], o, _ => by simp [lines, parse]
  | x :: A, o, h => by
    unfold may at h
    simp only [List.all_cons, Bool.and_eq_true] at h
    have ih := parse_lines A
    have e : lines (x :: A) = ⟨0, false, head x⟩ :: (x.code ++ lines A) := by simp [lines, linesI]
    rw [e, parse, if_neg (by simp), item_head h.1]
    simp only
    have hx : ∀ o : List It, parse (o ++ [{ x with line := 0, code := [] }]) (x.code ++ lines A) = parse (o ++ [{ x with line := 0 }]) (lines A) := by
      intro o
      by_cases hk : x.kind = 3
      · have hc : x.code.all okL = true := by
          have := h.1
          unfold mayI at this
          rw [if_neg (by rw [hk]; decide), if_neg (by rw [hk]; decide), if_pos hk] at this
          simp only [Bool.and_eq_true] at this
          exact this.2.2
        rw [parse_code (lines A) x.code o { x with line := 0, code := [] } hk hc]
        rfl
      · have hc : x.code = [] := by
          have := h.1
          unfold mayI at this
          split at this
          · simp only [Bool.and_eq_true, List.isEmpty_iff] at this
            exact this.2.2
          · split at this
            · simp only [Bool.and_eq_true, List.isEmpty_iff] at this
              exact this.2.2
            · simp at this
        rw [hc, List.nil_append]
    rw [hx, ih _ h.2, List.map_cons, List.append_assoc, List.singleton_append]

/-- a line as lex has it, without its place -/
def ln (l : L) : Ln Unit := ⟨(), l.ind, l.words.map fun v => ⟨v.text, (), v.quoted, v.mark⟩⟩
theorem vwrite_ln (A : List L) : vwrite A = write (A.map ln) := by
  unfold vwrite write
  rw [List.flatMap_map]
  congr 1
  funext x
  unfold vline wline ln
  simp only
  rw [wrest_one true _ (.inl rfl), List.map_map]
  rfl
theorem okW_ok {v : V} (h : okW true v = true) : WOk (α := Unit) ⟨v.text, (), v.quoted, v.mark⟩ := by
  unfold okW at h
  unfold WOk
  cases hm : v.mark <;> cases hq : v.quoted <;> simp [hm, hq] at h ⊢
  · exact h
  · exact h
theorem okL_ok {l : L} (h : okL l = true) : LOk (ln l) := by
  unfold okL at h
  simp only [Bool.and_eq_true, Bool.not_eq_true', List.isEmpty_eq_false_iff, List.all_eq_true] at h
  refine ⟨by simpa [ln] using h.1.2, fun w hw => ?_⟩
  simp only [ln, List.mem_map] at hw
  obtain ⟨v, hv, rfl⟩ := hw
  exact okW_ok (h.2 v hv)
theorem name_plain {s : List UInt8} (h : name s = true) : plain s = true := by
  have hb : ∀ c : UInt8, big c = true → bare c = true := by
    intro c h
    simp only [big, decide_eq_true_eq] at h
    simp only [bare, decide_eq_true_eq]
    refine ⟨by omega, by omega, ?_, ?_, ?_, ?_, ?_⟩ <;> (rintro rfl; revert h; decide)
  have ho : ∀ c : UInt8, other c = true → bare c = true := by
    intro c h
    simp only [other, Bool.or_eq_true, decide_eq_true_eq] at h
    rcases h with h | rfl
    · simp only [bare, decide_eq_true_eq]
      refine ⟨by omega, by omega, ?_, ?_, ?_, ?_, ?_⟩ <;> (rintro rfl; revert h; decide)
    · decide
  cases s with
  | nil => cases h
  | cons c r =>
    simp only [name, Bool.and_eq_true, List.all_eq_true, Bool.or_eq_true] at h
    simp only [plain, List.isEmpty_cons, Bool.not_false, Bool.true_and, List.all_eq_true]
    intro x hx
    rcases List.mem_cons.1 hx with rfl | hx
    · exact hb _ h.1.1
    · rcases h.1.2 x hx with h | h
      · exact hb _ h
      · exact ho _ h
theorem head_ok {x : It} (h : mayI x = true) : ∀ v ∈ head x, okW true v = true := by
  unfold mayI at h
  simp only [Bool.and_eq_true, List.all_eq_true] at h
  obtain ⟨⟨hT, hW⟩, h⟩ := h
  have hT' : ∀ v ∈ x.targets, okW true v = true := fun v hv => (okW_unmarked (hT v hv)).2
  have hW' : ∀ v ∈ x.words, okW true v = true := fun v hv => (okW_unmarked (hW v hv)).2
  intro v hv
  unfold head at hv
  split at hv
  · rename_i hk
    rw [if_pos hk] at h
    simp only [Bool.and_eq_true] at h
    simp only [List.cons_append, List.nil_append, List.mem_cons] at hv
    rcases hv with rfl | rfl | rfl | hv
    · decide
    · simp [okW, wd, name_plain h.1.1]
    · decide
    · exact hW' v hv
  · split at hv
    · simp only [List.mem_cons] at hv
      rcases hv with rfl | hv
      · decide
      · exact hW' v hv
    · simp only [List.mem_cons, List.mem_append] at hv
      rcases hv with rfl | hv | rfl | hv
      · decide
      · exact hT' v hv
      · decide
      · exact hW' v hv
theorem head_ne (x : It) : head x ≠ [] := by
  unfold head
  split
  · simp
  · split <;> simp
theorem lines_ok {A : List It} (h : may A = true) : ∀ l ∈ lines A, LOk (ln l) := by
  unfold may at h
  simp only [List.all_eq_true] at h
  intro l hl
  simp only [lines, List.mem_flatMap, linesI, List.mem_cons] at hl
  obtain ⟨x, hx, rfl | hl⟩ := hl
  · refine ⟨by simpa [ln] using head_ne x, fun w hw => ?_⟩
    simp only [ln, List.mem_map] at hw
    obtain ⟨v, hv, rfl⟩ := hw
    exact okW_ok (head_ok (h x hx) v hv)
  · have := h x hx
    unfold mayI at this
    simp only [Bool.and_eq_true] at this
    have h2 := this.2
    split at h2
    · simp only [Bool.and_eq_true, List.isEmpty_iff] at h2
      rw [h2.2] at hl
      cases hl
    · split at h2
      · simp only [Bool.and_eq_true, List.isEmpty_iff] at h2
        rw [h2.2] at hl
        cases hl
      · split at h2
        · simp only [Bool.and_eq_true, List.all_eq_true] at h2
          exact okL_ok (h2.2 l hl)
        · cases h2
theorem bl_ln {l : L} {t : List UInt8} {x : Ln Nat} (h : x.er = ln l) : bl l = bl (toldL t x) := by
  have h1 : x.ind = l.ind := congrArg (fun l : Ln Unit => l.ind) h
  have h2 : x.words.map (W.map fun _ => ()) = l.words.map fun v => (⟨v.text, (), v.quoted, v.mark⟩ : W Unit) := congrArg (fun l : Ln Unit => l.words) h
  have h3 := congrArg (List.map fun w : W Unit => (w.text, w.quoted, w.mark)) h2
  simp only [List.map_map] at h3
  simp only [bl, toldL, h1, List.map_map, Prod.mk.injEq, true_and]
  exact h3.symm
theorem bls_ln {t : List UInt8} : ∀ {ls : List (Ln Nat)} {A : List L}, ls.map Ln.er = A.map ln → A.map bl = (ls.map (toldL t)).map bl
  | [], [], _ => rfl
  | [], _ :: _, h => by simp at h
  | _ :: _, [], h => by simp at h
  | x :: ls, l :: A, h => by
    simp only [List.map_cons, List.cons.injEq] at h
    simp only [List.map_cons, bl_ln (t := t) h.1, bls_ln (t := t) h.2]
/-- what is printed is read as the same again -/
theorem back {A : List It} (h : may A = true) : ∃ ls, lex (print A) = .ok ls ∧ ∃ C, parse [] (ls.map (toldL (print A))) = .ok C ∧ A.map bi = C.map bi := by
  have h1 := lexE_write (ls := (lines A).map ln) (fun l hl => by
    obtain ⟨x, hx, rfl⟩ := List.mem_map.1 hl
    exact lines_ok h x hx)
  rw [← vwrite_ln, lexE_lex] at h1
  have hpr : vwrite (lines A) = print A := rfl
  rw [hpr] at h1
  cases hm : lex (print A) with
  | bad a => rw [hm] at h1; cases h1
  | ok ls =>
    rw [hm] at h1
    simp only [R.map, R.ok.injEq] at h1
    have h2 : ls.map Ln.er = (lines A).map ln := by
      rw [h1, List.map_map]
      congr 1
      funext l
      simp [Function.comp, ln, Ln.er, Ln.map, W.map]
    obtain ⟨D, hD, hbi⟩ := parse_bl (bls_ln (t := print A) h2) (rfl : ([] : List It).map bi = [].map bi) (parse_lines A [] h)
    refine ⟨ls, rfl, D, hD, ?_⟩
    rw [← hbi, List.nil_append, List.map_map]
    rfl
theorem vtext_bw {v u : V} (h : bw v = bw u) : vtext v = vtext u := by
  obtain ⟨h1, h2, h3⟩ := bw_eq h
  unfold vtext
  rw [h1, h2, h3]
theorem wrest_bw : ∀ (f : Bool) {r q : List V}, r.map bw = q.map bw → wrest f r = wrest f q
  | _, [], [], _ => rfl
  | _, [], _ :: _, h => by simp at h
  | _, _ :: _, [], h => by simp at h
  | f, a :: r, b :: q, h => by
    simp only [List.map_cons, List.cons.injEq] at h
    rw [wrest, wrest, vtext_bw h.1, wrest_bw false h.2]
theorem vline_bl {l m : L} (h : bl l = bl m) : vline l = vline m := by
  simp only [bl, Prod.mk.injEq] at h
  unfold vline
  rw [h.1, wrest_bw true h.2]
theorem vwrite_bl : ∀ {A C : List L}, A.map bl = C.map bl → vwrite A = vwrite C
  | [], [], _ => rfl
  | [], _ :: _, h => by simp at h
  | _ :: _, [], h => by simp at h
  | x :: A, y :: C, h => by
    simp only [List.map_cons, List.cons.injEq] at h
    simp only [vwrite, List.flatMap_cons, vline_bl h.1]
    exact congrArg _ (vwrite_bl h.2)
theorem head_bi {x y : It} (h : bi x = bi y) : (head x).map bw = (head y).map bw := by
  simp only [bi, Prod.mk.injEq] at h
  unfold head
  rw [h.1, h.2.1]
  split
  · simp only [List.map_append, h.2.2.2.1]
  · split
    · simp only [List.map_cons, h.2.2.2.1]
    · simp only [List.map_cons, List.map_append, h.2.2.1, h.2.2.2.1]
theorem code_ind {x : It} (h : mayI x = true) : ∀ l ∈ x.code, l.ind = true := by
  intro l hl
  unfold mayI at h
  simp only [Bool.and_eq_true] at h
  have h2 := h.2
  split at h2
  · simp only [Bool.and_eq_true, List.isEmpty_iff] at h2
    rw [h2.2] at hl
    cases hl
  · split at h2
    · simp only [Bool.and_eq_true, List.isEmpty_iff] at h2
      rw [h2.2] at hl
      cases hl
    · split at h2
      · simp only [Bool.and_eq_true, List.all_eq_true] at h2
        have := h2.2 l hl
        unfold okL at this
        simp only [Bool.and_eq_true] at this
        exact this.1.1
      · cases h2
theorem code_bl : ∀ {c d : List L}, (∀ l ∈ c, l.ind = true) → (∀ l ∈ d, l.ind = true) → (c.map fun l => l.words.map bw) = (d.map fun l => l.words.map bw) → c.map bl = d.map bl
  | [], [], _, _, _ => rfl
  | [], _ :: _, _, _, h => by simp at h
  | _ :: _, [], _, _, h => by simp at h
  | l :: c, m :: d, hc, hd, h => by
    simp only [List.map_cons, List.cons.injEq] at h
    simp only [List.map_cons, bl, h.1, hc l (List.mem_cons_self ..), hd m (List.mem_cons_self ..), List.cons.injEq, true_and]
    exact code_bl (fun x hx => hc x (List.mem_cons_of_mem _ hx)) (fun x hx => hd x (List.mem_cons_of_mem _ hx)) h.2
theorem lines_bi : ∀ {A C : List It}, may A = true → may C = true → A.map bi = C.map bi → (lines A).map bl = (lines C).map bl
  | [], [], _, _, _ => rfl
  | [], _ :: _, _, _, h => by simp at h
  | _ :: _, [], _, _, h => by simp at h
  | x :: A, y :: C, hA, hC, h => by
    simp only [List.map_cons, List.cons.injEq] at h
    simp only [may, List.all_cons, Bool.and_eq_true] at hA hC
    have ih := lines_bi (A := A) (C := C) hA.2 hC.2 h.2
    have hc := code_bl (code_ind hA.1) (code_ind hC.1) (by
      have := h.1
      simp only [bi, Prod.mk.injEq] at this
      exact this.2.2.2.2)
    simp only [lines, List.flatMap_cons, linesI, List.map_append, List.map_cons, hc, List.cons_append]
    rw [show bl ⟨0, false, head x⟩ = bl ⟨0, false, head y⟩ by simp only [bl, head_bi h.1]]
    exact congrArg _ (congrArg _ ih)
/-- two lists that may be have one text just if they are the same -/
theorem one {A C : List It} (hA : may A = true) (hC : may C = true) : print A = print C ↔ A.map bi = C.map bi := by
  constructor
  · intro h
    obtain ⟨ls, h1, X, h2, h3⟩ := back hA
    obtain ⟨ms, h4, Y, h5, h6⟩ := back hC
    rw [h] at h1 h2
    rw [h1] at h4
    cases h4
    rw [h2] at h5
    cases h5
    rw [h3, h6]
  · intro h
    exact vwrite_bl (lines_bi hA hC h)

end Go.Proofs.Ythpipbkbldlfjaa.Rl

namespace Go.Proofs.Ythpipbkbldlfjaa.Rl
open Lx

theorem clean_at : ∀ {r : List V} {n i : Nat}, clean n r = some i → n ≤ i ∧ i < n + r.length
  | [], _, _, h => by simp [clean] at h
  | w :: r, n, i, h => by
    rw [clean] at h
    simp only [List.length_cons]
    split at h
    · cases h; omega
    · have := clean_at h; omega
theorem clean_no : ∀ {r : List V} {n : Nat}, clean n r = none → ∀ w ∈ r, w.mark = false
  | [], _, _, _, h => by cases h
  | u :: r, n, h, w, hw => by
    rw [clean] at h
    split at h
    · cases h
    · rename_i hu
      rcases List.mem_cons.1 hw with rfl | hw
      · simpa using hu
      · exact clean_no h w hw
/-- what an item of a line is made of -/
structure Made (l : L) (x : It) : Prop where
  line : x.line = l.num
  code : x.code = []
  sub : (x.targets ++ x.words).Sublist l.words
  marks : ∀ w ∈ x.targets ++ x.words, w.mark = false
  kind : (x.kind = 1 ∧ name x.name = true ∧ x.targets = []) ∨ (x.kind = 2 ∧ x.name = [] ∧ x.targets = [] ∧ x.words.length = 1) ∨ (x.kind = 3 ∧ x.name = [] ∧ x.targets ≠ [])
theorem ruleOf_made (num : Int) : ∀ {r T : List V} {n : Nat} {x : It}, (∀ w ∈ T, w.mark = false) → ruleOf num T n r = .ok x →
    x.line = num ∧ x.code = [] ∧ (x.targets ++ x.words).Sublist (T ++ r) ∧ (∀ w ∈ x.targets ++ x.words, w.mark = false) ∧ x.kind = 3 ∧ x.name = [] ∧ x.targets ≠ []
  | [], _, _, _, _, h => by simp [ruleOf] at h
  | w :: r, T, n, x, hT, h => by
    rw [ruleOf] at h
    split at h
    · split at h
      · cases h
      · rename_i hne
        unfold depsOf at h
        split at h
        · cases h
        · rename_i hc
          cases h
          refine ⟨rfl, rfl, ?_, ?_, rfl, rfl, fun he => hne (.inl he)⟩
          · exact List.Sublist.append (List.Sublist.refl T) (List.sublist_cons_self w r)
          · intro u hu
            rcases List.mem_append.1 hu with hu | hu
            · exact hT u hu
            · exact clean_no hc u hu
    · rename_i hm
      have := ruleOf_made num (T := T ++ [w]) (fun u hu => by
        rcases List.mem_append.1 hu with hu | hu
        · exact hT u hu
        · simp only [List.mem_singleton] at hu
          subst hu
          simpa using hm) h
      rw [List.append_assoc, List.singleton_append] at this
      exact this
theorem item_made {l : L} {x : It} (h : item l = .ok x) : Made l x := by
  obtain ⟨num, ind, ws⟩ := l
  unfold item at h
  cases ws with
  | nil => cases h
  | cons w r =>
    simp only at h
    split at h
    · cases r with
      | nil => cases h
      | cons a r =>
        cases r with
        | nil =>
          rw [letOf] at h
          split at h <;> cases h
        | cons m r =>
          rw [letOf] at h
          split at h
          · cases h
          · rename_i hn
            split at h
            · cases h
            · split at h
              · cases h
              · rename_i hc
                cases h
                refine ⟨rfl, rfl, ?_, ?_, .inl ⟨rfl, ?_, rfl⟩⟩
                · show ([] ++ r).Sublist (w :: a :: m :: r)
                  rw [List.nil_append]
                  exact ((List.sublist_cons_self m r).trans (List.sublist_cons_self a _)).trans (List.sublist_cons_self w _)
                · intro u hu
                  exact clean_no hc u hu
                · cases hb : name a.text
                  · exact absurd (.inr (.inr hb)) hn
                  · rfl
    · split at h
      · cases r with
        | nil => cases h
        | cons a r =>
          cases r with
          | nil =>
            rw [inclOf] at h
            split at h
            · cases h
            · rename_i hm
              cases h
              refine ⟨rfl, rfl, ?_, ?_, .inr (.inl ⟨rfl, rfl, rfl, rfl⟩)⟩
              · exact List.sublist_cons_self w [a]
              · intro u hu
                simp only [List.nil_append, List.mem_singleton] at hu
                subst hu
                simpa using hm
          | cons b r =>
            rw [inclOf] at h
            split at h <;> cases h
      · split at h
        · obtain ⟨h1, h2, h3, h4, h5, h6, h7⟩ := ruleOf_made num (T := []) (fun _ h => by cases h) h
          exact ⟨h1, h2, h3.trans (List.sublist_cons_self w r), h4, .inr (.inr ⟨h5, h6, h7⟩)⟩
        · cases h
theorem ruleOf_at (num : Int) : ∀ {r T : List V} {n : Nat} {e : Int} {i : Nat}, 1 ≤ n → ruleOf num T n r = .bad (e, i) → i < n + r.length
  | [], _, n, _, _, hn, h => by
    simp only [ruleOf, R.bad.injEq, Prod.mk.injEq] at h
    simp only [List.length_nil]
    omega
  | w :: r, T, n, e, i, hn, h => by
    rw [ruleOf] at h
    simp only [List.length_cons]
    split at h
    · split at h
      · simp only [R.bad.injEq, Prod.mk.injEq] at h; omega
      · unfold depsOf at h
        split at h
        · rename_i hc
          have := clean_at hc
          simp only [R.bad.injEq, Prod.mk.injEq] at h
          omega
        · cases h
    · have := ruleOf_at num (n := n + 1) (by omega) h
      omega
/-- an error stands at one of the line's words -/
theorem item_at {l : L} {e : Int} {i : Nat} (hne : l.words ≠ []) (h : item l = .bad (e, i)) : i < l.words.length := by
  obtain ⟨num, ind, ws⟩ := l
  unfold item at h
  cases ws with
  | nil => exact absurd rfl hne
  | cons w r =>
    simp only at h
    simp only [List.length_cons]
    split at h
    · cases r with
      | nil =>
        simp only [letOf, R.bad.injEq, Prod.mk.injEq] at h
        omega
      | cons a r =>
        cases r with
        | nil =>
          rw [letOf] at h
          simp only [List.length_cons, List.length_nil]
          split at h <;> (simp only [R.bad.injEq, Prod.mk.injEq] at h; omega)
        | cons m r =>
          rw [letOf] at h
          simp only [List.length_cons]
          split at h
          · simp only [R.bad.injEq, Prod.mk.injEq] at h; omega
          · split at h
            · simp only [R.bad.injEq, Prod.mk.injEq] at h; omega
            · split at h
              · rename_i hc
                have := clean_at hc
                simp only [R.bad.injEq, Prod.mk.injEq] at h; omega
              · cases h
    · split at h
      · cases r with
        | nil =>
          simp only [inclOf, R.bad.injEq, Prod.mk.injEq] at h
          omega
        | cons a r =>
          cases r with
          | nil =>
            rw [inclOf] at h
            simp only [List.length_cons, List.length_nil]
            split at h
            · simp only [R.bad.injEq, Prod.mk.injEq] at h; omega
            · cases h
          | cons b r =>
            rw [inclOf] at h
            simp only [List.length_cons]
            split at h <;> (simp only [R.bad.injEq, Prod.mk.injEq] at h; omega)
      · split at h
        · have := ruleOf_at num (Nat.le_refl 1) h
          omega
        · simp only [R.bad.injEq, Prod.mk.injEq] at h
          omega
theorem ruleOf_err (num : Int) : ∀ {r T : List V} {n : Nat} {a : Int × Nat}, ruleOf num T n r = .bad a → a.1 = 120
  | [], _, _, _, h => by
    rw [ruleOf] at h
    cases h
    rfl
  | w :: r, T, n, a, h => by
    rw [ruleOf] at h
    split at h
    · split at h
      · cases h; rfl
      · unfold depsOf at h
        split at h
        · cases h; rfl
        · cases h
    · exact ruleOf_err num h
theorem item_err {l : L} {a : Int × Nat} (h : item l = .bad a) : a.1 = 120 ∨ a.1 = 121 := by
  unfold item at h
  split at h
  · cases h; exact .inl rfl
  · split at h
    · unfold letOf at h
      split at h
      · cases h; exact .inl rfl
      · split at h
        · cases h; exact .inr rfl
        · cases h; exact .inl rfl
      · split at h
        · cases h; exact .inr rfl
        · split at h
          · cases h; exact .inl rfl
          · split at h
            · cases h; exact .inl rfl
            · cases h
    · split at h
      · unfold inclOf at h
        split at h
        · cases h; exact .inl rfl
        · split at h
          · cases h; exact .inl rfl
          · cases h
        · split at h
          · cases h; exact .inl rfl
          · cases h; exact .inl rfl
      · split at h
        · exact .inl (ruleOf_err _ h)
        · cases h; exact .inl rfl
theorem okW_false {w : V} (h : okW true w = true) (hm : w.mark = false) : okW false w = true := by
  unfold okW at h ⊢
  simp [hm] at h ⊢
  exact h
theorem made_may {l : L} {x : It} (h : Made l x) (hl : ∀ v ∈ l.words, okW true v = true) : mayI x = true := by
  have hw : ∀ w ∈ x.targets ++ x.words, okW false w = true := fun w hw => okW_false (hl w (h.sub.subset hw)) (h.marks w hw)
  unfold mayI
  simp only [Bool.and_eq_true, List.all_eq_true]
  refine ⟨⟨fun w hw' => hw w (List.mem_append_left _ hw'), fun w hw' => hw w (List.mem_append_right _ hw')⟩, ?_⟩
  rcases h.kind with ⟨hk, hn, ht⟩ | ⟨hk, hn, ht, hl⟩ | ⟨hk, hn, ht⟩
  · rw [if_pos hk, hn, ht, h.code]; rfl
  · rw [if_neg (by rw [hk]; decide), if_pos hk, hn, ht, h.code, hl]; rfl
  · rw [if_neg (by rw [hk]; decide), if_neg (by rw [hk]; decide), if_pos hk, hn, h.code]
    simp [ht]
theorem mayI_with {x : It} {l : L} (hk : x.kind = 3) (h : mayI x = true) (hl : okL l = true) : mayI (x.with l) = true := by
  obtain ⟨k, ln, nm, ts, ws, cd⟩ := x
  simp only at hk
  subst hk
  simp only [mayI, It.with, show ¬ (3 : Int) = 1 by decide, show ¬ (3 : Int) = 2 by decide, if_false, if_true, Bool.and_eq_true, List.all_append, List.all_cons, List.all_nil, Bool.and_true] at h ⊢
  exact ⟨h.1, h.2.1, h.2.2, hl⟩
/-- what is read may be -/
theorem parse_may : ∀ {ls : List L} {o C : List It}, (∀ l ∈ ls, l.words ≠ [] ∧ ∀ v ∈ l.words, okW true v = true) → may o = true → parse o ls = .ok C → may C = true
  | [], o, C, _, ho, h => by
    rw [parse] at h
    cases h
    exact ho
  | l :: ls, o, C, hl, ho, h => by
    have hl0 := hl l (List.mem_cons_self ..)
    have hlr : ∀ m ∈ ls, m.words ≠ [] ∧ ∀ v ∈ m.words, okW true v = true := fun m hm => hl m (List.mem_cons_of_mem _ hm)
    rw [parse] at h
    split at h
    · rename_i hi
      rcases List.eq_nil_or_concat o with rfl | ⟨o', x, rfl⟩
      · simp at h
      · simp only [List.concat_eq_append, List.getLast?_append, List.getLast?_singleton, Option.some_or, List.dropLast_concat] at h ho
        split at h
        · rename_i hk
          refine parse_may hlr ?_ h
          unfold may at ho ⊢
          simp only [List.all_append, Bool.and_eq_true, List.all_cons, List.all_nil, Bool.and_true] at ho ⊢
          refine ⟨ho.1, ?_⟩
          refine mayI_with hk ho.2 ?_
          unfold okL
          simp only [Bool.and_eq_true, Bool.not_eq_true', List.isEmpty_eq_false_iff, List.all_eq_true]
          exact ⟨⟨hi, hl0.1⟩, hl0.2⟩
        · cases h
    · revert h
      cases hx : item l with
      | bad a => intro h; cases h
      | ok x =>
        intro h
        refine parse_may hlr ?_ h
        unfold may at ho ⊢
        simp only [List.all_append, Bool.and_eq_true, List.all_cons, List.all_nil, Bool.and_true]
        exact ⟨ho, made_may (item_made hx) hl0.2⟩
theorem told_okW {t : List UInt8} {w : W Nat} (h : WOk w) : okW true (told t w) = true := by
  unfold okW told
  simp only
  rcases h with ⟨h1, h2, h3⟩ | ⟨h1, h2⟩ | ⟨h1, h2, h3⟩
  · rw [if_pos h1, h2]
    rcases h3 with h3 | h3 <;> rw [h3] <;> rfl
  · rw [if_neg (by rw [h1]; simp), h2]; rfl
  · rw [if_neg (by rw [h1]; simp), h2, h3]; rfl
theorem told_ok {t : List UInt8} {ls : List (Ln Nat)} (h : lex t = .ok ls) : ∀ l ∈ ls.map (toldL t), l.words ≠ [] ∧ ∀ v ∈ l.words, okW true v = true := by
  have hk := lns_ok _ _ ls (Nat.le_refl _) h
  intro l hl
  obtain ⟨x, hx, rfl⟩ := List.mem_map.1 hl
  obtain ⟨h1, h2⟩ := hk x hx
  refine ⟨by simpa [toldL] using h1, fun v hv => ?_⟩
  simp only [toldL, List.mem_map] at hv
  obtain ⟨w, hw, rfl⟩ := hv
  exact told_okW (h2 w hw)

/-- lines behind lines -/
theorem parse_app : ∀ (a b : List L) (o : List It), parse o (a ++ b) = (parse o a).andThen fun p => parse p b
  | [], b, o => by rw [List.nil_append, parse]; rfl
  | l :: a, b, o => by
    rw [List.cons_append, parse, parse]
    split
    · split
      · split
        · exact parse_app a b _
        · rfl
      · rfl
    · split
      · rfl
      · exact parse_app a b _
/-- what lies ahead of the last item is not looked at -/
theorem parse_front (p : List It) : ∀ (b : List L) (o : List It), (o ≠ [] ∨ ∀ l, b.head? = some l → l.ind = false) → parse (p ++ o) b = (parse o b).map id (p ++ ·)
  | [], o, _ => by rw [parse, parse]; rfl
  | l :: b, o, h => by
    rw [parse, parse]
    split
    · rename_i hi
      have ho : o ≠ [] := h.resolve_right fun h => by have := h l rfl; rw [this] at hi; cases hi
      rcases List.eq_nil_or_concat o with rfl | ⟨o', x, rfl⟩
      · exact absurd rfl ho
      · simp only [List.concat_eq_append, ← List.append_assoc, List.getLast?_append, List.getLast?_singleton, Option.some_or, List.dropLast_concat]
        split
        · rw [List.append_assoc]
          exact parse_front p b _ (.inl (by simp))
        · rfl
    · split
      · rfl
      · rw [List.append_assoc]
        exact parse_front p b _ (.inl (by simp))

/-- so many lines further down -/
def shiftI (d : Int) (x : It) : It := ⟨x.kind, x.line + d, x.name, x.targets.map (shiftV d), x.words.map (shiftV d), x.code.map (shiftL d)⟩
theorem clean_shift (d : Int) : ∀ (r : List V) (n : Nat), clean n (r.map (shiftV d)) = clean n r
  | [], _ => rfl
  | w :: r, n => by
    rw [List.map_cons, clean, clean, clean_shift d r]
    rfl
theorem ruleOf_shift (d : Int) (num : Int) : ∀ (r T : List V) (n : Nat), ruleOf (num + d) (T.map (shiftV d)) n (r.map (shiftV d)) = (ruleOf num T n r).map id (shiftI d)
  | [], _, _ => rfl
  | w :: r, T, n => by
    rw [List.map_cons, ruleOf, ruleOf]
    simp only [List.map_eq_nil_iff, show (shiftV d w).mark = w.mark from rfl, show (shiftV d w).text = w.text from rfl]
    split
    · split
      · rfl
      · unfold depsOf
        rw [clean_shift]
        split <;> rfl
    · have := ruleOf_shift d num r (T ++ [w]) (n + 1)
      rw [List.map_append] at this
      exact this
theorem item_shift (d : Int) (l : L) : item (shiftL d l) = (item l).map id (shiftI d) := by
  obtain ⟨num, ind, ws⟩ := l
  unfold item shiftL
  cases ws with
  | nil => rfl
  | cons w r =>
    simp only [List.map_cons, show ∀ s, isW (shiftV d w) s = isW w s from fun _ => rfl]
    split
    · cases r with
      | nil => rfl
      | cons a r =>
        cases r with
        | nil =>
          simp only [List.map_cons, List.map_nil, letOf, show (shiftV d a).text = a.text from rfl, show (shiftV d a).quoted = a.quoted from rfl, show (shiftV d a).mark = a.mark from rfl]
          split <;> rfl
        | cons m r =>
          simp only [List.map_cons, letOf, show (shiftV d a).text = a.text from rfl, show (shiftV d a).quoted = a.quoted from rfl, show (shiftV d a).mark = a.mark from rfl, show isM (shiftV d m) [61] = isM m [61] from rfl, clean_shift]
          split
          · rfl
          · split
            · rfl
            · split <;> rfl
    · split
      · cases r with
        | nil => rfl
        | cons a r =>
          cases r with
          | nil =>
            simp only [List.map_cons, List.map_nil, inclOf, show (shiftV d a).mark = a.mark from rfl]
            split <;> rfl
          | cons m r =>
            simp only [List.map_cons, inclOf, show (shiftV d a).mark = a.mark from rfl]
            split <;> rfl
      · split
        · exact ruleOf_shift d num r [] 1
        · rfl
def shiftE (d : Int) (e : Int × Int × Int) : Int × Int × Int := (e.1, e.2.1 + d, e.2.2)
theorem at_shift (d : Int) {l : L} {e : Int} {i : Nat} (h : i < l.words.length) : at_ (shiftL d l) e i = shiftE d (at_ l e i) := by
  unfold at_ shiftL shiftE
  simp only [List.getD, List.getElem?_map, List.getElem?_eq_getElem h, Option.map_some, Option.getD_some]
  rfl
theorem with_shift (d : Int) (x : It) (l : L) : (shiftI d x).with (shiftL d l) = shiftI d (x.with l) := by
  simp [It.with, shiftI]
/-- lines so many further down have items so many further down -/
theorem parse_shift (d : Int) : ∀ (b : List L) (o : List It), (∀ l ∈ b, l.words ≠ []) → parse (o.map (shiftI d)) (b.map (shiftL d)) = (parse o b).map (shiftE d) (List.map (shiftI d))
  | [], o, _ => by rw [List.map_nil, parse, parse]; rfl
  | l :: b, o, hb => by
    have hl := hb l (List.mem_cons_self ..)
    have hr : ∀ m ∈ b, m.words ≠ [] := fun m hm => hb m (List.mem_cons_of_mem _ hm)
    have h0 : 0 < l.words.length := List.length_pos_iff.2 hl
    rw [List.map_cons, parse, parse]
    simp only [show (shiftL d l).ind = l.ind from rfl]
    split
    · rcases List.eq_nil_or_concat o with rfl | ⟨o', x, rfl⟩
      · simp only [List.map_nil, List.getLast?_nil]
        exact congrArg R.bad (at_shift d h0)
      · simp only [List.concat_eq_append, List.map_append, List.map_cons, List.map_nil, List.getLast?_append, List.getLast?_singleton, Option.some_or, List.dropLast_concat, show (shiftI d x).kind = x.kind from rfl]
        split
        · have := parse_shift d b (o' ++ [x.with l]) hr
          rw [List.map_append, List.map_cons, List.map_nil, ← with_shift] at this
          exact this
        · exact congrArg R.bad (at_shift d h0)
    · rw [item_shift]
      cases hx : item l with
      | bad a => exact congrArg R.bad (at_shift d (item_at hl hx))
      | ok x =>
        have := parse_shift d b (o ++ [x]) hr
        rw [List.map_append, List.map_cons, List.map_nil] at this
        exact this

end Go.Proofs.Ythpipbkbldlfjaa.Rl

namespace Go.Proofs.Ythpipbkbldlfjaa.Rl
open Lx

/-- a line of code stands from p on, below q -/
def LnTo (t : List UInt8) (p : Nat) (l : Ln Nat) (q : Nat) : Prop :=
  p ≤ l.at_ ∧ Begins t l.at_ ∧ l.at_ < t.length ∧ l.ind = true ∧ l.words ≠ [] ∧ Row t l.at_ l.words ∧ l.at_ < q ∧ ∀ w ∈ l.words, w.at_ < q
def Lns (t : List UInt8) : Nat → List (Ln Nat) → Nat → Prop
  | p, [], q => p ≤ q
  | p, l :: r, q => ∃ m, LnTo t p l m ∧ Lns t m r q
theorem Lns.add {t : List UInt8} : ∀ {c : List (Ln Nat)} {p q r : Nat} {l : Ln Nat}, Lns t p c q → LnTo t q l r → Lns t p (c ++ [l]) r
  | [], _, _, r, _, h, hl => ⟨r, ⟨Nat.le_trans h hl.1, hl.2⟩, Nat.le_refl _⟩
  | _ :: _, _, _, _, _, ⟨m, h1, h2⟩, hl => ⟨m, h1, Lns.add h2 hl⟩
theorem Lns.le {t : List UInt8} : ∀ {c : List (Ln Nat)} {p q : Nat}, Lns t p c q → p ≤ q
  | [], _, _, h => h
  | _ :: _, _, _, ⟨_, h1, h2⟩ => Nat.le_trans (Nat.le_trans h1.1 (Nat.le_of_lt h1.2.2.2.2.2.2.1)) (Lns.le h2)
/-- an item stands from p on, below q -/
structure ItTo (t : List UInt8) (p : Nat) (x : It) (q : Nat) (a : Nat) (T U : List (W Nat)) (c : List (Ln Nat)) (m : Nat) : Prop where
  from_ : p ≤ a
  begins : Begins t a
  lt : a < t.length
  line : x.line = ((place t a).1 : Nat)
  targets : x.targets = T.map (told t)
  words : x.words = U.map (told t)
  code : x.code = c.map (toldL t)
  row : Row t a (T ++ U)
  end_ : a < m
  below : ∀ w ∈ T ++ U, w.at_ < m
  lns : Lns t m c q
def ItS (t : List UInt8) (p : Nat) (x : It) (q : Nat) : Prop := ∃ a T U c m, ItTo t p x q a T U c m
theorem ItS.mono {t : List UInt8} {p p' q : Nat} {x : It} (h : ItS t p' x q) (hp : p ≤ p') : ItS t p x q := by
  obtain ⟨a, T, U, c, m, h⟩ := h
  exact ⟨a, T, U, c, m, { h with from_ := Nat.le_trans hp h.from_ }⟩
/-- items stand one behind the other, from p on, below q -/
def Its (t : List UInt8) : Nat → List It → Nat → Prop
  | p, [], q => p ≤ q
  | p, x :: r, q => ∃ m, ItS t p x m ∧ Its t m r q
theorem Its.add {t : List UInt8} : ∀ {c : List It} {p q r : Nat} {x : It}, Its t p c q → ItS t q x r → Its t p (c ++ [x]) r
  | [], _, _, r, _, h, hl => ⟨r, hl.mono h, Nat.le_refl _⟩
  | _ :: _, _, _, _, _, ⟨m, h1, h2⟩, hl => ⟨m, h1, Its.add h2 hl⟩
theorem Its.last {t : List UInt8} : ∀ {c : List It} {p q : Nat} {x : It}, Its t p (c ++ [x]) q → ∃ m k, Its t p c m ∧ ItS t m x k ∧ k ≤ q
  | [], p, q, x, ⟨m, h1, h2⟩ => ⟨p, m, Nat.le_refl _, h1, h2⟩
  | _ :: c, p, q, x, ⟨m, h1, h2⟩ => by
    obtain ⟨n, k, h3, h4, h5⟩ := Its.last h2
    exact ⟨n, k, ⟨m, h1, h3⟩, h4, h5⟩
theorem Row.sub {t : List UInt8} : ∀ {ws us : List (W Nat)} {p : Nat}, Row t p ws → us.Sublist ws → Row t p us
  | _, _, _, _, .slnil => trivial
  | _, _, _, h, .cons _ hs => Row.sub (Lx.Row.mono h.2.2 (by have := h.1; omega)) hs
  | _, _, _, h, .cons_cons _ hs => ⟨h.1, h.2.1, Row.sub h.2.2 hs⟩
/-- an item of a text's line stands in it -/
theorem item_stands {t : List UInt8} {l : Ln Nat} {x : It} {q : Nat} (hb : Begins t l.at_) (hlt : l.at_ < t.length) (hr : Row t l.at_ l.words) (hq : l.at_ < q) (hw : ∀ w ∈ l.words, w.at_ < q) (h : item (toldL t l) = .ok x) : ItS t l.at_ x q := by
  have hm := item_made h
  have hs := hm.sub
  simp only [toldL] at hs
  obtain ⟨us, hus, he⟩ := List.sublist_map_iff.1 hs
  obtain ⟨T, U, rfl, hT, hU⟩ := List.map_eq_append_iff.1 he.symm
  exact ⟨l.at_, T, U, [], q, Nat.le_refl _, hb, hlt, hm.line, hT.symm, hU.symm, hm.code, Row.sub hr hus, hq, fun w h => hw w (hus.subset h), Nat.le_refl _⟩
theorem with_stands {t : List UInt8} {l : Ln Nat} {x : It} {p m q : Nat} (h : ItS t p x m) (hl : LnTo t m l q) : ItS t p (x.with (toldL t l)) q := by
  obtain ⟨a, T, U, c, k, h⟩ := h
  exact ⟨a, T, U, c ++ [l], k, h.from_, h.begins, h.lt, h.line, h.targets, h.words, by rw [It.with, h.code, List.map_append]; rfl, h.row, h.end_, h.below, h.lns.add hl⟩
/-- the items of a text's lines stand one behind the other -/
theorem parse_stands {t : List UInt8} : ∀ {ls : List (Ln Nat)} {p : Nat} {o C : List It}, Lx.Rows t p ls → Its t 0 o p → parse o (ls.map (toldL t)) = .ok C → ∃ q, Its t 0 C q
  | [], p, o, C, _, ho, h => by
    rw [List.map_nil, parse] at h
    cases h
    exact ⟨p, ho⟩
  | l :: ls, p, o, C, hR, ho, h => by
    obtain ⟨h1, h2, h3, -, h5, h6, q, h7, h8, h9⟩ := hR
    rw [List.map_cons, parse] at h
    split at h
    · rename_i hi
      rcases List.eq_nil_or_concat o with rfl | ⟨o', x, rfl⟩
      · simp at h
      · simp only [List.concat_eq_append, List.getLast?_append, List.getLast?_singleton, Option.some_or, List.dropLast_concat] at h ho
        split at h
        · obtain ⟨m, k, ha, hb, hc⟩ := ho.last
          exact parse_stands h9 (ha.add (with_stands hb ⟨by omega, h2, h3, hi, h5.1, h6, h7, h8⟩)) h
        · cases h
    · revert h
      cases hx : item (toldL t l) with
      | bad a => intro h; cases h
      | ok x =>
        intro h
        exact parse_stands h9 (ho.add ((item_stands h2 h3 h6 h7 h8 hx).mono h1)) h
/-- an error of the items stands at a word of the text -/
theorem parse_bad {t : List UInt8} : ∀ {ls : List (Ln Nat)} {p : Nat} {o : List It} {e : Int × Int × Int}, Lx.Rows t p ls → parse o (ls.map (toldL t)) = .bad e → ∃ a, a < t.length ∧ e.2.1 = ((place t a).1 : Nat) ∧ e.2.2 = ((place t a).2 : Nat) ∧ (e.1 = 120 ∨ e.1 = 121)
  | [], p, o, e, _, h => by
    rw [List.map_nil, parse] at h
    cases h
  | l :: ls, p, o, e, hR, h => by
    obtain ⟨h1, h2, h3, -, h5, h6, q, h7, h8, h9⟩ := hR
    have hat : ∀ (k : Int) (i : Nat), i < l.words.length → (k = 120 ∨ k = 121) → ∃ a, a < t.length ∧ (at_ (toldL t l) k i).2.1 = ((place t a).1 : Nat) ∧ (at_ (toldL t l) k i).2.2 = ((place t a).2 : Nat) ∧ ((at_ (toldL t l) k i).1 = 120 ∨ (at_ (toldL t l) k i).1 = 121) := by
      intro k i hi hk
      refine ⟨l.words[i].at_, row_lt h6 _ (List.getElem_mem hi), ?_, ?_, hk⟩ <;>
        simp [at_, toldL, List.getD, List.getElem?_eq_getElem hi, told]
    have h0 : 0 < l.words.length := List.length_pos_iff.2 h5.1
    rw [List.map_cons, parse] at h
    split at h
    · split at h
      · split at h
        · exact parse_bad h9 h
        · cases h
          exact hat 120 0 h0 (.inl rfl)
      · cases h
        exact hat 120 0 h0 (.inl rfl)
    · revert h
      cases hx : item (toldL t l) with
      | bad a =>
        intro h
        cases h
        have hi := item_at (by simpa [toldL] using h5.1) hx
        refine hat a.1 a.2 (by simpa [toldL] using hi) ?_
        exact item_err hx
      | ok x =>
        intro h
        exact parse_bad h9 h

end Go.Proofs.Ythpipbkbldlfjaa.Rl
