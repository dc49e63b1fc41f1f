/-
  WORDS FOR BYTES IN THE WALKS OF LAYER 3 (disk).
-/
import Derived.Test.YtnobmgkdieaclaaGreatDoorProg
import Derived.WalkKit
import Derived.WalkSpells
import Derived.WalkLawsBesides
import Derived.Lib.AppendStr
import Derived.Laws.CopyOwn
import Derived.Laws.AppendOwnNone
import Derived.Lib.AppendZeros
import Derived.Lib.SliceRun
import Derived.BigQuiet
import Derived.Deep.QuietTactic
import Derived.Deep.DeepCutAuto
import Derived.Deep.CutBlock
import Derived.Deep.RegionWith
import Derived.Deep.Slices
namespace Go.Proofs.YtnobmgkdieaclaaGreatDoor
open Go.RowKit

/-- bytes as cells -/
def bV (l : List UInt8) : List Value := l.map fun b => Value.int .u8 b.toNat

theorem info5 : (Tryz.prog.info? 5).map (fun i => (i.zero, i.size, i.bytes)) = some (some (.int .u8 0), 1, 1) := by kernel_rfl

theorem bV_length (l : List UInt8) : (bV l).length = l.length := by simp [bV]
theorem bV_append (a b : List UInt8) : bV (a ++ b) = bV a ++ bV b := by simp [bV]

/-- w's row v, among the blocks from base on, holds just the bytes l -/
def Own (w : World) (base : Nat) (v : Value) (l : List UInt8) : Prop := w.ownsRow base 5 1 v l.length (bV l)

theorem Own.alloc {w : World} {base : Nat} {v : Value} {l : List UInt8} (h : Own w base v l) (o : Obj) : Own (w.alloc o) base v l := World.ownsRow.alloc h o

theorem Own.nil (w : World) (base : Nat) : Own w base (.slice none 0 0) [] := World.ownsRow_nil w base 5 1

/-- v is a slice whose elements, in w, are the bytes l; they lie below block B -/
def Byts (w : World) (B : Nat) (v : Value) (l : List UInt8) : Prop :=
  ∃ ad c, v = .slice ad l.length c ∧ l.length ≤ c ∧ (ad = none → c = 0) ∧ (l ≠ [] → ∃ b o, ad = some ⟨b, o, none⟩ ∧ b < B ∧ ∀ j, j < l.length → w.cell? ⟨b, o + j, none⟩ = some (.int .u8 ((l.getD j 0).toNat : Int)))

theorem Byts.below {w w' : World} {B B' : Nat} {v : Value} {l : List UInt8} (h : Byts w B v l) (hb : Below B' w w') (hB : B ≤ B') : Byts w' B v l := by
  obtain ⟨ad, c, hv, hle, hn, h⟩ := h
  refine ⟨ad, c, hv, hle, hn, fun hne => ?_⟩
  obtain ⟨b, o, ha, hlt, hc⟩ := h hne
  exact ⟨b, o, ha, hlt, fun j hj => (hb.cell (p := ⟨b, o + j, none⟩) (Nat.lt_of_lt_of_le hlt hB)).trans (hc j hj)⟩
theorem Byts.mono {w : World} {B B' : Nat} {v : Value} {l : List UInt8} (h : Byts w B v l) (hB : B ≤ B') : Byts w B' v l := by
  obtain ⟨ad, c, hv, hle, hn, h⟩ := h
  refine ⟨ad, c, hv, hle, hn, fun hne => ?_⟩
  obtain ⟨b, o, ha, hlt, hc⟩ := h hne
  exact ⟨b, o, ha, Nat.lt_of_lt_of_le hlt hB, hc⟩
theorem Byts.nil (w : World) (B : Nat) : Byts w B (.slice none 0 0) [] := ⟨none, 0, rfl, Nat.le_refl _, fun _ => rfl, fun h => absurd rfl h⟩

/-- a row of the call's own, read -/
theorem Own.byts {w : World} {base : Nat} {v : Value} {l : List UInt8} (h : Own w base v l) : Byts w w.heap.size v l := by
  have hlt := World.ownsRow.lt h
  have hcs := fun g hg => World.ownsRow.cells (g := g) h hg
  rcases h.2 with ⟨rfl, h0⟩ | ⟨g, cap, cur, rfl, _, _, hle, _⟩
  · refine ⟨none, 0, by rw [h0], by omega, fun _ => rfl, fun hne => ?_⟩
    exact absurd (List.eq_nil_of_length_eq_zero h0) hne
  · refine ⟨_, _, rfl, hle, (fun h => by cases h), fun _ => ⟨g, 0, rfl, (hlt g rfl).2, fun j hj => ?_⟩⟩
    have := hcs g rfl j (.int .u8 ((l.getD j 0).toNat : Int)) (by simp [bV, List.getD, List.getElem?_eq_getElem hj])
    have e : (⟨g, 0, none⟩ : Addr).add j = ⟨g, 0 + j, none⟩ := by unfold Addr.add; split <;> simp_all
    rwa [e] at this

end Go.Proofs.YtnobmgkdieaclaaGreatDoor

namespace Go.Proofs.YtnobmgkdieaclaaGreatDoor.Lx

/-- a byte of a text, a join told as a blank, and where it stands -/
structure B (α : Type) where
  c : UInt8
  join : Bool
  at_ : α
/-- a word, and where it stands -/
structure W (α : Type) where
  text : List UInt8
  at_ : α
  quoted : Bool
  mark : Bool
/-- an answer, or where it goes wrong -/
inductive R (α β : Type) where
  | bad (a : α)
  | ok (b : β)
def R.map {α β γ δ : Type} (f : α → γ) (g : β → δ) : R α β → R γ δ
  | .bad a => .bad (f a)
  | .ok b => .ok (g b)
def R.andThen {α β γ : Type} (r : R α β) (f : β → R α γ) : R α γ :=
  match r with
  | .bad a => .bad a
  | .ok b => f b
variable {α β : Type}
def B.map (f : α → β) (b : B α) : B β := ⟨b.c, b.join, f b.at_⟩
def W.map (f : α → β) (w : W α) : W β := ⟨w.text, f w.at_, w.quoted, w.mark⟩

def bare (c : UInt8) : Bool := decide (33 ≤ c.toNat ∧ c.toNat ≤ 126 ∧ c ≠ 34 ∧ c ≠ 35 ∧ c ≠ 58 ∧ c ≠ 61 ∧ c ≠ 92)
/-- what a byte behind a backslash within quotes tells -/
def esc (c : UInt8) : Option UInt8 := if c = 34 ∨ c = 92 then some c else if c = 110 then some 10 else if c = 116 then some 9 else none
/-- a quoted word from behind its first quote on: none: it has no end -/
def quo : List (B α) → List UInt8 → R α (Option (List UInt8 × List (B α)))
  | [], _ => .ok none
  | b :: r, acc =>
    if b.c = 34 then .ok (some (acc, r))
    else if b.c ≠ 92 then quo r (acc ++ [b.c])
    else qesc b.at_ r acc
where
  /-- behind a backslash -/
  qesc (a : α) : List (B α) → List UInt8 → R α (Option (List UInt8 × List (B α)))
  | [], _ => .bad a
  | e :: r', acc => if e.join = true then .bad a else match esc e.c with
    | some x => quo r' (acc ++ [x])
    | none => .bad a
theorem quo_len : ∀ (n : Nat) (l : List (B α)) (acc s : List UInt8) (r : List (B α)), l.length ≤ n → quo l acc = .ok (some (s, r)) → r.length < l.length := by
  intro n
  induction n with
  | zero =>
    intro l acc s r hl h
    cases l with
    | nil => simp [quo] at h
    | cons b t => simp at hl
  | succ n ih =>
    intro l acc s r hl h
    cases l with
    | nil => simp [quo] at h
    | cons b t =>
      rw [quo] at h
      simp only [List.length_cons] at hl ⊢
      split at h
      · simp only [R.ok.injEq, Option.some.injEq, Prod.mk.injEq] at h
        rw [← h.2]; omega
      · split at h
        · have := ih t _ s r (by omega) h; omega
        · cases t with
          | nil => simp [quo.qesc] at h
          | cons e t' =>
            rw [quo.qesc] at h
            split at h
            · cases h
            · split at h
              · simp only [List.length_cons] at hl ⊢
                have := ih t' _ s r (by omega) h; omega
              · cases h
/-- the words of a logical line, from a place on -/
def rd : List (B α) → R α (List (W α))
  | [] => .ok []
  | b :: r =>
    if b.c = 35 then .ok []
    else if b.c = 32 then rd r
    else if b.c = 58 ∨ b.c = 61 then (rd r).map id (⟨[b.c], b.at_, false, true⟩ :: ·)
    else if b.c = 34 then
      match _h : quo r [] with
      | .bad a => .bad a
      | .ok none => .bad b.at_
      | .ok (some (s, r')) => (rd r').map id (⟨s, b.at_, true, false⟩ :: ·)
    else if bare b.c = true then (rd (r.dropWhile fun x => bare x.c)).map id (⟨b.c :: (r.takeWhile fun x => bare x.c).map B.c, b.at_, false, false⟩ :: ·)
    else .bad b.at_
termination_by l => l.length
decreasing_by
  all_goals simp only [List.length_cons]
  · omega
  · omega
  · have := quo_len _ r [] s r' (Nat.le_refl _) _h; omega
  · have := List.Sublist.length_le (List.dropWhile_sublist (fun x : B α => bare x.c) (l := r)); omega
/-- a logical line: where it begins, whether it is indented, its words -/
structure Ln (α : Type) where
  at_ : α
  ind : Bool
  words : List (W α)
def Ln.map (f : α → β) (l : Ln α) : Ln β := ⟨f l.at_, l.ind, l.words.map (W.map f)⟩
def line : List (B α) → R α (Bool × List (W α))
  | [] => .ok (false, [])
  | b :: r => if b.c = 9 then (rd r).map id (true, ·) else (rd (b :: r)).map id (false, ·)
/-- the logical lines that have a word -/
def lns : List (B α) → R α (List (Ln α))
  | [] => .ok []
  | b :: r =>
    (line ((b :: r).takeWhile fun x => x.c != 10)).andThen fun (i, ws) =>
      (lns (((b :: r).dropWhile fun x => x.c != 10).drop 1)).map id fun t => if ws = [] then t else ⟨b.at_, i, ws⟩ :: t
termination_by l => l.length
decreasing_by
  simp only [List.length_cons, List.length_drop]
  have := List.Sublist.length_le (List.dropWhile_sublist (fun x : B α => x.c != 10) (l := b :: r))
  simp only [List.length_cons] at this
  omega

/-- a text's bytes from the p-th on -/
def bytes : Nat → List UInt8 → List (B Nat)
  | _, [] => []
  | p, 92 :: 10 :: r => ⟨32, true, p⟩ :: bytes (p + 2) r
  | p, c :: r => ⟨c, false, p⟩ :: bytes (p + 1) r
def lex (t : List UInt8) : R Nat (List (Ln Nat)) := lns (bytes 0 t)
/-- the line and the byte of it of the byte at -/
def place (t : List UInt8) (n : Nat) : Nat × Nat := ((t.take n).count 10 + 1, ((t.take n).reverse.takeWhile fun c => c != 10).length)

def plain (s : List UInt8) : Bool := !s.isEmpty && s.all bare
def qb (c : UInt8) : List UInt8 := if c = 34 ∨ c = 92 then [92, c] else if c = 10 then [92, 110] else if c = 9 then [92, 116] else [c]
def quote (s : List UInt8) : List UInt8 := 34 :: (s.flatMap qb ++ [34])
def show_ (s : List UInt8) : List UInt8 := if plain s = true then s else quote s
def wtext (w : W α) : List UInt8 := if w.mark = true then w.text else if w.quoted = true then quote w.text else show_ w.text
def inter (l : List (List UInt8)) : List UInt8 := List.intercalate [32] l
def wline (l : Ln α) : List UInt8 := (if l.ind = true then [9] else []) ++ (inter (l.words.map wtext) ++ [10])
def write (l : List (Ln α)) : List UInt8 := l.flatMap wline

end Go.Proofs.YtnobmgkdieaclaaGreatDoor.Lx

namespace Go.Proofs.YtnobmgkdieaclaaGreatDoor.Ac
open Lx

/-- statements one behind the other, each with its body -/
inductive Fo where
  | nil : Fo
  | cons (op : Int) (args : List (List UInt8)) (n : Int) (body rest : Fo) : Fo
deriving DecidableEq
namespace Fo
def app : Fo → Fo → Fo
  | nil, g => g
  | cons o a n b r, g => cons o a n b (r.app g)
def len : Fo → Nat
  | nil => 0
  | cons _ _ _ _ r => r.len + 1
def take : Nat → Fo → Fo
  | _, nil => nil
  | 0, cons _ _ _ _ _ => nil
  | k + 1, cons o a n b r => cons o a n b (r.take k)
theorem app_nil : ∀ f : Fo, f.app nil = f
  | nil => rfl
  | cons _ _ _ _ r => by rw [app, app_nil r]
theorem app_assoc : ∀ f g h : Fo, (f.app g).app h = f.app (g.app h)
  | nil, _, _ => rfl
  | cons _ _ _ _ r, g, h => by rw [app, app, app, app_assoc r]
theorem len_app : ∀ f g : Fo, (f.app g).len = f.len + g.len
  | nil, g => by simp [app, len]
  | cons _ _ _ _ r, g => by rw [app, len, len, len_app r]; omega
theorem take_app : ∀ f g : Fo, (f.app g).take f.len = f
  | nil, g => by cases g <;> simp [app, len, take]
  | cons _ _ _ _ r, g => by rw [app, len, take, take_app r]
end Fo

def sEnd : List UInt8 := [101, 110, 100]
/-- a kind's first word -/
def word (op : Int) : List UInt8 :=
  if op = 1 then [110, 101, 101, 100] else if op = 2 then [99, 97, 116] else if op = 3 then [116, 101, 120, 116] else if op = 4 then [117, 112, 112, 101, 114] else if op = 5 then [115, 111, 114, 116] else if op = 6 then [117, 110, 105, 113] else if op = 7 then [99, 111, 117, 110, 116] else if op = 8 then [119, 114, 105, 116, 101] else if op = 9 then [102, 97, 105, 108] else if op = 10 then [114, 101, 112, 101, 97, 116] else if op = 11 then [101, 97, 99, 104] else if op = 12 then [119, 104, 101, 110] else []
def opens (op : Int) : Bool := decide (op = 10 ∨ op = 11 ∨ op = 12)
/-- has a kind so many words? -/
def argsOk (op : Int) (k : Nat) : Bool :=
  if op = 1 ∨ op = 2 ∨ op = 8 ∨ op = 11 then decide (k = 1) else if op = 3 ∨ op = 9 then true else if op = 12 then decide (k = 2) else decide (k = 0)
/-- the kind of a first word -/
def opOf (w : List UInt8) : Option Int := [1, 2, 3, 4, 5, 6, 7, 8, 9, 10, 11, 12].find? fun op => decide (word op = w)
def digit (k : Nat) : UInt8 := UInt8.ofNat (48 + k)
/-- a number from 0 to 9999 in decimal digits -/
def digits (n : Nat) : List UInt8 :=
  if n < 10 then [digit n] else if n < 100 then [digit (n / 10), digit (n % 10)] else if n < 1000 then [digit (n / 100), digit (n / 10 % 10), digit (n % 10)] else [digit (n / 1000), digit (n / 100 % 10), digit (n / 10 % 10), digit (n % 10)]
def value (s : List UInt8) : Nat := s.foldl (fun n c => 10 * n + (c.toNat - 48)) 0
/-- a repeat's number -/
def number (s : List UInt8) : Option Nat :=
  if 1 ≤ s.length ∧ s.length ≤ 4 ∧ (s.all fun c => decide (48 ≤ c.toNat ∧ c.toNat ≤ 57)) = true ∧ value s ≤ 1000 ∧ digits (value s) = s then some (value s) else none
/-- a repeat's words -/
def repOf : List (List UInt8) → Option (Int × List (List UInt8) × Int)
  | [s] => (number s).map fun (n : Nat) => ((10 : Int), ([] : List (List UInt8)), (n : Int))
  | _ => none
/-- a statement of that kind, of these words -/
def stmtW (op : Int) (r : List (List UInt8)) : Option (Int × List (List UInt8) × Int) :=
  if op = 10 then repOf r else if argsOk op r.length = true then some (op, r, 0) else none
/-- a line as a statement without its body -/
def stmtOf : List (List UInt8) → Option (Int × List (List UInt8) × Int)
  | [] => none
  | w :: r => (opOf w).bind fun op => stmtW op r
theorem stmtOf_cons (w : List UInt8) (r : List (List UInt8)) : stmtOf (w :: r) = (opOf w).bind fun op => stmtW op r := rfl
/-- a statement's line -/
def lineOf (op : Int) (args : List (List UInt8)) (n : Int) : List (List UInt8) := word op :: (args ++ if op = 10 then [digits n.toNat] else [])
/-- is a statement as the table says, its body apart? -/
def ok1 (op : Int) (args : List (List UInt8)) (n : Int) : Bool := decide (word op ≠ []) && argsOk op args.length && decide (0 ≤ n ∧ n ≤ 1000) && decide (op = 10 ∨ n = 0)
/-- is each statement as the table says, in bodies too? -/
def one : Fo → Bool
  | .nil => true
  | .cons op args n b r => ok1 op args n && (opens op || decide (b = .nil)) && one b && one r
def size : Fo → Nat
  | .nil => 0
  | .cons _ _ _ b r => 1 + size b + size r
def deep : Fo → Nat
  | .nil => 0
  | .cons op _ _ b r => max (if opens op = true then 1 + deep b else 0) (deep r)
def may (f : Fo) : Bool := one f && decide (size f ≤ 256) && decide (deep f ≤ 8)
/-- the lines of a list -/
def all : Fo → List (List (List UInt8))
  | .nil => []
  | .cons op args n b r => lineOf op args n :: ((if opens op = true then all b ++ [[sEnd]] else []) ++ all r)
/-- the first error of lines -/
def chk (open_ many i : Nat) : List (List (List UInt8)) → Option (Int × Nat)
  | [] => if 0 < open_ then some (131, i) else none
  | l :: r =>
    if l = [sEnd] then (if open_ = 0 then some (131, i) else chk (open_ - 1) many (i + 1) r)
    else match stmtOf l with
      | none => some (130, i)
      | some (op, _, _) =>
        if 256 < many + 1 then some (3, i)
        else if opens op = true then (if open_ = 8 then some (132, i) else chk (open_ + 1) (many + 1) (i + 1) r)
        else chk open_ (many + 1) (i + 1) r
/-- the statements up to the end that closes them; and what stands behind it -/
def unt : Nat → List (List (List UInt8)) → Fo × List (List (List UInt8))
  | 0, ls => (.nil, ls)
  | _ + 1, [] => (.nil, [])
  | f + 1, l :: r =>
    if l = [sEnd] then (.nil, r)
    else match stmtOf l with
      | none => (.nil, r)
      | some (op, a, n) =>
        if opens op = true then (.cons op a n (unt f r).1 (unt f (unt f r).2).1, (unt f (unt f r).2).2)
        else (.cons op a n .nil (unt f r).1, (unt f r).2)
/-- what lines say -/
def parse (ls : List (List (List UInt8))) : R (Int × Nat) Fo :=
  match chk 0 0 0 ls with
  | some e => .bad e
  | none => .ok (unt (ls.length + 1) ls).1

theorem number_digits : ∀ n : Nat, n ≤ 1000 → number (digits n) = some n := by
  have h : ∀ n : Fin 1001, number (digits n.1) = some n.1 := by decide +kernel
  intro n hn
  exact h ⟨n, by omega⟩
theorem number_some {s : List UInt8} {n : Nat} (h : number s = some n) : s = digits n ∧ n ≤ 1000 := by
  unfold number at h
  split at h
  · rename_i hc
    simp only [Option.some.injEq] at h
    subst h
    exact ⟨hc.2.2.2.2.symm, hc.2.2.2.1⟩
  · cases h
theorem word_of {op : Int} (h : word op ≠ []) : op = 1 ∨ op = 2 ∨ op = 3 ∨ op = 4 ∨ op = 5 ∨ op = 6 ∨ op = 7 ∨ op = 8 ∨ op = 9 ∨ op = 10 ∨ op = 11 ∨ op = 12 := by
  apply Classical.byContradiction
  intro hn
  simp only [not_or] at hn
  obtain ⟨h1, h2, h3, h4, h5, h6, h7, h8, h9, h10, h11, h12⟩ := hn
  apply h
  unfold word
  rw [if_neg h1, if_neg h2, if_neg h3, if_neg h4, if_neg h5, if_neg h6, if_neg h7, if_neg h8, if_neg h9, if_neg h10, if_neg h11, if_neg h12]
theorem opOf_word {op : Int} (h : word op ≠ []) : opOf (word op) = some op := by
  rcases word_of h with rfl | rfl | rfl | rfl | rfl | rfl | rfl | rfl | rfl | rfl | rfl | rfl <;> decide
theorem opOf_some {w : List UInt8} {op : Int} (h : opOf w = some op) : w = word op ∧ word op ≠ [] := by
  unfold opOf at h
  have h1 := List.find?_some h
  have h2 := List.mem_of_find?_eq_some h
  simp only [decide_eq_true_eq] at h1
  refine ⟨h1.symm, ?_⟩
  simp only [List.mem_cons, List.not_mem_nil, or_false] at h2
  rcases h2 with rfl | rfl | rfl | rfl | rfl | rfl | rfl | rfl | rfl | rfl | rfl | rfl <;> decide
theorem opOf_end : opOf sEnd = none := by decide
theorem stmt_line {op : Int} {args : List (List UInt8)} {n : Int} (h : ok1 op args n = true) : stmtOf (lineOf op args n) = some (op, args, n) := by
  unfold ok1 at h
  simp only [Bool.and_eq_true, decide_eq_true_eq] at h
  obtain ⟨⟨⟨h1, h2⟩, h3, h4⟩, h5⟩ := h
  rw [lineOf, stmtOf_cons, opOf_word h1, Option.bind_some, stmtW]
  by_cases h10 : op = 10
  · subst h10
    rw [if_pos rfl, if_pos rfl]
    have ha : args = [] := by
      unfold argsOk at h2
      simp at h2
      exact h2
    subst ha
    rw [List.nil_append, repOf, number_digits _ (by omega)]
    simp only [Option.map_some, Option.some.injEq, Prod.mk.injEq, true_and]
    omega
  · rw [if_neg h10, if_neg h10, List.append_nil, if_pos h2]
    have : n = 0 := by omega
    rw [this]
theorem stmt_some {l : List (List UInt8)} {op : Int} {args : List (List UInt8)} {n : Int} (h : stmtOf l = some (op, args, n)) : l = lineOf op args n ∧ ok1 op args n = true := by
  cases l with
  | nil => cases h
  | cons w r =>
    rw [stmtOf_cons] at h
    cases ho : opOf w with
    | none => rw [ho] at h; cases h
    | some o =>
      rw [ho, Option.bind_some, stmtW] at h
      obtain ⟨rfl, hw⟩ := opOf_some ho
      split at h
      · rename_i h10
        subst h10
        unfold repOf at h
        split at h
        · rename_i s
          cases hn : number s with
          | none => rw [hn] at h; cases h
          | some m =>
            rw [hn] at h
            simp only [Option.map_some, Option.some.injEq, Prod.mk.injEq] at h
            obtain ⟨rfl, rfl, rfl⟩ := h
            obtain ⟨rfl, hm⟩ := number_some hn
            refine ⟨by simp [lineOf], ?_⟩
            unfold ok1
            simp only [Bool.and_eq_true, decide_eq_true_eq]
            exact ⟨⟨⟨hw, rfl⟩, by omega, by omega⟩, .inl trivial⟩
        · cases h
      · rename_i h10
        split at h
        · rename_i ha
          simp only [Option.some.injEq, Prod.mk.injEq] at h
          obtain ⟨rfl, rfl, rfl⟩ := h
          refine ⟨by simp [lineOf, h10], ?_⟩
          unfold ok1
          simp only [Bool.and_eq_true, decide_eq_true_eq]
          exact ⟨⟨⟨hw, ha⟩, by omega, by omega⟩, .inr trivial⟩
        · cases h
theorem line_ne {op : Int} {args : List (List UInt8)} {n : Int} (h : ok1 op args n = true) : lineOf op args n ≠ [sEnd] := by
  intro e
  have h1 := stmt_line h
  rw [e] at h1
  simp [stmtOf, opOf_end] at h1
theorem all_app : ∀ f g : Fo, all (f.app g) = all f ++ all g
  | .nil, _ => rfl
  | .cons op a n b r, g => by rw [Fo.app, all, all, all_app r g]; simp
theorem size_app : ∀ f g : Fo, size (f.app g) = size f + size g
  | .nil, g => by simp [Fo.app, size]
  | .cons _ _ _ _ r, g => by rw [Fo.app, size, size, size_app r g]; omega
theorem deep_app : ∀ f g : Fo, deep (f.app g) = max (deep f) (deep g)
  | .nil, g => by simp [Fo.app, deep]
  | .cons _ _ _ _ r, g => by rw [Fo.app, deep, deep, deep_app r g]; omega
theorem one_app : ∀ f g : Fo, one (f.app g) = (one f && one g)
  | .nil, g => by simp [Fo.app, one]
  | .cons _ _ _ _ r, g => by rw [Fo.app, one, one, one_app r g]; simp [Bool.and_assoc]

/-- the lines of a list that may be are gone over without an error -/
theorem chk_all : ∀ (f : Fo) (o m i : Nat) (r : List (List (List UInt8))), one f = true → o + deep f ≤ 8 → m + size f ≤ 256 → chk o m i (all f ++ r) = chk o (m + size f) (i + (all f).length) r
  | .nil, o, m, i, r, _, _, _ => by simp [all, size]
  | .cons op a n b t, o, m, i, r, h1, h2, h3 => by
    simp only [one, Bool.and_eq_true] at h1
    obtain ⟨⟨⟨k1, k2⟩, k3⟩, k4⟩ := h1
    rw [deep] at h2
    rw [size] at h3
    rw [all, List.cons_append, chk, if_neg (line_ne k1), stmt_line k1]
    simp only
    rw [if_neg (by omega)]
    by_cases ho : opens op = true
    · rw [if_pos ho] at h2
      rw [if_pos ho, if_neg (by omega), if_pos ho]
      rw [show all b ++ [[sEnd]] ++ all t ++ r = all b ++ ([sEnd] :: (all t ++ r)) by simp]
      rw [chk_all b (o + 1) (m + 1) (i + 1) _ k3 (by omega) (by omega), chk, if_pos rfl, if_neg (by omega), Nat.add_sub_cancel]
      rw [chk_all t o (m + 1 + size b) _ r k4 (by omega) (by omega)]
      congr 1
      · rw [size]; omega
      · simp only [List.length_cons, List.length_append, List.length_nil]; omega
    · rw [if_neg ho, if_neg ho, List.nil_append]
      have hb : b = .nil := by
        rcases (by simpa using k2 : opens op = true ∨ b = .nil) with h | h
        · exact absurd h ho
        · exact h
      subst hb
      rw [chk_all t o (m + 1) (i + 1) r k4 (by omega) (by simp only [size] at h3; omega)]
      congr 1
      · simp only [size]; omega
      · simp only [List.length_cons]; omega
/-- they are read as that list -/
theorem unt_all : ∀ (k : Nat) (f : Fo) (r : List (List (List UInt8))), one f = true → (all f).length < k → unt k (all f ++ [sEnd] :: r) = (f, r) ∧ unt k (all f) = (f, [])
  | 0, _, _, _, h => by omega
  | k + 1, .nil, r, _, _ => by simp [all, unt]
  | k + 1, .cons op a n b t, r, h1, h2 => by
    simp only [one, Bool.and_eq_true] at h1
    obtain ⟨⟨⟨k1, k2⟩, k3⟩, k4⟩ := h1
    rw [all, List.length_cons, List.length_append] at h2
    rw [all, List.cons_append, unt, unt, if_neg (line_ne k1), if_neg (line_ne k1), stmt_line k1]
    simp only
    by_cases ho : opens op = true
    · simp only [if_pos ho, List.length_append, List.length_cons, List.length_nil] at h2 ⊢
      have e1 : ∀ x, unt k (all b ++ [[sEnd]] ++ x) = (b, x) := fun x => by
        rw [show all b ++ [[sEnd]] ++ x = all b ++ [sEnd] :: x by simp]
        exact (unt_all k b x k3 (by omega)).1
      have e2 := unt_all k t r k4 (by omega)
      rw [List.append_assoc (all b ++ [[sEnd]]), e1, e1]
      simp only
      rw [e2.1, e2.2]
      exact ⟨rfl, rfl⟩
    · have hb : b = .nil := by
        rcases (by simpa using k2 : opens op = true ∨ b = .nil) with h | h
        · exact absurd h ho
        · exact h
      subst hb
      simp only [if_neg ho, List.nil_append, List.length_nil, Nat.zero_add] at h2 ⊢
      have e2 := unt_all k t r k4 (by omega)
      rw [e2.1, e2.2]
      exact ⟨rfl, rfl⟩
/-- P13.4: lines of a list that may be are read as it -/
theorem parse_all {f : Fo} (h : may f = true) : parse (all f) = .ok f := by
  unfold may at h
  simp only [Bool.and_eq_true, decide_eq_true_eq] at h
  unfold parse
  have h1 := chk_all f 0 0 0 [] h.1.1 (by omega) (by omega)
  rw [List.append_nil] at h1
  rw [h1, chk, if_neg (by omega)]
  simp only
  rw [(unt_all ((all f).length + 1) f [] h.1.1 (Nat.lt_succ_self _)).2]
/-- lines that are gone over without an error are those of a list, and what stands behind its end -/
theorem chk_none : ∀ (k : Nat) (ls : List (List (List UInt8))) (o m i : Nat), ls.length ≤ k → o ≤ 8 → chk o m i ls = none → ∃ f, one f = true ∧ o + deep f ≤ 8 ∧ (size f = 0 ∨ m + size f ≤ 256) ∧ ((o = 0 ∧ ls = all f) ∨ (0 < o ∧ ∃ r, ls = all f ++ [sEnd] :: r ∧ chk (o - 1) (m + size f) (i + (all f).length + 1) r = none))
  | _, [], o, m, i, _, ho, h => by
    rw [chk] at h
    split at h
    · cases h
    · exact ⟨.nil, rfl, by simp [deep]; exact ho, .inl rfl, .inl ⟨by omega, rfl⟩⟩
  | 0, l :: ls, _, _, _, hk, _, _ => by simp at hk
  | k + 1, l :: ls, o, m, i, hk, ho, h => by
    simp only [List.length_cons] at hk
    rw [chk] at h
    split at h
    · rename_i he
      split at h
      · cases h
      · refine ⟨.nil, rfl, by simp [deep]; exact ho, .inl rfl, .inr ⟨by omega, ls, by rw [he]; rfl, ?_⟩⟩
        simpa [size, all] using h
    · cases hs : stmtOf l with
      | none => rw [hs] at h; cases h
      | some x =>
        obtain ⟨op, a, n⟩ := x
        rw [hs] at h
        simp only at h
        obtain ⟨rfl, hok⟩ := stmt_some hs
        split at h
        · cases h
        · rename_i hm
          split at h
          · rename_i hop
            split at h
            · cases h
            · rename_i ho8
              obtain ⟨b, b1, b2, b3, b4⟩ := chk_none k ls (o + 1) (m + 1) (i + 1) (by omega) (by omega) h
              rcases b4 with ⟨h0, -⟩ | ⟨-, r, rfl, hr⟩
              · omega
              · rw [Nat.add_sub_cancel] at hr
                obtain ⟨t, t1, t2, t3, t4⟩ := chk_none k r o (m + 1 + size b) _ (by simp only [List.length_append, List.length_cons] at hk; omega) ho hr
                refine ⟨.cons op a n b t, by simp [one, hok, hop, b1, t1], by rw [deep, if_pos hop]; omega, .inr (by rw [size]; omega), ?_⟩
                rcases t4 with ⟨h0, rfl⟩ | ⟨h0, r', rfl, hr'⟩
                · exact .inl ⟨h0, by rw [all, if_pos hop]; simp⟩
                · refine .inr ⟨h0, r', by rw [all, if_pos hop]; simp, ?_⟩
                  rw [← hr']
                  congr 1
                  · rw [size]; omega
                  · rw [all, if_pos hop]; simp only [List.length_cons, List.length_append, List.length_nil]; omega
          · rename_i hop
            obtain ⟨t, t1, t2, t3, t4⟩ := chk_none k ls o (m + 1) (i + 1) (by omega) ho h
            refine ⟨.cons op a n .nil t, by simp [one, hok, t1], by rw [deep, if_neg hop]; omega, .inr (by simp only [size]; omega), ?_⟩
            rcases t4 with ⟨h0, rfl⟩ | ⟨h0, r', rfl, hr'⟩
            · exact .inl ⟨h0, by rw [all, if_neg hop]; rfl⟩
            · refine .inr ⟨h0, r', by rw [all, if_neg hop]; rfl, ?_⟩
              rw [← hr']
              congr 1
              · simp only [size]; omega
              · rw [all, if_neg hop]; simp only [List.length_cons, List.nil_append]; omega
/-- P13.4: what is read may be, and its lines are the lines -/
theorem parse_ok {ls : List (List (List UInt8))} {f : Fo} (h : parse ls = .ok f) : may f = true ∧ all f = ls := by
  unfold parse at h
  cases hc : chk 0 0 0 ls with
  | some e => rw [hc] at h; cases h
  | none =>
    obtain ⟨g, g1, g2, g3, g4⟩ := chk_none ls.length ls 0 0 0 (Nat.le_refl _) (by omega) hc
    rcases g4 with ⟨-, rfl⟩ | ⟨h0, -⟩
    · have hmay : may g = true := by
        unfold may
        simp only [Bool.and_eq_true, decide_eq_true_eq]
        exact ⟨⟨g1, by omega⟩, by omega⟩
      have := parse_all hmay
      unfold parse at this
      rw [this] at h
      cases h
      exact ⟨hmay, rfl⟩
    · omega

end Go.Proofs.YtnobmgkdieaclaaGreatDoor.Ac
