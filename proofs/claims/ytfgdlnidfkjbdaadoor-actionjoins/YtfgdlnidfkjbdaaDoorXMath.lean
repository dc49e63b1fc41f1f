/-
  TEXTS OF RULES BY DEFINITION: bytes with joins told as blanks, words, lines. No program here.
-/
import Derived.Test.YtfgdlnidfkjbdaaDoorKit
namespace Go.Proofs.YtfgdlnidfkjbdaaDoor.Lx

/-- a byte of a text, a join told as a blank, and where it stands -/
structure B (α : Type) where
  c : UInt8
  join : Bool
  at_ : α
/-- a word, and where it stands -/
structure W (α : Type) where
  text : List UInt8
  at_ : α
  quoted : Bool
  mark : Bool
/-- an answer, or where it goes wrong -/
inductive R (α β : Type) where
  | bad (a : α)
  | ok (b : β)
def R.map {α β γ δ : Type} (f : α → γ) (g : β → δ) : R α β → R γ δ
  | .bad a => .bad (f a)
  | .ok b => .ok (g b)
def R.andThen {α β γ : Type} (r : R α β) (f : β → R α γ) : R α γ :=
  match r with
  | .bad a => .bad a
  | .ok b => f b
variable {α β : Type}
def B.map (f : α → β) (b : B α) : B β := ⟨b.c, b.join, f b.at_⟩
def W.map (f : α → β) (w : W α) : W β := ⟨w.text, f w.at_, w.quoted, w.mark⟩

def bare (c : UInt8) : Bool := decide (33 ≤ c.toNat ∧ c.toNat ≤ 126 ∧ c ≠ 34 ∧ c ≠ 35 ∧ c ≠ 58 ∧ c ≠ 61 ∧ c ≠ 92)
/-- what a byte behind a backslash within quotes tells -/
def esc (c : UInt8) : Option UInt8 := if c = 34 ∨ c = 92 then some c else if c = 110 then some 10 else if c = 116 then some 9 else none
/-- a quoted word from behind its first quote on: none: it has no end -/
def quo : List (B α) → List UInt8 → R α (Option (List UInt8 × List (B α)))
  | [], _ => .ok none
  | b :: r, acc =>
    if b.c = 34 then .ok (some (acc, r))
    else if b.c ≠ 92 then quo r (acc ++ [b.c])
    else qesc b.at_ r acc
where
  /-- behind a backslash -/
  qesc (a : α) : List (B α) → List UInt8 → R α (Option (List UInt8 × List (B α)))
  | [], _ => .bad a
  | e :: r', acc => if e.join = true then .bad a else match esc e.c with
    | some x => quo r' (acc ++ [x])
    | none => .bad a
theorem quo_len : ∀ (n : Nat) (l : List (B α)) (acc s : List UInt8) (r : List (B α)), l.length ≤ n → quo l acc = .ok (some (s, r)) → r.length < l.length := by
  intro n
  induction n with
  | zero =>
    intro l acc s r hl h
    cases l with
    | nil => simp [quo] at h
    | cons b t => simp at hl
  | succ n ih =>
    intro l acc s r hl h
    cases l with
    | nil => simp [quo] at h
    | cons b t =>
      rw [quo] at h
      simp only [List.length_cons] at hl ⊢
      split at h
      · simp only [R.ok.injEq, Option.some.injEq, Prod.mk.injEq] at h
        rw [← h.2]; omega
      · split at h
        · have := ih t _ s r (by omega) h; omega
        · cases t with
          | nil => simp [quo.qesc] at h
          | cons e t' =>
            rw [quo.qesc] at h
            split at h
            · cases h
            · split at h
              · simp only [List.length_cons] at hl ⊢
                have := ih t' _ s r (by omega) h; omega
              · cases h
/-- the words of a logical line, from a place on -/
def rd : List (B α) → R α (List (W α))
  | [] => .ok []
  | b :: r =>
    if b.c = 35 then .ok []
    else if b.c = 32 then rd r
    else if b.c = 58 ∨ b.c = 61 then (rd r).map id (⟨[b.c], b.at_, false, true⟩ :: ·)
    else if b.c = 34 then
      match _h : quo r [] with
      | .bad a => .bad a
      | .ok none => .bad b.at_
      | .ok (some (s, r')) => (rd r').map id (⟨s, b.at_, true, false⟩ :: ·)
    else if bare b.c = true then (rd (r.dropWhile fun x => bare x.c)).map id (⟨b.c :: (r.takeWhile fun x => bare x.c).map B.c, b.at_, false, false⟩ :: ·)
    else .bad b.at_
termination_by l => l.length
decreasing_by
  all_goals simp only [List.length_cons]
  · omega
  · omega
  · have := quo_len _ r [] s r' (Nat.le_refl _) _h; omega
  · have := List.Sublist.length_le (List.dropWhile_sublist (fun x : B α => bare x.c) (l := r)); omega
/-- a logical line: where it begins, whether it is indented, its words -/
structure Ln (α : Type) where
  at_ : α
  ind : Bool
  words : List (W α)
def Ln.map (f : α → β) (l : Ln α) : Ln β := ⟨f l.at_, l.ind, l.words.map (W.map f)⟩
def line : List (B α) → R α (Bool × List (W α))
  | [] => .ok (false, [])
  | b :: r => if b.c = 9 then (rd r).map id (true, ·) else (rd (b :: r)).map id (false, ·)
/-- the logical lines that have a word -/
def lns : List (B α) → R α (List (Ln α))
  | [] => .ok []
  | b :: r =>
    (line ((b :: r).takeWhile fun x => x.c != 10)).andThen fun (i, ws) =>
      (lns (((b :: r).dropWhile fun x => x.c != 10).drop 1)).map id fun t => if ws = [] then t else ⟨b.at_, i, ws⟩ :: t
termination_by l => l.length
decreasing_by
  simp only [List.length_cons, List.length_drop]
  have := List.Sublist.length_le (List.dropWhile_sublist (fun x : B α => x.c != 10) (l := b :: r))
  simp only [List.length_cons] at this
  omega

/-- a text's bytes from the p-th on -/
def bytes : Nat → List UInt8 → List (B Nat)
  | _, [] => []
  | p, 92 :: 10 :: r => ⟨32, true, p⟩ :: bytes (p + 2) r
  | p, c :: r => ⟨c, false, p⟩ :: bytes (p + 1) r
def lex (t : List UInt8) : R Nat (List (Ln Nat)) := lns (bytes 0 t)
/-- the line and the byte of it of the byte at -/
def place (t : List UInt8) (n : Nat) : Nat × Nat := ((t.take n).count 10 + 1, ((t.take n).reverse.takeWhile fun c => c != 10).length)

def plain (s : List UInt8) : Bool := !s.isEmpty && s.all bare
def qb (c : UInt8) : List UInt8 := if c = 34 ∨ c = 92 then [92, c] else if c = 10 then [92, 110] else if c = 9 then [92, 116] else [c]
def quote (s : List UInt8) : List UInt8 := 34 :: (s.flatMap qb ++ [34])
def show_ (s : List UInt8) : List UInt8 := if plain s = true then s else quote s
def wtext (w : W α) : List UInt8 := if w.mark = true then w.text else if w.quoted = true then quote w.text else show_ w.text
def inter (l : List (List UInt8)) : List UInt8 := List.intercalate [32] l
def wline (l : Ln α) : List UInt8 := (if l.ind = true then [9] else []) ++ (inter (l.words.map wtext) ++ [10])
def write (l : List (Ln α)) : List UInt8 := l.flatMap wline

end Go.Proofs.YtfgdlnidfkjbdaaDoor.Lx
