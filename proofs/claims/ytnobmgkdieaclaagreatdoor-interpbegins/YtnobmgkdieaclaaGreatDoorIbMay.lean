/-
  WHAT THE DOCUMENT's May, New DO.
-/
import Derived.Test.YtnobmgkdieaclaaGreatDoorIpGreat
import Derived.BigQuiet
import Derived.Test.YtnobmgkdieaclaaGreatDoorASizeDeep
import Derived.Test.YtnobmgkdieaclaaGreatDoorPBs
import Derived.Test.YtnobmgkdieaclaaGreatDoorPMath
import Derived.Lib.SlicesCompact
import Derived.Test.YtnobmgkdieaclaaGreatDoorProg
import Derived.WalkKit
import Derived.Maps.OwnSet
import Derived.Maps.Views
import Derived.Maps.RangeWalk
import Derived.Sort.KeysCollected
namespace Go.Proofs.YtnobmgkdieaclaaGreatDoor
open Go.RowKit

/-- what the document's one does (IbOne proves it) -/
def OneC : Prop := ∀ (f : Ac.Fo) (v : Value) (w : World) (B : Nat), FoS w B v f → B ≤ w.heap.size → Ac.size f ≤ 1000000 → Calls Tryz.prog 65 #[v] w fun e w' => e = .returned (.bool (Ac.one f)) ∧ Below w.heap.size w w'
set_option maxRecDepth 100000 in
set_option maxHeartbeats 1000000 in
theorem MayT_any (HC : OneC) (f : Ac.Fo) (v : Value) (w : World) (B : Nat) (h : FoS w B v f) (hB : B ≤ w.heap.size) (hs : Ac.size f ≤ 1000000) : Calls Tryz.prog 48 #[v] w fun e w' => e = .returned (.bool (Ac.may f)) ∧ Below w.heap.size w w' := by
  have h1 := HC f v w B h hB hs
  have h2 := fun W (hW : Below w.heap.size w W) => SizeT_any f v W B (h.below hW hB) (by omega)
  have h3 := fun W (hW : Below w.heap.size w W) => DeepT_any f v W B (h.below hW hB) (by omega)
  have hd := Ac.deep_size f
  have HM : Hid (Ac.may f = (Ac.one f && decide (Ac.size f ≤ 256) && decide (Ac.deep f ≤ 8))) := rfl
  obtain ⟨ad, c, rfl, -⟩ := h.shape
  clear h
  cases ho : Ac.one f with
  | false =>
    rw [ho] at h1 HM
    have HF : Hid (Ac.may f = false) := HM.out
    clear HM ho
    go_enter Tryz.func48, Tryz.ntmps48
    go_wp2_with (first | (go_at_call 65; refine h1.mono ?_; rintro e w1 ⟨rfl, hb1⟩) | fail)
    go_ret
    rw [HF.out]
    exact ⟨rfl, hb1⟩
  | true =>
    rw [ho] at h1 HM
    clear ho
    generalize Ac.size f = S at *
    generalize Ac.deep f = D at *
    by_cases h256 : S ≤ 256
    · have i1 : (S : Int) ≤ 256 := by omega
      have HF : Hid (Ac.may f = decide (D ≤ 8)) := by
        show _ = _
        rw [HM.out, decide_eq_true h256]; rfl
      by_cases h8 : D ≤ 8
      · have i2 : (D : Int) ≤ 8 := by omega
        have HF2 : Hid (Ac.may f = true) := by show _ = _; rw [HF.out, decide_eq_true h8]
        clear HM HF
        go_enter Tryz.func48, Tryz.ntmps48
        go_wp2_with (first | (go_at_call 65; refine h1.mono ?_; rintro e w1 ⟨rfl, hb1⟩) | (go_at_call 66; refine (h2 _ hb1).mono ?_; rintro e w2 ⟨rfl, hw⟩; rw [hw]; clear hw) | (go_at_call 67; refine (h3 _ hb1).mono ?_; rintro e w2 ⟨rfl, hw⟩; rw [hw]; clear hw) | fail)
        go_ret
        rw [HF2.out]
        exact ⟨rfl, hb1⟩
      · have i2 : ¬ (D : Int) ≤ 8 := by omega
        have HI2 : Hid (decide ((D : Int) ≤ 8) = false) := decide_eq_false i2
        have HF2 : Hid (Ac.may f = false) := by show _ = _; rw [HF.out, decide_eq_false h8]
        clear HM HF
        go_enter Tryz.func48, Tryz.ntmps48
        go_wp2_with (first | (go_at_call 65; refine h1.mono ?_; rintro e w1 ⟨rfl, hb1⟩) | (go_at_call 66; refine (h2 _ hb1).mono ?_; rintro e w2 ⟨rfl, hw⟩; rw [hw]; clear hw) | (go_at_call 67; refine (h3 _ hb1).mono ?_; rintro e w2 ⟨rfl, hw⟩; rw [hw]; clear hw) | fail)
        go_ret
        rw [HF2.out]
        refine ⟨?_, hb1⟩
        show Ending.returned (.bool (decide ((D : Int) ≤ 8))) = _
        rw [HI2.out]
    · have i1 : ¬ (S : Int) ≤ 256 := by omega
      have HF2 : Hid (Ac.may f = false) := by show _ = _; rw [HM.out, decide_eq_false h256]; rfl
      clear HM
      go_enter Tryz.func48, Tryz.ntmps48
      go_wp2_with (first | (go_at_call 65; refine h1.mono ?_; rintro e w1 ⟨rfl, hb1⟩) | (go_at_call 66; refine (h2 _ hb1).mono ?_; rintro e w2 ⟨rfl, hw⟩; rw [hw]; clear hw) | fail)
      go_ret
      rw [HF2.out]
      exact ⟨rfl, hb1⟩
end Go.Proofs.YtnobmgkdieaclaaGreatDoor

namespace Go.Proofs.YtnobmgkdieaclaaGreatDoor
namespace Ip
abbrev B := List UInt8

/-- a word as it is told: each @ is the line -/
def told (line w : B) : B := w.flatMap fun c => if c = 64 then line else [c]
/-- words, one blank between two -/
def joinW : List B → B
  | [] => []
  | [w] => w
  | w :: r => w ++ 32 :: joinW r
/-- words as they are told -/
def words (line : B) (ws : List B) : B := told line (joinW ws)
/-- the pieces between bytes 10 -/
def cutN : B → List B
  | [] => [[]]
  | c :: r => if c = 10 then [] :: cutN r else match cutN r with
    | [] => [[c]]
    | p :: q => (c :: p) :: q
/-- a content's lines -/
def linesOf (s : B) : List B := if (cutN s).getLastD [] = [] then (cutN s).dropLast else cutN s
/-- lines, a byte 10 behind each -/
def joined (ls : List B) : B := ls.flatMap fun l => l ++ [10]
def up1 (c : UInt8) : UInt8 := if 97 ≤ c ∧ c ≤ 122 then c - 97 + 65 else c
def upper (s : B) : B := s.map up1
def le (x y : B) : Bool := decide (x ≤ y)
def sorted (ls : List B) : List B := ls.mergeSort le
/-- an element stays if it is the first or unlike the one ahead -/
def unlike (ls : List B) : List B := Lib.compact ls
def change (op : Int) (ls : List B) : List B := if op = 5 then sorted ls else if op = 6 then unlike ls else [Ac.digits ls.length]

/-- a body that is open -/
structure Bod where
  code : Ac.Fo
  next : Nat
  line : B
  rounds : List B
/-- an event -/
structure Ev where
  kind : Nat
  path : B
  why : Nat
  text : B
deriving DecidableEq
def Ev.zero : Ev := ⟨0, [], 0, []⟩
/-- a run: the open bodies, the innermost one first -/
structure St where
  targets : List B
  fuel : Nat
  used : Nat
  stack : List Bod
  begun : Bool
  buffer : B
  told : B → Option B
  written : B → Option B
  needs : List B
  ev : Ev
def upd (f : B → Option B) (x v : B) : B → Option B := fun y => if y = x then some v else f y
def new (code : Ac.Fo) (targets : List B) (fuel : Nat) : St := ⟨targets, fuel, 0, [⟨code, 0, [], []⟩], false, [], fun _ => none, fun _ => none, [], Ev.zero⟩
def mayT (ts : List B) : Bool := decide (1 ≤ ts.length) && decide (ts.length ≤ 4) && ts.all Pm.isP && decide ts.Nodup
def mayNew (code : Ac.Fo) (ts : List B) (fuel : Int) : Bool := Ac.may code && mayT ts && decide (0 ≤ fuel ∧ fuel ≤ 65536)

namespace St
def fail (s : St) (why : Nat) (text : B) : St := { s with ev := ⟨3, [], why, text⟩ }
/-- is there so much fuel? -/
def can (s : St) (n : Nat) : Bool := decide (n ≤ s.fuel - s.used)
def pay (s : St) (n : Nat) : St := if s.can n then { s with used := s.used + n } else St.fail { s with used := s.fuel } 143 []
def canPut (s : St) (n : Nat) : Bool := decide (s.buffer.length + n ≤ 256) && s.can n
def mayPut (s : St) (n : Nat) : St := if s.buffer.length + n ≤ 256 then s.pay n else s.fail 146 []
/-- a word's path -/
def pathOf (line w : B) : Option B := if (Pm.norm (Ip.told line w)).2 = 0 then some (Pm.norm (Ip.told line w)).1 else none
/-- what a run has of the path of a word -/
def has (s : St) (line w : B) : Option B := (pathOf line w).bind s.told
/-- where it has nothing: what becomes of it -/
def ask (s : St) (line w : B) : St :=
  match pathOf line w with
  | none => s.fail 141 (Ip.told line w)
  | some p => match s.told p with
    | some _ => s
    | none => if 8 ≤ s.needs.length then s.fail 144 p else { s with needs := s.needs ++ [p], ev := ⟨1, p, 0, []⟩ }
def put (s : St) (t : B) : St := if s.canPut t.length then { s.mayPut t.length with buffer := s.buffer ++ t } else s.mayPut t.length
def lay (s : St) (ls : List B) : St := if (joined ls).length ≤ 256 then { s with buffer := joined ls } else s.fail 146 []
def write (s : St) (p : B) : St := if (s.written p).isSome = true ∨ p ∉ s.targets then s.fail 142 p else { s with written := upd s.written p s.buffer, buffer := [] }
def push (s : St) (b : Bod) : St := { s with stack := b :: s.stack }
/-- what a statement does -/
def act (s : St) (op : Int) (a : List B) (n : Nat) (body : Ac.Fo) (line : B) : St :=
  if op = 1 then s.ask line (a.getD 0 [])
  else if op = 2 then match s.has line (a.getD 0 []) with
    | some c => s.put c
    | none => s.ask line (a.getD 0 [])
  else if op = 3 then s.put (words line a ++ [10])
  else if op = 4 then { s with buffer := upper s.buffer }
  else if op = 5 ∨ op = 6 ∨ op = 7 then s.lay (change op (linesOf s.buffer))
  else if op = 8 then match pathOf line (a.getD 0 []) with
    | some p => s.write p
    | none => s.fail 141 (Ip.told line (a.getD 0 []))
  else if op = 9 then s.fail 140 (words line a)
  else if op = 10 then s.push ⟨body, body.len, [], List.replicate n line⟩
  else if op = 11 then match s.has line (a.getD 0 []) with
    | some c => s.push ⟨body, body.len, [], linesOf c⟩
    | none => s.ask line (a.getD 0 [])
  else if op = 12 then if Ip.told line (a.getD 0 []) = Ip.told line (a.getD 1 []) then s.push ⟨body, 0, line, []⟩ else s
  else s
/-- the next statement of the body above d others is behind -/
def nextAt (s : St) (d : Nat) : St := { s with stack := (s.stack.reverse.modify d fun b => { b with next := b.next + 1 }).reverse }
/-- a statement is done; d: how many bodies lie beneath its own -/
def did (s : St) (d : Nat) : St := if s.ev.kind = 1 then { s with begun := true } else { s.nextAt d with begun := false }
def statement (s : St) (b : Bod) (d : Nat) : St :=
  if s.begun = false ∧ s.can 1 = false then s.pay 1
  else match b.code.drop b.next with
    | .nil => s
    | .cons op a n body _ => ((if s.begun then s else s.pay 1).act op a n.toNat body b.line).did d
def finish (s : St) : St :=
  match s.targets.find? (fun p => !(s.written p).isSome) with
  | some p => s.fail 142 p
  | none => { s with ev := ⟨2, [], 0, []⟩ }
def goOn (s : St) : St :=
  match s.stack with
  | [] => s.finish
  | b :: r =>
    if b.next < b.code.len then s.statement b r.length
    else match b.rounds with
      | [] => { s with stack := r }
      | l :: ls => if s.can 1 then { s.pay 1 with stack := ⟨b.code, 0, l, ls⟩ :: r } else s.pay 1
/-- how far it is to an event -/
def far (s : St) : Nat := 2 * (s.fuel - s.used) + s.stack.length + (if s.begun then 2 else 0)
end St
end Ip
end Go.Proofs.YtnobmgkdieaclaaGreatDoor

namespace Go.Proofs.YtnobmgkdieaclaaGreatDoor
open Go.RowKit Go.Maps Go.ChangeMaps Go.MapKept Go.WideMaps

def tokT (v : Value) : Option (DataW Value × List MemPlace) := some (.held v, [])
theorem tight_map {w : World} {b N : Nat} {D : DataW Value} (h : w.ownsMap Tryz.prog 9 tokT b N D) : w.ownsMap Tryz.prog 9 tokT b (Maps.size D) D := by
  obtain ⟨es, clock, hb, F, hs, rfl⟩ := h
  exact ⟨es, clock, hb, F, Nat.le_of_eq (length_read es).symm, rfl⟩
/-- block b of w is a map of n entries whose text at x is f x -/
def MapS (w : World) (b n : Nat) (f : ByteArray → Option ByteArray) : Prop :=
  ∃ D : DataW Value, w.ownsMap Tryz.prog 9 tokT b n D ∧ Maps.size D = n ∧ (∀ x, Maps.has D (.string x.data.toList) = (f x).isSome) ∧ (∀ x s, f x = some s → ∀ z, D.atKey (.string x.data.toList) z = .held (.string s))
theorem keyed9 : Keyed Tryz.prog 9 := string_keyed Tryz.underlying9
theorem key9 {x : ByteArray} (h : x.size ≤ 1099511627) : keyOf Tryz.prog 9 (.string x) = some (.string x.data.toList) := keyOf_string_mk Tryz.underlying9 (by unfold maxLen; omega)
theorem isKeyStr (l : List UInt8) : WideAt.IsKeyLit (.string l) := trivial
theorem key_ne {x y : ByteArray} (h : x ≠ y) : (Lit.string x.data.toList) ≠ .string y.data.toList := fun e => by
  simp only [Lit.string.injEq] at e
  exact h (ByteArray.ext (Array.toList_inj.1 e))
def updS (f : ByteArray → Option ByteArray) (x : ByteArray) (v : Option ByteArray) : ByteArray → Option ByteArray := fun y => if y = x then v else f y
variable {w : World} {b n : Nat} {f : ByteArray → Option ByteArray}
theorem MapS.lt (h : MapS w b n f) : b < w.heap.size := by
  obtain ⟨D, h1, _⟩ := h
  exact h1.lt
theorem MapS.of_block {w' : World} (h : MapS w b n f) (hb : w'.heap[b]? = w.heap[b]?) : MapS w' b n f := by
  obtain ⟨D, ⟨es, clock, h1, F, hs, hD⟩, h2, h3⟩ := h
  exact ⟨D, ⟨es, clock, hb.trans h1, F, hs, hD⟩, h2, h3⟩
theorem MapS.made (w : World) : MapS (w.alloc (.map #[] 0)) w.heap.size 0 (fun _ => none) :=
  ⟨.map [], World.ownsMap_made w _ _ _, rfl, fun _ => rfl, fun _ _ h => by cases h⟩
theorem MapS.look (h : MapS w b n f) {t : TypeId} (ht : Tryz.prog.underlying t = some (.map 9 9)) {x : ByteArray} (hx : x.size ≤ 1099511627) :
    (Instr.lookup t (.map (some b)) (.string x) true).run Tryz.prog w = .ok (.tuple #[.string ((f x).getD .empty), .bool (f x).isSome]) w := by
  obtain ⟨D, ho, -, hh, ha⟩ := h
  obtain ⟨v, ps, hr, hv⟩ := ho.look_ok keyed9 ht (z := .string .empty) (by kernel_rfl) (zd := .held (.string .empty)) (zp := []) rfl (key9 hx)
  rw [hr, hh x]
  simp only [tokT, Option.some.injEq, Prod.mk.injEq] at hv
  obtain ⟨hv, _⟩ := hv
  cases hf : f x with
  | some u =>
    rw [ha x u hf] at hv
    cases hv
    rfl
  | none =>
    rw [atKey_of_not_has (by rw [hh x, hf]; rfl)] at hv
    cases hv
    rfl
theorem MapS.len (h : MapS w b n f) {t : TypeId} (ht : Tryz.prog.underlying t = some (.map 9 9)) (ty : TypeId) : (Builtin.len_ #[t] ty #[.map (some b)]).run Tryz.prog w = .ok (.int .i64 (n : Int)) w := by
  obtain ⟨D, ho, hs, -⟩ := h
  rw [ho.len ht ty, hs]
theorem MapS.store (h : MapS w b n f) {t : TypeId} (ht : Tryz.prog.underlying t = some (.map 9 9)) (hn : n < 1099511627) (s : ByteArray) {x : ByteArray} (hx : x.size ≤ 1099511627) :
    ∃ w', (Instr.mapUpdate t (.map (some b)) (.string x) (.string s)).run Tryz.prog w = .ok () w' ∧ MapS w' b (if (f x).isSome then n else n + 1) (updS f x (some s)) ∧ w.mapTurned w' b := by
  obtain ⟨D, ho, hs, hh, ha⟩ := h
  obtain ⟨w', hr, ho', ht'⟩ := ho.store keyed9 ht (by unfold maxLen; omega) (val := .string s) (d := .held (.string s)) (ps := []) (key9 hx) rfl
  have hz : Maps.size (D.put (.string x.data.toList) (.held (.string s))) = if (f x).isSome then n else n + 1 := by
    rw [size_put (ho.tidy keyed9), hh x, hs]
  refine ⟨w', hr, ⟨_, hz ▸ tight_map ho', hz, fun y => ?_, fun y u hu z => ?_⟩, ht'⟩
  · unfold updS
    by_cases hy : y = x
    · subst hy; rw [if_pos rfl, has_put_same ho.isMap (isKeyStr _)]; rfl
    · rw [if_neg hy, has_put_other (key_ne hy), hh]
  · unfold updS at hu
    by_cases hy : y = x
    · subst hy; rw [if_pos rfl] at hu; cases hu; exact atKey_put_same ho.isMap (isKeyStr _) _ _
    · rw [if_neg hy] at hu; rw [atKey_put_other (key_ne hy)]; exact ha y u hu z
theorem MapS.drop (h : MapS w b n f) {t : TypeId} (ht : Tryz.prog.underlying t = some (.map 9 9)) {x : ByteArray} (hx : x.size ≤ 1099511627) (ty : TypeId) :
    ∃ w', (Builtin.delete_ #[t, 9] ty #[.map (some b), .string x]).run Tryz.prog w = .ok (.tuple #[]) w' ∧ MapS w' b (if (f x).isSome then n - 1 else n) (updS f x none) ∧ w.mapTurned w' b := by
  obtain ⟨D, ho, hs, hh, ha⟩ := h
  obtain ⟨w', hr, ho', ht'⟩ := ho.drop keyed9 ht (key9 hx) ty
  have hz : Maps.size (D.del (.string x.data.toList)) = if (f x).isSome then n - 1 else n := by
    have := size_del (k := .string x.data.toList) (ho.tidy keyed9)
    rw [hh x, hs] at this
    split <;> simp_all <;> omega
  refine ⟨w', hr, ⟨_, hz ▸ tight_map ho', hz, fun y => ?_, fun y u hu z => ?_⟩, ht'⟩
  · unfold updS
    by_cases hy : y = x
    · subst hy; rw [if_pos rfl, has_del_same]; rfl
    · rw [if_neg hy, has_del_other (key_ne hy), hh]
  · unfold updS at hu
    by_cases hy : y = x
    · subst hy; rw [if_pos rfl] at hu; cases hu
    · rw [if_neg hy] at hu; rw [atKey_del_other (key_ne hy)]; exact ha y u hu z
end Go.Proofs.YtnobmgkdieaclaaGreatDoor

namespace Go.Proofs.YtnobmgkdieaclaaGreatDoor
open Go.RowKit Go.Maps Go.ChangeMaps Go.MapKept Go.WideMaps

/-- block b of w is a map of n entries that reads as D, whose thing at x is f x -/
def MapD {α : Type} (mk : α → Value) (w : World) (b n : Nat) (f : ByteArray → Option α) (D : DataW Value) : Prop :=
  w.ownsMap Tryz.prog 9 tokT b n D ∧ Maps.size D = n ∧ (∀ x, Maps.has D (.string x.data.toList) = (f x).isSome) ∧ (∀ x s, f x = some s → ∀ z, D.atKey (.string x.data.toList) z = .held (mk s))
def MapV {α : Type} (mk : α → Value) (w : World) (b n : Nat) (f : ByteArray → Option α) : Prop := ∃ D, MapD mk w b n f D
def updV {α : Type} (f : ByteArray → Option α) (x : ByteArray) (v : Option α) : ByteArray → Option α := fun y => if y = x then v else f y
variable {α : Type} {mk : α → Value} {w : World} {b n : Nat} {f : ByteArray → Option α}
theorem MapV.lt (h : MapV mk w b n f) : b < w.heap.size := by
  obtain ⟨D, h1, _⟩ := h
  exact h1.lt
theorem MapV.isMap (h : MapV mk w b n f) : ∃ es c, w.heap[b]? = some (.map es c) := by
  obtain ⟨D, ⟨es, clock, h1, -⟩, -⟩ := h
  exact ⟨es, clock, h1⟩
theorem MapV.of_entries {w' : World} {b' : Nat} {es : Array MapEntry} {c : Nat} (h : MapV mk w b n f) (hb : w.heap[b]? = some (.map es c)) (hb' : w'.heap[b']? = some (.map es c)) : MapV mk w' b' n f := by
  obtain ⟨D, ⟨es1, clock, h1, F, hs, hD⟩, h2⟩ := h
  rw [hb] at h1
  simp only [Option.some.injEq, Obj.map.injEq] at h1
  obtain ⟨rfl, rfl⟩ := h1
  exact ⟨D, ⟨es, c, hb', F, hs, hD⟩, h2⟩
theorem MapV.of_block {w' : World} (h : MapV mk w b n f) (hb : w'.heap[b]? = w.heap[b]?) : MapV mk w' b n f := by
  obtain ⟨es, c, h1⟩ := h.isMap
  exact h.of_entries h1 (hb.trans h1)
theorem MapV.made (mk : α → Value) (w : World) : MapV mk (w.alloc (.map #[] 0)) w.heap.size 0 (fun _ => none) :=
  ⟨.map [], World.ownsMap_made w _ _ _, rfl, fun _ => rfl, fun _ _ h => by cases h⟩
theorem MapV.look (h : MapV mk w b n f) {t E : TypeId} (ht : Tryz.prog.underlying t = some (.map 9 E)) {z : Value} (hz : (zeroValue E).run Tryz.prog w = .ok z w) {x : ByteArray} (hx : x.size ≤ 1099511627) :
    (Instr.lookup t (.map (some b)) (.string x) true).run Tryz.prog w = .ok (.tuple #[((f x).map mk).getD z, .bool (f x).isSome]) w := by
  obtain ⟨D, ho, -, hh, ha⟩ := h
  obtain ⟨v, ps, hr, hv⟩ := ho.look_ok keyed9 ht (z := z) hz (zd := .held z) (zp := []) rfl (key9 hx)
  rw [hr, hh x]
  simp only [tokT, Option.some.injEq, Prod.mk.injEq] at hv
  obtain ⟨hv, _⟩ := hv
  cases hf : f x with
  | some u =>
    rw [ha x u hf] at hv
    cases hv
    rfl
  | none =>
    rw [atKey_of_not_has (by rw [hh x, hf]; rfl)] at hv
    cases hv
    rfl
theorem MapV.len (h : MapV mk w b n f) {t E : TypeId} (ht : Tryz.prog.underlying t = some (.map 9 E)) (ty : TypeId) : (Builtin.len_ #[t] ty #[.map (some b)]).run Tryz.prog w = .ok (.int .i64 (n : Int)) w := by
  obtain ⟨D, ho, hs, -⟩ := h
  rw [ho.len ht ty, hs]
theorem MapV.store (h : MapV mk w b n f) {t E : TypeId} (ht : Tryz.prog.underlying t = some (.map 9 E)) (hn : n < 1099511627) (s : α) {x : ByteArray} (hx : x.size ≤ 1099511627) :
    ∃ w', (Instr.mapUpdate t (.map (some b)) (.string x) (mk s)).run Tryz.prog w = .ok () w' ∧ MapV mk w' b (if (f x).isSome then n else n + 1) (updV f x (some s)) ∧ w.mapTurned w' b := by
  obtain ⟨D, ho, hs, hh, ha⟩ := h
  obtain ⟨w', hr, ho', ht'⟩ := ho.store keyed9 ht (by unfold maxLen; omega) (val := mk s) (d := .held (mk s)) (ps := []) (key9 hx) rfl
  have hz : Maps.size (D.put (.string x.data.toList) (.held (mk s))) = if (f x).isSome then n else n + 1 := by
    rw [size_put (ho.tidy keyed9), hh x, hs]
  refine ⟨w', hr, ⟨_, hz ▸ tight_map ho', hz, fun y => ?_, fun y u hu z => ?_⟩, ht'⟩
  · unfold updV
    by_cases hy : y = x
    · subst hy; rw [if_pos rfl, has_put_same ho.isMap (isKeyStr _)]; rfl
    · rw [if_neg hy, has_put_other (key_ne hy), hh]
  · unfold updV at hu
    by_cases hy : y = x
    · subst hy; rw [if_pos rfl] at hu; cases hu; exact atKey_put_same ho.isMap (isKeyStr _) _ _
    · rw [if_neg hy] at hu; rw [atKey_put_other (key_ne hy)]; exact ha y u hu z
theorem MapV.drop (h : MapV mk w b n f) {t E : TypeId} (ht : Tryz.prog.underlying t = some (.map 9 E)) {x : ByteArray} (hx : x.size ≤ 1099511627) (ty : TypeId) :
    ∃ w', (Builtin.delete_ #[t, 9] ty #[.map (some b), .string x]).run Tryz.prog w = .ok (.tuple #[]) w' ∧ MapV mk w' b (if (f x).isSome then n - 1 else n) (updV f x none) ∧ w.mapTurned w' b := by
  obtain ⟨D, ho, hs, hh, ha⟩ := h
  obtain ⟨w', hr, ho', ht'⟩ := ho.drop keyed9 ht (key9 hx) ty
  have hz : Maps.size (D.del (.string x.data.toList)) = if (f x).isSome then n - 1 else n := by
    have := size_del (k := .string x.data.toList) (ho.tidy keyed9)
    rw [hh x, hs] at this
    split <;> simp_all <;> omega
  refine ⟨w', hr, ⟨_, hz ▸ tight_map ho', hz, fun y => ?_, fun y u hu z => ?_⟩, ht'⟩
  · unfold updV
    by_cases hy : y = x
    · subst hy; rw [if_pos rfl, has_del_same]; rfl
    · rw [if_neg hy, has_del_other (key_ne hy), hh]
  · unfold updV at hu
    by_cases hy : y = x
    · subst hy; rw [if_pos rfl] at hu; cases hu
    · rw [if_neg hy] at hu; rw [atKey_del_other (key_ne hy)]; exact ha y u hu z

/-- the keys met so far, while what is left is left: each once, just those that are there and are no longer to come -/
theorem collected_end {D : DataW Value} {left : Lit → Bool} {ss : List (List UInt8)} (hD : MapD mk w b n f D) (hC : Collected D left ss) (hl : ∀ k, left k = false) : (ss.map fun x => (⟨x.toArray⟩ : ByteArray)).Nodup ∧ ∀ q, q ∈ (ss.map fun x => (⟨x.toArray⟩ : ByteArray)) ↔ (f q).isSome = true := by
  have hn : (ss.map fun x => (⟨x.toArray⟩ : ByteArray)).Nodup := by
    refine List.pairwise_map.2 (List.Pairwise.imp (fun {a c} hac e2 => hac ?_) hC.1)
    have := congrArg (fun s : ByteArray => s.data.toList) e2
    simpa using this
  refine ⟨hn, fun q => ?_⟩
  · rw [List.mem_map, ← hD.2.2.1 q]
    constructor
    · rintro ⟨x, hx, rfl⟩
      have := ((hC.2 x).1 hx).1
      simpa using this
    · intro h
      exact ⟨q.data.toList, (hC.2 _).2 ⟨h, hl _⟩, ByteArray.ext (by simp)⟩

end Go.Proofs.YtnobmgkdieaclaaGreatDoor
