/-
  TREES BY DEFINITION: files, rising by path, and all changes there ever were. No program here.
-/
import Derived.Test.YtifolddmcibkdaaKOrd
import Derived.Test.YtifolddmcibkdaaPMath
namespace Go.Proofs.Ytifolddmcibkdaa.Tm
open Ks

/-- a path with its content -/
structure Fl where
  path : ByteArray
  text : ByteArray
/-- a tree -/
structure T where
  files : List Fl
  chs : List ByteArray
def T.zero : T := ⟨[], []⟩
def noFl : Fl := ⟨.empty, .empty⟩

def isPath (p : ByteArray) : Bool := Pm.isP (p.data.toList)
/-- where a path stands, or would stand -/
def place (l : List Fl) (p : ByteArray) : Nat := (l.takeWhile fun f => kl f.path p).length
/-- is it there? -/
def isIn (l : List Fl) (p : ByteArray) : Bool := decide (place l p < l.length) && decide ((l.getD (place l p) noFl).path = p)
def read (t : T) (p : ByteArray) : ByteArray × Nat :=
  if isPath p = false then (.empty, 2) else if isIn t.files p = true then ((t.files.getD (place t.files p) noFl).text, 0) else (.empty, 4)
/-- files with one more, or with another content -/
def put (l : List Fl) (p s : ByteArray) : List Fl := l.take (place l p) ++ ⟨p, s⟩ :: l.drop (if isIn l p = true then place l p + 1 else place l p)
def write (t : T) (p s : ByteArray) : Nat × T :=
  if isPath p = false then (2, t) else if 4096 < s.size then (3, t)
  else if isIn t.files p = true ∧ (t.files.getD (place t.files p) noFl).text = s then (0, t)
  else if isIn t.files p = false ∧ t.files.length = 256 then (8, t)
  else (0, ⟨put t.files p s, t.chs ++ [p]⟩)
def cut (l : List Fl) (p : ByteArray) : List Fl := l.take (place l p) ++ l.drop (place l p + 1)
def remove (t : T) (p : ByteArray) : Nat × T :=
  if (read t p).2 = 0 then (0, ⟨cut t.files p, t.chs ++ [p]⟩) else ((read t p).2, t)
def list (t : T) (pre : ByteArray) : List ByteArray := (t.files.map Fl.path).filter fun q => pre.data.toList.isPrefixOf q.data.toList
/-- a path among paths that rise, once -/
def ins (l : List ByteArray) (p : ByteArray) : List ByteArray :=
  let i := (l.takeWhile fun q => kl q p).length
  if i < l.length ∧ l.getD i .empty = p then l else l.take i ++ p :: l.drop i
def since (t : T) (m : Int) : List ByteArray × Bool :=
  if m < 0 ∨ (t.chs.length : Int) < m ∨ 32 < (t.chs.length : Int) - m then ([], false) else ((t.chs.drop m.toNat).foldl ins [], true)

theorem place_le (l : List Fl) (p : ByteArray) : place l p ≤ l.length := by
  unfold place
  exact (List.takeWhile_prefix _).length_le

end Go.Proofs.Ytifolddmcibkdaa.Tm
