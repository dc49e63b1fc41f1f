/-
  THE WALK OF THE DOCUMENT's Find.
-/
import Derived.Test.YtplfcpbjlhobeaaRSmall
namespace Go.Proofs.Ytplfcpbjlhobeaa
open Go.RowKit

def Cm.placeTo (n : Cm.Nd) (key : ByteArray) (k : Nat) : Nat := ((n.items.take k).filter (Cm.ahead n key)).length
def Cm.isTo (n : Cm.Nd) (key : ByteArray) (k : Nat) : Bool := (n.items.take k).any fun x => decide (x.key = key)
theorem take_get (l : List Cm.It) (k : Nat) (h : k < l.length) : l.take (k + 1) = l.take k ++ [l.getD k Cm.zero] := by
  rw [List.take_succ_eq_append_getElem h]; simp [List.getD, List.getElem?_eq_getElem h]
theorem Cm.placeTo_succ (n : Cm.Nd) (key : ByteArray) (k : Nat) (h : k < n.items.length) : Cm.placeTo n key (k + 1) = Cm.placeTo n key k + if Cm.ahead n key (n.items.getD k Cm.zero) = true then 1 else 0 := by
  unfold Cm.placeTo
  rw [take_get _ _ h, List.filter_append, List.length_append]
  congr 1
  generalize n.items.getD k Cm.zero = x
  cases h : Cm.ahead n key x <;> simp [List.filter, h]
theorem Cm.isTo_succ (n : Cm.Nd) (key : ByteArray) (k : Nat) (h : k < n.items.length) : Cm.isTo n key (k + 1) = (Cm.isTo n key k || decide ((n.items.getD k Cm.zero).key = key)) := by
  unfold Cm.isTo
  rw [take_get _ _ h, List.any_append]
  simp
theorem Cm.placeTo_le (n : Cm.Nd) (key : ByteArray) (k : Nat) : Cm.placeTo n key k ≤ n.items.length := by
  unfold Cm.placeTo
  have h1 := List.length_filter_le (Cm.ahead n key) (n.items.take k)
  have h2 := List.length_take_le' k n.items
  omega


end Go.Proofs.Ytplfcpbjlhobeaa
