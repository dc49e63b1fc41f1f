/-
  WHAT AN ITERATOR OVER TEXTS PROMISES: whatever the loop's body does to blocks of its own.
-/
import Derived.Test.YtifolddmcibkdaaStrs
import Derived.RangeFuncNested
import Derived.RangeFuncBound
import Derived.RangeFuncCalls
import Derived.RangeFuncLeaves
import Derived.Shelf.Abstract
import Derived.Shelf.RegionOpen
import Derived.OwnWalkIn
import Derived.TacticsInMore
import Derived.LoopNIn
import Derived.LoopIn
namespace Go.Proofs.Ytifolddmcibkdaa
open Go.RowKit Go.Shelf

/-- the blocks of D stay -/
def KeepD (D : List Nat) (W W' : World) : Prop := ∀ b ∈ D, W'.heap[b]? = W.heap[b]?

theorem KeepD.trans {D : List Nat} {A B C : World} (h : KeepD D A B) (k : KeepD D B C) : KeepD D A C := fun b hb => (k b hb).trans (h b hb)
theorem KeepD.put {D : List Nat} {n : Nat} (hD : ∀ b ∈ D, b < n) (W : World) (l : Nat) (o o' : Obj) (hl : W.heap[l]? = some o) (hn : n ≤ l) : KeepD D W (W.putObj l o') := fun b hb => by
  have h1 := (Array.getElem?_eq_some_iff.1 hl).1
  have h2 := hD b hb
  exact (grownBy_putObj' W l o').block b (by omega) (fun e => by cases e; omega)
theorem KeepD.set {D : List Nat} (W : World) (p : Addr) (v : Value) (hp : p.block ∉ D) : KeepD D W (W.setCell p v) := fun b hb => Below.heap_setCell W p v b (fun e => hp (by rw [← e]; exact hb))
theorem KeepD.below {D : List Nat} {n : Nat} {W W' : World} (hD : ∀ b ∈ D, b < n) (h : Below n W W') : KeepD D W W' := fun b hb => h.block b (hD b hb)

/-- the closure gf, with what it has taken along, goes over the texts L, one behind the other: whatever is done meanwhile to other blocks than D's -/
def SeqOf (w : World) (gf : Nat) (lb : Array Value) (L : List ByteArray) (D : List Nat) : Prop :=
  ∀ W0 : World, w.heap.size ≤ W0.heap.size → KeepD D w W0 → ∀ n, 1 ≤ n →
    SeqStopsK Fence.wide n Try.prog gf lb (fun x : ByteArray => #[.string x]) (KeepD D) (fun xs => xs = L) (fun pre => pre <+: L) L.length W0

end Go.Proofs.Ytifolddmcibkdaa
