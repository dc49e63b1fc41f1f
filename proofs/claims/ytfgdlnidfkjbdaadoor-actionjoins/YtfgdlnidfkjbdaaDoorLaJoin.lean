/-
  ActionJoins' walk.
-/
import Derived.Test.YtfgdlnidfkjbdaaDoorLaJoinY
namespace Go.Proofs.YtfgdlnidfkjbdaaDoor
open Go.RowKit

theorem joins_walk (va : Value) (f : Ac.Fo) (vb : Value) (g : Ac.Fo) (n : Int) (w : World) (hL : Laid w) (h1 : FoS w w.heap.size va f) (hn1 : f.len ≤ reachBytes) (hz1 : Ac.SzE f) (h2 : FoS w w.heap.size vb g) (hn2 : g.len ≤ reachBytes) (hz2 : Ac.SzE g) (_ : -9223372036854775808 ≤ n) (_ : n ≤ 9223372036854775807) :
    Calls Tryd.prog 6 #[va, vb, .int .i64 n] w fun e w' => e = .returned (.bool true) ∧ Below w.heap.size w w' := by
  cases h : Ac.may f && Ac.may g with
  | false => exact joins_not va f vb g n w hL h1 hn1 hz1 h2 hn2 hz2 h
  | true =>
    rw [Bool.and_eq_true] at h
    exact joins_yes va f vb g n w hL h1 hn1 hz1 h2 hn2 hz2 h.1 h.2

end Go.Proofs.YtfgdlnidfkjbdaaDoor
