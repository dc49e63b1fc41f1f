/-
  WHAT THE PROGRAM's May, Same, Print DO, in the shape that the laws want.
-/
import Derived.Test.YthpipbkbldlfjaaRAns
import Derived.Test.YthpipbkbldlfjaaRGreat2
import Derived.Test.YthpipbkbldlfjaaDConc
import Derived.Test.YthpipbkbldlfjaaDSame
namespace Go.Proofs.Ythpipbkbldlfjaa
open Go.RowKit

theorem MayL_any (va : Value) (A : List Rl.It) (w : World) (B : Nat) (ha : ItsS w B va A) (hBw : B ≤ w.heap.size) (hA : Rl.Small A) :
    Calls Try.prog 21 #[va] w fun e w' => e = .returned (.bool (Rl.may A)) ∧ Below w.heap.size w w' := May_any va A w B ha hBw hA.len hA.few
theorem SameL_any (va vb : Value) (A C : List Rl.It) (w : World) (B : Nat) (ha : ItsS w B va A) (hb : ItsS w B vb C) (hBw : B ≤ w.heap.size) (hA : Rl.Small A) (_hC : Rl.Small C) :
    Calls Try.prog 23 #[va, vb] w fun e w' => e = .returned (.bool (decide (A.map Rl.bi = C.map Rl.bi))) ∧ Below w.heap.size w w' := Same_any va vb A C w B ha hb hBw hA.len hA.few
/-- what Print answers -/
def prV (A : List Rl.It) : Value := if Rl.may A = true then .tuple #[.string (str (Rl.print A)), .int .i64 0] else .tuple #[.string .empty, .int .i64 2]
theorem PrintL_any (va : Value) (A : List Rl.It) (w : World) (B : Nat) (ha : ItsS w B va A) (hBw : B ≤ w.heap.size) (hA : Rl.Small A) :
    Calls Try.prog 19 #[va] w fun e w' => e = .returned (prV A) ∧ Below w.heap.size w w' := Print_any va A w B ha hBw hA.len hA.few hA.head2 hA.lines hA.print

end Go.Proofs.Ythpipbkbldlfjaa

