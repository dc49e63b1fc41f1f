/-
  The document's device: Copy, whatever it has.
-/
import Derived.Test.YtccfoafcfnhejaaRefCopyF
import Derived.Test.YtccfoafcfnhejaaRefCopyN
namespace Go.Proofs.Ytccfoafcfnhejaa
open Go.RowKit

theorem RCopy_any (w : World) (y : RPl) (d : Dk.Dev) (h : RHas w y d) (hfl : y.fl.length ≤ 1000000) :
    Calls Try.prog 23 #[ptr y.p] w fun e w' => ∃ y' : RPl, e = .returned (ptr y'.p) ∧ (∀ k, k ∈ y'.bl → w.heap.size ≤ k) ∧ RHas w' y' d ∧ y'.fl = y.fl ∧ Below w.heap.size w w' := by
  by_cases hne : y.fl = []
  · exact RCopy_none w y d h hne
  · exact RCopy_full w y d h hfl hne
end Go.Proofs.Ytccfoafcfnhejaa
