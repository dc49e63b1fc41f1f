/-
  THE WALK OF PathGlobs.
-/
import Derived.Test.YtnfdjgpephoomaaLWorks
import Derived.Test.YtnfdjgpephoomaaPXG
namespace Go.Proofs.Ytnfdjgpephoomaa
open Go.RowKit

set_option maxRecDepth 100000 in
set_option maxHeartbeats 2000000 in
theorem globs_walk (p s : ByteArray) (w : World) : Calls Try.prog 6 #[.string p, .string s] w fun e w' => e = .returned (.bool true) ∧ Below w.heap.size w w' := by
  go_enter Try.func6, Try.ntmps6
  go_wp2_with fail
  refine (works_true _).mono ?_
  rintro e w1 ⟨rfl, hB1⟩
  by_cases h1 : (1000 : Int) < (p.size : Int)
  · go_wp2
    go_ret
    exact ⟨rfl, hB1⟩
  by_cases h2 : (1000 : Int) < (s.size : Int)
  · go_wp2
    go_ret
    exact ⟨rfl, hB1⟩
  go_wp2_with fail
  refine (Glob_any p s _ (by omega) (by omega)).mono ?_
  rintro e w3 ⟨rfl, hB3⟩
  go_wp2_with fail
  refine (GlobT_any p s _ (by omega) (by omega)).mono ?_
  rintro e w4 ⟨rfl, hB4⟩
  have hB := (hB1.trans (hB3.mono hB1.size)).trans (hB4.mono (Nat.le_trans hB1.size hB3.size))
  generalize Pm.glob (bs p) (bs s) = b at *
  have hq : (b == b) = true := by simp
  go_wp2
  go_ret
  exact ⟨rfl, hB⟩

end Go.Proofs.Ytnfdjgpephoomaa
