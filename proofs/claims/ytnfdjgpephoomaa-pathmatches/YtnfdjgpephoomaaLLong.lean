/-
  THE LAWS' long.
-/
import Derived.Test.YtnfdjgpephoomaaPX
namespace Go.Proofs.Ytnfdjgpephoomaa
open Go.RowKit

set_option maxRecDepth 100000 in
theorem long_any (n : Int) (w : World) : Calls Try.prog 12 #[.int .i64 n] w fun e w' => e = .returned (.bool (decide (1048576 < n))) ∧ w' = w := by
  go_enter Try.func12, Try.ntmps12
  go_wp2
  go_ret
  exact ⟨rfl, rfl⟩

end Go.Proofs.Ytnfdjgpephoomaa
