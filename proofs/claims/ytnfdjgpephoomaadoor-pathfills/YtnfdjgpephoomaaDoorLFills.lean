/-
  THE WALK OF PathFills.
-/
import Derived.Test.YtnfdjgpephoomaaDoorLWorks
import Derived.Test.YtnfdjgpephoomaaDoorPXF
import Derived.Test.YtnfdjgpephoomaaDoorRFillT
namespace Go.Proofs.YtnfdjgpephoomaaDoor
open Go.RowKit

set_option maxRecDepth 100000 in
set_option maxHeartbeats 2000000 in
theorem fills_walk (p s : ByteArray) (w : World) : Calls Tryd.prog 3 #[.string p, .string s] w fun e w' => e = .returned (.bool true) ∧ Below w.heap.size w w' := by
  go_enter Tryd.func3, Tryd.ntmps3
  go_wp2_with fail
  refine (works_true _).mono ?_
  rintro e w1 ⟨rfl, hB1⟩
  by_cases h1 : (1000 : Int) < (p.size : Int)
  · go_wp2
    go_ret
    exact ⟨rfl, hB1⟩
  by_cases h2 : (1000 : Int) < (s.size : Int)
  · go_wp2
    go_ret
    exact ⟨rfl, hB1⟩
  go_wp2_with fail
  refine (Fill_any p s _ (by omega) (by omega)).mono ?_
  rintro e w3 ⟨t, rfl, ht, hB3⟩
  go_wp2_with fail
  refine (FillT_any p s _ (by omega) (by omega)).mono ?_
  rintro e w4 ⟨u, rfl, hu, hB4⟩
  have hq := beq_of_bs (ht.trans hu.symm)
  have hB := (hB1.trans (hB3.mono hB1.size)).trans (hB4.mono (Nat.le_trans hB1.size hB3.size))
  clear ht hu
  go_wp2
  go_ret
  exact ⟨rfl, hB⟩

end Go.Proofs.YtnfdjgpephoomaaDoor
