/-
  WHAT THE PROGRAM's Fill DOES.
-/
import Derived.Test.YtnfdjgpephoomaaDoorSRep
namespace Go.Proofs.YtnfdjgpephoomaaDoor
open Go.RowKit

set_option maxRecDepth 100000 in
theorem Fill_any (p st : ByteArray) (w : World) (hp : p.size ≤ 10000) (hst : st.size ≤ 10000) : Calls Tryd.prog 6 #[.string p, .string st] w fun e w' => ∃ t, e = .returned (.string t) ∧ bs t = Pm.fill (bs p) (bs st) ∧ Below w.heap.size w w' := by
  go_enter Tryd.func6, Tryd.ntmps6
  go_wp2_with fail
  refine (ReplaceAll_one 37 p st _ hp hst).mono ?_
  rintro e w1 ⟨t, rfl, ht, hB⟩
  go_wp2
  go_ret
  exact ⟨_, rfl, ht, hB⟩

end Go.Proofs.YtnfdjgpephoomaaDoor
