/-
  A TEXT AS BYTES: '[]byte(s)': a new row.
-/
import Derived.Test.YtnfdjgpephoomaaDoorKit
import Derived.Lib.ConvBytes
namespace Go.Proofs.YtnfdjgpephoomaaDoor
open Go.RowKit

theorem str_byts (W : World) (s : ByteArray) : ∃ c W', (convert 9 27 (.string s)).run Tryd.prog W = .ok (.slice (some ⟨W.heap.size, 0, none⟩) s.size c) W' ∧ Below W.heap.size W W' ∧ W'.heap.size = W.heap.size + 1 ∧
    ∀ j, j < s.size → W'.cell? ⟨W.heap.size, j, none⟩ = some (.int .u8 ((s.data.toList.getD j 0).toNat : Int)) :=
  ⟨_, _, Go.Lib.run_convert_string_bytes W 9 27 5 s Tryd.underlying9 Tryd.underlying27 Tryd.underlying5,
    ⟨rfl, rfl, rfl, by rw [Go.Lib.bytesWorld_size]; omega, fun k hk => Go.Lib.bytesWorld_at_old _ _ _ k hk⟩, Go.Lib.bytesWorld_size _ _ _, fun j hj => Go.Lib.bytesWorld_cell _ _ _ j hj⟩

end Go.Proofs.YtnfdjgpephoomaaDoor
