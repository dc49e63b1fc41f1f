/-
  WHAT strings.HasPrefix DOES.
-/
import Derived.Test.YtppcfidaalejfaaPBs
import Derived.Lib.Strings
namespace Go.Proofs.Ytppcfidaalejfaa
open Go.RowKit

theorem LiteHasPrefix_any (s p : ByteArray) (w : World) : Calls Try.prog 64 #[.string s, .string p] w fun e w' => e = .returned (.bool ((bs p).isPrefixOf (bs s))) ∧ w' = w := by
  show Calls Try.prog _ _ w fun e w' => e = .returned (.bool (Lib.hasPrefix s.data.toList p.data.toList)) ∧ w' = w
  rw [← Lib.hasPrefix_of_take, ← Lib.size_eq, ← Lib.size_eq]
  go_enter Try.func64, Try.ntmps64
  go_wp2
  · rename_i h
    go_ret
    refine ⟨?_, rfl⟩
    show Ending.returned (Value.bool ((s.extract 0 p.size).toList == p.toList)) = _
    rw [Lib.extract_toList, Lib.toList_data]
    simp [h]
  · rename_i h
    go_ret
    refine ⟨?_, rfl⟩
    show Ending.returned (Value.bool false) = _
    simp [h]
theorem HasPrefix_any (s p : ByteArray) (w : World) : Calls Try.prog 58 #[.string s, .string p] w fun e w' => e = .returned (.bool ((bs p).isPrefixOf (bs s))) ∧ w' = w := by
  have H := LiteHasPrefix_any s p
  generalize (bs p).isPrefixOf (bs s) = b at H ⊢
  go_enter Try.func58, Try.ntmps58
  go_wp2_with fail
  refine (H _).mono ?_
  rintro e w1 ⟨rfl, rfl⟩
  go_wp2
  go_ret
  exact ⟨rfl, rfl⟩
end Go.Proofs.Ytppcfidaalejfaa
