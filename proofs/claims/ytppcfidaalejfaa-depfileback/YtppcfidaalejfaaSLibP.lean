/-
  WHAT strings.HasPrefix DOES.
-/
import Derived.Test.YtppcfidaalejfaaPBs
import Derived.Lib.Strings
import Derived.Test.YtppcfidaalejfaaRw
import Derived.BigQuiet
namespace Go.Proofs.Ytppcfidaalejfaa
open Go.RowKit

theorem LiteHasPrefix_any (s p : ByteArray) (w : World) : Calls Try.prog 64 #[.string s, .string p] w fun e w' => e = .returned (.bool ((bs p).isPrefixOf (bs s))) ∧ w' = w := by
  show Calls Try.prog _ _ w fun e w' => e = .returned (.bool (Lib.hasPrefix s.data.toList p.data.toList)) ∧ w' = w
  rw [← Lib.hasPrefix_of_take, ← Lib.size_eq, ← Lib.size_eq]
  go_enter Try.func64, Try.ntmps64
  go_wp2
  · rename_i h
    go_ret
    refine ⟨?_, rfl⟩
    show Ending.returned (Value.bool ((s.extract 0 p.size).toList == p.toList)) = _
    rw [Lib.extract_toList, Lib.toList_data]
    simp [h]
  · rename_i h
    go_ret
    refine ⟨?_, rfl⟩
    show Ending.returned (Value.bool false) = _
    simp [h]
theorem HasPrefix_any (s p : ByteArray) (w : World) : Calls Try.prog 58 #[.string s, .string p] w fun e w' => e = .returned (.bool ((bs p).isPrefixOf (bs s))) ∧ w' = w := by
  have H := LiteHasPrefix_any s p
  generalize (bs p).isPrefixOf (bs s) = b at H ⊢
  go_enter Try.func58, Try.ntmps58
  go_wp2_with fail
  refine (H _).mono ?_
  rintro e w1 ⟨rfl, rfl⟩
  go_wp2
  go_ret
  exact ⟨rfl, rfl⟩
end Go.Proofs.Ytppcfidaalejfaa

namespace Go.Proofs.Ytppcfidaalejfaa
open Go.RowKit

/-- block b is a reader that stands at place i of s -/
def RdZ (w : World) (b : Nat) (s : ByteArray) (i : Nat) : Prop := Rw w b #[.string s, .int .i64 (i : Int)] 56

set_option maxRecDepth 100000 in
set_option maxHeartbeats 1000000 in
theorem over_any (w : World) (b : Nat) (s : ByteArray) (i : Nat) (h : RdZ w b s i) :
    Calls Try.prog 27 #[.pointer (some ⟨b, 0, none⟩)] w fun e w' => e = .returned (.bool (decide (s.size ≤ i))) ∧ ∃ q, w' = w.drewN q := by
  have c0 : w.cell? ⟨b, 0, none⟩ = some (.string s) := Rw.cell h 0
  have c1 : w.cell? ⟨b, 1, none⟩ = some (.int .i64 (i : Int)) := Rw.cell h 1
  clear h
  go_enter Try.func27, Try.ntmps27
  go_wp2_with fail
  go_quiet (fail)
  go_wp2
  go_ret
  refine ⟨?_, _, rfl⟩
  congr 3

theorem extract_tail (s : ByteArray) (i : Nat) : bs (s.extract i s.size) = (bs s).drop i := by
  rw [bs_extract]
  refine List.take_of_length_le ?_
  rw [List.length_drop, bs_length]
  omega

set_option maxRecDepth 100000 in
set_option maxHeartbeats 1000000 in
theorem sees_any (w : World) (b : Nat) (s : ByteArray) (i : Nat) (h : RdZ w b s i) (hi : i ≤ s.size) (p : ByteArray) :
    Calls Try.prog 45 #[.pointer (some ⟨b, 0, none⟩), .string p] w fun e w' => e = .returned (.bool ((bs p).isPrefixOf ((bs s).drop i))) ∧ ∃ q, w' = w.drewN q := by
  have c0 : w.cell? ⟨b, 0, none⟩ = some (.string s) := Rw.cell h 0
  have c1 : w.cell? ⟨b, 1, none⟩ = some (.int .i64 (i : Int)) := Rw.cell h 1
  have i0 : (0 : Int) ≤ (i : Int) := by omega
  have i1 : (i : Int) ≤ (s.size : Int) := by omega
  have hHP := fun W : World => HasPrefix_any (s.extract i s.size) p W
  rw [extract_tail] at hHP
  clear h hi
  go_enter Try.func45, Try.ntmps45
  go_wp2_with fail
  go_quiet ((go_at_call 58; refine Calls.quiet_of_same (hHP _)))
  go_wp2
  go_ret
  exact ⟨rfl, _, rfl⟩

end Go.Proofs.Ytppcfidaalejfaa
