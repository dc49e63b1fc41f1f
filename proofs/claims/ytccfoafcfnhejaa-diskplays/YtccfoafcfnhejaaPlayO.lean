/-
  DiskPlays: where nothing is played.
-/
import Derived.Test.YtccfoafcfnhejaaPlayK
namespace Go.Proofs.Ytccfoafcfnhejaa
open Go.RowKit

set_option maxRecDepth 100000 in
set_option maxHeartbeats 2000000 in
theorem plays_out (n : Int) (ad : Option Addr) (m c : Nat) (w : World) (h : (120 < n ∧ n ≤ 4096) ∨ 300 < m ∨ n < 80 ∨ 4096 < n) :
    Calls Try.prog 4 #[.int .i64 n, .slice ad m c] w fun e w' => e = .returned (.bool true) ∧ Below w.heap.size w w' := by
  have hW := works_any w
  by_cases h1 : 120 < n
  · by_cases h2 : n ≤ 4096
    · clear h
      go_enter Try.func4, Try.ntmps4
      go_wp2_with fail
      refine hW.mono ?_
      rintro r w1 ⟨rfl, hb1⟩
      go_wp2
      go_ret
      exact ⟨rfl, hb1⟩
    · have h2' : 4096 < n := by omega
      by_cases h3 : (300 : Int) < (m : Int)
      · clear h
        go_enter Try.func4, Try.ntmps4
        go_wp2_with fail
        refine hW.mono ?_
        rintro r w1 ⟨rfl, hb1⟩
        go_wp2
        go_ret
        exact ⟨rfl, hb1⟩
      · clear h
        go_enter Try.func4, Try.ntmps4
        go_wp2_with fail
        refine hW.mono ?_
        rintro r w1 ⟨rfl, hb1⟩
        have hN := New_arg n w1 (.inr h2')
        go_wp2_with fail
        refine hN.mono ?_
        rintro r w2 ⟨rfl, hw2⟩
        rw [hw2]
        go_wp2
        go_ret
        exact ⟨rfl, hb1⟩
  · by_cases h3 : (300 : Int) < (m : Int)
    · clear h
      go_enter Try.func4, Try.ntmps4
      go_wp2_with fail
      refine hW.mono ?_
      rintro r w1 ⟨rfl, hb1⟩
      go_wp2
      go_ret
      exact ⟨rfl, hb1⟩
    · have h4 : n < 80 := by omega
      clear h
      go_enter Try.func4, Try.ntmps4
      go_wp2_with fail
      refine hW.mono ?_
      rintro r w1 ⟨rfl, hb1⟩
      have hN := New_arg n w1 (.inl h4)
      go_wp2_with fail
      refine hN.mono ?_
      rintro r w2 ⟨rfl, hw2⟩
      rw [hw2]
      go_wp2
      go_ret
      exact ⟨rfl, hb1⟩
end Go.Proofs.Ytccfoafcfnhejaa
