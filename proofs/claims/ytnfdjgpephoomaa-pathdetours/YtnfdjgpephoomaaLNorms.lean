/-
  THE WALK OF PathNorms.
-/
import Derived.Test.YtnfdjgpephoomaaLWorks
import Derived.Test.YtnfdjgpephoomaaLLong
namespace Go.Proofs.Ytnfdjgpephoomaa
open Go.RowKit

set_option maxRecDepth 100000 in
set_option maxHeartbeats 2000000 in
theorem norms_walk (s : ByteArray) (w : World) : Calls Try.prog 4 #[.string s] w fun e w' => e = .returned (.bool true) ∧ Below w.heap.size w w' := by
  go_enter Try.func4, Try.ntmps4
  go_wp2_with fail
  refine (works_true _).mono ?_
  rintro e w1 ⟨rfl, hB1⟩
  go_wp2_with fail
  refine (long_any _ _).mono ?_
  rintro e w2 ⟨rfl, rfl⟩
  by_cases hl : (1048576 : Int) < (s.size : Int)
  · rw [decide_eq_true hl]
    go_wp2
    go_ret
    exact ⟨rfl, hB1⟩
  · rw [decide_eq_false hl]
    go_wp2_with fail
    refine (Norm_any s _ (by omega)).mono ?_
    rintro e w3 ⟨⟨t, rfl, ht⟩, hB3⟩
    go_wp2_with fail
    refine (NormT_any s _ (by omega)).mono ?_
    rintro e w4 ⟨⟨u, rfl, hu⟩, hB4⟩
    have hq := beq_of_bs (ht.trans hu.symm)
    have hB := (hB1.trans (hB3.mono hB1.size)).trans (hB4.mono (Nat.le_trans hB1.size hB3.size))
    clear ht hu
    generalize (Pm.norm (bs s)).2 = n at *
    have hn : ((n : Int) == (n : Int)) = true := by simp
    go_wp2
    go_ret
    exact ⟨rfl, hB⟩

end Go.Proofs.Ytnfdjgpephoomaa
