/-
  THE WALK OF PathMatches.
-/
import Derived.Test.YtnfdjgpephoomaaLWorks
import Derived.Test.YtnfdjgpephoomaaPXM
import Derived.Test.YtnfdjgpephoomaaLLong
namespace Go.Proofs.Ytnfdjgpephoomaa
open Go.RowKit

set_option maxRecDepth 100000 in
set_option maxHeartbeats 2000000 in
theorem matches_walk (p s : ByteArray) (w : World) (hp : p.size ≤ 9223372036854775807) (hs : s.size ≤ 9223372036854775807) : Calls Try.prog 5 #[.string p, .string s] w fun e w' => e = .returned (.bool true) ∧ Below w.heap.size w w' := by
  go_enter Try.func5, Try.ntmps5
  go_wp2_with fail
  refine (works_true _).mono ?_
  rintro e w1 ⟨rfl, hB1⟩
  go_wp2_with fail
  refine (long_any _ _).mono ?_
  rintro e w2 ⟨rfl, rfl⟩
  generalize decide ((1048576 : Int) < _) = lg
  cases lg
  · go_wp2_with fail
    refine (Match_any p s _ hp hs).mono ?_
    rintro e w3 ⟨⟨t, rfl, ht⟩, hB3⟩
    go_wp2_with fail
    refine (MatchT_any p s _ hp hs).mono ?_
    rintro e w4 ⟨⟨u, rfl, hu⟩, hB4⟩
    have hq := beq_of_bs (ht.trans hu.symm)
    have hB := (hB1.trans (hB3.mono hB1.size)).trans (hB4.mono (Nat.le_trans hB1.size hB3.size))
    clear ht hu
    generalize (Pm.matchP (bs p) (bs s)).2 = b at *
    have hn : (b == b) = true := by simp
    go_wp2
    go_ret
    exact ⟨rfl, hB⟩
  · go_wp2
    go_ret
    exact ⟨rfl, hB1⟩

end Go.Proofs.Ytnfdjgpephoomaa
