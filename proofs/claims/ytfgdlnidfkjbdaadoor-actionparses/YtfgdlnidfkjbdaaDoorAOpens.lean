/-
  WHAT THE DOCUMENT's Opens DOES.
-/
import Derived.Test.YtfgdlnidfkjbdaaDoorARow
namespace Go.Proofs.YtfgdlnidfkjbdaaDoor
open Go.RowKit

set_option maxRecDepth 100000 in
theorem OpensT_any (op : Int) (w : World) : Calls Tryd.prog 43 #[.int .i64 op] w fun e w' => e = .returned (.bool (Ac.opens op)) ∧ w' = w := by
  by_cases h1 : op = 10
  · subst h1
    go_enter Tryd.func43, Tryd.ntmps43
    go_wp2
    go_ret
    exact ⟨rfl, rfl⟩
  · have e1 : (op == 10) = false := by rw [beq_eq_false_iff_ne]; exact h1
    by_cases h2 : op = 11
    · subst h2
      go_enter Tryd.func43, Tryd.ntmps43
      go_wp2
      go_ret
      exact ⟨rfl, rfl⟩
    · have e2 : (op == 11) = false := by rw [beq_eq_false_iff_ne]; exact h2
      have HO : Hid (Ac.opens op = (op == 12)) := by
        show _ = _
        unfold Ac.opens
        rw [Bool.eq_iff_iff, decide_eq_true_eq, beq_iff_eq]
        omega
      generalize Ac.opens op = R at *
      clear h1 h2
      go_enter Tryd.func43, Tryd.ntmps43
      go_wp2
      all_goals (go_ret; rw [HO.out]; first | exact ⟨rfl, rfl⟩ | simp_all)

end Go.Proofs.YtfgdlnidfkjbdaaDoor
