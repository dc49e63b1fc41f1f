/-
  WHAT THE DOCUMENT's Word, Args DO.
-/
import Derived.Test.YtfgdlnidfkjbdaaDoorAOpens
namespace Go.Proofs.YtfgdlnidfkjbdaaDoor
open Go.RowKit

/-- how many words a kind has; -1: any number -/
def Ac.argsN (op : Int) : Int := if op = 1 ∨ op = 2 ∨ op = 8 ∨ op = 11 then 1 else if op = 3 ∨ op = 9 then -1 else if op = 12 then 2 else 0
theorem Ac.argsOk_N (op : Int) (k : Nat) : Ac.argsOk op k = (decide (Ac.argsN op < 0) || decide (Ac.argsN op = (k : Int))) := by
  unfold Ac.argsOk Ac.argsN
  split
  · rw [Bool.eq_iff_iff]; simp; omega
  · split
    · simp
    · split
      · rw [Bool.eq_iff_iff]; simp; omega
      · rw [Bool.eq_iff_iff]; simp; omega
set_option maxRecDepth 100000 in
theorem WordT_any (op : Int) (w : World) : Calls Tryd.prog 56 #[.int .i64 op] w fun e w' => e = .returned (.string (str (Ac.word op))) ∧ w' = w := by
  by_cases h : Ac.word op = []
  · have hn : op ≠ 1 ∧ op ≠ 2 ∧ op ≠ 3 ∧ op ≠ 4 ∧ op ≠ 5 ∧ op ≠ 6 ∧ op ≠ 7 ∧ op ≠ 8 ∧ op ≠ 9 ∧ op ≠ 10 ∧ op ≠ 11 ∧ op ≠ 12 := by
      refine ⟨?_, ?_, ?_, ?_, ?_, ?_, ?_, ?_, ?_, ?_, ?_, ?_⟩ <;> (intro e; subst e; revert h; decide)
    rw [h]
    obtain ⟨h1, h2, h3, h4, h5, h6, h7, h8, h9, h10, h11, h12⟩ := hn
    have e1 : (op == 1) = false := by rw [beq_eq_false_iff_ne]; exact h1
    have e2 : (op == 2) = false := by rw [beq_eq_false_iff_ne]; exact h2
    have e3 : (op == 3) = false := by rw [beq_eq_false_iff_ne]; exact h3
    have e4 : (op == 4) = false := by rw [beq_eq_false_iff_ne]; exact h4
    have e5 : (op == 5) = false := by rw [beq_eq_false_iff_ne]; exact h5
    have e6 : (op == 6) = false := by rw [beq_eq_false_iff_ne]; exact h6
    have e7 : (op == 7) = false := by rw [beq_eq_false_iff_ne]; exact h7
    have e8 : (op == 8) = false := by rw [beq_eq_false_iff_ne]; exact h8
    have e9 : (op == 9) = false := by rw [beq_eq_false_iff_ne]; exact h9
    have e10 : (op == 10) = false := by rw [beq_eq_false_iff_ne]; exact h10
    have e11 : (op == 11) = false := by rw [beq_eq_false_iff_ne]; exact h11
    have e12 : (op == 12) = false := by rw [beq_eq_false_iff_ne]; exact h12
    clear h h1 h2 h3 h4 h5 h6 h7 h8 h9 h10 h11 h12
    go_enter Tryd.func56, Tryd.ntmps56
    go_wp2
    go_ret
    exact ⟨rfl, rfl⟩
  · rcases Ac.word_of h with rfl | rfl | rfl | rfl | rfl | rfl | rfl | rfl | rfl | rfl | rfl | rfl <;>
      (clear h; go_enter Tryd.func56, Tryd.ntmps56; go_wp2; go_ret; exact ⟨rfl, rfl⟩)
set_option maxRecDepth 100000 in
theorem ArgsT_any (op : Int) (w : World) : Calls Tryd.prog 58 #[.int .i64 op] w fun e w' => e = .returned (.int .i64 (Ac.argsN op)) ∧ w' = w := by
  by_cases h : op = 1 ∨ op = 2 ∨ op = 8 ∨ op = 11 ∨ op = 3 ∨ op = 9 ∨ op = 12
  · rcases h with rfl | rfl | rfl | rfl | rfl | rfl | rfl <;>
      (go_enter Tryd.func58, Tryd.ntmps58; go_wp2; go_ret; exact ⟨rfl, rfl⟩)
  · simp only [not_or] at h
    obtain ⟨h1, h2, h8, h11, h3, h9, h12⟩ := h
    have HA : Hid (Ac.argsN op = 0) := by
      show _ = _
      unfold Ac.argsN
      rw [if_neg (by omega), if_neg (by omega), if_neg h12]
    have e1 : (op == 1) = false := by rw [beq_eq_false_iff_ne]; exact h1
    have e2 : (op == 2) = false := by rw [beq_eq_false_iff_ne]; exact h2
    have e8 : (op == 8) = false := by rw [beq_eq_false_iff_ne]; exact h8
    have e11 : (op == 11) = false := by rw [beq_eq_false_iff_ne]; exact h11
    have e3 : (op == 3) = false := by rw [beq_eq_false_iff_ne]; exact h3
    have e9 : (op == 9) = false := by rw [beq_eq_false_iff_ne]; exact h9
    have e12 : (op == 12) = false := by rw [beq_eq_false_iff_ne]; exact h12
    generalize Ac.argsN op = R at *
    clear h1 h2 h8 h11 h3 h9 h12
    go_enter Tryd.func58, Tryd.ntmps58
    go_wp2
    go_ret
    rw [HA.out]
    exact ⟨rfl, rfl⟩
theorem Ac.deep_size : ∀ f : Ac.Fo, Ac.deep f ≤ Ac.size f
  | .nil => Nat.le_refl _
  | .cons op _ _ b t => by
    have h1 := Ac.deep_size b
    have h2 := Ac.deep_size t
    rw [Ac.deep, Ac.size]
    split <;> omega
end Go.Proofs.YtfgdlnidfkjbdaaDoor
