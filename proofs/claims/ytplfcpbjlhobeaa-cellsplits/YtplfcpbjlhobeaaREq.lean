/-
  '==' AND '!=' OF ITEMS.
-/
import Derived.Test.YtplfcpbjlhobeaaCKit
import Derived.Laws.StructEq
namespace Go.Proofs.Ytplfcpbjlhobeaa
open Go.RowKit

def itA (x : Cm.It) : Array Value := #[.string x.key, .string x.val, .int .i64 x.page, .int .i64 x.len]
theorem stood_cell : Try.prog.stoodInHeld 24 = false := by kernel_rfl
theorem guard_type : Try.prog.eqGuardType Try.prog.depth 24 = false := by kernel_rfl
theorem toList_inj {s t : ByteArray} (h : s.toList = t.toList) : s = t := by
  rw [ByteArray.toList_eq, ByteArray.toList_eq] at h
  exact ByteArray.ext (Array.toList_inj.1 h)
theorem eq_cell (W : World) (a b : Cm.It) : (Op.equalIn 10000 24 (.agg (itA a)) (.agg (itA b))).run Try.prog W = .ok (decide (a = b)) W := by
  rw [show (10000 : Nat) = 9999 + 1 from rfl, run_equalIn_agg W 9999 24 _ _ (by simp [Program.fieldsOf, Try.underlying24]) stood_cell]
  simp [Program.fieldsOf, Try.underlying24, go_sem, itA]
  by_cases h : a = b
  · subst h; simp
  · rw [decide_eq_false h]
    by_cases h1 : a.key.toList = b.key.toList
    · rw [if_pos h1]
      by_cases h2 : a.val.toList = b.val.toList
      · rw [if_pos h2]
        by_cases h3 : a.page = b.page
        · rw [if_pos h3]
          by_cases h4 : a.len = b.len
          · exact absurd (Cm.It.ext' (toList_inj h1) (toList_inj h2) h3 h4) h
          · rw [if_neg h4]
        · rw [if_neg h3]
      · rw [if_neg h2]
    · rw [if_neg h1]
theorem neq_cell (W : World) (a b : Cm.It) : (binOp .neq 24 (.agg (itA a)) (.agg (itA b))).run Try.prog W = .ok (.bool (!decide (a = b))) W := by
  rw [run_neq_struct, eq_cell]; rfl
theorem eql_cell (W : World) (a b : Cm.It) : (binOp .eql 24 (.agg (itA a)) (.agg (itA b))).run Try.prog W = .ok (.bool (decide (a = b))) W := by
  rw [run_eql_struct, eq_cell]; rfl
theorem guard_cell (W : World) (op : BinOp) (x y : Operand) (xs ys : Array Value) : (eqGuard op 24 x y (.agg xs) (.agg ys)).run Try.prog W = .ok () W := run_eqGuard_agg W op 24 x y xs ys guard_type
end Go.Proofs.Ytplfcpbjlhobeaa
