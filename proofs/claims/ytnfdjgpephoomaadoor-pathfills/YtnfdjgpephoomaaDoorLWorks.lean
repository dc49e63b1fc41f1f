/-
  THE LAWS' works.
-/
import Derived.Test.YtnfdjgpephoomaaDoorPX
namespace Go.Proofs.YtnfdjgpephoomaaDoor
open Go.RowKit

theorem beq_of_bs {t u : ByteArray} (h : bs t = bs u) : (t.toList == u.toList) = true := by
  rw [bs_inj h]; simp
theorem bs_append (a b : ByteArray) : bs (a ++ b) = bs a ++ bs b := by simp [bs]
theorem norm_known (s : ByteArray) (h : s = ⟨#[97, 47, 47, 98, 47, 46, 47, 46, 46, 47, 99]⟩) : Pm.norm (bs s) = ([97, 47, 99], 0) := by
  subst h
  show Pm.norm [97, 47, 47, 98, 47, 46, 47, 46, 46, 47, 99] = _
  decide +kernel

set_option maxRecDepth 100000 in
set_option maxHeartbeats 2000000 in
theorem works_true (w : World) : Calls Tryd.prog 5 #[] w fun e w' => e = .returned (.bool true) ∧ Below w.heap.size w w' := by
  go_enter Tryd.func5, Tryd.ntmps5
  go_wp2_with fail
  refine (Norm_any _ _ (by decide)).mono ?_
  rintro e w1 ⟨⟨t, rfl, ht⟩, hB⟩
  rw [norm_known _ rfl] at ht ⊢
  have hb : (t.toList == [97, 47, 99]) = true := by rw [ByteArray.toList_eq]; exact beq_iff_eq.2 ht
  clear ht
  go_wp2_with fail
  refine (Above_is _ _).mono ?_
  rintro e w2 ⟨k, cs, rfl, hB2⟩
  have hrun : Sem.run Tryd.prog (binOp BinOp.neq 35 (Value.func (.func k) #[] cs) Value.nilFunc) w2 = .ok (.bool true) w2 := by kernel_rfl
  go_wp2
  go_ret
  exact ⟨rfl, hB.trans (hB2.mono hB.size)⟩

end Go.Proofs.YtnfdjgpephoomaaDoor
