/-
  THE DOCUMENT'S EXAMPLES OF LAYER 6, as numbers. No program here.
-/
import Derived.Test.YtplfcpbjlhobeaaLLeaf
import Derived.Test.YtplfcpbjlhobeaaDWorks
namespace Go.Proofs.Ytplfcpbjlhobeaa

abbrev sA : ByteArray := ⟨#[97]⟩
abbrev sB : ByteArray := ⟨#[98]⟩
abbrev sC : ByteArray := ⟨#[99]⟩
theorem k_get0 : Cm.got (List.replicate 240 0) = .none := by decide +kernel
theorem k_get1 : Cm.got (List.replicate 255 0) = .none := by decide +kernel
theorem k_find0 : Cm.Right (Cm.leafN [sA, sC]) ∧ Cm.place (Cm.leafN [sA, sC]) sB = 1 ∧ Cm.isIn (Cm.leafN [sA, sC]) sB = false := by decide +kernel
theorem k_find1 : Cm.Right Cm.exN ∧ Cm.place Cm.exN sB = 1 ∧ Cm.isIn Cm.exN sB = true ∧ Cm.place Cm.exN sA = 0 ∧ Cm.isIn Cm.exN sA = false := by decide +kernel
theorem k_half0 : Cm.Right (Cm.leafN [sA, sB, sC]) ∧ Cm.half (Cm.leafN [sA, sB, sC]) = some (Cm.leafN [sA], sB, Cm.leafN [sB, sC]) := by decide +kernel
theorem k_half1 : Cm.Right (Cm.leafN [sA]) ∧ Cm.half (Cm.leafN [sA]) = .none := by decide +kernel
theorem k_join0 : Cm.MayJoin (Cm.leafN [sA]) sB (Cm.leafN [sB, sC]) ∧ Cm.joined (Cm.leafN [sA]) sB (Cm.leafN [sB, sC]) = Cm.leafN [sA, sB, sC] ∧ ¬ 240 < (Cm.form (Cm.leafN [sA, sB, sC])).length := by decide +kernel
theorem k_join1 : ¬ Cm.MayJoin (Cm.leafN [sA]) sA (Cm.leafN [sB]) := by decide +kernel
theorem k_size0 : Cm.size (Cm.leafN []) = 2 := by decide +kernel
theorem k_size1 : Cm.size ⟨true, [⟨sA, ⟨#[120, 121]⟩, 0, 0⟩], []⟩ = 7 := by decide +kernel
theorem k_size2 : Cm.size ⟨false, [], []⟩ = 0 ∧ Cm.wrong ⟨false, [], []⟩ = 2 := by decide +kernel

end Go.Proofs.Ytplfcpbjlhobeaa
