/-
  THE WALK OF THE DOCUMENT's Page.
-/
import Derived.Test.YtplfcpbjlhobeaaRSmall
namespace Go.Proofs.Ytplfcpbjlhobeaa
open Go.RowKit

/-- a page of noughts -/
def Cm.noughts : List UInt8 := List.replicate 240 0
/-- a page, k bytes of which are laid -/
def Cm.laid (f : List UInt8) (k : Nat) : List UInt8 := f.take k ++ List.replicate (240 - k) 0
theorem Cm.laid_length (f : List UInt8) (k : Nat) (h1 : k ≤ f.length) (h2 : k ≤ 240) : (Cm.laid f k).length = 240 := by
  simp [Cm.laid]; omega
theorem Cm.laid_set (f : List UInt8) (k : Nat) (h1 : k < f.length) (h2 : f.length ≤ 240) : (Cm.laid f k).set k (f.getD k 0) = Cm.laid f (k + 1) := by
  apply List.ext_getElem
  · rw [List.length_set, Cm.laid_length f k (by omega) (by omega), Cm.laid_length f (k + 1) (by omega) (by omega)]
  · intro j hj1 hj2
    rw [Cm.laid_length f (k + 1) (by omega) (by omega)] at hj2
    rw [List.getElem_set]
    simp only [Cm.laid, List.getElem_append, List.length_take, List.getElem_take, List.getElem_replicate]
    by_cases e : k = j
    · subst e
      rw [if_pos rfl, dif_pos (by omega)]
      simp [List.getD, List.getElem?_eq_getElem h1]
    · rw [if_neg e]
      by_cases h : j < k
      · rw [dif_pos (by omega), dif_pos (by omega)]
      · rw [dif_neg (by omega), dif_neg (by omega)]

theorem grownBy_refl' (w : World) (row : Option Nat) : w.grownBy w row := ⟨rfl, rfl, rfl, Nat.le_refl _, fun _ _ _ => rfl⟩
theorem grownBy_set' {w w1 : World} {p : Nat} (h : w.grownBy w1 (some p)) (j : Nat) (u : Value) : w.grownBy (w1.setCell ⟨p, j, none⟩ u) (some p) :=
  ⟨h.os, h.tape, h.output, by have := h.size; simp [World.setCell]; exact this, fun k hk hne => (Below.heap_setCell _ _ _ _ (fun e => hne (by simp [e]))).trans (h.block k hk hne)⟩


end Go.Proofs.Ytplfcpbjlhobeaa
