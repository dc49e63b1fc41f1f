/-
  ONE CELL OF A ROW OF RECORDS, SET.
-/
import Derived.Test.YtppcfidaalejfaaRec
namespace Go.Proofs.Ytppcfidaalejfaa
open Go.RowKit
namespace Rc
variable {α : Type} {R : Rc α}

theorem vals_set : ∀ (l : List α) (k f : Nat) (hk : k < l.length), f < R.k → ∀ (x : α) (u : Value), R.enc x = (R.enc l[k]).set f u → (R.vals l).set (k * R.k + f) u = R.vals (l.set k x)
  | [], k, f, hk, _, _, _, _ => by simp at hk
  | y :: r, 0, f, hk, hf, x, u, h => by
    have hl := R.len y
    show (R.enc y ++ R.vals r).set (0 * R.k + f) u = R.enc x ++ R.vals r
    rw [Nat.zero_mul, Nat.zero_add, List.set_append_left _ _ (by omega), h]
    rfl
  | y :: r, k + 1, f, hk, hf, x, u, h => by
    have hl := R.len y
    have ih := vals_set r k f (by simpa using hk) hf x u h
    show (R.enc y ++ R.vals r).set ((k + 1) * R.k + f) u = R.enc y ++ R.vals (r.set k x)
    rw [List.set_append_right _ _ (by rw [hl, Nat.add_mul]; omega), ← ih]
    congr 2
    rw [hl, Nat.add_mul]; omega
/-- a cell of a row of the call's own, set -/
theorem Own.set {w : World} {base : Nat} {v : Value} {l : List α} (h : R.Own w base v l) (k f : Nat) (hk : k < l.length) (hf : f < R.k) :
    ∃ g cap, v = .slice (some ⟨g, 0, none⟩) l.length cap ∧ base ≤ g ∧ g < w.heap.size ∧ w.frozen? ⟨g, k * R.k + f, none⟩ = false ∧ ∀ (x : α) (u : Value), R.enc x = (R.enc l[k]).set f u → R.Own (w.setCell ⟨g, k * R.k + f, none⟩ u) base v (l.set k x) := by
  have hlt := h.lt
  rcases h.2 with ⟨rfl, h0⟩ | ⟨g, cap, cur, rfl, h2, h3, h4, h5, h6, h7⟩
  · omega
  · refine ⟨g, cap, rfl, h2, (hlt g rfl).2, frozen_of_row w g _ _ _ h3, fun x u hx => ?_⟩
    refine ⟨R.vals_length _, .inr ⟨g, cap, cur.setIfInBounds (k * R.k + f) u, by rw [List.length_set], h2, ?_, by rw [List.length_set]; exact h4, h5, by rw [Array.size_setIfInBounds]; exact h6, ?_⟩⟩
    · rw [heap_setCell_same w g (k * R.k + f) _ R.e _ h3]
    · rw [List.length_set, Array.toList_setIfInBounds, ← vals_set l k f hk hf x u hx, ← h7, List.take_set]
end Rc
end Go.Proofs.Ytppcfidaalejfaa
