/-
  HOW MUCH RULES ARE, AND THEIR TEXT. No program here.
-/
import Derived.Test.YtppcfidaalejfaaDpRow
import Derived.Test.YtppcfidaalejfaaRec
namespace Go.Proofs.Ytppcfidaalejfaa
open Go.RowKit

namespace Dp
theorem written_app (a b : B) : written (a ++ b) = written a ++ written b := by simp [written]
theorem written_len (s : B) : (written s).length ≤ 2 * s.length := by
  induction s with
  | nil => simp [written]
  | cons c r ih =>
    rw [written_cons, List.length_append, List.length_cons]
    split
    · simp only [List.length_cons, List.length_nil]; omega
    · simp only [List.length_cons, List.length_nil]; omega
/-- how much rules are, all in all -/
def vol (l : List Rule) : Nat := (l.map fun u => 1 + u.1.length + (u.2.map fun d => 1 + d.length).sum).sum
/-- a text of rules, or an error -/
def printed (fold : Option Int) (l : List Rule) : B × Int := if l.all may = true then (print fold l, 0) else ([], 2)
theorem deps_plain : ∀ (r : List B) (n m : Int), deps none n r = deps none m r
  | [], _, _ => rfl
  | d :: r, n, m => by
    rw [deps, deps]
    show 32 :: (written d ++ deps none n r) = 32 :: (written d ++ deps none m r)
    rw [deps_plain r n m]
theorem deps_fold (wd n : Int) (d : B) (r : List B) : deps (some wd) n (d :: r) = if wd < n + 1 + (written d).length then [32, 92, 10, 32, 32] ++ (written d ++ deps (some wd) (2 + (written d).length) r) else 32 :: (written d ++ deps (some wd) (n + 1 + (written d).length) r) := by rw [deps]
theorem deps_none (n : Int) (d : B) (r : List B) : deps none n (d :: r) = 32 :: (written d ++ deps none n r) := by rw [deps]
theorem deps_vol (fold : Option Int) : ∀ (r : List B) (n : Int), (deps fold n r).length ≤ 5 * (r.map fun d => 1 + d.length).sum
  | [], _ => by simp [deps]
  | d :: r, n => by
    have hw := written_len d
    cases fold with
    | none =>
      rw [deps_none]
      have := deps_vol none r n
      simp only [List.length_cons, List.length_append, List.map_cons, List.sum_cons]
      omega
    | some wd =>
      rw [deps_fold]
      have h1 := deps_vol (some wd) r (2 + (written d).length)
      have h2 := deps_vol (some wd) r (n + 1 + (written d).length)
      split
      · simp only [List.length_cons, List.length_append, List.map_cons, List.sum_cons, List.length_nil]
        omega
      · simp only [List.length_cons, List.length_append, List.map_cons, List.sum_cons]
        omega
theorem print_cons (fold : Option Int) (u : Rule) (l : List Rule) : print fold (u :: l) = line fold u ++ print fold l := by simp [print]
theorem print_vol (fold : Option Int) : ∀ (l : List Rule), (print fold l).length ≤ 5 * vol l
  | [] => by simp [print]
  | u :: l => by
    have h1 := print_vol fold l
    have h2 := deps_vol fold u.2 ((written u.1).length + 1)
    have h3 := written_len u.1
    rw [print_cons]
    unfold line vol at *
    simp only [List.length_cons, List.length_append, List.map_cons, List.sum_cons, List.length_nil]
    omega
theorem print_drop (fold : Option Int) (l : List Rule) (i : Nat) (h : i < l.length) : print fold (l.drop i) = line fold (l.getD i noR) ++ print fold (l.drop (i + 1)) := by
  rw [List.drop_eq_getElem_cons h, print_cons]
  simp [List.getD, List.getElem?_eq_getElem h]
/-- whether all is written in lines as long as they are -/
def pl : Option Int → Bool
  | none => true
  | some _ => false
theorem le_sum_of_mem {l : List Nat} {n : Nat} (h : n ∈ l) : n ≤ l.sum := by
  induction l with
  | nil => cases h
  | cons a r ih =>
    rw [List.sum_cons]
    rcases List.mem_cons.1 h with rfl | h
    · omega
    · have := ih h; omega
theorem vol_mem {l : List Rule} {u : Rule} (h : u ∈ l) : 1 + u.1.length + (u.2.map fun d => 1 + d.length).sum ≤ vol l := by
  unfold vol
  exact le_sum_of_mem (List.mem_map.2 ⟨u, h, rfl⟩)
theorem sum_mem {r : List B} {d : B} (h : d ∈ r) : 1 + d.length ≤ (r.map fun d => 1 + d.length).sum := le_sum_of_mem (List.mem_map.2 ⟨d, h, rfl⟩)
theorem sum_len (r : List B) : r.length ≤ (r.map fun d => 1 + d.length).sum := by
  induction r with
  | nil => simp
  | cons d r ih => simp only [List.length_cons, List.map_cons, List.sum_cons]; omega
theorem vol_len (l : List Rule) : l.length ≤ vol l := by
  induction l with
  | nil => simp [vol]
  | cons u r ih => unfold vol at *; simp only [List.length_cons, List.map_cons, List.sum_cons]; omega
end Dp

end Go.Proofs.Ytppcfidaalejfaa

namespace Go.Proofs.Ytppcfidaalejfaa
open Go.RowKit
namespace Rc
variable {α : Type} {R : Rc α}

theorem vals_set : ∀ (l : List α) (k f : Nat) (hk : k < l.length), f < R.k → ∀ (x : α) (u : Value), R.enc x = (R.enc l[k]).set f u → (R.vals l).set (k * R.k + f) u = R.vals (l.set k x)
  | [], k, f, hk, _, _, _, _ => by simp at hk
  | y :: r, 0, f, hk, hf, x, u, h => by
    have hl := R.len y
    show (R.enc y ++ R.vals r).set (0 * R.k + f) u = R.enc x ++ R.vals r
    rw [Nat.zero_mul, Nat.zero_add, List.set_append_left _ _ (by omega), h]
    rfl
  | y :: r, k + 1, f, hk, hf, x, u, h => by
    have hl := R.len y
    have ih := vals_set r k f (by simpa using hk) hf x u h
    show (R.enc y ++ R.vals r).set ((k + 1) * R.k + f) u = R.enc y ++ R.vals (r.set k x)
    rw [List.set_append_right _ _ (by rw [hl, Nat.add_mul]; omega), ← ih]
    congr 2
    rw [hl, Nat.add_mul]; omega
/-- a cell of a row of the call's own, set -/
theorem Own.set {w : World} {base : Nat} {v : Value} {l : List α} (h : R.Own w base v l) (k f : Nat) (hk : k < l.length) (hf : f < R.k) :
    ∃ g cap, v = .slice (some ⟨g, 0, none⟩) l.length cap ∧ base ≤ g ∧ g < w.heap.size ∧ w.frozen? ⟨g, k * R.k + f, none⟩ = false ∧ ∀ (x : α) (u : Value), R.enc x = (R.enc l[k]).set f u → R.Own (w.setCell ⟨g, k * R.k + f, none⟩ u) base v (l.set k x) := by
  have hlt := h.lt
  rcases h.2 with ⟨rfl, h0⟩ | ⟨g, cap, cur, rfl, h2, h3, h4, h5, h6, h7⟩
  · omega
  · refine ⟨g, cap, rfl, h2, (hlt g rfl).2, frozen_of_row w g _ _ _ h3, fun x u hx => ?_⟩
    refine ⟨R.vals_length _, .inr ⟨g, cap, cur.setIfInBounds (k * R.k + f) u, by rw [List.length_set], h2, ?_, by rw [List.length_set]; exact h4, h5, by rw [Array.size_setIfInBounds]; exact h6, ?_⟩⟩
    · rw [heap_setCell_same w g (k * R.k + f) _ R.e _ h3]
    · rw [List.length_set, Array.toList_setIfInBounds, ← vals_set l k f hk hf x u hx, ← h7, List.take_set]
end Rc
end Go.Proofs.Ytppcfidaalejfaa
