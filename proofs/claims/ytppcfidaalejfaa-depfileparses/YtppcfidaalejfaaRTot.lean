/-
  ROWS OF TEXTS AND THEIR BYTES, pieces joined. No program here.
-/
import Derived.Test.YtppcfidaalejfaaRCutT
namespace Go.Proofs.Ytppcfidaalejfaa
open Go.RowKit

/-- how many bytes texts have, one more for each -/
def tot (l : List ByteArray) : Nat := (l.map fun s => s.size + 1).sum
theorem tot_take (l : List ByteArray) (k : Nat) (h : k < l.length) : tot (l.take (k + 1)) = tot (l.take k) + ((l.getD k .empty).size + 1) := by
  unfold tot
  rw [List.take_succ_eq_append_getElem h, List.map_append, List.sum_append]
  simp [List.getD, List.getElem?_eq_getElem h]
theorem tot_le (l : List ByteArray) (k : Nat) : tot (l.take k) ≤ tot l := by
  unfold tot
  conv => rhs; rw [← List.take_append_drop k l, List.map_append, List.sum_append]
  omega

theorem join_take (l : List ByteArray) (k : Nat) (h : k < l.length) : Pm.join ((l.take (k + 1)).map bs) = if k = 0 then bs (l.getD k .empty) else Pm.join ((l.take k).map bs) ++ 47 :: bs (l.getD k .empty) := by
  rw [List.take_succ_eq_append_getElem h, List.map_append]
  have e : l.getD k .empty = l[k] := by simp [List.getD, List.getElem?_eq_getElem h]
  rw [e]
  by_cases hk : k = 0
  · subst hk; simp [Pm.join]
  · rw [if_neg hk, List.map_cons, List.map_nil, Pm.join_append]
    intro hn
    have := congrArg List.length hn
    rw [List.length_map, List.length_take, List.length_nil] at this
    omega
theorem join_tot (l : List ByteArray) : (Pm.join (l.map bs)).length ≤ tot l := by
  induction l with
  | nil => simp [Pm.join, tot]
  | cons a r ih =>
    cases r with
    | nil => simp [Pm.join, tot]
    | cons b r =>
      rw [List.map_cons, Pm.join_cons _ _ (by simp)]
      have : tot (a :: b :: r) = a.size + 1 + tot (b :: r) := by simp [tot]
      rw [this, List.length_append, List.length_cons, bs_length]
      omega


end Go.Proofs.Ytppcfidaalejfaa
