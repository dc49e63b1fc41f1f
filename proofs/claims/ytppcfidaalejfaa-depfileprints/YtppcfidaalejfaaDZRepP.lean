/-
  A WORD WRITTEN, counted (pure).
-/
import Derived.Test.YtppcfidaalejfaaDpMath
namespace Go.Proofs.Ytppcfidaalejfaa.Dp

/-- how many bytes want a backslash -/
def cntE (l : B) : Nat := (l.filter esc).length
theorem cntE_cons (c : UInt8) (l : B) : cntE (c :: l) = (if esc c then 1 else 0) + cntE l := by
  unfold cntE
  cases h : esc c with
  | true => rw [List.filter_cons_of_pos h, List.length_cons, if_pos rfl]; omega
  | false => rw [List.filter_cons_of_neg (by simp [h]), if_neg (by simp)]; omega
theorem written_size : ∀ l : B, (written l).length = l.length + cntE l
  | [] => rfl
  | c :: l => by
    rw [written_cons, List.length_append, written_size l, cntE_cons]
    cases esc c <;> simp <;> omega
theorem count_cntE : ∀ l : B, l.count 92 + (l.count 58 + l.count 32) = cntE l
  | [] => rfl
  | c :: l => by
    rw [cntE_cons, ← count_cntE l]
    simp only [List.count_cons]
    by_cases h1 : c = 92
    · subst h1; simp [esc]; omega
    · by_cases h2 : c = 58
      · subst h2; simp [esc]; omega
      · by_cases h3 : c = 32
        · subst h3; simp [esc]; omega
        · simp [esc, h1, h2, h3]
theorem written_none : ∀ {l : B}, cntE l = 0 → written l = l
  | [], _ => rfl
  | c :: l, h => by
    rw [cntE_cons] at h
    rw [written_cons]
    cases he : esc c with
    | true => rw [he, if_pos rfl] at h; omega
    | false =>
      rw [he, if_neg (by simp)] at h
      rw [if_neg (by simp), written_none (by omega)]
      rfl
theorem cntE_app (a b : B) : cntE (a ++ b) = cntE a + cntE b := by simp [cntE]
theorem written_app (a b : B) : written (a ++ b) = written a ++ written b := by simp [written]
theorem take_next {l : B} {j : Nat} (h : j < l.length) : l.take (j + 1) = l.take j ++ [l[j]] := List.take_succ_eq_append_getElem h
theorem cntE_take {l : B} {j : Nat} (h : j < l.length) : cntE (l.take (j + 1)) = cntE (l.take j) + if esc l[j] then 1 else 0 := by
  rw [take_next h, cntE_app, cntE_cons]
  rfl
theorem written_take {l : B} {j : Nat} (h : j < l.length) : written (l.take (j + 1)) = written (l.take j) ++ if esc l[j] then [92, l[j]] else [l[j]] := by
  rw [take_next h, written_app, written_cons]
  simp [written]
theorem cntE_le (l : B) (j : Nat) : (written (l.take j)).length + (l.length - j) ≤ (written l).length := by
  have h1 : l = l.take j ++ l.drop j := (List.take_append_drop j l).symm
  have h2 : (written l).length = (written (l.take j)).length + (written (l.drop j)).length := by
    conv => lhs; rw [h1]
    rw [written_app, List.length_append]
  have h3 := written_size (l.drop j)
  rw [List.length_drop] at h3
  omega
/-- two bytes, one byte, laid behind what is there -/
theorem lay2 (P : B) (a b : UInt8) (n : Nat) : ((P ++ List.replicate (n + 2) 0).set P.length a).set (P.length + 1) b = (P ++ [a, b]) ++ List.replicate n 0 := by
  rw [List.set_append_right _ _ (Nat.le_refl _), Nat.sub_self, List.set_append_right _ _ (by omega), show P.length + 1 - P.length = 1 by omega, List.replicate_succ, List.replicate_succ]
  simp
theorem lay1 (P : B) (a : UInt8) (n : Nat) : (P ++ List.replicate (n + 1) 0).set P.length a = (P ++ [a]) ++ List.replicate n 0 := by
  rw [List.set_append_right _ _ (Nat.le_refl _), Nat.sub_self, List.replicate_succ]
  simp

end Go.Proofs.Ytppcfidaalejfaa.Dp
