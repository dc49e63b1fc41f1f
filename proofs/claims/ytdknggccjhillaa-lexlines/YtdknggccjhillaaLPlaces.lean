/-
  LexPlaces ANSWERS true.
-/
import Derived.Test.YtdknggccjhillaaLWorks
import Derived.Test.YtdknggccjhillaaZPlace
namespace Go.Proofs.Ytdknggccjhillaa
open Go.RowKit

set_option maxRecDepth 100000 in
theorem long_any (n : Nat) (w : World) : Calls Try.prog 13 #[.int .i64 (n : Int)] w fun e w' => e = .returned (.bool (decide (262144 < n))) ∧ w' = w := by
  obtain ⟨D, hD⟩ : ∃ D, decide (262144 < n) = D := ⟨_, rfl⟩
  have HD : Hid _ := hD
  rw [hD]
  clear hD
  go_enter Try.func13, Try.ntmps13
  by_cases h : 262144 < n
  · have i1 : (262144 : Int) < (n : Int) := by omega
    have HE : Hid (D = true) := HD.out.symm.trans (decide_eq_true h)
    clear HD
    go_wp2
    go_ret
    rw [HE.out]
    exact ⟨rfl, rfl⟩
  · have i1 : ¬ (262144 : Int) < (n : Int) := by omega
    have HE : Hid (D = false) := HD.out.symm.trans (decide_eq_false h)
    clear HD
    go_wp2
    go_ret
    rw [HE.out]
    exact ⟨rfl, rfl⟩

set_option maxRecDepth 100000 in
theorem places_walk (s : ByteArray) (n : Int) (w : World) : Calls Try.prog 4 #[.string s, .int .i64 n] w fun e w' => e = .returned (.bool true) ∧ Below w.heap.size w w' := by
  go_enter Try.func4, Try.ntmps4
  go_wp2_with fail
  refine (works_any _).mono ?_
  rintro e w1 ⟨rfl, hB1⟩
  have hlo := long_any s.size w1
  by_cases h : 262144 < s.size
  · rw [decide_eq_true h] at hlo
    go_wp2_with fail
    refine hlo.mono ?_
    rintro e w2 ⟨rfl, rfl⟩
    go_wp2
    go_ret
    exact ⟨rfl, hB1⟩
  · rw [decide_eq_false h] at hlo
    go_wp2_with fail
    refine hlo.mono ?_
    rintro e w2 ⟨rfl, rfl⟩
    go_wp2_with fail
    refine (Place_any s n _ (by omega)).mono ?_
    rintro e w3 ⟨rfl, rfl⟩
    go_wp2_with fail
    refine (PlaceT_any s n _ (by omega)).mono ?_
    rintro e w4 ⟨rfl, rfl⟩
    generalize ((placeI (bs s) n).1 : Int) = A
    generalize ((placeI (bs s) n).2 : Int) = C
    have i1 : (A == A) = true := by simp
    have i2 : (C == C) = true := by simp
    go_wp2
    go_ret
    exact ⟨rfl, hB1⟩

end Go.Proofs.Ytdknggccjhillaa
