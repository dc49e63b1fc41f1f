/-
  THE WALK OF SumKnown.
-/
import Derived.Test.YtmogihffkglieaaOfs
namespace Go.Proofs.Ytmogihffkglieaa
open Go.RowKit

theorem whole_b : Sm.whole [98, 67, 190, 183, 232] = false := by kernel_rfl
theorem whole_3 : Sm.whole [0, 0, 0] = false := by kernel_rfl
theorem whole_4 : Sm.whole [0, 0, 0, 0] = true := by kernel_rfl
theorem of_none : Sm.of [] = 0 := by kernel_rfl
theorem of_a : Sm.of [97] = 3904355907 := by kernel_rfl
theorem more_digits : Sm.more (Sm.of [49, 50, 51, 52]) [53, 54, 55, 56, 57] = 3421780262 := by kernel_rfl
theorem seal_a : Sm.seal_ [97] = [97, 67, 190, 183, 232] := by kernel_rfl

set_option maxRecDepth 100000 in
set_option maxHeartbeats 4000000 in
theorem known_walk (w : World) : Calls Try.prog 3 #[] w fun e w' => e = .returned (.bool true) ∧ Below w.heap.size w w' := by
  have kc := fun (w : World) (C : Array Value) (n c : Nat) => Lib.run_convert_bytes_const (P := Try.prog) w 23 5 C n c Try.underlying23 Try.underlying5
  go_enter Try.func3, Try.ntmps3
  go_wp2_with fail
  refine (works_any w).mono ?_
  rintro e w1 ⟨rfl, hB1⟩
  go_wp2_with fail
  refine (Open_no _ [98, 67, 190, 183, 232] _ (w1.heap.size + 1) (by simp) (byts_lit w1 _ _ _ rfl rfl) (show _ ≤ _ by decide) whole_b).mono ?_
  rintro e w2 ⟨rfl, hb2⟩
  have hB2 := (hB1.alloc hB1.size _).trans (hb2.mono (by have := hB1.size; simp; omega))
  clear hb2
  go_wp2_with fail
  refine (Open_no _ [0, 0, 0] _ (w2.heap.size + 1) (by simp) (byts_lit w2 _ _ _ rfl rfl) (show _ ≤ _ by decide) whole_3).mono ?_
  rintro e w3 ⟨rfl, hb3⟩
  have hB3 := (hB2.alloc hB2.size _).trans (hb3.mono (by have := hB2.size; simp; omega))
  clear hb3
  go_wp2_with fail
  refine (Open_yes _ [0, 0, 0, 0] _ (w3.heap.size + 1) (by simp) (byts_lit w3 _ _ _ rfl rfl) (show _ ≤ _ by decide) whole_4).mono ?_
  rintro e w4 ⟨hh, hb4⟩
  obtain rfl : e = .returned (.tuple #[.slice none 0 0, .bool true]) := by
    rcases hh with ⟨_, h⟩ | ⟨h, _⟩
    · exact h
    · simp at h
  have hB4 := (hB3.alloc hB3.size _).trans (hb4.mono (by have := hB3.size; simp; omega))
  clear hb4 hh
  go_wp2_with fail
  refine (Of_any _ [] w4 0 (Nat.zero_le _) (Byts.nil _ _) (show _ ≤ _ by decide)).mono ?_
  rintro e w5 ⟨rfl, hb5⟩
  rw [of_none]
  have hB5 := hB4.trans (hb5.mono hB4.size)
  clear hb5
  go_wp2_with fail
  refine (Of_any _ [97] _ (w5.heap.size + 1) (by simp) (byts_mark w5 _ _ _ _ rfl rfl) (show _ ≤ _ by decide)).mono ?_
  rintro e w6 ⟨rfl, hb6⟩
  rw [of_a]
  have hB6 := (hB5.alloc hB5.size _).trans (hb6.mono (by have := hB5.size; simp; omega))
  clear hb6
  go_wp2_with fail
  refine (Of_any _ [49, 50, 51, 52] _ (w6.heap.size + 1) (by simp) (byts_mark w6 _ _ _ _ rfl rfl) (show _ ≤ _ by decide)).mono ?_
  rintro e w7 ⟨rfl, hb7⟩
  have hB7 := (hB6.alloc hB6.size _).trans (hb7.mono (by have := hB6.size; simp; omega))
  clear hb7
  have Hlt : Hid (Sm.of [49, 50, 51, 52] < 4294967296) := Sm.of_lt _
  have Hmd : Hid (Sm.more (Sm.of [49, 50, 51, 52]) [53, 54, 55, 56, 57] = 3421780262) := more_digits
  generalize Sm.of [49, 50, 51, 52] = s at *
  go_wp2_with fail
  refine (More_any s Hlt _ [53, 54, 55, 56, 57] _ (w7.heap.size + 1) (by simp) (byts_mark w7 _ _ _ _ rfl rfl) (show _ ≤ _ by decide)).mono ?_
  rintro e w8 ⟨rfl, hb8⟩
  rw [Hmd.out]
  have hB8 := (hB7.alloc hB7.size _).trans (hb8.mono (by have := hB7.size; simp; omega))
  clear hb8
  go_wp2_with fail
  refine (Seal_any _ [97] _ (w8.heap.size + 1) (by simp) (byts_mark w8 _ _ _ _ rfl rfl) (show _ ≤ _ by decide)).mono ?_
  rintro e w9 ⟨g, rfl, hg, hk, hb9⟩
  rw [seal_a] at hk
  have hB9 := (hB8.alloc hB8.size _).trans (hb9.mono (by have := hB8.size; simp; omega))
  clear hb9
  go_wp2_with fail
  refine (Equal_same _ _ [97, 67, 190, 183, 232] (g + 1) (w9.heap.size + 1) _ ((hk.all (c := 5) rfl (Nat.le_refl _)).alloc hk.lt _) (byts_lit w9 _ _ _ rfl rfl)).mono ?_
  rintro e w10 ⟨rfl, hw10⟩
  rw [hw10]
  clear hw10 w10
  go_wp2
  go_ret
  exact ⟨rfl, hB9.alloc hB9.size _⟩
end Go.Proofs.Ytmogihffkglieaa
