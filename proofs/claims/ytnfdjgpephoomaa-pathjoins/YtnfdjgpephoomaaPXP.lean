/-
  WHAT THE PROGRAM's Parent and Base DO.
-/
import Derived.Test.YtnfdjgpephoomaaPXS
namespace Go.Proofs.Ytnfdjgpephoomaa
open Go.RowKit

theorem Pm.parent_plain {p : Pm.B} (h : (47 : UInt8) ∉ p) : Pm.parent p = ([], false) := by
  unfold Pm.parent
  rw [if_neg (fun hc => by rw [Pm.cut_plain p h] at hc; exact absurd hc.2 (by simp))]
theorem Pm.parent_at {p : Pm.B} (a b : Pm.B) (e : p = a ++ 47 :: b) (h : (47 : UInt8) ∉ b) : Pm.parent p = if Pm.isP p = true then (a, true) else ([], false) := by
  unfold Pm.parent
  have hc : Pm.cut p = Pm.cut a ++ [b] := by rw [e, Pm.cut_slash, Pm.cut_plain b h]
  have hl : 1 ≤ (Pm.cut a).length := Nat.pos_of_ne_zero (fun h => Pm.cut_ne a (List.eq_nil_of_length_eq_zero h))
  by_cases hp : Pm.isP p = true
  · rw [if_pos ⟨hp, by rw [hc, List.length_append, List.length_singleton]; omega⟩, if_pos hp, hc, List.dropLast_concat, Pm.join_cut]
  · rw [if_neg (fun h => hp h.1), if_neg hp]
theorem Pm.base_plain {p : Pm.B} (h : (47 : UInt8) ∉ p) : Pm.base p = if Pm.isP p = true then p else [] := by
  unfold Pm.base
  rw [Pm.cut_plain p h]
  rfl
theorem Pm.base_at {p : Pm.B} (a b : Pm.B) (e : p = a ++ 47 :: b) (h : (47 : UInt8) ∉ b) : Pm.base p = if Pm.isP p = true then b else [] := by
  unfold Pm.base
  have hc : Pm.cut p = Pm.cut a ++ [b] := by rw [e, Pm.cut_slash, Pm.cut_plain b h]
  rw [hc, List.getLastD_concat]

set_option maxRecDepth 100000 in
theorem Parent_any (s : ByteArray) (w : World) (hs : s.size ≤ 100000000) : Calls Try.prog 13 #[.string s] w fun e w' => (∃ t, e = .returned (.tuple #[.string t, .bool (Pm.parent (bs s)).2]) ∧ bs t = (Pm.parent (bs s)).1) ∧ Below w.heap.size w w' := by
  rcases lastIdx_cases s 47 with ⟨h1, h2⟩ | ⟨k, h1, hk, h2, h3⟩
  · have HP : Hid _ := Pm.parent_plain h2
    clear h2
    go_enter Try.func13, Try.ntmps13
    go_wp2_with fail
    refine (LastIndexByte_any s 47 (by omega) _).mono ?_
    rintro e w1 ⟨rfl, rfl⟩
    rw [show Lib.lastIndexByte s 47 = -1 from h1]
    go_wp2
    go_ret2
    rw [HP.out]
    exact ⟨⟨_, rfl, rfl⟩, Below.refl _ _⟩
  · have HP : Hid _ := Pm.parent_at _ _ h2 h3
    have hI := Is_any s
    generalize Pm.isP (bs s) = K at HP hI
    clear h2 h3
    have i1 : ¬ (k : Int) < 0 := by omega
    have i2 : (k : Int) ≤ (s.size : Int) := by omega
    go_enter Try.func13, Try.ntmps13
    go_wp2_with fail
    refine (LastIndexByte_any s 47 (by omega) _).mono ?_
    rintro e w1 ⟨rfl, rfl⟩
    rw [show Lib.lastIndexByte s 47 = (k : Int) from h1]
    clear h1
    go_wp2_with fail
    refine (hI _ (by omega)).mono ?_
    rintro e w2 ⟨rfl, hB⟩
    clear hI
    cases K with
    | true =>
      go_wp2
      go_ret2
      rw [HP.out, if_pos trivial]
      exact ⟨⟨_, rfl, by rw [bs_extract, List.drop_zero, Nat.sub_zero]⟩, hB⟩
    | false =>
      go_wp2
      go_ret2
      rw [HP.out, if_neg (by simp)]
      exact ⟨⟨_, rfl, rfl⟩, hB⟩
set_option maxRecDepth 100000 in
theorem Base_any (s : ByteArray) (w : World) (hs : s.size ≤ 100000000) : Calls Try.prog 17 #[.string s] w fun e w' => ∃ t, e = .returned (.string t) ∧ bs t = Pm.base (bs s) ∧ Below w.heap.size w w' := by
  have hI := Is_any s
  have HK : Hid (∃ j : Nat, Lib.lastIndexByte s 47 + 1 = (j : Int) ∧ j ≤ s.size ∧ Pm.base (bs s) = if Pm.isP (bs s) = true then (bs s).drop j else []) := by
    rcases lastIdx_cases s 47 with ⟨h1, h2⟩ | ⟨k, h1, hk, h2, h3⟩
    · exact ⟨0, by rw [show Lib.lastIndexByte s 47 = -1 from h1]; rfl, Nat.zero_le _, Pm.base_plain h2⟩
    · exact ⟨k + 1, by rw [show Lib.lastIndexByte s 47 = (k : Int) from h1]; simp, hk, Pm.base_at _ _ h2 h3⟩
  generalize Pm.isP (bs s) = K at HK hI
  go_enter Try.func17, Try.ntmps17
  go_wp2_with fail
  refine (hI _ (by omega)).mono ?_
  rintro e w2 ⟨rfl, hB⟩
  clear hI
  obtain ⟨j, h1, h2, h3⟩ := HK.out
  clear HK
  have HP : Hid _ := h3
  clear h3
  cases K with
  | false =>
    go_wp2
    go_ret
    exact ⟨_, rfl, by rw [HP.out, if_neg (by simp)], hB⟩
  | true =>
    go_wp2_with fail
    refine (LastIndexByte_any s 47 (by omega) _).mono ?_
    rintro e w1 ⟨rfl, rfl⟩
    generalize Lib.lastIndexByte s 47 = r at h1
    obtain rfl : r = (j : Int) - 1 := by omega
    have i1 : ((j : Int) - 1 + 1 + 9223372036854775808) % 18446744073709551616 - 9223372036854775808 = (j : Int) := by omega
    have i2 : (j : Int) ≤ (s.size : Int) := by omega
    go_wp2
    go_ret
    refine ⟨_, rfl, ?_, hB⟩
    rw [HP.out, if_pos trivial, bs_extract, List.take_of_length_le (by rw [List.length_drop, bs_length]; exact Nat.le_refl _)]

end Go.Proofs.Ytnfdjgpephoomaa
