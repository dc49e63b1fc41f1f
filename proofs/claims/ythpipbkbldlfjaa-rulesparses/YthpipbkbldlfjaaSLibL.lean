/-
  WHAT strings.LastIndexByte DOES.
-/
import Derived.Test.YthpipbkbldlfjaaKit
import Derived.Lib.LastIndexByte
namespace Go.Proofs.Ythpipbkbldlfjaa
open Go.RowKit

theorem byteBang (s : ByteArray) (j : Nat) (hj : j < s.size) : s.data[j]! = s[j] := by
  rw [getElem!_pos s.data j (by simpa using hj)]; rfl
set_option maxRecDepth 100000 in
theorem LastIdx_any (s : ByteArray) (c : Int) (hs : s.size < 4611686018427387904) (w : World) : Calls Try.prog 79 #[.string s, .int .u8 c] w fun e w' => e = .returned (.int .i64 (Lib.lastIndexByte s c)) ∧ w' = w := by
  go_enter Try.func79, Try.ntmps79
  go_wp2
  go_loop [5] (fun vi => ∃ k : Nat, k ≤ s.size ∧ vi = .int .i64 ((k : Int) - 1) ∧ Hid (Lib.lastIndexByte s c = Lib.lastIdx s c k)) (fun vi => ((RowKit.intOf vi) + 1).toNat)
  case atStart => exact ⟨s.size, Nat.le_refl _, by first | rfl | go_num | (congr 1; omega), rfl⟩
  case round =>
    obtain ⟨k, hk, rfl, hh⟩ := hrel
    go_wp2
    · have hc : (((s[k - 1]).toNat : Int) == c) = true := by assumption
      have k1 : 1 ≤ k := by omega
      have e1 : Lib.lastIdx s c k = ((k - 1 : Nat) : Int) := by
        have := Lib.lastIdx_hit s c (k - 1) (by rw [byteBang s (k - 1) (by omega)]; simpa using hc)
        rwa [show k - 1 + 1 = k by omega] at this
      have e2 : ((k - 1 : Nat) : Int) = (k : Int) - 1 := by omega
      go_ret
      rw [hh.out, e1, e2]
      exact ⟨rfl, rfl⟩
    · have hc : (((s[k - 1]).toNat : Int) == c) = false := by assumption
      have k1 : 1 ≤ k := by omega
      have e1 : Lib.lastIdx s c k = Lib.lastIdx s c (k - 1) := by
        have := Lib.lastIdx_miss s c (k - 1) (by rw [byteBang s (k - 1) (by omega)]; simpa using hc)
        rwa [show k - 1 + 1 = k by omega] at this
      refine ⟨⟨k - 1, by omega, by congr 1; omega, hh.out.trans e1⟩, ?_⟩
      simp [RowKit.intOf]; omega
    · have k0 : k = 0 := by omega
      subst k0
      go_ret
      rw [hh.out]
      exact ⟨rfl, rfl⟩
/-- the last place of a byte in a text -/
theorem lastIdx_cases (s : ByteArray) (c : UInt8) : (Lib.lastIndexByte s (c.toNat : Int) = -1 ∧ c ∉ bs s) ∨ ∃ k : Nat, Lib.lastIndexByte s (c.toNat : Int) = k ∧ k < s.size ∧ bs s = (bs s).take k ++ c :: (bs s).drop (k + 1) ∧ c ∉ (bs s).drop (k + 1) := by
  have conv : ∀ j (hj : j < s.size), ((s.data[j]!).toNat : Int) = (c.toNat : Int) ↔ (bs s)[j]'(by rw [bs_length]; exact hj) = c := by
    intro j hj
    rw [byteBang s j hj]
    constructor
    · intro h
      exact UInt8.toNat_inj.1 (by exact_mod_cast h)
    · intro h
      have h' : s[j] = c := h
      rw [h']
  rcases Lib.lastIndexByte_spec s (c.toNat : Int) with ⟨h1, h2⟩ | ⟨k, hk, h1, h2, h3⟩
  · refine .inl ⟨h1, fun hm => ?_⟩
    obtain ⟨j, hj, e⟩ := List.getElem_of_mem hm
    rw [bs_length] at hj
    exact h2 j hj ((conv j hj).2 e)
  · refine .inr ⟨k, h1, hk, ?_, fun hm => ?_⟩
    · have e := (conv k hk).1 h2
      conv => lhs; rw [← List.take_append_drop k (bs s), List.drop_eq_getElem_cons (by rw [bs_length]; exact hk), e]
    · obtain ⟨j, hj, e⟩ := List.getElem_of_mem hm
      rw [List.length_drop, bs_length] at hj
      rw [List.getElem_drop] at e
      exact h3 (k + 1 + j) (by omega) (by omega) ((conv _ (by omega)).2 e)
set_option maxRecDepth 100000 in
theorem LastIndexByte_any (s : ByteArray) (c : Int) (hs : s.size < 4611686018427387904) (w : World) : Calls Try.prog 50 #[.string s, .int .u8 c] w fun e w' => e = .returned (.int .i64 (Lib.lastIndexByte s c)) ∧ w' = w := by
  go_enter Try.func50, Try.ntmps50
  go_wp2_with fail
  refine (LastIdx_any s c hs _).mono ?_
  rintro e w1 ⟨rfl, rfl⟩
  go_wp2
  go_ret
  exact ⟨rfl, rfl⟩
end Go.Proofs.Ythpipbkbldlfjaa
