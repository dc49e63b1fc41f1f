/-
  steps: the sixteen steps of four bits.
-/
import Derived.Test.YtmogihffkglieaaKit
namespace Go.Proofs.Ytmogihffkglieaa
open Go.RowKit

theorem tab_set (k : Nat) : (tabV k).toArray.set! k (.int .u32 (Sm.sN 4 k : Int)) = (tabV (k + 1)).toArray := by
  have : (tabV k).set k (.int .u32 (Sm.sN 4 k : Int)) = tabV (k + 1) := by
    apply List.ext_getElem
    · simp [tabV]
    · intro j h1 h2
      simp only [tabV, List.length_map, List.length_range] at h2
      rw [List.getElem_set]
      simp only [tabV, List.getElem_map, List.getElem_range, tabN]
      by_cases hj : k = j
      · subst hj; simp
      · rw [if_neg hj]
        congr 2
        by_cases h3 : j < k
        · rw [if_pos h3, if_pos (by omega)]
        · rw [if_neg h3, if_neg (by omega)]
  simp [this]

theorem steps_any (w : World) : Calls Try.prog 20 #[] w fun e w' => e = .returned (.agg #[Value.int IntKind.u32 0, Value.int IntKind.u32 498536548, Value.int IntKind.u32 997073096, Value.int IntKind.u32 651767980, Value.int IntKind.u32 1994146192, Value.int IntKind.u32 1802195444, Value.int IntKind.u32 1303535960, Value.int IntKind.u32 1342533948, Value.int IntKind.u32 3988292384, Value.int IntKind.u32 4027552580, Value.int IntKind.u32 3604390888, Value.int IntKind.u32 3412177804, Value.int IntKind.u32 2607071920, Value.int IntKind.u32 2262029012, Value.int IntKind.u32 2685067896, Value.int IntKind.u32 3183342108]) ∧ Below w.heap.size w w' := by
  go_enter Try.func20, Try.ntmps20
  go_wp2_with fail
  go_loopw [4] (fun i wr => ∃ k : Nat, k ≤ 16 ∧ i = .int .i64 (k : Int) ∧ wr = w.alloc (.cells (tabV k).toArray 36)) (fun i _ => 16 - (intOf i).toNat)
  case atStart => exact ⟨0, by omega, rfl, rfl⟩
  case round =>
    obtain ⟨k, hk, rfl, rfl⟩ := hrel
    by_cases hlt : k < 16
    · have hlt' : (k : Int) < 16 := by omega
      have hwk : IntKind.u32.wrap (k : Int) = (k : Int) := by rw [IntKind.wrap_u32']; omega
      have HT : Hid ((tabV k).toArray.set! k (.int .u32 (Sm.sN 4 k : Int)) = (tabV (k + 1)).toArray) := tab_set k
      have hsz : (tabV k).toArray.size = 16 := by simp [tabV]
      generalize (tabV k).toArray = cs at *
      go_wp2_with fail
      go_loop [2, 9] (fun r j => ∃ t n : Nat, t ≤ 4 ∧ j = .int .i64 (t : Int) ∧ r = .int .u32 (n : Int) ∧ n = Sm.sN t k) (fun _ j => 4 - (intOf j).toNat)
      case atStart => exact ⟨0, k, by omega, rfl, rfl, rfl⟩
      case round =>
        obtain ⟨t, n, ht, rfl, rfl, hn⟩ := hrel
        have Hn : Hid (n = Sm.sN t k) := hn
        have Hlt : Hid (n < 4294967296) := by rw [hn]; exact Sm.sN_lt t (by omega)
        clear hn
        by_cases htl : t < 4
        · have htl' : (t : Int) < 4 := by omega
          have hand : bits .and .u32 (n : Int) 1 = ((n % 2 : Nat) : Int) := by
            have := u32_and_nat n 1 Hlt.out (by decide)
            rwa [nat_mask1] at this
          have hx1 : n % 2 = 1 → bits .xor .u32 ((n : Int) / 2) 3988292384 = (Sm.s1 n : Int) := by
            intro h
            have := u32_xor_nat (n / 2) Sm.P (by have := Hlt.out; omega) (by decide)
            rw [Sm.s1, if_pos h]
            exact this
          have hx0 : n % 2 = 0 → bits .xor .u32 ((n : Int) / 2) 0 = (Sm.s1 n : Int) := by
            intro h
            have := u32_xor_nat (n / 2) 0 (by have := Hlt.out; omega) (by decide)
            rw [Sm.s1, if_neg (by omega)]
            exact this
          rcases Nat.mod_two_eq_zero_or_one n with h2 | h2
          · rw [h2] at hand
            have hx := hx0 h2
            clear hx0 hx1
            go_wp2
            refine ⟨⟨t + 1, Sm.s1 n, by omega, by go_num, rfl, ?_⟩, by simp [intOf]; omega⟩
            rw [Sm.sN_succ, ← Hn.out]
          · rw [h2] at hand
            have hx := hx1 h2
            clear hx0 hx1
            go_wp2
            refine ⟨⟨t + 1, Sm.s1 n, by omega, by go_num, rfl, ?_⟩, by simp [intOf]; omega⟩
            rw [Sm.sN_succ, ← Hn.out]
        · obtain rfl : t = 4 := by omega
          have HT' : Hid (cs.set! k (.int .u32 (n : Int)) = (tabV (k + 1)).toArray) := by rw [Hn.out]; exact HT
          go_wp2
          refine ⟨⟨k + 1, by omega, by go_num, ?_⟩, by simp [intOf]; omega⟩
          rw [← HT'.out, Array.set!_eq_setIfInBounds]
    · obtain rfl : k = 16 := by omega
      rw [tab16_eq]
      go_wp2
      refine bodyPost_ret (v := .agg #[Value.int IntKind.u32 0, Value.int IntKind.u32 498536548, Value.int IntKind.u32 997073096, Value.int IntKind.u32 651767980, Value.int IntKind.u32 1994146192, Value.int IntKind.u32 1802195444, Value.int IntKind.u32 1303535960, Value.int IntKind.u32 1342533948, Value.int IntKind.u32 3988292384, Value.int IntKind.u32 4027552580, Value.int IntKind.u32 3604390888, Value.int IntKind.u32 3412177804, Value.int IntKind.u32 2607071920, Value.int IntKind.u32 2262029012, Value.int IntKind.u32 2685067896, Value.int IntKind.u32 3183342108]) (by simp [results, Try.results20, go_sem]) rfl ⟨rfl, (Below.refl _ _).alloc (Nat.le_refl _) _⟩
end Go.Proofs.Ytmogihffkglieaa
