/-
  WHAT THE PROGRAM's capital, digit, Name DO.
-/
import Derived.Test.YthpipbkbldlfjaaRName
namespace Go.Proofs.Ythpipbkbldlfjaa
open Go.RowKit

set_option maxRecDepth 100000 in
theorem capital_any (c : UInt8) (w : World) : Calls Try.prog 35 #[.int .u8 (c.toNat : Int)] w fun e w' => e = .returned (.bool (Rl.big c)) ∧ w' = w := by
  have HB : Hid (Rl.big c = decide (65 ≤ c.toNat ∧ c.toNat ≤ 90)) := rfl
  generalize Rl.big c = b at *
  go_enter Try.func35, Try.ntmps35
  by_cases h1 : 65 ≤ c.toNat
  · have i1 : (65 : Int) ≤ (c.toNat : Int) := by omega
    by_cases h2 : c.toNat ≤ 90
    · have i2 : (c.toNat : Int) ≤ 90 := by omega
      go_wp2
      go_ret
      rw [HB.out, decide_eq_true ⟨h1, h2⟩]
      exact ⟨rfl, rfl⟩
    · have i2 : ¬ (c.toNat : Int) ≤ 90 := by omega
      go_wp2
      go_ret
      rw [HB.out, decide_eq_false (fun h => h2 h.2)]
      exact ⟨rfl, rfl⟩
  · have i1 : ¬ (65 : Int) ≤ (c.toNat : Int) := by omega
    go_wp2
    go_ret
    rw [HB.out, decide_eq_false (fun h => h1 h.1)]
    exact ⟨rfl, rfl⟩
def Rl.dig (c : UInt8) : Bool := decide (48 ≤ c.toNat ∧ c.toNat ≤ 57)
set_option maxRecDepth 100000 in
theorem digit_any (c : UInt8) (w : World) : Calls Try.prog 36 #[.int .u8 (c.toNat : Int)] w fun e w' => e = .returned (.bool (Rl.dig c)) ∧ w' = w := by
  have HB : Hid (Rl.dig c = decide (48 ≤ c.toNat ∧ c.toNat ≤ 57)) := rfl
  generalize Rl.dig c = b at *
  go_enter Try.func36, Try.ntmps36
  by_cases h1 : 48 ≤ c.toNat
  · have i1 : (48 : Int) ≤ (c.toNat : Int) := by omega
    by_cases h2 : c.toNat ≤ 57
    · have i2 : (c.toNat : Int) ≤ 57 := by omega
      go_wp2
      go_ret
      rw [HB.out, decide_eq_true ⟨h1, h2⟩]
      exact ⟨rfl, rfl⟩
    · have i2 : ¬ (c.toNat : Int) ≤ 57 := by omega
      go_wp2
      go_ret
      rw [HB.out, decide_eq_false (fun h => h2 h.2)]
      exact ⟨rfl, rfl⟩
  · have i1 : ¬ (48 : Int) ≤ (c.toNat : Int) := by omega
    go_wp2
    go_ret
    rw [HB.out, decide_eq_false (fun h => h1 h.1)]
    exact ⟨rfl, rfl⟩

theorem Rl.name_first (s : ByteArray) : Rl.name (bs s) = true ↔ ∃ h : 0 < s.size, s.size ≤ 16 ∧ Rl.big s[0] = true ∧ ∀ i (h : i < s.size), (Rl.big s[i] || Rl.other s[i]) = true := by
  rw [Rl.name_iff]
  constructor
  · rintro ⟨h1, h2, h3⟩
    refine ⟨by omega, h2, ?_, fun i h => ?_⟩
    · have := h3 0 (by omega)
      simpa [Rl.okAt] using this
    · have := h3 i h
      unfold Rl.okAt at this
      cases hb : Rl.big s[i] with
      | true => rfl
      | false =>
        rw [hb, Bool.false_or, Bool.and_eq_true] at this
        rw [this.2]; rfl
  · rintro ⟨h1, h2, h3, h4⟩
    refine ⟨by omega, h2, fun i h => ?_⟩
    unfold Rl.okAt
    by_cases hi : i = 0
    · subst hi
      rw [h3]; rfl
    · have := h4 i h
      rw [decide_eq_true hi, Bool.true_and]
      exact this

theorem other_dig (c : UInt8) : Rl.other c = (Rl.dig c || decide (c.toNat = 95)) := by
  have h : ∀ n : Fin 256, Rl.other (UInt8.ofNat n.1) = (Rl.dig (UInt8.ofNat n.1) || decide (n.1 = 95)) := by decide +kernel
  have := h ⟨c.toNat, c.toNat_lt⟩
  simpa using this

set_option maxRecDepth 100000 in
set_option maxHeartbeats 1000000 in
theorem Name_any (s : ByteArray) (w : World) : Calls Try.prog 16 #[.string s] w fun e w' => e = .returned (.bool (Rl.name (bs s))) ∧ w' = w := by
  have HN : Hid _ := Rl.name_first s
  have HNO : Hid (¬ Rl.name (bs s) = true → Rl.name (bs s) = false) := fun h => by simpa using h
  generalize Rl.name (bs s) = P at *
  go_enter Try.func16, Try.ntmps16
  by_cases h1 : 0 < s.size
  · have e0 : (s.toList == []) = false := by
      rw [beq_eq_false_iff_ne, ByteArray.toList_eq]
      intro e
      have := bs_length s
      unfold bs at this
      rw [e] at this
      simp at this
      omega
    have e1 : ¬ s.toList = [] := by rw [beq_eq_false_iff_ne] at e0; exact e0
    have e2 : s.toList.isEmpty = false := by rw [List.isEmpty_eq_false_iff]; exact e1
    by_cases h2 : s.size ≤ 16
    · have i2 : ¬ (16 : Int) < (s.size : Int) := by omega
      have i3 : (0 : Int) < (s.size : Int) := by omega
      go_wp2_with fail
      refine (capital_any s[0] _).mono ?_
      rintro e w1 ⟨rfl, rfl⟩
      cases hb : Rl.big s[0] with
      | false =>
        have HF : Hid (P = false) := HNO.out (fun h => by
          obtain ⟨_, _, h3, _⟩ := HN.out.1 h
          rw [hb] at h3
          cases h3)
        clear hb
        go_wp2
        go_ret
        rw [HF.out]
        exact ⟨rfl, rfl⟩
      | true =>
        have HB : Hid _ := hb
        clear hb e0 e1 e2
        go_wp2
        go_loopw [20] (fun i wr => ∃ k : Nat, k ≤ s.size ∧ i = .int .i64 (k : Int) ∧ wr = w1 ∧ Hid (∀ i (h : i < s.size), i < k → (Rl.big s[i] || Rl.other s[i]) = true)) (fun i _ => s.size - (intOf i).toNat)
        case atStart => exact ⟨0, Nat.zero_le _, rfl, rfl, fun i h hi => by omega⟩
        case round =>
          obtain ⟨k, hk, rfl, rfl, HA⟩ := hrel
          by_cases hlt : k < s.size
          · have i4 : (k : Int) < (s.size : Int) := by omega
            have HK : Hid ((Rl.big s[k] || Rl.other s[k]) = true → ∀ i (h : i < s.size), i < k + 1 → (Rl.big s[i] || Rl.other s[i]) = true) := by
              intro hok i h hi
              rcases Nat.lt_or_ge i k with hik | hik
              · exact HA.out i h hik
              · obtain rfl : i = k := by omega
                exact hok
            have HF : Hid ((Rl.big s[k] || Rl.other s[k]) = false → P = false) := fun hno => HNO.out fun h => by
              obtain ⟨_, _, _, h4⟩ := HN.out.1 h
              have := h4 k hlt
              rw [hno] at this
              cases this
            rw [other_dig] at HK HF
            have hcap := capital_any s[k] wr
            have hdig := digit_any s[k] wr
            cases hb : Rl.big s[k] with
            | true =>
              rw [hb] at hcap HK HF
              have HK1 : Hid _ := HK.out rfl
              clear hb HK HF
              go_wp2_with fail
              refine hcap.mono ?_
              rintro e w2 ⟨rfl, rfl⟩
              go_wp2
              exact ⟨⟨k + 1, by omega, by go_num, trivial, HK1⟩, by simp [intOf]; omega⟩
            | false =>
              rw [hb] at hcap HK HF
              cases hd : Rl.dig s[k] with
              | true =>
                rw [hd] at hdig HK HF
                have HK1 : Hid _ := HK.out rfl
                clear hb HK HF hd
                go_wp2_with fail
                refine hcap.mono ?_
                rintro e w2 ⟨rfl, rfl⟩
                go_wp2_with fail
                refine hdig.mono ?_
                rintro e w2 ⟨rfl, rfl⟩
                go_wp2
                exact ⟨⟨k + 1, by omega, by go_num, trivial, HK1⟩, by simp [intOf]; omega⟩
              | false =>
                rw [hd] at hdig HK HF
                clear hb hd
                by_cases h95 : s[k].toNat = 95
                · have HK1 : Hid _ := HK.out (by rw [h95]; rfl)
                  have n1 : ((s[k].toNat : Int) != 95) = false := by rw [bne_eq_false_iff_eq]; omega
                  clear HK HF h95
                  go_wp2_with fail
                  refine hcap.mono ?_
                  rintro e w2 ⟨rfl, rfl⟩
                  go_wp2_with fail
                  refine hdig.mono ?_
                  rintro e w2 ⟨rfl, rfl⟩
                  go_wp2
                  exact ⟨⟨k + 1, by omega, by go_num, trivial, HK1⟩, by simp [intOf]; omega⟩
                · have HF1 : Hid (P = false) := HF.out (by rw [decide_eq_false h95]; rfl)
                  have n1 : ((s[k].toNat : Int) != 95) = true := by rw [bne_iff_ne]; omega
                  clear HK HF h95
                  go_wp2_with fail
                  refine hcap.mono ?_
                  rintro e w2 ⟨rfl, rfl⟩
                  go_wp2_with fail
                  refine hdig.mono ?_
                  rintro e w2 ⟨rfl, rfl⟩
                  go_wp2
                  go_ret
                  rw [HF1.out]
                  exact ⟨rfl, rfl⟩
          · obtain rfl : k = s.size := by omega
            have i4 : ¬ (s.size : Int) < (s.size : Int) := by omega
            have HT : Hid (P = true) := HN.out.2 ⟨h1, h2, HB.out, fun i h => HA.out i h h⟩
            go_wp2
            go_ret
            rw [HT.out]
            exact ⟨rfl, rfl⟩
    · have i2 : (16 : Int) < (s.size : Int) := by omega
      have HF : Hid (P = false) := HNO.out (fun h => by
        obtain ⟨_, h3, _⟩ := HN.out.1 h
        exact h2 h3)
      go_wp2
      go_ret
      rw [HF.out]
      exact ⟨rfl, rfl⟩
  · have e0 : s = ByteArray.empty := by
      apply ByteArray.ext
      have : s.data.size = 0 := by
        have := show s.data.size = s.size from rfl
        omega
      exact Array.eq_empty_of_size_eq_zero this
    have HF : Hid (P = false) := HNO.out (fun h => by
      obtain ⟨h3, _⟩ := HN.out.1 h
      exact h1 h3)
    clear HN HNO h1
    subst e0
    go_wp2
    go_ret
    rw [HF.out]
    exact ⟨rfl, rfl⟩

theorem NameL_any (s : ByteArray) (w : World) (_hs : s.size ≤ 262144) : Calls Try.prog 16 #[.string s] w fun e w' => e = .returned (.bool (Rl.name (bs s))) ∧ Below w.heap.size w w' :=
  (Name_any s w).mono fun _ _ ⟨h1, h2⟩ => ⟨h1, by rw [h2]; exact Below.refl _ _⟩

end Go.Proofs.Ythpipbkbldlfjaa
