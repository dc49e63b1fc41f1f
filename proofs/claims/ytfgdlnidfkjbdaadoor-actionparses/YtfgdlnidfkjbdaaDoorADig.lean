/-
  WHAT THE DOCUMENT's Digits AND Number DO.
-/
import Derived.Test.YtfgdlnidfkjbdaaDoorAWord
namespace Go.Proofs.YtfgdlnidfkjbdaaDoor
open Go.RowKit

theorem Ac.digits_one {n : Nat} (h : n < 10) : Ac.digits n = [Ac.digit (n % 10)] := by
  rw [Ac.digits, if_pos h, Nat.mod_eq_of_lt h]
theorem Ac.digits_more {n : Nat} (h : 10 ≤ n) (h2 : n ≤ 9999) : Ac.digits n = Ac.digits (n / 10) ++ [Ac.digit (n % 10)] := by
  unfold Ac.digits
  rw [if_neg (show ¬ n < 10 by omega)]
  by_cases h3 : n < 100
  · rw [if_pos h3, if_pos (by omega)]; rfl
  · rw [if_neg h3]
    by_cases h4 : n < 1000
    · rw [if_pos h4, if_neg (by omega), if_pos (by omega), Nat.div_div_eq_div_mul]; rfl
    · rw [if_neg h4, if_neg (by omega), if_neg (by omega), if_pos (by omega), Nat.div_div_eq_div_mul, Nat.div_div_eq_div_mul]; rfl
theorem Ac.digits_len (n : Nat) : (Ac.digits n).length ≤ 4 := by
  unfold Ac.digits
  split
  · simp
  · split
    · simp
    · split <;> simp
theorem Ac.digit_nat (n : Nat) : ((Ac.digit (n % 10)).toNat : Int) = 48 + (n : Int) % 10 := by
  have h : (Ac.digit (n % 10)).toNat = 48 + n % 10 := by
    rw [Ac.digit, UInt8.toNat_ofNat']
    omega
  omega
theorem str_app (a b : List UInt8) : str a ++ str b = str (a ++ b) := by
  apply bs_inj
  rw [show bs (str (a ++ b)) = a ++ b from str_toList _]
  simp [bs, str]
set_option maxRecDepth 100000 in
set_option maxHeartbeats 1000000 in
theorem DigitsT_any : ∀ (n : Nat) (w : World), n ≤ 9999 → Calls Tryd.prog 23 #[.int .i64 (n : Int)] w fun e w' => e = .returned (.string (str (Ac.digits n))) ∧ Below w.heap.size w w' := by
  intro n
  induction n using Nat.strongRecOn with
  | ind n ih =>
  intro w hn
  have hcv : (convert 64 9 (.slice (some ⟨w.heap.size, 0, none⟩) 1 1)).run Tryd.prog (w.alloc (.cells #[.int .u8 (48 + (n : Int) % 10)] 5)) = .ok (.string (str [Ac.digit (n % 10)])) (w.alloc (.cells #[.int .u8 (48 + (n : Int) % 10)] 5)) := by
    refine conv_byts (byts_lit w _ [Ac.digit (n % 10)] 1 ?_ rfl)
    simp [bV, Ac.digit_nat]
  have hB := (Below.refl w.heap.size w).alloc (Nat.le_refl _) (.cells #[.int .u8 (48 + (n : Int) % 10)] 5)
  by_cases h : n < 10
  · have i1 : ¬ (10 : Int) ≤ (n : Int) := by omega
    have HD : Hid _ := Ac.digits_one h
    clear ih
    go_enter Tryd.func23, Tryd.ntmps23
    go_wp2
    go_ret
    rw [HD.out]
    exact ⟨rfl, hB⟩
  · have i1 : (10 : Int) ≤ (n : Int) := by omega
    have HD : Hid _ := Ac.digits_more (by omega) hn
    have hc := ih (n / 10) (by omega) (w.alloc (.cells #[.int .u8 (48 + (n : Int) % 10)] 5)) (by omega)
    clear ih
    rw [show ((n / 10 : Nat) : Int) = (n : Int) / 10 by omega] at hc
    go_enter Tryd.func23, Tryd.ntmps23
    go_wp2_with fail
    refine hc.mono ?_
    rintro e w1 ⟨rfl, hB1⟩
    have HA : Hid _ := str_app (Ac.digits (n / 10)) [Ac.digit (n % 10)]
    have i2 : ¬ 9223372036854775807 < (str (Ac.digits (n / 10))).size + (str [Ac.digit (n % 10)]).size := by
      have := Ac.digits_len (n / 10)
      rw [str_size, str_size]
      simp only [List.length_cons, List.length_nil]
      omega
    go_wp2
    go_ret
    rw [HD.out, HA.out]
    exact ⟨rfl, hB.trans (hB1.mono (by simp))⟩

/-- what Number answers -/
def Ac.numI (s : List UInt8) : Int := match Ac.number s with
  | some n => (n : Int)
  | none => -1
theorem Ac.numI_len {s : List UInt8} (h : s.length < 1 ∨ 4 < s.length) : Ac.numI s = -1 := by
  rw [Ac.numI, Ac.number, if_neg (by omega)]
theorem Ac.numI_bad {s : List UInt8} {k : Nat} (hk : k < s.length) (h : s[k].toNat < 48 ∨ 57 < s[k].toNat) : Ac.numI s = -1 := by
  rw [Ac.numI, Ac.number, if_neg]
  rintro ⟨-, -, h3, -⟩
  have := List.all_eq_true.1 h3 s[k] (List.getElem_mem hk)
  rw [decide_eq_true_eq] at this
  omega
theorem Ac.numI_end {s : List UInt8} (h1 : 1 ≤ s.length) (h2 : s.length ≤ 4) (h3 : (s.all fun c => decide (48 ≤ c.toNat ∧ c.toNat ≤ 57)) = true) :
    Ac.numI s = if Ac.value s ≤ 1000 ∧ Ac.digits (Ac.value s) = s then (Ac.value s : Int) else -1 := by
  rw [Ac.numI, Ac.number]
  by_cases h : Ac.value s ≤ 1000 ∧ Ac.digits (Ac.value s) = s
  · rw [if_pos h, if_pos ⟨h1, h2, h3, h.1, h.2⟩]
  · rw [if_neg h, if_neg (fun x => h ⟨x.2.2.2.1, x.2.2.2.2⟩)]
theorem Ac.value_next (s : List UInt8) (c : UInt8) : Ac.value (s ++ [c]) = 10 * Ac.value s + (c.toNat - 48) := by
  rw [Ac.value, List.foldl_append]; rfl
theorem take_byte13 (s : ByteArray) (k : Nat) (h : k < s.size) : (bs s).take (k + 1) = (bs s).take k ++ [s[k]] := by
  rw [List.take_succ_eq_append_getElem (by rw [bs_length]; exact h)]
  congr 2
set_option maxRecDepth 100000 in
set_option maxHeartbeats 1000000 in
theorem NumberT_any (s : ByteArray) (w : World) (hs : s.size ≤ 1099511627) : Calls Tryd.prog 57 #[.string s] w fun e w' => e = .returned (.int .i64 (Ac.numI (bs s))) ∧ Below w.heap.size w w' := by
  by_cases hl : s.size < 1 ∨ 4 < s.size
  · have HN : Hid (Ac.numI (bs s) = -1) := Ac.numI_len (by rw [bs_length]; exact hl)
    generalize Ac.numI (bs s) = R at *
    go_enter Tryd.func57, Tryd.ntmps57
    go_wp2
    all_goals first | (exfalso; omega) | (go_ret; rw [HN.out]; exact ⟨rfl, Below.refl _ _⟩)
  · have i1 : ¬ (s.size : Int) < 1 := by omega
    have i2 : ¬ (4 : Int) < (s.size : Int) := by omega
    have HB : Hid (∀ k : Nat, ∀ hk : k < s.size, s[k].toNat < 48 ∨ 57 < s[k].toNat → Ac.numI (bs s) = -1) := fun k hk h => Ac.numI_bad (k := k) (by rw [bs_length]; exact hk) h
    have HE : Hid (((bs s).all fun c => decide (48 ≤ c.toNat ∧ c.toNat ≤ 57)) = true → Ac.numI (bs s) = if Ac.value (bs s) ≤ 1000 ∧ Ac.digits (Ac.value (bs s)) = bs s then (Ac.value (bs s) : Int) else -1) := Ac.numI_end (by rw [bs_length]; omega) (by rw [bs_length]; omega)
    generalize Ac.numI (bs s) = R at *
    go_enter Tryd.func57, Tryd.ntmps57
    go_wp2
    go_loop [3, 4] (fun n i => ∃ k : Nat, k ≤ s.size ∧ i = .int .i64 (k : Int) ∧ n = .int .i64 (Ac.value ((bs s).take k) : Int) ∧ Hid (Ac.value ((bs s).take k) < 10 ^ k ∧ (((bs s).take k).all fun c => decide (48 ≤ c.toNat ∧ c.toNat ≤ 57)) = true)) (fun _ i => s.size - (intOf i).toNat)
    case atStart => exact ⟨0, Nat.zero_le _, rfl, rfl, by rw [List.take_zero]; decide, rfl⟩
    case round =>
      obtain ⟨k, hk, rfl, rfl, HM⟩ := hrel
      by_cases hlt : k < s.size
      · have i3 : (k : Int) < (s.size : Int) := by omega
        obtain ⟨h1, h2⟩ := HM.out
        have h3 := Ac.value_next ((bs s).take k) s[k]
        rw [← take_byte13 s k hlt] at h3
        have h4 : 10 ^ k ≤ 1000 := by
          have : k ≤ 3 := by omega
          exact Nat.le_trans (Nat.pow_le_pow_right (by decide) this) (by decide)
        by_cases hc : s[k].toNat < 48 ∨ 57 < s[k].toNat
        · have HR : Hid (R = -1) := HB.out k hlt hc
          clear HM h1 h2 h3 h4 HB HE
          go_wp2
          all_goals first | (exfalso; omega) | (go_ret; rw [HR.out]; exact ⟨rfl, Below.refl _ _⟩)
        · have j1 : ¬ (s[k].toNat : Int) < 48 := by omega
          have j2 : ¬ (57 : Int) < (s[k].toNat : Int) := by omega
          have HN : Hid (Ac.value ((bs s).take (k + 1)) < 10 ^ (k + 1) ∧ (((bs s).take (k + 1)).all fun c => decide (48 ≤ c.toNat ∧ c.toNat ≤ 57)) = true) := by
            refine ⟨?_, ?_⟩
            · rw [h3, Nat.pow_succ]; omega
            · rw [take_byte13 s k hlt, List.all_append, h2]
              simp; omega
          have HX : Hid (10 * (Ac.value ((bs s).take k) : Int) + ((s[k].toNat : Int) - 48) = (Ac.value ((bs s).take (k + 1)) : Int)) := by show _ = _; rw [h3]; omega
          have b1 : (Ac.value ((bs s).take k) : Int) < 1000 := by omega
          clear HM h1 h2 h3 h4 HB HE
          generalize Ac.value ((bs s).take k) = A at *
          go_wp2
          exact ⟨⟨k + 1, by omega, by go_num, by rw [← HX.out], HN.out⟩, by simp [intOf]; omega⟩
      · obtain rfl : k = s.size := by omega
        have i3 : ¬ (s.size : Int) < (s.size : Int) := by omega
        have et : (bs s).take s.size = bs s := by rw [← bs_length, List.take_length]
        obtain ⟨h1, h2⟩ := HM.out
        rw [et] at h1 h2
        have HR : Hid _ := HE.out h2
        rw [et]
        clear HM HE HB h1 h2 et
        obtain ⟨A, hA⟩ : ∃ A, Ac.value (bs s) = A := ⟨_, rfl⟩
        rw [hA] at HR ⊢
        clear hA
        by_cases ha : A ≤ 1000
        · have i4 : ¬ (1000 : Int) < (A : Int) := by omega
          go_wp2_with fail
          refine (DigitsT_any A _ (by omega)).mono ?_
          rintro e w1 ⟨rfl, hB⟩
          by_cases he : Ac.digits A = bs s
          · have e1 : str (Ac.digits A) = s := by rw [he]; exact str_of s
            rw [e1]
            rw [if_pos ⟨ha, he⟩] at HR
            clear he e1
            go_wp2
            go_ret
            rw [HR.out]
            exact ⟨rfl, hB⟩
          · have e1 : ((str (Ac.digits A)).toList == s.toList) = false := by
              rw [beq_eq_false_iff_ne, ByteArray.toList_eq, ByteArray.toList_eq, str_toList]
              exact he
            rw [if_neg (fun x => he x.2)] at HR
            clear he
            go_wp2
            go_ret
            rw [HR.out]
            exact ⟨rfl, hB⟩
        · have i4 : (1000 : Int) < (A : Int) := by omega
          rw [if_neg (fun x => ha x.1)] at HR
          go_wp2
          go_ret
          rw [HR.out]
          exact ⟨rfl, Below.refl _ _⟩

end Go.Proofs.YtfgdlnidfkjbdaaDoor
