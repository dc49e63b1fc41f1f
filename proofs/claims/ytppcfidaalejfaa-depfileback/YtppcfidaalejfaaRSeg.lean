/-
  THE WALK OF THE DOCUMENT's Segment.
-/
import Derived.Test.YtppcfidaalejfaaPBs
import Derived.Test.YtppcfidaalejfaaStrs
namespace Go.Proofs.Ytppcfidaalejfaa
open Go.RowKit

set_option maxRecDepth 100000 in
set_option maxHeartbeats 4000000 in
theorem Segment_any (s : ByteArray) (w : World) : Calls Try.prog 54 #[.string s] w fun e w' => e = .returned (.bool (Pm.seg (bs s))) ∧ w' = w := by
  have hl := bs_length s
  have hbt : s.toList = bs s := ByteArray.toList_eq s
  by_cases h1 : (s.size : Int) < 1
  · have hs := seg_no (s := bs s) (.inl (by omega))
    rw [hs]
    clear hs hl hbt
    go_enter Try.func54, Try.ntmps54
    go_wp2
    go_ret
    exact ⟨rfl, rfl⟩
  by_cases h2 : (32 : Int) < (s.size : Int)
  · have hs := seg_no (s := bs s) (.inr (.inl (by omega)))
    rw [hs]
    clear hs hl hbt
    go_enter Try.func54, Try.ntmps54
    go_wp2
    go_ret
    exact ⟨rfl, rfl⟩
  by_cases h3 : s.toList = [46]
  · have hs := seg_no (s := bs s) (.inr (.inr (.inl (hbt.symm.trans h3))))
    rw [hs]
    clear hs hl hbt
    have h3b : (s.toList == [46]) = true := by simp [h3]
    go_enter Try.func54, Try.ntmps54
    go_wp2
    go_ret
    exact ⟨rfl, rfl⟩
  by_cases h4 : s.toList = [46, 46]
  · have hs := seg_no (s := bs s) (.inr (.inr (.inr (hbt.symm.trans h4))))
    rw [hs]
    clear hs hl hbt
    have h3b : (s.toList == [46]) = false := by simp [h3]
    have h4b : (s.toList == [46, 46]) = true := by simp [h4]
    go_enter Try.func54, Try.ntmps54
    go_wp2
    go_ret
    exact ⟨rfl, rfl⟩
  have HS : Hid (Pm.seg (bs s) = (bs s).all Pm.okB) := seg_all (by omega) (by omega) (fun e => h3 (hbt.trans e)) (fun e => h4 (hbt.trans e))
  have h3b : (s.toList == [46]) = false := by simp [h3]
  have h4b : (s.toList == [46, 46]) = false := by simp [h4]
  have Hl : Hid ((bs s).length = s.size) := hl
  clear hl hbt
  go_enter Try.func54, Try.ntmps54
  go_wp2
  clear h3 h4 h3b h4b
  go_loopw [3] (fun i wr => ∃ k : Nat, k ≤ s.size ∧ i = .int .i64 (k : Int) ∧ wr = w ∧ ∀ c ∈ (bs s).take k, Pm.okB c = true) (fun i _ => s.size - (intOf i).toNat)
  case atStart => exact ⟨0, Nat.zero_le _, rfl, rfl, by simp⟩
  case round =>
    obtain ⟨k, hk, rfl, rfl, hall⟩ := hrel
    have HA : Hid _ := hall
    clear hall
    by_cases hlt : k < s.size
    · have i1 : (k : Int) < (s.size : Int) := by omega
      go_upto_region 7 with fail
      obtain ⟨x, hx⟩ : ∃ x, s[k] = x := ⟨_, rfl⟩
      rw [hx]
      have HT : Hid ((bs s).take (k + 1) = (bs s).take k ++ [x]) := by
        show _ = _
        rw [List.take_succ_eq_append_getElem (by rw [Hl.out]; exact hlt)]
        congr 2
      have HOk : Hid _ := okB_iff x
      have HN : Hid (Pm.okB x = false → (bs s).all Pm.okB = false) := fun h => by
        rw [List.all_eq_false]
        refine ⟨x, ?_, by rw [h]; simp⟩
        have : x ∈ (bs s).take (k + 1) := by rw [HT.out]; simp
        exact List.mem_of_mem_take this
      have hx2 := x.toNat_lt
      clear hx
      generalize x.toNat = X at *
      go_wp2
      all_goals (try simp only [bne_iff_ne, ne_eq, bne_eq_false_iff_eq] at *)
      all_goals first
        | (refine ⟨⟨k + 1, by omega, by go_num, trivial, fun c hc => ?_⟩, by simp [intOf]; omega⟩
           rw [HT.out] at hc
           rcases List.mem_append.1 hc with h | h
           · exact HA.out c h
           · simp at h; rw [h, HOk.out]; exact decide_eq_true (by omega))
        | (go_ret
           refine ⟨?_, rfl⟩
           rw [HS.out, HN.out (by rw [HOk.out]; exact decide_eq_false (by omega))]
           rfl)
    · obtain rfl : k = s.size := by omega
      go_wp2
      go_ret
      refine ⟨?_, rfl⟩
      rw [HS.out, List.all_eq_true.2 (fun c hc => HA.out c (by rw [List.take_of_length_le (by rw [Hl.out]; exact Nat.le_refl _)]; exact hc))]
      rfl

end Go.Proofs.Ytppcfidaalejfaa
