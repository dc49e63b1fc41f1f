/-
  THE LAWS' texts, since.
-/
import Derived.Test.YtifolddmcibkdaaRList
namespace Go.Proofs.Ytifolddmcibkdaa
open Go.RowKit

set_option maxRecDepth 100000 in
set_option maxHeartbeats 2000000 in
theorem texts_any (w : World) (B : Nat) (va vb : Value) (a b : List ByteArray) (ha : StR.Sl w B va a) (hb : StR.Sl w B vb b) (hl : a.length ≤ 100000000) :
    Calls Try.prog 25 #[va, vb] w fun e w' => e = .returned (.bool (decide (a = b))) ∧ Below w.heap.size w w' := by
  obtain ⟨ada, ca, rfl, hca⟩ := ha.shape
  obtain ⟨adb, cb, rfl, hcb⟩ := hb.shape
  go_enter Try.func25, Try.ntmps25
  by_cases hlen : a.length = b.length
  · have q0 : ((a.length : Int) != (b.length : Int)) = false := by simp; omega
    go_wp2
    go_loopw [5] (fun i wr => ∃ k : Nat, k ≤ a.length ∧ i = .int .i64 (k : Int) ∧ a.take k = b.take k ∧ ∃ q, wr = w.drewN q) (fun i _ => a.length - (intOf i).toNat)
    case atStart => exact ⟨0, Nat.zero_le _, rfl, rfl, 0, rfl⟩
    case round =>
      obtain ⟨k, hk, rfl, hall, q, rfl⟩ := hrel
      have HA : Hid _ := hall
      clear hall
      by_cases hlt : k < a.length
      · obtain ⟨b1, o1, c1, e1, -, p1⟩ := StR.at ha k hlt
        obtain ⟨b2, o2, c2, e2, -, p2⟩ := StR.at hb k (by omega)
        simp only [Value.slice.injEq] at e1 e2
        obtain ⟨rfl, -, rfl⟩ := e1
        obtain ⟨rfl, -, rfl⟩ := e2
        have i1 : (k : Int) < (a.length : Int) := by omega
        have i2 : (k : Int) < (b.length : Int) := by omega
        have HE := beq_txt (a.getD k .empty) (b.getD k .empty)
        have HS : Hid (a.take (k + 1) = a.take k ++ [a.getD k .empty] ∧ b.take (k + 1) = b.take k ++ [b.getD k .empty]) := by
          refine ⟨?_, ?_⟩
          · rw [List.take_succ_eq_append_getElem hlt, List.getD_eq_getElem?_getD, List.getElem?_eq_getElem hlt]; rfl
          · rw [List.take_succ_eq_append_getElem (show k < b.length by omega), List.getD_eq_getElem?_getD, List.getElem?_eq_getElem (show k < b.length by omega)]; rfl
        generalize a.getD k .empty = x at *
        generalize b.getD k .empty = y at *
        by_cases hxy : x = y
        · rw [decide_eq_true hxy] at HE
          have HX : Hid _ := hxy
          clear hxy
          go_wp2_with fail
          go_quiet (fail)
          go_wp2
          refine ⟨⟨k + 1, by omega, by go_num, ?_, _, rfl⟩, by simp [intOf]; omega⟩
          rw [HS.out.1, HS.out.2, HA.out, HX.out]
        · rw [decide_eq_false hxy] at HE
          have HX : Hid _ := hxy
          clear hxy
          go_wp2_with fail
          go_quiet (fail)
          go_wp2
          go_ret
          rw [decide_eq_false]
          · exact ⟨rfl, below_drewN (below_drewN (Below.refl _ _) _) _⟩
          · rintro rfl
            have h1 := HS.out.1
            have h2 := HS.out.2
            rw [h1] at h2
            exact HX.out (by simpa using h2)
      · obtain rfl : k = a.length := by omega
        have i1 : ¬ (a.length : Int) < (a.length : Int) := by omega
        have e := HA.out
        rw [List.take_length, hlen, List.take_length] at e
        have HX : Hid _ := e
        clear e
        go_wp2
        go_ret
        rw [decide_eq_true HX.out]
        exact ⟨rfl, below_drewN (Below.refl _ _) _⟩
  · have q0 : ((a.length : Int) != (b.length : Int)) = true := by simp; omega
    go_wp2
    go_ret
    rw [decide_eq_false (by rintro rfl; exact hlen rfl)]
    exact ⟨rfl, Below.refl _ _⟩

end Go.Proofs.Ytifolddmcibkdaa
