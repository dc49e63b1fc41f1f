/-
  THE WALKS OF THE READER's bytes, page.
-/
import Derived.Test.YtohdakjfacalbaaDRdr
namespace Go.Proofs.Ytohdakjfacalbaa
open Go.RowKit

/-- 's[m:m+k]' -/
theorem slice_mid {w : World} {B : Nat} {ad : Option Addr} {n c : Nat} {l : List UInt8} (h : Byts w B (.slice ad n c) l) (m k : Nat) (hm : m + k ≤ l.length) :
    ∃ A, (∀ W : World, (Instr.slice 32 (.slice ad n c) (some (.int .i64 (m : Int))) (some (.int .i64 ((m : Int) + (k : Int)))) none).run Try.prog W = .ok (.slice A k (c - m)) W) ∧ Byts w B (.slice A k (c - m)) ((l.drop m).take k) := by
  obtain ⟨ad', c', hv, hle, hn0, h⟩ := h
  simp only [Value.slice.injEq] at hv
  obtain ⟨rfl, rfl, rfl⟩ := hv
  have hlen : ((l.drop m).take k).length = k := by simp; omega
  refine ⟨if c = m then ad else ad.map (·.add m), fun W => ?_, if c = m then ad else ad.map (·.add m), c - m, by rw [hlen], by rw [hlen]; omega, fun h0 => ?_, fun hne => ?_⟩
  · rw [run_slice_lh W 32 ad l.length c (by rw [elem27]; exact Try.underlying32) .i64 .i64 (m : Int) ((m : Int) + (k : Int)) (by omega) (by omega) (by omega), elem27, size5]
    have e : ((m : Int) + (k : Int)).toNat - m = k := by omega
    simp [Result.andThen, sliced, e]
  · by_cases hcm : c = m
    · omega
    · rw [if_neg hcm] at h0
      cases ad with
      | none => have := hn0 rfl; omega
      | some x => simp at h0
  · have hk : k ≠ 0 := by rintro rfl; simp at hne
    obtain ⟨b, o, rfl, hb, hcell⟩ := h (by rintro rfl; simp at hne)
    rw [if_neg (by omega)]
    refine ⟨b, o + m, by simp [addr_add], hb, fun j hj => ?_⟩
    rw [hlen] at hj
    rw [Nat.add_assoc, hcell (m + j) (by omega)]
    simp [List.getD, List.getElem?_drop, hj]

/-- so many bytes: what is answered; what is left; is it bad -/
def Cm.bytes1 (rho : List UInt8) (bad : Bool) (n : Nat) : List UInt8 × List UInt8 × Bool := if bad = true ∨ rho.length < n then ([], rho, true) else (rho.take n, rho.drop n, false)

set_option maxRecDepth 100000 in
set_option maxHeartbeats 1000000 in
theorem rbytes_any (n r p base : Nat) (hn : n ≤ 1000000) (rho : List UInt8) (bad : Bool) (w : World) (hR : RdS w r p base rho bad) :
    Calls Try.prog 64 #[.pointer (some ⟨r, 0, none⟩), .int .i64 (n : Int)] w fun e w' => ∃ p' v', e = .returned v' ∧ (p' = p ∨ w.heap.size ≤ p') ∧
      RdS w' r p' base (Cm.bytes1 rho bad n).2.1 (Cm.bytes1 rho bad n).2.2 ∧ Byts w' base v' (Cm.bytes1 rho bad n).1 ∧ Turn [r] w w' := by
  have n0 := hR.bad
  have hfr := hR.free 2
  cases bad
  · by_cases hlt : rho.length < n
    · have E : Hid (Cm.bytes1 rho false n = ([], rho, true)) := by show _ = _; unfold Cm.bytes1; rw [if_pos (.inr hlt)]
      have HR : Hid (RdS w r p base rho false) := hR
      obtain ⟨v, vr, bs, a, h1, h2, h3, h4, h5, h6, h7, h8, h9⟩ := hR
      obtain ⟨ad, c, rfl, -⟩ := h3.byts
      obtain ⟨n0, n1, n2⟩ := cells3_of h1
      have i1 : ((bs.length - a : Nat) : Int) < (n : Int) := by rw [h7, List.length_drop] at hlt; omega
      clear h7 hlt
      go_enter Try.func64, Try.ntmps64
      go_wp2_with fail
      refine (Left_any p ad bs.length c a _ h2 h5 (by omega)).mono ?_
      rintro e w1 ⟨rfl, q, rfl⟩
      obtain ⟨m, hm⟩ : ∃ m, bs.length - a = m := ⟨_, rfl⟩
      rw [hm] at i1 ⊢
      clear hm
      go_wp2
      go_ret
      rw [E.out]
      exact ⟨p, _, rfl, .inl rfl, HR.out.setBad true, Byts.nil _ _, ((Turn.refl [r] w).drewN q).set (p := ⟨r, 2, none⟩) (by simp) _⟩
    · have E : Hid (Cm.bytes1 rho false n = (rho.take n, rho.drop n, false)) := by show _ = _; unfold Cm.bytes1; rw [if_neg (by simp; omega)]
      obtain ⟨v, vr, bs, a, h1, h2, h3, h4, h5, h6, h7, h8, h9⟩ := hR
      have hlw := lt_of_heap h1
      obtain ⟨ad, c, rfl, -⟩ := h3.byts
      obtain ⟨ar, cr, rfl, -⟩ := id h4
      obtain ⟨n0, n1, n2⟩ := cells3_of h1
      have i0 : a + n ≤ bs.length := by rw [h7, List.length_drop] at hlt; omega
      have i1 : ¬ ((bs.length - a : Nat) : Int) < (n : Int) := by omega
      subst h7
      clear hlt n0 hfr
      obtain ⟨A1, hm1, hm2⟩ := slice_mid h4 a n i0
      obtain ⟨A2, ht1, ht2⟩ := slice_tail h4 (a + n) i0
      rw [show ((a + n : Nat) : Int) = (a : Int) + (n : Int) by omega] at ht1
      have hne : r ≠ p := by rintro rfl; unfold HasCur at h2; rw [h1] at h2; simp at h2
      have HE2 : Hid (bs.drop (a + n) = (bs.drop a).drop n) := by show _ = _; rw [List.drop_drop]
      obtain ⟨N2, hN2⟩ : ∃ N2, bs.length - (a + n) = N2 := ⟨_, rfl⟩
      obtain ⟨C2, hC2⟩ : ∃ C2, cr - (a + n) = C2 := ⟨_, rfl⟩
      obtain ⟨C1, hC1⟩ : ∃ C1, cr - a = C1 := ⟨_, rfl⟩
      rw [hN2, hC2] at ht1 ht2
      rw [hC1] at hm1 hm2
      have HN2 : Hid _ := hN2
      clear hN2 hC2 hC1
      have n0 := (cells3_of h1).1
      have hfr := fun j => frozen_of_row w r j _ _ h1
      go_enter Try.func64, Try.ntmps64
      go_wp2_with fail
      refine (Left_any p ad bs.length c a _ h2 h5 (by omega)).mono ?_
      rintro e w1 ⟨rfl, q, rfl⟩
      obtain ⟨m, hm⟩ : ∃ m, bs.length - a = m := ⟨_, rfl⟩
      rw [hm] at i1 ⊢
      clear hm
      have h2q : HasCur (w.drewN q) p (.slice ad bs.length c) a := h2
      have h1q : (w.drewN q).heap[r]? = _ := h1
      have hfrq := fun j => frozen_of_row (w.drewN q) r j _ _ h1q
      have htq : Turn [r] w (w.drewN q) := (Turn.refl [r] w).drewN q
      have h4q : Byts (w.drewN q) base (.slice A1 n C1) ((bs.drop a).take n) := hm2
      have h5q : Byts (w.drewN q) base (.slice A2 N2 C2) (bs.drop (a + n)) := ht2
      have hsq : base ≤ (w.drewN q).heap.size := by show base ≤ w.heap.size; omega
      have Hsz : Hid (w.heap.size = (w.drewN q).heap.size) := rfl
      generalize w.drewN q = W at *
      clear n0 n1 n2 hfr
      obtain ⟨n0, n1, n2⟩ := cells3_of h1q
      go_wp2_with fail
      refine (At_any p _ a _ h2q).mono ?_
      rintro e w1 ⟨rfl, hw1⟩
      rw [hw1]
      clear hw1
      have htw : Turn [r] w (W.setCell ⟨r, 1, none⟩ (.slice A2 N2 C2)) := htq.set (p := ⟨r, 1, none⟩) (by simp) _
      have h1w := heap_setCell_same W r 1 _ _ (.slice A2 N2 C2) h1q
      have hts : Turn [r] W (W.setCell ⟨r, 1, none⟩ (.slice A2 N2 C2)) := (Turn.refl [r] W).set (p := ⟨r, 1, none⟩) (by simp) _
      have h4w := h4q.turn hts (by simpa using h9) hsq
      have h5w := h5q.turn hts (by simpa using h9) hsq
      have hsw := hts.size
      go_upto_region 7 with fail
      generalize W.setCell ⟨r, 1, none⟩ (.slice A2 N2 C2) = W2 at *
      clear n0 n1 n2 hfrq
      obtain ⟨n0, n1, n2⟩ := cells3_of h1w
      go_wp2_with fail
      refine (New_any _ _ base _ h5w (by simp; omega)).mono ?_
      rintro e w3 ⟨p', v', rfl, hp', hc3, ho3, hb3⟩
      have h1v := (hb3.block r (lt_of_heap h1w)).trans h1w
      have htv : Turn [r] w w3 := htw.belowTrans hb3
      have h4v := h4w.below hb3 (by omega)
      have h5v := h5w.below hb3 (by omega)
      have hfrv := fun j => frozen_of_row w3 r j _ _ h1v
      clear n0 n1 n2
      obtain ⟨n0, n1, n2⟩ := cells3_of h1v
      go_wp2
      go_ret
      rw [E.out]
      have htf : Turn [r] w3 (w3.setCell ⟨r, 0, none⟩ (.pointer (some ⟨p', 0, none⟩))) := (Turn.refl [r] w3).set (p := ⟨r, 0, none⟩) (by simp) _
      have hne' : p' ≠ r := by rintro rfl; unfold HasCur at hc3; rw [h1v] at hc3; simp at hc3
      refine ⟨p', _, rfl, .inr (by have := Hsz.out; omega), ⟨v', _, bs.drop (a + n), 0, heap_setCell_same w3 r 0 _ _ (.pointer (some ⟨p', 0, none⟩)) h1v, (htf.block p' hc3.lt (by simpa using hne')).trans hc3, Row.turn (ho3.low' (by omega)) htf fun g hg hx => ?_, h5v.turn htf (by simpa using h9) (by have := hb3.size; omega), Nat.zero_le _, by simp; omega, by rw [HE2.out, List.drop_zero], by omega, h9⟩, h4v.turn htf (by simpa using h9) (by have := hb3.size; omega), htv.set (p := ⟨r, 0, none⟩) (by simp) _⟩
      simp only [List.mem_singleton] at hx
      exact Row.ne ho3 h1v (by decide) hg hx
  · have E : Hid (Cm.bytes1 rho true n = ([], rho, true)) := by show _ = _; unfold Cm.bytes1; rw [if_pos (.inl rfl)]
    go_enter Try.func64, Try.ntmps64
    go_wp2
    go_ret
    rw [E.out]
    exact ⟨p, _, rfl, .inl rfl, hR.setBad true, Byts.nil _ _, (Turn.refl [r] w).set (p := ⟨r, 2, none⟩) (by simp) _⟩

end Go.Proofs.Ytohdakjfacalbaa
