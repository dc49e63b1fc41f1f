/-
  THE WALKS OF THE READER's page, value, onlyNoughts.
-/
import Derived.Test.YtohdakjfacalbaaDRdrB
namespace Go.Proofs.Ytohdakjfacalbaa
open Go.RowKit

theorem or_page (x y : Nat) (hx : x < 256) (hy : y < 256) : bits .or .i64 (x : Int) ((y : Int) * 256) = (x : Int) + 256 * (y : Int) := by
  have e : (y : Int) * 256 = ((y * 256 : Nat) : Int) := by omega
  rw [e]
  show IntKind.i64.wrap ((BitVec.ofInt 64 (x : Int) ||| BitVec.ofInt 64 ((y * 256 : Nat) : Int)).toNat : Int) = _
  rw [BitVec.toNat_or, ofInt_u64 x (by omega), ofInt_u64 (y * 256) (by omega), Nat.or_comm, nat_join 8 (y * 256) x (by omega) (by omega)]
  have h2 : ((y * 256 + x : Nat) : Int) = (x : Int) + 256 * (y : Int) := by omega
  rw [h2]
  rw [IntKind.wrap_i64]
  omega
theorem or_page' (x y : Nat) (hx : x < 256) (hy : y < 256) : bits .or .i64 (wrap64 (x : Int)) (wrap64 (wrap64 (y : Int) * 256)) = (x : Int) + 256 * (y : Int) := by
  have h1 : wrap64 (x : Int) = x := by unfold wrap64; omega
  have h2 : wrap64 (y : Int) = y := by unfold wrap64; omega
  have h3 : wrap64 ((y : Int) * 256) = (y : Int) * 256 := by unfold wrap64; omega
  rw [h1, h2, h3]
  exact or_page x y hx hy

theorem ret_b {b c : Bool} (h : b = c) : Ending.returned (.bool b) = .returned (.bool c) := by rw [h]

theorem noughts_iff (r : List UInt8) : Cm.noughtsB r = true ↔ ∀ j, j < r.length → r.getD j 0 = 0 := by
  unfold Cm.noughtsB
  rw [List.all_eq_true]
  constructor
  · intro h j hj
    have := h r[j] (List.getElem_mem hj)
    simpa [List.getD, List.getElem?_eq_getElem hj] using this
  · intro h x hx
    obtain ⟨j, hj, rfl⟩ := List.mem_iff_getElem.1 hx
    have := h j hj
    simpa [List.getD, List.getElem?_eq_getElem hj] using this

/-- a page's number: what is answered; what is left; is it bad -/
def Cm.page1 (rho : List UInt8) (bad : Bool) : Int × List UInt8 × Bool := if bad = true ∨ rho.length < 2 then (0, rho, true) else (Cm.pageOf (rho.take 2), rho.drop 2, false)

set_option maxRecDepth 100000 in
set_option maxHeartbeats 1000000 in
theorem rpage_any (r p base : Nat) (rho : List UInt8) (bad : Bool) (w : World) (hR : RdS w r p base rho bad) :
    Calls Try.prog 48 #[.pointer (some ⟨r, 0, none⟩)] w fun e w' => ∃ p', e = .returned (.int .i64 (Cm.page1 rho bad).1) ∧ (p' = p ∨ w.heap.size ≤ p') ∧
      RdS w' r p' base (Cm.page1 rho bad).2.1 (Cm.page1 rho bad).2.2 ∧ Turn [r] w w' := by
  by_cases hbad : bad = true ∨ rho.length < 2
  · have E : Hid (Cm.page1 rho bad = (0, rho, true)) := by show _ = _; unfold Cm.page1; rw [if_pos hbad]
    have E2 : Hid (Cm.bytes1 rho bad 2 = ([], rho, true)) := by show _ = _; unfold Cm.bytes1; rw [if_pos hbad]
    clear hbad
    go_enter Try.func48, Try.ntmps48
    go_wp2_with fail
    refine (rbytes_any 2 r p base (by omega) rho bad w hR).mono ?_
    rw [E2.out]
    rintro e w1 ⟨p', v', rfl, hp', hR1, hby, ht⟩
    have n2 := hR1.bad
    go_wp2
    go_ret
    rw [E.out]
    exact ⟨p', rfl, hp', hR1, ht⟩
  · have E : Hid (Cm.page1 rho bad = (Cm.pageOf (rho.take 2), rho.drop 2, false)) := by show _ = _; unfold Cm.page1; rw [if_neg hbad]
    have E2 : Hid (Cm.bytes1 rho bad 2 = (rho.take 2, rho.drop 2, false)) := by show _ = _; unfold Cm.bytes1; rw [if_neg hbad]
    have hl : (rho.take 2).length = 2 := by simp; omega
    clear hbad
    go_enter Try.func48, Try.ntmps48
    go_wp2_with fail
    refine (rbytes_any 2 r p base (by omega) rho bad w hR).mono ?_
    rw [E2.out]
    rintro e w1 ⟨p', v', rfl, hp', hR1, hby, ht⟩
    have n2 := hR1.bad
    simp only at hby n2 hR1
    obtain ⟨ad, c, hv, hc, hn, hcs⟩ := hby
    obtain ⟨b, o, rfl, hbl, hce⟩ := hcs (by intro h; rw [h] at hl; simp at hl)
    have c0 := hce 0 (by omega)
    have c1 := hce 1 (by omega)
    rw [Nat.add_zero] at c0
    rw [hl] at hv
    subst hv
    obtain ⟨x, hx⟩ : ∃ x, (rho.take 2).getD 0 0 = x := ⟨_, rfl⟩
    obtain ⟨y, hy⟩ : ∃ y, (rho.take 2).getD 1 0 = y := ⟨_, rfl⟩
    rw [hx] at c0
    rw [hy] at c1
    have hPg : Cm.pageOf (rho.take 2) = (x.toNat : Int) + 256 * (y.toNat : Int) := by unfold Cm.pageOf; rw [hx, hy]
    have HPg : Hid _ := hPg
    have hx1 := x.toNat_lt
    have hy1 := y.toNat_lt
    clear hPg hx hy hce hcs
    have Hor : Hid _ := or_page' x.toNat y.toNat hx1 hy1
    clear hx1 hy1
    go_wp2_with fail
    go_quiet (fail)
    go_wp2
    go_ret
    rw [E.out]
    refine ⟨p', ?_, hp', hR1, ⟨ht.os, ht.tape, ht.output, ht.size, ht.block⟩⟩
    simp only
    rw [HPg.out, ← Hor.out]
    rfl

set_option maxRecDepth 100000 in
set_option maxHeartbeats 1000000 in
theorem onlyNoughts_any (r p base : Nat) (rho : List UInt8) (bad : Bool) (w : World) (hR : RdS w r p base rho bad) :
    Calls Try.prog 51 #[.pointer (some ⟨r, 0, none⟩)] w fun e w' => e = .returned (.bool (Cm.noughtsB rho)) ∧ ∃ q, w' = w.drewN q := by
  obtain ⟨v, vr, bs, a, h1, h2, h3, h4, h5, h6, h7, h8, h9⟩ := hR
  obtain ⟨ar, cr, rfl, -⟩ := id h4
  obtain ⟨n0, n1, n2⟩ := cells3_of h1
  obtain ⟨A2, ht1, ht2⟩ := slice_tail h4 a h5
  rw [← h7] at ht2
  obtain ⟨A3, C2, hv3, hc3, hn3, hcs⟩ := ht2
  simp only [Value.slice.injEq] at hv3
  obtain ⟨rfl, hN, rfl⟩ := hv3
  rw [hN] at ht1
  obtain ⟨C2, hC2⟩ : ∃ C2, cr - a = C2 := ⟨_, rfl⟩
  rw [hC2] at ht1
  have Hcs : Hid _ := hcs
  have hrl : rho.length ≤ 1000 := by omega
  clear hN hC2 h7 hcs hc3 hn3
  have i1 : (a : Int) ≤ (bs.length : Int) := by omega
  go_enter Try.func51, Try.ntmps51
  go_wp2_with fail
  go_quiet ((go_at_call 66; refine Calls.quiet_of_same (At_any p v a _ (h2.drewN _))))
  go_wp2
  go_loopw [16] (fun i wr => ∃ k : Nat, k ≤ rho.length ∧ i = .int .i64 (k : Int) ∧ (∀ j, j < k → rho.getD j 0 = 0) ∧ ∃ q, wr = w.drewN q)
    (fun i _ => rho.length - (intOf i).toNat)
  case atStart => exact ⟨0, Nat.zero_le _, rfl, fun j hj => absurd hj (Nat.not_lt_zero _), _, rfl⟩
  case round =>
    obtain ⟨k, hkl, rfl, hok, q, rfl⟩ := hrel
    have Hok : Hid _ := hok
    clear hok
    by_cases hlt : k < rho.length
    · obtain ⟨b, o, rfl, hbl, hce⟩ := Hcs.out (by intro h; rw [h] at hlt; simp at hlt)
      have c0 : (w.drewN q).cell? ⟨b, o + k, none⟩ = _ := hce k hlt
      obtain ⟨x, hx⟩ : ∃ x, rho.getD k 0 = x := ⟨_, rfl⟩
      rw [hx] at c0
      have Hx : Hid _ := hx
      clear hx hce
      by_cases hx0 : x = 0
      · subst hx0
        go_wp2
        refine ⟨⟨k + 1, by omega, by go_num, fun j hj => ?_, _, rfl⟩, by simp [intOf]; omega⟩
        by_cases hjk : j < k
        · exact Hok.out j hjk
        · obtain rfl : j = k := by omega
          exact Hx.out
      · have hx1 : ((x.toNat : Int) != 0) = true := by
          have : x.toNat ≠ 0 := fun h => hx0 (UInt8.toNat_inj.1 (by simpa using h))
          simp [this]
        go_wp2
        go_ret
        refine ⟨ret_b ?_, _, rfl⟩
        symm
        rw [Bool.eq_false_iff]
        intro h
        have := (noughts_iff rho).1 h k hlt
        rw [Hx.out] at this
        exact hx0 this
    · obtain rfl : k = rho.length := by omega
      go_wp2
      go_ret
      refine ⟨ret_b ?_, _, rfl⟩
      exact ((noughts_iff rho).2 Hok.out).symm

end Go.Proofs.Ytohdakjfacalbaa
