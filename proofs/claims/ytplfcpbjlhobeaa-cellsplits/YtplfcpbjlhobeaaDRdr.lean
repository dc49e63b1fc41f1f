/-
  A READER IN MEMORY; THE WALKS OF number, text, bytes, page, value, onlyNoughts.
-/
import Derived.Test.YtplfcpbjlhobeaaCRead
import Derived.Test.YtplfcpbjlhobeaaTurn
import Derived.Test.YtplfcpbjlhobeaaWKit
import Derived.Test.YtplfcpbjlhobeaaRForm
namespace Go.Proofs.Ytplfcpbjlhobeaa
open Go.RowKit

/-- a reader at block r, its cursor at block p: what is left to be read; is it bad -/
def RdS (w : World) (r p base : Nat) (rho : List UInt8) (bad : Bool) : Prop :=
  ∃ v vr bs a, w.heap[r]? = some (.cells #[.pointer (some ⟨p, 0, none⟩), vr, .bool bad] 79 (0, 0)) ∧ HasCur w p v a ∧ Own w base v bs ∧ Byts w base vr bs ∧ a ≤ bs.length ∧ bs.length ≤ 1000 ∧ rho = bs.drop a ∧ base ≤ p ∧ base ≤ r

theorem RdS.lt {w : World} {r p base : Nat} {rho : List UInt8} {bad : Bool} (h : RdS w r p base rho bad) : r < w.heap.size ∧ p < w.heap.size ∧ base ≤ r ∧ base ≤ p := by
  obtain ⟨v, vr, bs, a, h1, h2, _, _, _, _, _, h3, h4⟩ := h
  exact ⟨lt_of_heap h1, h2.lt, h4, h3⟩
theorem Byts.turn {w w' : World} {base : Nat} {v : Value} {l : List UInt8} {S : List Nat} (h : Byts w base v l) (ht : Turn S w w') (hs : ∀ x ∈ S, base ≤ x) (hB : base ≤ w.heap.size) : Byts w' base v l :=
  h.below (B' := base) ⟨ht.os, ht.tape, ht.output, ht.size, fun k hk => ht.block k (by omega) (fun hx => by have := hs k hx; omega)⟩ (Nat.le_refl _)
/-- what leaves the reader's blocks as they are, and changes blocks of other types alone -/
theorem RdS.turn {w w' : World} {r p base : Nat} {rho : List UInt8} {bad : Bool} {S : List Nat} (h : RdS w r p base rho bad) (ht : Turn S w w') (hr : r ∉ S) (hp : p ∉ S) (hS : ∀ x ∈ S, base ≤ x ∧ ∀ cs f, w.heap[x]? ≠ some (.cells cs 5 f)) : RdS w' r p base rho bad := by
  obtain ⟨v, vr, bs, a, h1, h2, h3, h4, h5, h6, h7, h8, h9⟩ := h
  have hB : base ≤ w.heap.size := by have := lt_of_heap h1; omega
  refine ⟨v, vr, bs, a, (ht.block r (lt_of_heap h1) hr).trans h1, (ht.block p h2.lt hp).trans h2, Row.turn h3 ht fun g hg hx => ?_, h4.turn ht (fun x hx => (hS x hx).1) hB, h5, h6, h7, h8, h9⟩
  rcases h3.2 with ⟨rfl, _⟩ | ⟨k, cap, cur, rfl, _, hgg, _⟩
  · simp [Value.ownBlock] at hg
  · simp only [Value.ownBlock, Option.some.injEq] at hg
    subst hg
    exact (hS _ hx).2 _ _ hgg

/-- a number: what is answered; what is left; is it bad -/
def Cm.num1 (rho : List UInt8) (most : Nat) : Nat × List UInt8 × Bool :=
  match Cm.rnum rho most with
  | .none => (0, rho, true)
  | some (n, r1) => (n, r1, false)
def Cm.text1 (rho : List UInt8) (most : Nat) : List UInt8 × List UInt8 × Bool :=
  match Cm.rtext rho most with
  | .none => ([], rho, true)
  | some (l, r1) => (l, r1, false)
theorem num1_ask (bs : List UInt8) (a most : Nat) : Cm.num1 (bs.drop a) most = ((askU bs a most).1, bs.drop (a + (askU bs a most).2.2), decide ((askU bs a most).2.1 ≠ 0)) := by
  unfold Cm.num1 Cm.rnum askU
  cases hg : Wm.getU 0 (bs.drop a) with
  | none => simp
  | some q =>
    obtain ⟨n, c⟩ := q
    simp only
    by_cases h : n ≤ most
    · simp [h, List.drop_drop]
    · simp [h]
theorem askU_le {bs : List UInt8} {a most : Nat} (ha : a ≤ bs.length) : a + (askU bs a most).2.2 ≤ bs.length := by
  unfold askU
  cases hg : Wm.getU 0 (bs.drop a) with
  | none => simpa using ha
  | some q =>
    obtain ⟨n, c⟩ := q
    have := (Wm.put_get hg).2.1
    rw [List.length_drop] at this
    simp only
    by_cases h : n ≤ most
    · simp [h]; omega
    · simp [h]; omega
theorem text1_ask (bs : List UInt8) (a most : Nat) : Cm.text1 (bs.drop a) most = ((askT bs a (most : Int)).1, bs.drop (a + (askT bs a (most : Int)).2.2), decide ((askT bs a (most : Int)).2.1 ≠ 0)) := by
  cases hg : Wm.getU 0 (bs.drop a) with
  | none =>
    have eN : askN bs a (most : Int) = (0, 7, 0) := by unfold askN; rw [hg]
    simp [Cm.text1, Cm.rtext, Cm.rnum, askT, eN, hg]
  | some q =>
    obtain ⟨n, c⟩ := q
    have h1 := (Wm.put_get hg).2.1
    rw [List.length_drop] at h1
    by_cases h : n ≤ most
    · have h2 : ¬ ((most : Int) < 0 ∨ (most : Int) < (n : Int)) := by omega
      by_cases h3 : bs.length - (a + c) < n
      · have eN : askN bs a (most : Int) = (0, 7, 0) := by unfold askN; rw [hg]; simp only; rw [if_neg h2, if_pos h3]
        have h4 : ¬ n ≤ bs.length - (a + c) := by omega
        simp [Cm.text1, Cm.rtext, Cm.rnum, Cm.rbytes, askT, eN, hg, h, h4]
      · have eN : askN bs a (most : Int) = (n, 0, c) := by unfold askN; rw [hg]; simp only; rw [if_neg h2, if_neg h3]
        have h4 : n ≤ bs.length - (a + c) := by omega
        simp [Cm.text1, Cm.rtext, Cm.rnum, Cm.rbytes, askT, eN, hg, h, h4, List.drop_drop, Nat.add_assoc]
    · have h2 : (most : Int) < 0 ∨ (most : Int) < (n : Int) := by omega
      have eN : askN bs a (most : Int) = (0, 3, 0) := by unfold askN; rw [hg]; simp only; rw [if_pos h2]
      simp [Cm.text1, Cm.rtext, Cm.rnum, askT, eN, hg, h]
theorem askT_le {bs : List UInt8} {a : Nat} {most : Int} (ha : a ≤ bs.length) : a + (askT bs a most).2.2 ≤ bs.length := by
  unfold askT
  by_cases h : (askN bs a most).2.1 = 0
  · have := (askN_ok h).1
    rw [if_pos h]
    simp only
    omega
  · rw [if_neg h]
    simpa using ha

theorem RdS.bad {w : World} {r p base : Nat} {rho : List UInt8} {bad : Bool} (h : RdS w r p base rho bad) : w.cell? ⟨r, 2, none⟩ = some (.bool bad) := by
  obtain ⟨v, vr, bs, a, h1, _⟩ := h
  exact (cells3_of h1).2.2

theorem RdS.setBad {w : World} {r p base : Nat} {rho : List UInt8} {bad : Bool} (h : RdS w r p base rho bad) (b : Bool) : RdS (w.setCell ⟨r, 2, none⟩ (.bool b)) r p base rho b := by
  obtain ⟨v, vr, bs, a, h1, h2, h3, h4, h5, h6, h7, h8, h9⟩ := h
  have hB : base ≤ w.heap.size := by have := lt_of_heap h1; omega
  have hne : r ≠ p := by rintro rfl; unfold HasCur at h2; rw [h1] at h2; simp at h2
  have ht : Turn [r] w (w.setCell ⟨r, 2, none⟩ (.bool b)) := (Turn.refl [r] w).set (by simp) _
  refine ⟨v, vr, bs, a, heap_setCell_same w r 2 _ _ (.bool b) h1, (ht.block p h2.lt (by simpa using hne.symm)).trans h2, Row.turn h3 ht fun g hg hx => ?_, h4.turn ht (by simpa using h9) hB, h5, h6, h7, h8, h9⟩
  simp only [List.mem_singleton] at hx
  exact Row.ne h3 h1 (by decide) hg hx
theorem RdS.free {w : World} {r p base : Nat} {rho : List UInt8} {bad : Bool} (h : RdS w r p base rho bad) (j : Nat) : w.frozen? ⟨r, j, none⟩ = false := by
  obtain ⟨v, vr, bs, a, h1, _⟩ := h
  exact frozen_of_row w r j _ _ h1

set_option maxRecDepth 100000 in
set_option maxHeartbeats 1000000 in
theorem rnumber_any (most r p base : Nat) (rho : List UInt8) (bad : Bool) (w : World) (hR : RdS w r p base rho bad) :
    Calls Try.prog 49 #[.pointer (some ⟨r, 0, none⟩), .int .u64 (most : Int)] w fun e w' => e = .returned (.int .u64 ((Cm.num1 rho most).1 : Int)) ∧
      RdS w' r p base (Cm.num1 rho most).2.1 (bad || (Cm.num1 rho most).2.2) ∧ Turn [r, p] w w' := by
  obtain ⟨v, vr, bs, a, h1, h2, h3, h4, h5, h6, h7, h8, h9⟩ := hR
  have Hle : Hid _ := askU_le (most := most) h5
  subst h7
  rw [num1_ask bs a most]
  obtain ⟨A, hA⟩ : ∃ A, askU bs a most = A := ⟨_, rfl⟩
  rw [hA] at Hle ⊢
  obtain ⟨n0, n1, n2⟩ := cells3_of h1
  go_enter Try.func49, Try.ntmps49
  go_wp2_with fail
  refine (Uint_any p v a base bs most _ h2 h3 h5 (by omega)).mono ?_
  rw [hA]
  rintro e w1 ⟨rfl, hc1, hg1⟩
  have hne : r ≠ p := by rintro rfl; unfold HasCur at h2; rw [h1] at h2; simp at h2
  have hr1 := (hg1.block r (lt_of_heap h1) (by simpa using hne)).trans h1
  have ho1 := h3.kept h2 hg1
  have hby1 := h4.turn (Turn.of_grown hg1) (by simp; exact h8) (by have := lt_of_heap h1; omega)
  have hR1 : RdS w1 r p base (bs.drop (a + A.2.2)) bad := ⟨v, vr, bs, _, hr1, hc1, ho1, hby1, Hle.out, h6, rfl, h8, h9⟩
  have ht1 : Turn [r, p] w w1 := (Turn.of_grown hg1).mono (by intro x hx _; simp at hx; simp [hx])
  clear n0 n1 n2 hA Hle hg1 ho1 hby1 hr1 hc1 h1 h2 h3 h4 h5 h6
  have n0 := hR1.bad
  have n1 := hR1.free 2
  obtain ⟨A0, A1, A2⟩ := A
  have hs := fun b : Bool => hR1.setBad b
  have hts := fun b : Bool => ht1.set (p := ⟨r, 2, none⟩) (by simp) (.bool b)
  simp only at hs hts ⊢
  cases bad
  · by_cases hA1 : A1 = 0
    · subst hA1
      go_wp2
      go_ret
      exact ⟨rfl, hs false, hts false⟩
    · have hA2 : ((A1 : Int) != 0) = true := by simp [hA1]
      go_wp2
      go_ret
      refine ⟨rfl, ?_, hts true⟩
      exact hs true
  · go_wp2
    go_ret
    exact ⟨rfl, hs true, hts true⟩

set_option maxRecDepth 100000 in
set_option maxHeartbeats 1000000 in
theorem rtext_any (most r p base : Nat) (hm : most ≤ 1000) (rho : List UInt8) (bad : Bool) (w : World) (hR : RdS w r p base rho bad) :
    Calls Try.prog 51 #[.pointer (some ⟨r, 0, none⟩), .int .i64 (most : Int)] w fun e w' => e = .returned (.string (str (Cm.text1 rho most).1)) ∧
      RdS w' r p base (Cm.text1 rho most).2.1 (bad || (Cm.text1 rho most).2.2) ∧ Turn [r, p] w w' := by
  obtain ⟨v, vr, bs, a, h1, h2, h3, h4, h5, h6, h7, h8, h9⟩ := hR
  have Hle : Hid _ := askT_le (most := (most : Int)) h5
  subst h7
  rw [text1_ask bs a most]
  obtain ⟨A, hA⟩ : ∃ A, askT bs a (most : Int) = A := ⟨_, rfl⟩
  rw [hA] at Hle ⊢
  obtain ⟨n0, n1, n2⟩ := cells3_of h1
  go_enter Try.func51, Try.ntmps51
  go_wp2_with fail
  refine (Text_any p v a base bs (most : Int) _ h2 h3 h5 (by omega) (by omega)).mono ?_
  rw [hA]
  rintro e w1 ⟨rfl, hc1, hg1⟩
  have hne : r ≠ p := by rintro rfl; unfold HasCur at h2; rw [h1] at h2; simp at h2
  have hr1 := (hg1.block r (lt_of_heap h1) (by simpa using hne)).trans h1
  have ho1 := h3.kept h2 hg1
  have hby1 := h4.turn (Turn.of_grown hg1) (by simp; exact h8) (by have := lt_of_heap h1; omega)
  have hR1 : RdS w1 r p base (bs.drop (a + A.2.2)) bad := ⟨v, vr, bs, _, hr1, hc1, ho1, hby1, Hle.out, h6, rfl, h8, h9⟩
  have ht1 : Turn [r, p] w w1 := (Turn.of_grown hg1).mono (by intro x hx _; simp at hx; simp [hx])
  clear n0 n1 n2 hA Hle hg1 ho1 hby1 hr1 hc1 h1 h2 h3 h4 h5 h6
  have n0 := hR1.bad
  have n1 := hR1.free 2
  obtain ⟨A0, A1, A2⟩ := A
  have hs := fun b : Bool => hR1.setBad b
  have hts := fun b : Bool => ht1.set (p := ⟨r, 2, none⟩) (by simp) (.bool b)
  simp only at hs hts ⊢
  cases bad
  · by_cases hA1 : A1 = 0
    · subst hA1
      go_wp2
      go_ret
      exact ⟨rfl, hs false, hts false⟩
    · have hA2 : ((A1 : Int) != 0) = true := by simp [hA1]
      go_wp2
      go_ret
      refine ⟨rfl, ?_, hts true⟩
      exact hs true
  · go_wp2
    go_ret
    exact ⟨rfl, hs true, hts true⟩

end Go.Proofs.Ytplfcpbjlhobeaa

namespace Go.Proofs.Ytplfcpbjlhobeaa
open Go.RowKit

/-- 's[m:m+k]' -/
theorem slice_mid {w : World} {B : Nat} {ad : Option Addr} {n c : Nat} {l : List UInt8} (h : Byts w B (.slice ad n c) l) (m k : Nat) (hm : m + k ≤ l.length) :
    ∃ A, (∀ W : World, (Instr.slice 32 (.slice ad n c) (some (.int .i64 (m : Int))) (some (.int .i64 ((m : Int) + (k : Int)))) none).run Try.prog W = .ok (.slice A k (c - m)) W) ∧ Byts w B (.slice A k (c - m)) ((l.drop m).take k) := by
  obtain ⟨ad', c', hv, hle, hn0, h⟩ := h
  simp only [Value.slice.injEq] at hv
  obtain ⟨rfl, rfl, rfl⟩ := hv
  have hlen : ((l.drop m).take k).length = k := by simp; omega
  refine ⟨if c = m then ad else ad.map (·.add m), fun W => ?_, if c = m then ad else ad.map (·.add m), c - m, by rw [hlen], by rw [hlen]; omega, fun h0 => ?_, fun hne => ?_⟩
  · rw [run_slice_lh W 32 ad l.length c (by rw [elem27]; exact Try.underlying32) .i64 .i64 (m : Int) ((m : Int) + (k : Int)) (by omega) (by omega) (by omega), elem27, size5]
    have e : ((m : Int) + (k : Int)).toNat - m = k := by omega
    simp [Result.andThen, sliced, e]
  · by_cases hcm : c = m
    · omega
    · rw [if_neg hcm] at h0
      cases ad with
      | none => have := hn0 rfl; omega
      | some x => simp at h0
  · have hk : k ≠ 0 := by rintro rfl; simp at hne
    obtain ⟨b, o, rfl, hb, hcell⟩ := h (by rintro rfl; simp at hne)
    rw [if_neg (by omega)]
    refine ⟨b, o + m, by simp [addr_add], hb, fun j hj => ?_⟩
    rw [hlen] at hj
    rw [Nat.add_assoc, hcell (m + j) (by omega)]
    simp [List.getD, List.getElem?_drop, hj]

/-- so many bytes: what is answered; what is left; is it bad -/
def Cm.bytes1 (rho : List UInt8) (bad : Bool) (n : Nat) : List UInt8 × List UInt8 × Bool := if bad = true ∨ rho.length < n then ([], rho, true) else (rho.take n, rho.drop n, false)

set_option maxRecDepth 100000 in
set_option maxHeartbeats 1000000 in
theorem rbytes_any (n r p base : Nat) (hn : n ≤ 1000000) (rho : List UInt8) (bad : Bool) (w : World) (hR : RdS w r p base rho bad) :
    Calls Try.prog 70 #[.pointer (some ⟨r, 0, none⟩), .int .i64 (n : Int)] w fun e w' => ∃ p' v', e = .returned v' ∧ (p' = p ∨ w.heap.size ≤ p') ∧
      RdS w' r p' base (Cm.bytes1 rho bad n).2.1 (Cm.bytes1 rho bad n).2.2 ∧ Byts w' base v' (Cm.bytes1 rho bad n).1 ∧ Turn [r] w w' := by
  have n0 := hR.bad
  have hfr := hR.free 2
  cases bad
  · by_cases hlt : rho.length < n
    · have E : Hid (Cm.bytes1 rho false n = ([], rho, true)) := by show _ = _; unfold Cm.bytes1; rw [if_pos (.inr hlt)]
      have HR : Hid (RdS w r p base rho false) := hR
      obtain ⟨v, vr, bs, a, h1, h2, h3, h4, h5, h6, h7, h8, h9⟩ := hR
      obtain ⟨ad, c, rfl, -⟩ := h3.byts
      obtain ⟨n0, n1, n2⟩ := cells3_of h1
      have i1 : ((bs.length - a : Nat) : Int) < (n : Int) := by rw [h7, List.length_drop] at hlt; omega
      clear h7 hlt
      go_enter Try.func70, Try.ntmps70
      go_wp2_with fail
      refine (Left_any p ad bs.length c a _ h2 h5 (by omega)).mono ?_
      rintro e w1 ⟨rfl, q, rfl⟩
      obtain ⟨m, hm⟩ : ∃ m, bs.length - a = m := ⟨_, rfl⟩
      rw [hm] at i1 ⊢
      clear hm
      go_wp2
      go_ret
      rw [E.out]
      exact ⟨p, _, rfl, .inl rfl, HR.out.setBad true, Byts.nil _ _, ((Turn.refl [r] w).drewN q).set (p := ⟨r, 2, none⟩) (by simp) _⟩
    · have E : Hid (Cm.bytes1 rho false n = (rho.take n, rho.drop n, false)) := by show _ = _; unfold Cm.bytes1; rw [if_neg (by simp; omega)]
      obtain ⟨v, vr, bs, a, h1, h2, h3, h4, h5, h6, h7, h8, h9⟩ := hR
      have hlw := lt_of_heap h1
      obtain ⟨ad, c, rfl, -⟩ := h3.byts
      obtain ⟨ar, cr, rfl, -⟩ := id h4
      obtain ⟨n0, n1, n2⟩ := cells3_of h1
      have i0 : a + n ≤ bs.length := by rw [h7, List.length_drop] at hlt; omega
      have i1 : ¬ ((bs.length - a : Nat) : Int) < (n : Int) := by omega
      subst h7
      clear hlt n0 hfr
      obtain ⟨A1, hm1, hm2⟩ := slice_mid h4 a n i0
      obtain ⟨A2, ht1, ht2⟩ := slice_tail h4 (a + n) i0
      rw [show ((a + n : Nat) : Int) = (a : Int) + (n : Int) by omega] at ht1
      have hne : r ≠ p := by rintro rfl; unfold HasCur at h2; rw [h1] at h2; simp at h2
      have HE2 : Hid (bs.drop (a + n) = (bs.drop a).drop n) := by show _ = _; rw [List.drop_drop]
      obtain ⟨N2, hN2⟩ : ∃ N2, bs.length - (a + n) = N2 := ⟨_, rfl⟩
      obtain ⟨C2, hC2⟩ : ∃ C2, cr - (a + n) = C2 := ⟨_, rfl⟩
      obtain ⟨C1, hC1⟩ : ∃ C1, cr - a = C1 := ⟨_, rfl⟩
      rw [hN2, hC2] at ht1 ht2
      rw [hC1] at hm1 hm2
      have HN2 : Hid _ := hN2
      clear hN2 hC2 hC1
      have n0 := (cells3_of h1).1
      have hfr := fun j => frozen_of_row w r j _ _ h1
      go_enter Try.func70, Try.ntmps70
      go_wp2_with fail
      refine (Left_any p ad bs.length c a _ h2 h5 (by omega)).mono ?_
      rintro e w1 ⟨rfl, q, rfl⟩
      obtain ⟨m, hm⟩ : ∃ m, bs.length - a = m := ⟨_, rfl⟩
      rw [hm] at i1 ⊢
      clear hm
      have h2q : HasCur (w.drewN q) p (.slice ad bs.length c) a := h2
      have h1q : (w.drewN q).heap[r]? = _ := h1
      have hfrq := fun j => frozen_of_row (w.drewN q) r j _ _ h1q
      have htq : Turn [r] w (w.drewN q) := (Turn.refl [r] w).drewN q
      have h4q : Byts (w.drewN q) base (.slice A1 n C1) ((bs.drop a).take n) := hm2
      have h5q : Byts (w.drewN q) base (.slice A2 N2 C2) (bs.drop (a + n)) := ht2
      have hsq : base ≤ (w.drewN q).heap.size := by show base ≤ w.heap.size; omega
      have Hsz : Hid (w.heap.size = (w.drewN q).heap.size) := rfl
      generalize w.drewN q = W at *
      clear n0 n1 n2 hfr
      obtain ⟨n0, n1, n2⟩ := cells3_of h1q
      go_wp2_with fail
      refine (At_any p _ a _ h2q).mono ?_
      rintro e w1 ⟨rfl, hw1⟩
      rw [hw1]
      clear hw1
      have htw : Turn [r] w (W.setCell ⟨r, 1, none⟩ (.slice A2 N2 C2)) := htq.set (p := ⟨r, 1, none⟩) (by simp) _
      have h1w := heap_setCell_same W r 1 _ _ (.slice A2 N2 C2) h1q
      have hts : Turn [r] W (W.setCell ⟨r, 1, none⟩ (.slice A2 N2 C2)) := (Turn.refl [r] W).set (p := ⟨r, 1, none⟩) (by simp) _
      have h4w := h4q.turn hts (by simpa using h9) hsq
      have h5w := h5q.turn hts (by simpa using h9) hsq
      have hsw := hts.size
      go_upto_region 7 with fail
      generalize W.setCell ⟨r, 1, none⟩ (.slice A2 N2 C2) = W2 at *
      clear n0 n1 n2 hfrq
      obtain ⟨n0, n1, n2⟩ := cells3_of h1w
      go_wp2_with fail
      refine (New_any _ _ base _ h5w (by simp; omega)).mono ?_
      rintro e w3 ⟨p', v', rfl, hp', hc3, ho3, hb3⟩
      have h1v := (hb3.block r (lt_of_heap h1w)).trans h1w
      have htv : Turn [r] w w3 := htw.belowTrans hb3
      have h4v := h4w.below hb3 (by omega)
      have h5v := h5w.below hb3 (by omega)
      have hfrv := fun j => frozen_of_row w3 r j _ _ h1v
      clear n0 n1 n2
      obtain ⟨n0, n1, n2⟩ := cells3_of h1v
      go_wp2
      go_ret
      rw [E.out]
      have htf : Turn [r] w3 (w3.setCell ⟨r, 0, none⟩ (.pointer (some ⟨p', 0, none⟩))) := (Turn.refl [r] w3).set (p := ⟨r, 0, none⟩) (by simp) _
      have hne' : p' ≠ r := by rintro rfl; unfold HasCur at hc3; rw [h1v] at hc3; simp at hc3
      refine ⟨p', _, rfl, .inr (by have := Hsz.out; omega), ⟨v', _, bs.drop (a + n), 0, heap_setCell_same w3 r 0 _ _ (.pointer (some ⟨p', 0, none⟩)) h1v, (htf.block p' hc3.lt (by simpa using hne')).trans hc3, Row.turn (ho3.low' (by omega)) htf fun g hg hx => ?_, h5v.turn htf (by simpa using h9) (by have := hb3.size; omega), Nat.zero_le _, by simp; omega, by rw [HE2.out, List.drop_zero], by omega, h9⟩, h4v.turn htf (by simpa using h9) (by have := hb3.size; omega), htv.set (p := ⟨r, 0, none⟩) (by simp) _⟩
      simp only [List.mem_singleton] at hx
      exact Row.ne ho3 h1v (by decide) hg hx
  · have E : Hid (Cm.bytes1 rho true n = ([], rho, true)) := by show _ = _; unfold Cm.bytes1; rw [if_pos (.inl rfl)]
    go_enter Try.func70, Try.ntmps70
    go_wp2
    go_ret
    rw [E.out]
    exact ⟨p, _, rfl, .inl rfl, hR.setBad true, Byts.nil _ _, (Turn.refl [r] w).set (p := ⟨r, 2, none⟩) (by simp) _⟩

end Go.Proofs.Ytplfcpbjlhobeaa

namespace Go.Proofs.Ytplfcpbjlhobeaa
open Go.RowKit

theorem or_page (x y : Nat) (hx : x < 256) (hy : y < 256) : bits .or .i64 (x : Int) ((y : Int) * 256) = (x : Int) + 256 * (y : Int) := by
  have e : (y : Int) * 256 = ((y * 256 : Nat) : Int) := by omega
  rw [e]
  show IntKind.i64.wrap ((BitVec.ofInt 64 (x : Int) ||| BitVec.ofInt 64 ((y * 256 : Nat) : Int)).toNat : Int) = _
  rw [BitVec.toNat_or, ofInt_u64 x (by omega), ofInt_u64 (y * 256) (by omega), Nat.or_comm, nat_join 8 (y * 256) x (by omega) (by omega)]
  have h2 : ((y * 256 + x : Nat) : Int) = (x : Int) + 256 * (y : Int) := by omega
  rw [h2]
  rw [IntKind.wrap_i64]
  omega
theorem or_page' (x y : Nat) (hx : x < 256) (hy : y < 256) : bits .or .i64 (wrap64 (x : Int)) (wrap64 (wrap64 (y : Int) * 256)) = (x : Int) + 256 * (y : Int) := by
  have h1 : wrap64 (x : Int) = x := by unfold wrap64; omega
  have h2 : wrap64 (y : Int) = y := by unfold wrap64; omega
  have h3 : wrap64 ((y : Int) * 256) = (y : Int) * 256 := by unfold wrap64; omega
  rw [h1, h2, h3]
  exact or_page x y hx hy

theorem ret_b {b c : Bool} (h : b = c) : Ending.returned (.bool b) = .returned (.bool c) := by rw [h]

theorem noughts_iff (r : List UInt8) : Cm.noughtsB r = true ↔ ∀ j, j < r.length → r.getD j 0 = 0 := by
  unfold Cm.noughtsB
  rw [List.all_eq_true]
  constructor
  · intro h j hj
    have := h r[j] (List.getElem_mem hj)
    simpa [List.getD, List.getElem?_eq_getElem hj] using this
  · intro h x hx
    obtain ⟨j, hj, rfl⟩ := List.mem_iff_getElem.1 hx
    have := h j hj
    simpa [List.getD, List.getElem?_eq_getElem hj] using this

/-- a page's number: what is answered; what is left; is it bad -/
def Cm.page1 (rho : List UInt8) (bad : Bool) : Int × List UInt8 × Bool := if bad = true ∨ rho.length < 2 then (0, rho, true) else (Cm.pageOf (rho.take 2), rho.drop 2, false)

set_option maxRecDepth 100000 in
set_option maxHeartbeats 1000000 in
theorem rpage_any (r p base : Nat) (rho : List UInt8) (bad : Bool) (w : World) (hR : RdS w r p base rho bad) :
    Calls Try.prog 50 #[.pointer (some ⟨r, 0, none⟩)] w fun e w' => ∃ p', e = .returned (.int .i64 (Cm.page1 rho bad).1) ∧ (p' = p ∨ w.heap.size ≤ p') ∧
      RdS w' r p' base (Cm.page1 rho bad).2.1 (Cm.page1 rho bad).2.2 ∧ Turn [r] w w' := by
  by_cases hbad : bad = true ∨ rho.length < 2
  · have E : Hid (Cm.page1 rho bad = (0, rho, true)) := by show _ = _; unfold Cm.page1; rw [if_pos hbad]
    have E2 : Hid (Cm.bytes1 rho bad 2 = ([], rho, true)) := by show _ = _; unfold Cm.bytes1; rw [if_pos hbad]
    clear hbad
    go_enter Try.func50, Try.ntmps50
    go_wp2_with fail
    refine (rbytes_any 2 r p base (by omega) rho bad w hR).mono ?_
    rw [E2.out]
    rintro e w1 ⟨p', v', rfl, hp', hR1, hby, ht⟩
    have n2 := hR1.bad
    go_wp2
    go_ret
    rw [E.out]
    exact ⟨p', rfl, hp', hR1, ht⟩
  · have E : Hid (Cm.page1 rho bad = (Cm.pageOf (rho.take 2), rho.drop 2, false)) := by show _ = _; unfold Cm.page1; rw [if_neg hbad]
    have E2 : Hid (Cm.bytes1 rho bad 2 = (rho.take 2, rho.drop 2, false)) := by show _ = _; unfold Cm.bytes1; rw [if_neg hbad]
    have hl : (rho.take 2).length = 2 := by simp; omega
    clear hbad
    go_enter Try.func50, Try.ntmps50
    go_wp2_with fail
    refine (rbytes_any 2 r p base (by omega) rho bad w hR).mono ?_
    rw [E2.out]
    rintro e w1 ⟨p', v', rfl, hp', hR1, hby, ht⟩
    have n2 := hR1.bad
    simp only at hby n2 hR1
    obtain ⟨ad, c, hv, hc, hn, hcs⟩ := hby
    obtain ⟨b, o, rfl, hbl, hce⟩ := hcs (by intro h; rw [h] at hl; simp at hl)
    have c0 := hce 0 (by omega)
    have c1 := hce 1 (by omega)
    rw [Nat.add_zero] at c0
    rw [hl] at hv
    subst hv
    obtain ⟨x, hx⟩ : ∃ x, (rho.take 2).getD 0 0 = x := ⟨_, rfl⟩
    obtain ⟨y, hy⟩ : ∃ y, (rho.take 2).getD 1 0 = y := ⟨_, rfl⟩
    rw [hx] at c0
    rw [hy] at c1
    have hPg : Cm.pageOf (rho.take 2) = (x.toNat : Int) + 256 * (y.toNat : Int) := by unfold Cm.pageOf; rw [hx, hy]
    have HPg : Hid _ := hPg
    have hx1 := x.toNat_lt
    have hy1 := y.toNat_lt
    clear hPg hx hy hce hcs
    have Hor : Hid _ := or_page' x.toNat y.toNat hx1 hy1
    clear hx1 hy1
    go_wp2_with fail
    go_quiet (fail)
    go_wp2
    go_ret
    rw [E.out]
    refine ⟨p', ?_, hp', hR1, ⟨ht.os, ht.tape, ht.output, ht.size, ht.block⟩⟩
    simp only
    rw [HPg.out, ← Hor.out]
    rfl

set_option maxRecDepth 100000 in
set_option maxHeartbeats 1000000 in
theorem onlyNoughts_any (r p base : Nat) (rho : List UInt8) (bad : Bool) (w : World) (hR : RdS w r p base rho bad) :
    Calls Try.prog 53 #[.pointer (some ⟨r, 0, none⟩)] w fun e w' => e = .returned (.bool (Cm.noughtsB rho)) ∧ ∃ q, w' = w.drewN q := by
  obtain ⟨v, vr, bs, a, h1, h2, h3, h4, h5, h6, h7, h8, h9⟩ := hR
  obtain ⟨ar, cr, rfl, -⟩ := id h4
  obtain ⟨n0, n1, n2⟩ := cells3_of h1
  obtain ⟨A2, ht1, ht2⟩ := slice_tail h4 a h5
  rw [← h7] at ht2
  obtain ⟨A3, C2, hv3, hc3, hn3, hcs⟩ := ht2
  simp only [Value.slice.injEq] at hv3
  obtain ⟨rfl, hN, rfl⟩ := hv3
  rw [hN] at ht1
  obtain ⟨C2, hC2⟩ : ∃ C2, cr - a = C2 := ⟨_, rfl⟩
  rw [hC2] at ht1
  have Hcs : Hid _ := hcs
  have hrl : rho.length ≤ 1000 := by omega
  clear hN hC2 h7 hcs hc3 hn3
  have i1 : (a : Int) ≤ (bs.length : Int) := by omega
  go_enter Try.func53, Try.ntmps53
  go_wp2_with fail
  go_quiet ((go_at_call 72; refine Calls.quiet_of_same (At_any p v a _ (h2.drewN _))))
  go_wp2
  go_loopw [16] (fun i wr => ∃ k : Nat, k ≤ rho.length ∧ i = .int .i64 (k : Int) ∧ (∀ j, j < k → rho.getD j 0 = 0) ∧ ∃ q, wr = w.drewN q)
    (fun i _ => rho.length - (intOf i).toNat)
  case atStart => exact ⟨0, Nat.zero_le _, rfl, fun j hj => absurd hj (Nat.not_lt_zero _), _, rfl⟩
  case round =>
    obtain ⟨k, hkl, rfl, hok, q, rfl⟩ := hrel
    have Hok : Hid _ := hok
    clear hok
    by_cases hlt : k < rho.length
    · obtain ⟨b, o, rfl, hbl, hce⟩ := Hcs.out (by intro h; rw [h] at hlt; simp at hlt)
      have c0 : (w.drewN q).cell? ⟨b, o + k, none⟩ = _ := hce k hlt
      obtain ⟨x, hx⟩ : ∃ x, rho.getD k 0 = x := ⟨_, rfl⟩
      rw [hx] at c0
      have Hx : Hid _ := hx
      clear hx hce
      by_cases hx0 : x = 0
      · subst hx0
        go_wp2
        refine ⟨⟨k + 1, by omega, by go_num, fun j hj => ?_, _, rfl⟩, by simp [intOf]; omega⟩
        by_cases hjk : j < k
        · exact Hok.out j hjk
        · obtain rfl : j = k := by omega
          exact Hx.out
      · have hx1 : ((x.toNat : Int) != 0) = true := by
          have : x.toNat ≠ 0 := fun h => hx0 (UInt8.toNat_inj.1 (by simpa using h))
          simp [this]
        go_wp2
        go_ret
        refine ⟨ret_b ?_, _, rfl⟩
        symm
        rw [Bool.eq_false_iff]
        intro h
        have := (noughts_iff rho).1 h k hlt
        rw [Hx.out] at this
        exact hx0 this
    · obtain rfl : k = rho.length := by omega
      go_wp2
      go_ret
      refine ⟨ret_b ?_, _, rfl⟩
      exact ((noughts_iff rho).2 Hok.out).symm

end Go.Proofs.Ytplfcpbjlhobeaa

namespace Go.Proofs.Ytplfcpbjlhobeaa
open Go.RowKit

theorem and_one (n : Nat) (h : n ≤ 1000000) : bits .and .u64 (n : Int) 1 = ((n % 2 : Nat) : Int) := by
  have := u64_and_nat n 1 (by omega) (by decide)
  rw [nat_mask1] at this
  exact this
theorem heap_set4 {w : World} {p : Nat} {x0 x1 x2 x3 : Value} {t : TypeId} (h : w.heap[p]? = some (.cells #[x0, x1, x2, x3] t (0, 0))) (a : Value) :
    (w.setCell ⟨p, 1, none⟩ a).heap[p]? = some (.cells #[x0, a, x2, x3] t (0, 0)) ∧ (w.setCell ⟨p, 2, none⟩ a).heap[p]? = some (.cells #[x0, x1, a, x3] t (0, 0)) ∧ (w.setCell ⟨p, 3, none⟩ a).heap[p]? = some (.cells #[x0, x1, x2, a] t (0, 0)) :=
  ⟨heap_setCell_same w p 1 _ t a h, heap_setCell_same w p 2 _ t a h, heap_setCell_same w p 3 _ t a h⟩
/-- a store into a block that is not the reader's -/
theorem RdS.set {w : World} {r p base q j : Nat} {rho : List UInt8} {bad : Bool} {cs : Array Value} (h : RdS w r p base rho bad) (hq : w.heap[q]? = some (.cells cs 24 (0, 0))) (hb : base ≤ q) (u : Value) : RdS (w.setCell ⟨q, j, none⟩ u) r p base rho bad := by
  refine h.turn (S := [q]) ((Turn.refl [q] w).set (by simp) u) ?_ ?_ ?_
  · obtain ⟨v, vr, bs, a, h1, _⟩ := h
    intro hx
    simp only [List.mem_singleton] at hx
    subst hx
    rw [h1] at hq
    simp at hq
  · obtain ⟨v, vr, bs, a, _, h2, _⟩ := h
    intro hx
    simp only [List.mem_singleton] at hx
    subst hx
    unfold HasCur at h2
    rw [h2] at hq
    simp at hq
  · intro x hx
    simp only [List.mem_singleton] at hx
    subst hx
    refine ⟨hb, fun cs' f h' => ?_⟩
    rw [hq] at h'
    simp at h'
theorem RdS.ne {w : World} {r p base q : Nat} {rho : List UInt8} {bad : Bool} {cs : Array Value} {t : TypeId} (h : RdS w r p base rho bad) (hq : w.heap[q]? = some (.cells cs t (0, 0))) (h1 : t ≠ 79) (h2 : t ≠ 99) : q ≠ r ∧ q ≠ p := by
  obtain ⟨v, vr, bs, a, e1, e2, _⟩ := h
  constructor
  · rintro rfl
    rw [e1] at hq
    simp at hq
    exact h1 hq.2.symm
  · rintro rfl
    unfold HasCur at e2
    rw [e2] at hq
    simp at hq
    exact h2 hq.2.symm

/-- behind the reading of a value: it is bad, or what is left and the value are as said -/
def RvS (w : World) (r p base : Nat) (rho rho' val : List UInt8) (pg ln : Int) : Prop :=
  match Cm.rval rho with
  | .none => RdS w r p base rho' true
  | some (x, r2) => x = (val, pg, ln) ∧ RdS w r p base r2 false

def VDone (w w' : World) (r p q base : Nat) (rho : List UInt8) (key : ByteArray) : Prop :=
  ∃ p' rho' val pg ln, (p' = p ∨ w.heap.size ≤ p') ∧ Turn [r, p, q] w w' ∧
      w'.heap[q]? = some (.cells #[.string key, .string (str val), .int .i64 pg, .int .i64 ln] 24 (0, 0)) ∧
      RvS w' r p' base rho rho' val pg ln

set_option maxRecDepth 100000 in
set_option maxHeartbeats 1000000 in
theorem rvalue_any (r p q base : Nat) (rho : List UInt8) (key : ByteArray) (w : World) (hR : RdS w r p base rho false) (hq : w.heap[q]? = some (.cells #[.string key, .string .empty, .int .i64 0, .int .i64 0] 24 (0, 0))) (hqb : base ≤ q) :
    Calls Try.prog 52 #[.pointer (some ⟨r, 0, none⟩), .pointer (some ⟨q, 0, none⟩)] w fun e w' => e = .returned (.tuple #[]) ∧ VDone w w' r p q base rho key := by
  have hne := hR.ne hq (by decide) (by decide)
  have hrb := hR.lt
  go_enter Try.func52, Try.ntmps52
  go_wp2_with fail
  refine (rnumber_any 9217 r p base rho false w hR).mono ?_
  rintro e w1 ⟨rfl, hR1, ht1⟩
  have hq1 := (ht1.block q (lt_of_heap hq) (by simp; exact hne)).trans hq
  have ht1' : Turn [r, p, q] w w1 := ht1.mono (by intro x hx _; simp at hx ⊢; rcases hx with h | h <;> simp [h])
  clear ht1
  cases hn : Cm.rnum rho 9217 with
  | none =>
    have E : Cm.num1 rho 9217 = (0, rho, true) := by unfold Cm.num1; rw [hn]
    have Ev : Hid (Cm.rval rho = .none) := by show _ = _; unfold Cm.rval; rw [hn]
    rw [E] at hR1 ⊢
    simp only [Bool.false_or] at hR1 ⊢
    have ha : bits .and .u64 0 1 = 0 := and_one 0 (by omega)
    clear E hn
    go_wp2_with fail
    refine (rbytes_any 0 r p base (by omega) rho true w1 hR1).mono ?_
    have E2 : Cm.bytes1 rho true 0 = ([], rho, true) := by unfold Cm.bytes1; rw [if_pos (.inl rfl)]
    rw [E2]
    rintro e w2 ⟨p', v', rfl, hp', hR2, hby, ht2⟩
    have hcv := conv_byts hby
    have hq2 := (ht2.block q (lt_of_heap hq1) (by simp; exact hne.1)).trans hq1
    have ht2' : Turn [r, p, q] w w2 := ht1'.trans ht2 (by intro x hx _; simp at hx; simp [hx])
    obtain ⟨x0, x1, x2, x3⟩ := cells4_of hq2
    have hfr := fun j => frozen_of_row w2 q j _ _ hq2
    have hsz := ht1'.size
    clear E2 hby
    go_wp2
    refine bodyPost_ret (v := .tuple #[]) (by simp [results, Try.results52, go_sem]) rfl ?_
    refine ⟨rfl, p', rho, [], 0, 0, by omega, ht2'.set (p := ⟨q, 1, none⟩) (by simp) _, (heap_set4 hq2 _).1, ?_⟩
    unfold RvS
    rw [Ev.out]
    exact hR2.set hq2 hqb _
  | some nr =>
    obtain ⟨m, r1⟩ := nr
    have E : Cm.num1 rho 9217 = (m, r1, false) := by unfold Cm.num1; rw [hn]
    have hm := (Cm.rnum_some hn).1
    rw [E] at hR1 ⊢
    simp only [Bool.false_or] at hR1 ⊢
    have ha := and_one m (by omega)
    by_cases hev : m % 2 = 0
    · rw [hev] at ha
      have hB : ∀ W : World, RdS W r p base r1 false → Calls Try.prog 70 #[.pointer (some ⟨r, 0, none⟩), .int .i64 ((m : Int) / 2)] W fun e w' => ∃ p' v', e = .returned v' ∧ (p' = p ∨ W.heap.size ≤ p') ∧
          RdS w' r p' base (Cm.bytes1 r1 false (m / 2)).2.1 (Cm.bytes1 r1 false (m / 2)).2.2 ∧ Byts w' base v' (Cm.bytes1 r1 false (m / 2)).1 ∧ Turn [r] W w' := fun W h => by
        have := rbytes_any (m / 2) r p base (by omega) r1 false W h
        rwa [show ((m / 2 : Nat) : Int) = (m : Int) / 2 by omega] at this
      obtain ⟨Y, hY⟩ : ∃ Y, Cm.bytes1 r1 false (m / 2) = Y := ⟨_, rfl⟩
      rw [hY] at hB
      have Ev : Hid (match Cm.rval rho with | .none => Y.2.2 = true | some (x, r2) => x = (Y.1, 0, 0) ∧ Y.2.1 = r2 ∧ Y.2.2 = false) := by
        show _
        unfold Cm.rval
        rw [hn]
        simp only
        rw [if_pos hev]
        unfold Cm.rbytes
        rw [← hY]
        unfold Cm.bytes1
        by_cases hl : m / 2 ≤ r1.length
        · have h2 : ¬ (false = true ∨ r1.length < m / 2) := by simp; omega
          rw [if_pos hl, if_neg h2]
          exact ⟨rfl, rfl, rfl⟩
        · have h2 : false = true ∨ r1.length < m / 2 := .inr (by omega)
          rw [if_neg hl, if_pos h2]
          exact rfl
      obtain ⟨Y0, Y1, Y2⟩ := Y
      simp only at hB Ev
      clear E hn hev hY
      go_wp2_with fail
      refine (hB w1 hR1).mono ?_
      rintro e w2 ⟨p', v', rfl, hp', hR2, hby, ht2⟩
      have hcv := conv_byts hby
      have hq2 := (ht2.block q (lt_of_heap hq1) (by simp; exact hne.1)).trans hq1
      have ht2' : Turn [r, p, q] w w2 := ht1'.trans ht2 (by intro x hx _; simp at hx; simp [hx])
      obtain ⟨x0, x1, x2, x3⟩ := cells4_of hq2
      have hfr := fun j => frozen_of_row w2 q j _ _ hq2
      have hsz := ht1'.size
      clear hby hB
      go_wp2
      refine bodyPost_ret (v := .tuple #[]) (by simp [results, Try.results52, go_sem]) rfl ?_
      refine ⟨rfl, p', Y1, Y0, 0, 0, by omega, ht2'.set (p := ⟨q, 1, none⟩) (by simp) _, (heap_set4 hq2 _).1, ?_⟩
      have hRf := hR2.set (j := 1) hq2 hqb (.string (str Y0))
      have hEv := Ev.out
      unfold RvS
      cases hrv : Cm.rval rho with
      | none =>
        rw [hrv] at hEv
        simp only at hEv ⊢
        rw [hEv] at hRf
        exact hRf
      | some xr =>
        obtain ⟨x, r2⟩ := xr
        rw [hrv] at hEv
        simp only at hEv ⊢
        obtain ⟨h1, h2, h3⟩ := hEv
        rw [h2, h3] at hRf
        exact ⟨h1, hRf⟩
    · have hod : m % 2 = 1 := by omega
      rw [hod] at ha
      obtain ⟨Y, hY⟩ : ∃ Y, Cm.page1 r1 false = Y := ⟨_, rfl⟩
      have Ev : Hid (match Cm.rval rho with | .none => Y.2.2 = true ∨ Y.1 = 0 | some (x, r2) => x = ([], Y.1, ((m / 2 : Nat) : Int)) ∧ Y.2.1 = r2 ∧ Y.2.2 = false ∧ Y.1 ≠ 0) := by
        show _
        unfold Cm.rval
        rw [hn]
        simp only
        rw [if_neg hev]
        unfold Cm.rpage Cm.rbytes
        rw [← hY]
        unfold Cm.page1
        by_cases hl : 2 ≤ r1.length
        · have h2 : ¬ (false = true ∨ r1.length < 2) := by simp; omega
          rw [if_pos hl, if_neg h2]
          simp only
          by_cases hp0 : Cm.pageOf (r1.take 2) = 0
          · rw [if_pos hp0]
            exact .inr hp0
          · rw [if_neg hp0]
            refine ⟨rfl, rfl, ?_, hp0⟩
            trivial
        · have h2 : false = true ∨ r1.length < 2 := .inr (by omega)
          rw [if_neg hl, if_pos h2]
          exact .inl rfl
      obtain ⟨x0, x1, x2, x3⟩ := cells4_of hq1
      have hfr := fun j => frozen_of_row w1 q j _ _ hq1
      have hqs := (heap_set4 hq1 (.int .i64 ((m : Int) / 2))).2.2
      have hRs := hR1.set (j := 3) hq1 hqb (.int .i64 ((m : Int) / 2))
      have hts := ht1'.set (p := ⟨q, 3, none⟩) (by simp) (.int .i64 ((m : Int) / 2))
      have hEm : Hid (((m / 2 : Nat) : Int) = (m : Int) / 2) := by show _ = _; omega
      clear E hn hev hod
      go_upto_region 4 with fail
      generalize w1.setCell ⟨q, 3, none⟩ (.int .i64 ((m : Int) / 2)) = W at *
      clear x0 x1 x2 x3 hfr
      go_wp2_with fail
      refine (rpage_any r p base r1 false W hRs).mono ?_
      rw [hY]
      obtain ⟨Y0, Y1, Y2⟩ := Y
      simp only at Ev ⊢
      rintro e w2 ⟨p', rfl, hp', hR2, ht2⟩
      have hq2 := (ht2.block q (lt_of_heap hqs) (by simp; exact hne.1)).trans hqs
      have ht2' : Turn [r, p, q] w w2 := hts.trans ht2 (by intro x hx _; simp at hx; simp [hx])
      have hsz := hts.size
      have hq3 := (heap_set4 hq2 (.int .i64 Y0)).2.1
      have hR3 := hR2.set (j := 2) hq2 hqb (.int .i64 Y0)
      have ht3 := ht2'.set (p := ⟨q, 2, none⟩) (by simp) (.int .i64 Y0)
      obtain ⟨x0, x1, x2, x3⟩ := cells4_of hq2
      have hfr := fun j => frozen_of_row w2 q j _ _ hq2
      clear hY
      go_upto_region 5 with fail
      generalize w2.setCell ⟨q, 2, none⟩ (.int .i64 Y0) = W3 at *
      clear x0 x1 x2 x3 hfr
      obtain ⟨x0, x1, x2, x3⟩ := cells4_of hq3
      have n0 := hR3.bad
      have n1 := hR3.free 2
      have hRb := fun b => hR3.setBad b
      have htb := fun b : Bool => ht3.set (p := ⟨r, 2, none⟩) (by simp) (.bool b)
      have hqb' := fun b : Bool => ((((Turn.refl [r] W3).set (p := ⟨r, 2, none⟩) (by simp) (.bool b)).block q (lt_of_heap hq3) (by simp; exact hne.1))).trans hq3
      have hfin : ∀ (b : Bool) (Wf : World), Wf = W3.setCell ⟨r, 2, none⟩ (.bool b) → b = (Y2 || decide (Y0 = 0)) → VDone w Wf r p q base rho key := by
        rintro b Wf rfl hb
        refine ⟨p', Y1, [], Y0, (m : Int) / 2, by omega, htb b, hqb' b, ?_⟩
        have hEv := Ev.out
        have hRf := hRb b
        unfold RvS
        cases hrv : Cm.rval rho with
        | none =>
          rw [hrv] at hEv
          simp only at hEv ⊢
          have : b = true := by rw [hb]; simpa using hEv
          rw [this] at hRf ⊢
          exact hRf
        | some xr =>
          obtain ⟨x, r2⟩ := xr
          rw [hrv] at hEv
          simp only at hEv ⊢
          obtain ⟨h1, h2, h3, h4⟩ := hEv
          have : b = false := by rw [hb, h3]; simpa using h4
          rw [this, h2] at hRf
          rw [this]
          exact ⟨by rw [h1, hEm.out], hRf⟩
      have Hfin : Hid _ := hfin
      clear hfin hRb htb hqb' Ev
      cases Y2
      · by_cases hY0 : Y0 = 0
        · subst hY0
          go_wp2
          refine bodyPost_end (v := .tuple #[]) (by simp [results, Try.results52, go_sem]) rfl ⟨rfl, ?_⟩
          exact Hfin.out true _ rfl rfl
        · have hY1 : (Y0 == 0) = false := by simp [hY0]
          go_wp2
          refine bodyPost_end (v := .tuple #[]) (by simp [results, Try.results52, go_sem]) rfl ⟨rfl, ?_⟩
          exact Hfin.out false _ rfl (by simp [hY0])
      · go_wp2
        refine bodyPost_end (v := .tuple #[]) (by simp [results, Try.results52, go_sem]) rfl ⟨rfl, ?_⟩
        exact Hfin.out true _ rfl rfl

end Go.Proofs.Ytplfcpbjlhobeaa
