/-
  THE WALK OF THE READER's value.
-/
import Derived.Test.YtohdakjfacalbaaDRdrV
namespace Go.Proofs.Ytohdakjfacalbaa
open Go.RowKit

theorem and_one (n : Nat) (h : n ≤ 1000000) : bits .and .u64 (n : Int) 1 = ((n % 2 : Nat) : Int) := by
  have := u64_and_nat n 1 (by omega) (by decide)
  rw [nat_mask1] at this
  exact this
theorem heap_set4 {w : World} {p : Nat} {x0 x1 x2 x3 : Value} {t : TypeId} (h : w.heap[p]? = some (.cells #[x0, x1, x2, x3] t (0, 0))) (a : Value) :
    (w.setCell ⟨p, 1, none⟩ a).heap[p]? = some (.cells #[x0, a, x2, x3] t (0, 0)) ∧ (w.setCell ⟨p, 2, none⟩ a).heap[p]? = some (.cells #[x0, x1, a, x3] t (0, 0)) ∧ (w.setCell ⟨p, 3, none⟩ a).heap[p]? = some (.cells #[x0, x1, x2, a] t (0, 0)) :=
  ⟨heap_setCell_same w p 1 _ t a h, heap_setCell_same w p 2 _ t a h, heap_setCell_same w p 3 _ t a h⟩
/-- a store into a block that is not the reader's -/
theorem RdS.set {w : World} {r p base q j : Nat} {rho : List UInt8} {bad : Bool} {cs : Array Value} (h : RdS w r p base rho bad) (hq : w.heap[q]? = some (.cells cs 24 (0, 0))) (hb : base ≤ q) (u : Value) : RdS (w.setCell ⟨q, j, none⟩ u) r p base rho bad := by
  refine h.turn (S := [q]) ((Turn.refl [q] w).set (by simp) u) ?_ ?_ ?_
  · obtain ⟨v, vr, bs, a, h1, _⟩ := h
    intro hx
    simp only [List.mem_singleton] at hx
    subst hx
    rw [h1] at hq
    simp at hq
  · obtain ⟨v, vr, bs, a, _, h2, _⟩ := h
    intro hx
    simp only [List.mem_singleton] at hx
    subst hx
    unfold HasCur at h2
    rw [h2] at hq
    simp at hq
  · intro x hx
    simp only [List.mem_singleton] at hx
    subst hx
    refine ⟨hb, fun cs' f h' => ?_⟩
    rw [hq] at h'
    simp at h'
theorem RdS.ne {w : World} {r p base q : Nat} {rho : List UInt8} {bad : Bool} {cs : Array Value} {t : TypeId} (h : RdS w r p base rho bad) (hq : w.heap[q]? = some (.cells cs t (0, 0))) (h1 : t ≠ 72) (h2 : t ≠ 89) : q ≠ r ∧ q ≠ p := by
  obtain ⟨v, vr, bs, a, e1, e2, _⟩ := h
  constructor
  · rintro rfl
    rw [e1] at hq
    simp at hq
    exact h1 hq.2.symm
  · rintro rfl
    unfold HasCur at e2
    rw [e2] at hq
    simp at hq
    exact h2 hq.2.symm

/-- behind the reading of a value: it is bad, or what is left and the value are as said -/
def RvS (w : World) (r p base : Nat) (rho rho' val : List UInt8) (pg ln : Int) : Prop :=
  match Cm.rval rho with
  | .none => RdS w r p base rho' true
  | some (x, r2) => x = (val, pg, ln) ∧ RdS w r p base r2 false

def VDone (w w' : World) (r p q base : Nat) (rho : List UInt8) (key : ByteArray) : Prop :=
  ∃ p' rho' val pg ln, (p' = p ∨ w.heap.size ≤ p') ∧ Turn [r, p, q] w w' ∧
      w'.heap[q]? = some (.cells #[.string key, .string (str val), .int .i64 pg, .int .i64 ln] 24 (0, 0)) ∧
      RvS w' r p' base rho rho' val pg ln

set_option maxRecDepth 100000 in
set_option maxHeartbeats 1000000 in
theorem rvalue_any (r p q base : Nat) (rho : List UInt8) (key : ByteArray) (w : World) (hR : RdS w r p base rho false) (hq : w.heap[q]? = some (.cells #[.string key, .string .empty, .int .i64 0, .int .i64 0] 24 (0, 0))) (hqb : base ≤ q) :
    Calls Try.prog 50 #[.pointer (some ⟨r, 0, none⟩), .pointer (some ⟨q, 0, none⟩)] w fun e w' => e = .returned (.tuple #[]) ∧ VDone w w' r p q base rho key := by
  have hne := hR.ne hq (by decide) (by decide)
  have hrb := hR.lt
  go_enter Try.func50, Try.ntmps50
  go_wp2_with fail
  refine (rnumber_any 9217 r p base rho false w hR).mono ?_
  rintro e w1 ⟨rfl, hR1, ht1⟩
  have hq1 := (ht1.block q (lt_of_heap hq) (by simp; exact hne)).trans hq
  have ht1' : Turn [r, p, q] w w1 := ht1.mono (by intro x hx _; simp at hx ⊢; rcases hx with h | h <;> simp [h])
  clear ht1
  cases hn : Cm.rnum rho 9217 with
  | none =>
    have E : Cm.num1 rho 9217 = (0, rho, true) := by unfold Cm.num1; rw [hn]
    have Ev : Hid (Cm.rval rho = .none) := by show _ = _; unfold Cm.rval; rw [hn]
    rw [E] at hR1 ⊢
    simp only [Bool.false_or] at hR1 ⊢
    have ha : bits .and .u64 0 1 = 0 := and_one 0 (by omega)
    clear E hn
    go_wp2_with fail
    refine (rbytes_any 0 r p base (by omega) rho true w1 hR1).mono ?_
    have E2 : Cm.bytes1 rho true 0 = ([], rho, true) := by unfold Cm.bytes1; rw [if_pos (.inl rfl)]
    rw [E2]
    rintro e w2 ⟨p', v', rfl, hp', hR2, hby, ht2⟩
    have hcv := conv_byts hby
    have hq2 := (ht2.block q (lt_of_heap hq1) (by simp; exact hne.1)).trans hq1
    have ht2' : Turn [r, p, q] w w2 := ht1'.trans ht2 (by intro x hx _; simp at hx; simp [hx])
    obtain ⟨x0, x1, x2, x3⟩ := cells4_of hq2
    have hfr := fun j => frozen_of_row w2 q j _ _ hq2
    have hsz := ht1'.size
    clear E2 hby
    go_wp2
    refine bodyPost_ret (v := .tuple #[]) (by simp [results, Try.results50, go_sem]) rfl ?_
    refine ⟨rfl, p', rho, [], 0, 0, by omega, ht2'.set (p := ⟨q, 1, none⟩) (by simp) _, (heap_set4 hq2 _).1, ?_⟩
    unfold RvS
    rw [Ev.out]
    exact hR2.set hq2 hqb _
  | some nr =>
    obtain ⟨m, r1⟩ := nr
    have E : Cm.num1 rho 9217 = (m, r1, false) := by unfold Cm.num1; rw [hn]
    have hm := (Cm.rnum_some hn).1
    rw [E] at hR1 ⊢
    simp only [Bool.false_or] at hR1 ⊢
    have ha := and_one m (by omega)
    by_cases hev : m % 2 = 0
    · rw [hev] at ha
      have hB : ∀ W : World, RdS W r p base r1 false → Calls Try.prog 64 #[.pointer (some ⟨r, 0, none⟩), .int .i64 ((m : Int) / 2)] W fun e w' => ∃ p' v', e = .returned v' ∧ (p' = p ∨ W.heap.size ≤ p') ∧
          RdS w' r p' base (Cm.bytes1 r1 false (m / 2)).2.1 (Cm.bytes1 r1 false (m / 2)).2.2 ∧ Byts w' base v' (Cm.bytes1 r1 false (m / 2)).1 ∧ Turn [r] W w' := fun W h => by
        have := rbytes_any (m / 2) r p base (by omega) r1 false W h
        rwa [show ((m / 2 : Nat) : Int) = (m : Int) / 2 by omega] at this
      obtain ⟨Y, hY⟩ : ∃ Y, Cm.bytes1 r1 false (m / 2) = Y := ⟨_, rfl⟩
      rw [hY] at hB
      have Ev : Hid (match Cm.rval rho with | .none => Y.2.2 = true | some (x, r2) => x = (Y.1, 0, 0) ∧ Y.2.1 = r2 ∧ Y.2.2 = false) := by
        show _
        unfold Cm.rval
        rw [hn]
        simp only
        rw [if_pos hev]
        unfold Cm.rbytes
        rw [← hY]
        unfold Cm.bytes1
        by_cases hl : m / 2 ≤ r1.length
        · have h2 : ¬ (false = true ∨ r1.length < m / 2) := by simp; omega
          rw [if_pos hl, if_neg h2]
          exact ⟨rfl, rfl, rfl⟩
        · have h2 : false = true ∨ r1.length < m / 2 := .inr (by omega)
          rw [if_neg hl, if_pos h2]
          exact rfl
      obtain ⟨Y0, Y1, Y2⟩ := Y
      simp only at hB Ev
      clear E hn hev hY
      go_wp2_with fail
      refine (hB w1 hR1).mono ?_
      rintro e w2 ⟨p', v', rfl, hp', hR2, hby, ht2⟩
      have hcv := conv_byts hby
      have hq2 := (ht2.block q (lt_of_heap hq1) (by simp; exact hne.1)).trans hq1
      have ht2' : Turn [r, p, q] w w2 := ht1'.trans ht2 (by intro x hx _; simp at hx; simp [hx])
      obtain ⟨x0, x1, x2, x3⟩ := cells4_of hq2
      have hfr := fun j => frozen_of_row w2 q j _ _ hq2
      have hsz := ht1'.size
      clear hby hB
      go_wp2
      refine bodyPost_ret (v := .tuple #[]) (by simp [results, Try.results50, go_sem]) rfl ?_
      refine ⟨rfl, p', Y1, Y0, 0, 0, by omega, ht2'.set (p := ⟨q, 1, none⟩) (by simp) _, (heap_set4 hq2 _).1, ?_⟩
      have hRf := hR2.set (j := 1) hq2 hqb (.string (str Y0))
      have hEv := Ev.out
      unfold RvS
      cases hrv : Cm.rval rho with
      | none =>
        rw [hrv] at hEv
        simp only at hEv ⊢
        rw [hEv] at hRf
        exact hRf
      | some xr =>
        obtain ⟨x, r2⟩ := xr
        rw [hrv] at hEv
        simp only at hEv ⊢
        obtain ⟨h1, h2, h3⟩ := hEv
        rw [h2, h3] at hRf
        exact ⟨h1, hRf⟩
    · have hod : m % 2 = 1 := by omega
      rw [hod] at ha
      obtain ⟨Y, hY⟩ : ∃ Y, Cm.page1 r1 false = Y := ⟨_, rfl⟩
      have Ev : Hid (match Cm.rval rho with | .none => Y.2.2 = true ∨ Y.1 = 0 | some (x, r2) => x = ([], Y.1, ((m / 2 : Nat) : Int)) ∧ Y.2.1 = r2 ∧ Y.2.2 = false ∧ Y.1 ≠ 0) := by
        show _
        unfold Cm.rval
        rw [hn]
        simp only
        rw [if_neg hev]
        unfold Cm.rpage Cm.rbytes
        rw [← hY]
        unfold Cm.page1
        by_cases hl : 2 ≤ r1.length
        · have h2 : ¬ (false = true ∨ r1.length < 2) := by simp; omega
          rw [if_pos hl, if_neg h2]
          simp only
          by_cases hp0 : Cm.pageOf (r1.take 2) = 0
          · rw [if_pos hp0]
            exact .inr hp0
          · rw [if_neg hp0]
            refine ⟨rfl, rfl, ?_, hp0⟩
            trivial
        · have h2 : false = true ∨ r1.length < 2 := .inr (by omega)
          rw [if_neg hl, if_pos h2]
          exact .inl rfl
      obtain ⟨x0, x1, x2, x3⟩ := cells4_of hq1
      have hfr := fun j => frozen_of_row w1 q j _ _ hq1
      have hqs := (heap_set4 hq1 (.int .i64 ((m : Int) / 2))).2.2
      have hRs := hR1.set (j := 3) hq1 hqb (.int .i64 ((m : Int) / 2))
      have hts := ht1'.set (p := ⟨q, 3, none⟩) (by simp) (.int .i64 ((m : Int) / 2))
      have hEm : Hid (((m / 2 : Nat) : Int) = (m : Int) / 2) := by show _ = _; omega
      clear E hn hev hod
      go_upto_region 4 with fail
      generalize w1.setCell ⟨q, 3, none⟩ (.int .i64 ((m : Int) / 2)) = W at *
      clear x0 x1 x2 x3 hfr
      go_wp2_with fail
      refine (rpage_any r p base r1 false W hRs).mono ?_
      rw [hY]
      obtain ⟨Y0, Y1, Y2⟩ := Y
      simp only at Ev ⊢
      rintro e w2 ⟨p', rfl, hp', hR2, ht2⟩
      have hq2 := (ht2.block q (lt_of_heap hqs) (by simp; exact hne.1)).trans hqs
      have ht2' : Turn [r, p, q] w w2 := hts.trans ht2 (by intro x hx _; simp at hx; simp [hx])
      have hsz := hts.size
      have hq3 := (heap_set4 hq2 (.int .i64 Y0)).2.1
      have hR3 := hR2.set (j := 2) hq2 hqb (.int .i64 Y0)
      have ht3 := ht2'.set (p := ⟨q, 2, none⟩) (by simp) (.int .i64 Y0)
      obtain ⟨x0, x1, x2, x3⟩ := cells4_of hq2
      have hfr := fun j => frozen_of_row w2 q j _ _ hq2
      clear hY
      go_upto_region 5 with fail
      generalize w2.setCell ⟨q, 2, none⟩ (.int .i64 Y0) = W3 at *
      clear x0 x1 x2 x3 hfr
      obtain ⟨x0, x1, x2, x3⟩ := cells4_of hq3
      have n0 := hR3.bad
      have n1 := hR3.free 2
      have hRb := fun b => hR3.setBad b
      have htb := fun b : Bool => ht3.set (p := ⟨r, 2, none⟩) (by simp) (.bool b)
      have hqb' := fun b : Bool => ((((Turn.refl [r] W3).set (p := ⟨r, 2, none⟩) (by simp) (.bool b)).block q (lt_of_heap hq3) (by simp; exact hne.1))).trans hq3
      have hfin : ∀ (b : Bool) (Wf : World), Wf = W3.setCell ⟨r, 2, none⟩ (.bool b) → b = (Y2 || decide (Y0 = 0)) → VDone w Wf r p q base rho key := by
        rintro b Wf rfl hb
        refine ⟨p', Y1, [], Y0, (m : Int) / 2, by omega, htb b, hqb' b, ?_⟩
        have hEv := Ev.out
        have hRf := hRb b
        unfold RvS
        cases hrv : Cm.rval rho with
        | none =>
          rw [hrv] at hEv
          simp only at hEv ⊢
          have : b = true := by rw [hb]; simpa using hEv
          rw [this] at hRf ⊢
          exact hRf
        | some xr =>
          obtain ⟨x, r2⟩ := xr
          rw [hrv] at hEv
          simp only at hEv ⊢
          obtain ⟨h1, h2, h3, h4⟩ := hEv
          have : b = false := by rw [hb, h3]; simpa using h4
          rw [this, h2] at hRf
          rw [this]
          exact ⟨by rw [h1, hEm.out], hRf⟩
      have Hfin : Hid _ := hfin
      clear hfin hRb htb hqb' Ev
      cases Y2
      · by_cases hY0 : Y0 = 0
        · subst hY0
          go_wp2
          refine bodyPost_end (v := .tuple #[]) (by simp [results, Try.results50, go_sem]) rfl ⟨rfl, ?_⟩
          exact Hfin.out true _ rfl rfl
        · have hY1 : (Y0 == 0) = false := by simp [hY0]
          go_wp2
          refine bodyPost_end (v := .tuple #[]) (by simp [results, Try.results50, go_sem]) rfl ⟨rfl, ?_⟩
          exact Hfin.out false _ rfl (by simp [hY0])
      · go_wp2
        refine bodyPost_end (v := .tuple #[]) (by simp [results, Try.results50, go_sem]) rfl ⟨rfl, ?_⟩
        exact Hfin.out true _ rfl rfl

end Go.Proofs.Ytohdakjfacalbaa
