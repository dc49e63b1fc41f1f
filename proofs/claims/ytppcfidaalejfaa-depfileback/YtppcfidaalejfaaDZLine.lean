/-
  THE LANDED READER: a line.
-/
import Derived.Test.YtppcfidaalejfaaDZWord
import Derived.Test.YtppcfidaalejfaaPBs
import Derived.Test.YtppcfidaalejfaaRecG
namespace Go.Proofs.Ytppcfidaalejfaa
open Go.RowKit

/-- how a line ends: R is what the whole reading comes to, out the rules ahead of the line -/
def LineEnd (b : Nat) (s : ByteArray) (i : Nat) (out : List Dp.Rule) (R : Nat ⊕ List Dp.Rule) (w w' : World) (e : Ending) : Prop :=
  Turn [b] w w' ∧ ((∃ j, e = .returned (.tuple #[.agg #[.string ⟨#[]⟩, .slice none 0 0], .bool false]) ∧ RdZ w' b s j ∧ R = .inl j) ∨
    ∃ j t ds va n c, e = .returned (.tuple #[.agg #[.string (str t), .slice va n c], .bool true]) ∧ RdZ w' b s j ∧ i < j ∧ j ≤ s.size + 1 ∧ BR.Own w' w.heap.size (.slice va n c) ds ∧ R = Dp.rest (bs s) j ⟨[], none, false, out ++ if t = [] then [] else [(t, ds)]⟩)

theorem str_nil (t : List UInt8) : ((str t).toList == []) = decide (t = []) := by
  rw [ByteArray.toList_eq]
  show (bs (str t) == []) = _
  rw [bs_str]
  cases t <;> rfl

set_option maxRecDepth 100000 in
set_option maxHeartbeats 8000000 in
theorem line_any (w : World) (b : Nat) (s : ByteArray) (i : Nat) (h : RdZ w b s i) (hi : i ≤ s.size) (hs : s.size ≤ 32768) (out : List Dp.Rule) (R : Nat ⊕ List Dp.Rule) (hA : Dp.rest (bs s) i ⟨[], none, false, out⟩ = R) :
    Calls Try.prog 28 #[.pointer (some ⟨b, 0, none⟩)] w fun e w' => LineEnd b s i out R w w' e := by
  have hbl : b < w.heap.size := Rw.lt h
  have hl := bs_length s
  obtain ⟨q2, q4, hB2, hz2⟩ := Rw.two w #[.string ⟨#[]⟩, .slice none 0 0] #[.string ⟨#[]⟩, .slice none 0 0] 32 32
  have HA0 : Hid (Dp.At (bs s) R out i [] [] false) := Dp.At.begin hA (by omega)
  clear hA
  have hR00 : RdZ ((w.alloc (.cells #[.string ⟨#[]⟩, .slice none 0 0] 32)).alloc (.cells #[.string ⟨#[]⟩, .slice none 0 0] 32)) b s i := Rw.below h hB2 hbl
  have hT00 : Turn [b] w ((w.alloc (.cells #[.string ⟨#[]⟩, .slice none 0 0] 32)).alloc (.cells #[.string ⟨#[]⟩, .slice none 0 0] 32)) := ((Turn.refl [b] w).alloc _).alloc _
  go_enter Try.func28, Try.ntmps28
  go_wp2
  go_loopw [5] (fun pm wr => ∃ (i1 : Nat) (t : List UInt8) (ds : List (List UInt8)) (mk : Bool) (vd : Value), pm = .bool mk ∧ RdZ wr b s i1 ∧ Rw wr (w.heap.size + 1) #[.string (str t), vd] 32 ∧ Rw wr w.heap.size #[.string ⟨#[]⟩, .slice none 0 0] 32 ∧ BR.Own wr (w.heap.size + 2) vd ds ∧ Hid (Dp.At (bs s) R out i1 t ds mk) ∧ i ≤ i1 ∧ ds.length ≤ i1 ∧ Turn [b] w wr) (fun _ wr => s.size + 1 - rdzAt wr b)
  case atStart => exact ⟨i, [], [], false, _, rfl, hR00, q4, q2, Rc.Own.nil _ _, HA0, Nat.le_refl _, Nat.zero_le _, hT00⟩
  case round =>
    clear hR00 hT00 q2 q4 hB2 hz2 HA0 h
    obtain ⟨i1, t, ds, mk, vd, rfl, hR, hG, hG2, hO, HAT, hii, hdl, hT⟩ := hrel
    have hat := hR.at_
    obtain ⟨va, vc, rfl, hvc⟩ := hO.sl.shape
    have hi1 : i1 ≤ s.size := by rw [← hl]; exact HAT.out.le
    have hP := passBlanks_any wr b s i1 hR hi1 hs
    go_wp2_with fail
    refine hP.mono ?_
    rintro e W0 ⟨rfl, hR0, hT0⟩
    obtain ⟨HA2, HBL⟩ := HAT.out.skip
    have hskip : i1 ≤ i1 + Dp.skip ((bs s).drop i1) := by omega
    generalize i1 + Dp.skip ((bs s).drop i1) = i2 at *
    have hi2 : i2 ≤ s.size := by rw [← hl]; exact HA2.le
    have hG0 := hG.turn hT0 (by simp; omega)
    have hG20 := hG2.turn hT0 (by simp; omega)
    have hO0 : BR.Own W0 (w.heap.size + 2) (.slice va ds.length vc) ds := Row.turn hO hT0 (fun g hg hm => by rw [List.mem_singleton] at hm; subst hm; exact absurd (hO.lt _ hg).1 (by omega))
    have hTT := hT.trans hT0 (by simp)
    have k0 : W0.cell? ⟨w.heap.size + 1, 0, none⟩ = some (.string (str t)) := hG0.cell 0
    have k1 : W0.cell? ⟨w.heap.size + 1, 1, none⟩ = some (.slice va ds.length vc) := hG0.cell 1
    have m0 : W0.cell? ⟨w.heap.size, 0, none⟩ = some (.string ⟨#[]⟩) := hG20.cell 0
    have m1 : W0.cell? ⟨w.heap.size, 1, none⟩ = some (.slice none 0 0) := hG20.cell 1
    have n0 : W0.frozen? ⟨w.heap.size, 0, none⟩ = false := hG20.free 0
    have n1 : W0.frozen? ⟨w.heap.size, 1, none⟩ = false := hG20.free 1
    have l0 : W0.frozen? ⟨w.heap.size + 1, 0, none⟩ = false := hG0.free 0
    have l1 : W0.frozen? ⟨w.heap.size + 1, 1, none⟩ = false := hG0.free 1
    have hsn := str_nil t
    have hQ0 := Qt.refl W0
    have HKEEP : Hid (∀ W, Qt W0 W → RdZ W b s i2 ∧ Rw W (w.heap.size + 1) #[.string (str t), .slice va ds.length vc] 32 ∧ Rw W w.heap.size #[.string ⟨#[]⟩, .slice none 0 0] 32 ∧ BR.Own W (w.heap.size + 2) (.slice va ds.length vc) ds ∧ Turn [b] w W) := fun W hW =>
      ⟨hR0.heap hW.heap, hG0.below hW.below hG0.lt, hG20.below hW.below hG20.lt, hO0.below hW.below (Nat.le_refl _), hW.turn hTT⟩
    have HZ : Hid (∀ W, Qt W0 W → ∀ j, R = .inl j → j = i2 → LineEnd b s i out R w ((W.setCell ⟨w.heap.size, 0, none⟩ (.string ⟨#[]⟩)).setCell ⟨w.heap.size, 1, none⟩ (.slice none 0 0)) (.returned (.tuple #[.agg #[.string ⟨#[]⟩, .slice none 0 0], .bool false]))) := fun W hW j hj hji => by
      subst hji
      exact ⟨(((hW.turn hTT).set (by simp) _).set (by simp) _), .inl ⟨_, rfl, ((hR0.heap hW.heap).turn (Turn.put2 W w.heap.size _ _) (by simp; omega)), hj⟩⟩
    have HZr : Hid (∀ W, Qt W0 W → Rw ((W.setCell ⟨w.heap.size, 0, none⟩ (.string ⟨#[]⟩)).setCell ⟨w.heap.size, 1, none⟩ (.slice none 0 0)) w.heap.size #[.string ⟨#[]⟩, .slice none 0 0] 32) := fun W hW => (hG20.below hW.below hG20.lt).put2 _ _
    have HLT : Hid (i ≤ i2 ∧ i2 ≤ s.size ∧ ds.length ≤ i2 ∧ i1 ≤ i2) := ⟨by omega, hi2, by omega, hskip⟩
    clear hP hR hG hG2 hO hT HAT hT0 hvc hTT hii hdl

    cases mk with
    | false =>
      by_cases ht : t = []
      · obtain ⟨st, hst⟩ : ∃ st, str t = st := ⟨_, rfl⟩
        rw [hst] at k0 hsn hG0 HKEEP
        have HST : Hid (str t = st) := hst
        clear hst
        rw [decide_eq_true ht] at hsn
        cases hd : (bs s).drop i2 with
        | nil =>
          have HFIN := HA2.fin (.inl hd)
          have hov := over_q hR0 (t := true) (by exact decide_eq_true (by have := congrArg List.length hd; rw [List.length_drop, List.length_nil] at this; omega))
          clear hd
          go_wp2_with fail
          refine (hov _ hQ0).mono ?_
          rintro e W1 ⟨rfl, hQ1⟩
          obtain ⟨hR5, hG5, hG25, hO5, hT5⟩ := HKEEP.out W1 hQ1
          have k0' : W1.cell? ⟨w.heap.size + 1, 0, none⟩ = some (.string st) := hG5.cell 0
          have k1' : W1.cell? ⟨w.heap.size + 1, 1, none⟩ = some (.slice va ds.length vc) := hG5.cell 1
          have m0' : W1.cell? ⟨w.heap.size, 0, none⟩ = some (.string ⟨#[]⟩) := hG25.cell 0
          have m1' : W1.cell? ⟨w.heap.size, 1, none⟩ = some (.slice none 0 0) := hG25.cell 1
          have n0' : W1.frozen? ⟨w.heap.size, 0, none⟩ = false := hG25.free 0
          have n1' : W1.frozen? ⟨w.heap.size, 1, none⟩ = false := hG25.free 1
          have c1' : W1.cell? ⟨b, 1, none⟩ = some (.int .i64 (i2 : Int)) := Rw.cell hR5 1
          have d1' : W1.frozen? ⟨b, 1, none⟩ = false := Rw.free hR5 1
          have hRes := HFIN.2 (fun x => x.1 ht)
          have hR6 := hR5.move 1 1 rfl
          have hT6 := hT5.trans (Turn.put1 W1 b 1 (.int .i64 ((i2 : Int) + 1))) (by simp)
          have hO6 : BR.Own (W1.setCell ⟨b, 1, none⟩ (.int .i64 ((i2 : Int) + 1))) (w.heap.size + 2) (.slice va ds.length vc) ds := Row.turn hO5 (Turn.put1 W1 b 1 _) (fun g hg hm => by rw [List.mem_singleton] at hm; subst hm; exact absurd (hO5.lt _ hg).1 (by omega))
          have hG6 := hG5.turn (Turn.put1 W1 b 1 (.int .i64 ((i2 : Int) + 1))) (by simp; omega)
          have hG26 := hG25.turn (Turn.put1 W1 b 1 (.int .i64 ((i2 : Int) + 1))) (by simp; omega)
          clear hR0 hG0 hG20 hO0 k0 k1 m0 m1 n0 n1 l0 l1 HKEEP HZ HZr
          go_upto_region 16 with fail
          generalize W1.setCell ⟨b, 1, none⟩ (.int .i64 ((i2 : Int) + 1)) = W9 at *
          clear k0' k1' m0' m1' n0' n1' c1' d1'
          have k0 : W9.cell? ⟨w.heap.size + 1, 0, none⟩ = some (.string st) := hG6.cell 0
          have k1 : W9.cell? ⟨w.heap.size + 1, 1, none⟩ = some (.slice va ds.length vc) := hG6.cell 1
          have m0 : W9.cell? ⟨w.heap.size, 0, none⟩ = some (.string ⟨#[]⟩) := hG26.cell 0
          have m1 : W9.cell? ⟨w.heap.size, 1, none⟩ = some (.slice none 0 0) := hG26.cell 1
          have n0 : W9.frozen? ⟨w.heap.size, 0, none⟩ = false := hG26.free 0
          have n1 : W9.frozen? ⟨w.heap.size, 1, none⟩ = false := hG26.free 1
          have hq := hG26.put2 (.string st) (.slice va ds.length vc)
          have hR7 := hR6.turn (Turn.put2 W9 w.heap.size (.string st) (.slice va ds.length vc)) (by simp; omega)
          have hT7 := hT6.trans (Turn.put2 W9 w.heap.size (.string st) (.slice va ds.length vc)) (by simp)
          have hO7 : BR.Own ((W9.setCell ⟨w.heap.size, 0, none⟩ (.string st)).setCell ⟨w.heap.size, 1, none⟩ (.slice va ds.length vc)) w.heap.size (.slice va ds.length vc) ds := Rc.Own.low (Row.turn hO6 (Turn.put2 W9 w.heap.size _ _) (fun g hg hm => by rw [List.mem_singleton] at hm; subst hm; exact absurd (hO6.lt _ hg).1 (by omega))) (by omega)
          go_wp2
          refine bodyPost_ret (results_row_slot Try.results28 _ _ w.heap.size _ _ _ (.bool true) rfl rfl hq Try.underlying32 rfl (by kernel_rfl)) rfl ?_
          exact ⟨hT7, .inr ⟨i2 + 1, t, ds, va, ds.length, vc, by rw [HST.out], hR7, by have := HLT.out; omega, by have := HLT.out; omega, hO7, hRes⟩⟩
        | cons c r =>
          by_cases e10 : c = 10
          · subst e10
            have HFIN := HA2.fin (.inr ⟨_, hd⟩)
            have hov := over_q hR0 (t := false) (by exact decide_eq_false (by have := Dp.drop_lt hd; omega))
            have hn := pre_q hR0 hi2 ⟨#[10]⟩ (t := true) (by rw [hd]; rfl)
            clear hd
            go_wp2_with fail
            refine (hov _ hQ0).mono ?_
            rintro e W1 ⟨rfl, hQ1⟩
            go_wp2_with fail
            refine (hn _ hQ1).mono ?_
            rintro e W2 ⟨rfl, hQ2⟩
            obtain ⟨hR5, hG5, hG25, hO5, hT5⟩ := HKEEP.out W2 hQ2
            have k0' : W2.cell? ⟨w.heap.size + 1, 0, none⟩ = some (.string st) := hG5.cell 0
            have k1' : W2.cell? ⟨w.heap.size + 1, 1, none⟩ = some (.slice va ds.length vc) := hG5.cell 1
            have m0' : W2.cell? ⟨w.heap.size, 0, none⟩ = some (.string ⟨#[]⟩) := hG25.cell 0
            have m1' : W2.cell? ⟨w.heap.size, 1, none⟩ = some (.slice none 0 0) := hG25.cell 1
            have n0' : W2.frozen? ⟨w.heap.size, 0, none⟩ = false := hG25.free 0
            have n1' : W2.frozen? ⟨w.heap.size, 1, none⟩ = false := hG25.free 1
            have c1' : W2.cell? ⟨b, 1, none⟩ = some (.int .i64 (i2 : Int)) := Rw.cell hR5 1
            have d1' : W2.frozen? ⟨b, 1, none⟩ = false := Rw.free hR5 1
            have hRes := HFIN.2 (fun x => x.1 ht)
            have hR6 := hR5.move 1 1 rfl
            have hT6 := hT5.trans (Turn.put1 W2 b 1 (.int .i64 ((i2 : Int) + 1))) (by simp)
            have hO6 : BR.Own (W2.setCell ⟨b, 1, none⟩ (.int .i64 ((i2 : Int) + 1))) (w.heap.size + 2) (.slice va ds.length vc) ds := Row.turn hO5 (Turn.put1 W2 b 1 _) (fun g hg hm => by rw [List.mem_singleton] at hm; subst hm; exact absurd (hO5.lt _ hg).1 (by omega))
            have hG6 := hG5.turn (Turn.put1 W2 b 1 (.int .i64 ((i2 : Int) + 1))) (by simp; omega)
            have hG26 := hG25.turn (Turn.put1 W2 b 1 (.int .i64 ((i2 : Int) + 1))) (by simp; omega)
            clear hR0 hG0 hG20 hO0 k0 k1 m0 m1 n0 n1 l0 l1 HKEEP HZ HZr
            go_upto_region 16 with fail
            generalize W2.setCell ⟨b, 1, none⟩ (.int .i64 ((i2 : Int) + 1)) = W9 at *
            clear k0' k1' m0' m1' n0' n1' c1' d1'
            have k0 : W9.cell? ⟨w.heap.size + 1, 0, none⟩ = some (.string st) := hG6.cell 0
            have k1 : W9.cell? ⟨w.heap.size + 1, 1, none⟩ = some (.slice va ds.length vc) := hG6.cell 1
            have m0 : W9.cell? ⟨w.heap.size, 0, none⟩ = some (.string ⟨#[]⟩) := hG26.cell 0
            have m1 : W9.cell? ⟨w.heap.size, 1, none⟩ = some (.slice none 0 0) := hG26.cell 1
            have n0 : W9.frozen? ⟨w.heap.size, 0, none⟩ = false := hG26.free 0
            have n1 : W9.frozen? ⟨w.heap.size, 1, none⟩ = false := hG26.free 1
            have hq := hG26.put2 (.string st) (.slice va ds.length vc)
            have hR7 := hR6.turn (Turn.put2 W9 w.heap.size (.string st) (.slice va ds.length vc)) (by simp; omega)
            have hT7 := hT6.trans (Turn.put2 W9 w.heap.size (.string st) (.slice va ds.length vc)) (by simp)
            have hO7 : BR.Own ((W9.setCell ⟨w.heap.size, 0, none⟩ (.string st)).setCell ⟨w.heap.size, 1, none⟩ (.slice va ds.length vc)) w.heap.size (.slice va ds.length vc) ds := Rc.Own.low (Row.turn hO6 (Turn.put2 W9 w.heap.size _ _) (fun g hg hm => by rw [List.mem_singleton] at hm; subst hm; exact absurd (hO6.lt _ hg).1 (by omega))) (by omega)
            go_wp2
            refine bodyPost_ret (results_row_slot Try.results28 _ _ w.heap.size _ _ _ (.bool true) rfl rfl hq Try.underlying32 rfl (by kernel_rfl)) rfl ?_
            exact ⟨hT7, .inr ⟨i2 + 1, t, ds, va, ds.length, vc, by rw [HST.out], hR7, by have := HLT.out; omega, by have := HLT.out; omega, hO7, hRes⟩⟩
          by_cases e58 : c = 58
          · subst e58
            have HMK := HA2.mark hd
            have hov := over_q hR0 (t := false) (by exact decide_eq_false (by have := Dp.drop_lt hd; omega))
            have hn := pre_q hR0 hi2 ⟨#[10]⟩ (t := false) (by rw [hd]; rfl)
            have hC := pre_q hR0 hi2 ⟨#[58]⟩ (t := true) (by rw [hd]; rfl)
            clear hd
            go_wp2_with fail
            refine (hov _ hQ0).mono ?_
            rintro e W1 ⟨rfl, hQ1⟩
            go_wp2_with fail
            refine (hn _ hQ1).mono ?_
            rintro e W2 ⟨rfl, hQ2⟩
            go_wp2_with fail
            refine (hC _ hQ2).mono ?_
            rintro e W3 ⟨rfl, hQ3⟩
            obtain ⟨hR5, hG5, hG25, hO5, hT5⟩ := HKEEP.out W3 hQ3
            have m0' : W3.cell? ⟨w.heap.size, 0, none⟩ = some (.string ⟨#[]⟩) := hG25.cell 0
            have m1' : W3.cell? ⟨w.heap.size, 1, none⟩ = some (.slice none 0 0) := hG25.cell 1
            have n0' : W3.frozen? ⟨w.heap.size, 0, none⟩ = false := hG25.free 0
            have n1' : W3.frozen? ⟨w.heap.size, 1, none⟩ = false := hG25.free 1
            have HE := HZ.out W3 hQ3 i2 (HMK.1 (fun x => x.1 ht)) rfl
            have hq := HZr.out W3 hQ3
            clear hR0 hG0 hG20 hO0 k0 k1 m0 m1 n0 n1 l0 l1 HKEEP HZ HZr
            go_wp2
            refine bodyPost_ret (results_row_slot Try.results28 _ _ w.heap.size _ _ _ (.bool false) rfl rfl hq Try.underlying32 rfl (by kernel_rfl)) rfl ?_
            exact HE
          have hstp : Dp.stops ((bs s).drop i2) = false := by
            rw [hd]
            rw [hd] at HBL
            by_cases e92 : c = 92
            · subst e92
              cases r with
              | nil => rfl
              | cons c r =>
                by_cases e10 : c = 10
                · subst e10; cases HBL
                · exact Dp.stops_esc e10
            · rw [Dp.stops_byte e92]
              have e32 : c ≠ 32 := by rintro rfl; cases HBL
              simp [Dp.stop, e10, e58, e32]
          have HWD := HA2.word hstp
          have hov := over_q hR0 (t := false) (by exact decide_eq_false (by have := Dp.drop_lt hd; omega))
          have hn := pre_q hR0 hi2 ⟨#[10]⟩ (t := false) (by rw [hd]; simp [List.isPrefixOf, Ne.symm e10])
          have hC := pre_q hR0 hi2 ⟨#[58]⟩ (t := false) (by rw [hd]; simp [List.isPrefixOf, Ne.symm e58])
          clear hd
          go_wp2_with fail
          refine (hov _ hQ0).mono ?_
          rintro e W1 ⟨rfl, hQ1⟩
          go_wp2_with fail
          refine (hn _ hQ1).mono ?_
          rintro e W2 ⟨rfl, hQ2⟩
          go_wp2_with fail
          refine (hC _ hQ2).mono ?_
          rintro e W3 ⟨rfl, hQ3⟩
          obtain ⟨hR5, hG5, hG25, hO5, hT5⟩ := HKEEP.out W3 hQ3
          obtain ⟨HBAD, HGO⟩ := HWD.2 (fun x => x.1 ht)
          have hWd := word_any W3 b s i2 hR5 hi2 hs
          go_wp2_with fail
          refine hWd.mono ?_
          rintro e W7 ⟨rfl, hR7, hT7⟩
          have hws := fun x k => Dp.wordR_some (w := x) (k := k) hstp
          have HBD : Hid _ := HBAD
          have HGG : Hid _ := HGO
          have HWS : Hid _ := hws
          clear HBAD HGO hws hWd HWD hstp HBL
          generalize Dp.wordR ((bs s).drop i2) = WD at *
          obtain ⟨o, k⟩ := WD
          have hG7 := hG5.turn hT7 (by simp; omega)
          have hG27 := hG25.turn hT7 (by simp; omega)
          have hO7 : BR.Own W7 (w.heap.size + 2) (.slice va ds.length vc) ds := Row.turn hO5 hT7 (fun g hg hm => by rw [List.mem_singleton] at hm; subst hm; exact absurd (hO5.lt _ hg).1 (by omega))
          have hT8 := hT5.trans hT7 (by simp)
          clear hR0 hG0 hG20 hO0 k0 k1 m0 m1 n0 n1 l0 l1 HKEEP HZ HZr hR5 hG5 hG25 hO5 hT5
          cases o with
          | none =>
            obtain ⟨hbd, -⟩ := HBD.out k rfl
            have m0 : W7.cell? ⟨w.heap.size, 0, none⟩ = some (.string ⟨#[]⟩) := hG27.cell 0
            have m1 : W7.cell? ⟨w.heap.size, 1, none⟩ = some (.slice none 0 0) := hG27.cell 1
            have n0 : W7.frozen? ⟨w.heap.size, 0, none⟩ = false := hG27.free 0
            have n1 : W7.frozen? ⟨w.heap.size, 1, none⟩ = false := hG27.free 1
            have hq := hG27.put2 (.string ⟨#[]⟩) (.slice none 0 0)
            have hR9 := hR7.turn (Turn.put2 W7 w.heap.size (.string ⟨#[]⟩) (.slice none 0 0)) (by simp; omega)
            have hT9 := hT8.trans (Turn.put2 W7 w.heap.size (.string ⟨#[]⟩) (.slice none 0 0)) (by simp)
            go_wp2
            refine bodyPost_ret (results_row_slot Try.results28 _ _ w.heap.size _ _ _ (.bool false) rfl rfl hq Try.underlying32 rfl (by kernel_rfl)) rfl ?_
            exact ⟨hT9, .inl ⟨_, rfl, hR9, hbd⟩⟩
          | some x =>
            have hgo := HGG.out x k rfl
            obtain ⟨hx, hk⟩ := HWS.out x k rfl
            have hle : i2 + k ≤ s.size := by rw [← hl]; exact hgo.le
            have HX : Hid _ := hgo
            clear hgo
            have hat7 := hR7.at_
            have hwf : ∀ (xs : ByteArray), str ((some x).getD []) = xs → str x = xs := fun _ h => h
            obtain ⟨xs, hxs⟩ : ∃ xs, str ((some x).getD []) = xs := ⟨_, rfl⟩
            have HXS : Hid (str x = xs) := hwf xs hxs
            rw [hxs]
            clear hxs hwf
            have l0 : W7.frozen? ⟨w.heap.size + 1, 0, none⟩ = false := hG7.free 0
            have k0 : W7.cell? ⟨w.heap.size + 1, 0, none⟩ = some (.string st) := hG7.cell 0
            have hR10 := hR7.turn (Turn.put1 W7 (w.heap.size + 1) 0 (.string xs)) (by simp; omega)
            have hat10 := hR10.at_
            have hG10 := hG7.set 0 (.string xs) (by simp)
            have hG210 := hG27.turn (Turn.put1 W7 (w.heap.size + 1) 0 (.string xs)) (by simp)
            have hO10 := Row.turn hO7 (Turn.put1 W7 (w.heap.size + 1) 0 (.string xs)) (fun y hy hm => by rw [List.mem_singleton] at hm; subst hm; exact absurd (hO7.lt _ hy).1 (by omega))
            have hT10 := hT8.trans (Turn.put1 W7 (w.heap.size + 1) 0 (.string xs)) (fun y hy hl => by rw [List.mem_singleton] at hy; omega)
            rw [← HXS.out] at hG10
            clear hR7 hG7 hG27 hO7 hT8
            go_wp2
            exact ⟨⟨i2 + k, x, ds, false, _, rfl, hR10, by rw [HXS.out] at *; exact hG10, hG210, hO10, HX, by have := HLT.out; omega, by have := HLT.out; omega, hT10⟩, by have := HLT.out; omega⟩
      · obtain ⟨st, hst⟩ : ∃ st, str t = st := ⟨_, rfl⟩
        rw [hst] at k0 hsn hG0 HKEEP
        have HST : Hid (str t = st) := hst
        clear hst
        rw [decide_eq_false ht] at hsn
        cases hd : (bs s).drop i2 with
        | nil =>
          have HFIN := HA2.fin (.inl hd)
          have hov := over_q hR0 (t := true) (by exact decide_eq_true (by have := congrArg List.length hd; rw [List.length_drop, List.length_nil] at this; omega))
          clear hd
          go_wp2_with fail
          refine (hov _ hQ0).mono ?_
          rintro e W1 ⟨rfl, hQ1⟩
          obtain ⟨hR5, hG5, hG25, hO5, hT5⟩ := HKEEP.out W1 hQ1
          have m0' : W1.cell? ⟨w.heap.size, 0, none⟩ = some (.string ⟨#[]⟩) := hG25.cell 0
          have m1' : W1.cell? ⟨w.heap.size, 1, none⟩ = some (.slice none 0 0) := hG25.cell 1
          have n0' : W1.frozen? ⟨w.heap.size, 0, none⟩ = false := hG25.free 0
          have n1' : W1.frozen? ⟨w.heap.size, 1, none⟩ = false := hG25.free 1
          have HE := HZ.out W1 hQ1 i2 (HFIN.1 ⟨ht, by simp⟩) rfl
          have hq := HZr.out W1 hQ1
          clear hR0 hG0 hG20 hO0 k0 k1 m0 m1 n0 n1 l0 l1 HKEEP HZ HZr
          go_wp2
          refine bodyPost_ret (results_row_slot Try.results28 _ _ w.heap.size _ _ _ (.bool false) rfl rfl hq Try.underlying32 rfl (by kernel_rfl)) rfl ?_
          exact HE
        | cons c r =>
          by_cases e10 : c = 10
          · subst e10
            have HFIN := HA2.fin (.inr ⟨_, hd⟩)
            have hov := over_q hR0 (t := false) (by exact decide_eq_false (by have := Dp.drop_lt hd; omega))
            have hn := pre_q hR0 hi2 ⟨#[10]⟩ (t := true) (by rw [hd]; rfl)
            clear hd
            go_wp2_with fail
            refine (hov _ hQ0).mono ?_
            rintro e W1 ⟨rfl, hQ1⟩
            go_wp2_with fail
            refine (hn _ hQ1).mono ?_
            rintro e W2 ⟨rfl, hQ2⟩
            obtain ⟨hR5, hG5, hG25, hO5, hT5⟩ := HKEEP.out W2 hQ2
            have m0' : W2.cell? ⟨w.heap.size, 0, none⟩ = some (.string ⟨#[]⟩) := hG25.cell 0
            have m1' : W2.cell? ⟨w.heap.size, 1, none⟩ = some (.slice none 0 0) := hG25.cell 1
            have n0' : W2.frozen? ⟨w.heap.size, 0, none⟩ = false := hG25.free 0
            have n1' : W2.frozen? ⟨w.heap.size, 1, none⟩ = false := hG25.free 1
            have HE := HZ.out W2 hQ2 i2 (HFIN.1 ⟨ht, by simp⟩) rfl
            have hq := HZr.out W2 hQ2
            clear hR0 hG0 hG20 hO0 k0 k1 m0 m1 n0 n1 l0 l1 HKEEP HZ HZr
            go_wp2
            refine bodyPost_ret (results_row_slot Try.results28 _ _ w.heap.size _ _ _ (.bool false) rfl rfl hq Try.underlying32 rfl (by kernel_rfl)) rfl ?_
            exact HE
          by_cases e58 : c = 58
          · subst e58
            have HMK := HA2.mark hd
            have hov := over_q hR0 (t := false) (by exact decide_eq_false (by have := Dp.drop_lt hd; omega))
            have hn := pre_q hR0 hi2 ⟨#[10]⟩ (t := false) (by rw [hd]; rfl)
            have hC := pre_q hR0 hi2 ⟨#[58]⟩ (t := true) (by rw [hd]; rfl)
            clear hd
            go_wp2_with fail
            refine (hov _ hQ0).mono ?_
            rintro e W1 ⟨rfl, hQ1⟩
            go_wp2_with fail
            refine (hn _ hQ1).mono ?_
            rintro e W2 ⟨rfl, hQ2⟩
            go_wp2_with fail
            refine (hC _ hQ2).mono ?_
            rintro e W3 ⟨rfl, hQ3⟩
            obtain ⟨hR5, hG5, hG25, hO5, hT5⟩ := HKEEP.out W3 hQ3
            have c1' : W3.cell? ⟨b, 1, none⟩ = some (.int .i64 (i2 : Int)) := Rw.cell hR5 1
            have d1' : W3.frozen? ⟨b, 1, none⟩ = false := Rw.free hR5 1
            have HX : Hid _ := HMK.2 ⟨ht, by simp⟩
            have hR6 := hR5.move 1 1 rfl
            have hat6 := hR6.at_
            have hT6 := hT5.trans (Turn.put1 W3 b 1 (.int .i64 ((i2 : Int) + 1))) (by simp)
            have hO6 := Row.turn hO5 (Turn.put1 W3 b 1 (.int .i64 ((i2 : Int) + 1))) (fun g hg hm => by rw [List.mem_singleton] at hm; subst hm; exact absurd (hO5.lt _ hg).1 (by omega))
            have hG6 := hG5.turn (Turn.put1 W3 b 1 (.int .i64 ((i2 : Int) + 1))) (by simp; omega)
            have hG26 := hG25.turn (Turn.put1 W3 b 1 (.int .i64 ((i2 : Int) + 1))) (by simp; omega)
            clear hR0 hG0 hG20 hO0 k0 k1 m0 m1 n0 n1 l0 l1 HKEEP HZ HZr
            go_wp2
            rw [← HST.out] at hG6
            exact ⟨⟨i2 + 1, t, ds, true, _, rfl, hR6, hG6, hG26, hO6, HX, by have := HLT.out; omega, by have := HLT.out; omega, hT6⟩, by have := HLT.out; omega⟩
          have hstp : Dp.stops ((bs s).drop i2) = false := by
            rw [hd]
            rw [hd] at HBL
            by_cases e92 : c = 92
            · subst e92
              cases r with
              | nil => rfl
              | cons c r =>
                by_cases e10 : c = 10
                · subst e10; cases HBL
                · exact Dp.stops_esc e10
            · rw [Dp.stops_byte e92]
              have e32 : c ≠ 32 := by rintro rfl; cases HBL
              simp [Dp.stop, e10, e58, e32]
          have HWD := HA2.word hstp
          have hov := over_q hR0 (t := false) (by exact decide_eq_false (by have := Dp.drop_lt hd; omega))
          have hn := pre_q hR0 hi2 ⟨#[10]⟩ (t := false) (by rw [hd]; simp [List.isPrefixOf, Ne.symm e10])
          have hC := pre_q hR0 hi2 ⟨#[58]⟩ (t := false) (by rw [hd]; simp [List.isPrefixOf, Ne.symm e58])
          clear hd
          go_wp2_with fail
          refine (hov _ hQ0).mono ?_
          rintro e W1 ⟨rfl, hQ1⟩
          go_wp2_with fail
          refine (hn _ hQ1).mono ?_
          rintro e W2 ⟨rfl, hQ2⟩
          go_wp2_with fail
          refine (hC _ hQ2).mono ?_
          rintro e W3 ⟨rfl, hQ3⟩
          obtain ⟨hR5, hG5, hG25, hO5, hT5⟩ := HKEEP.out W3 hQ3
          have m0' : W3.cell? ⟨w.heap.size, 0, none⟩ = some (.string ⟨#[]⟩) := hG25.cell 0
          have m1' : W3.cell? ⟨w.heap.size, 1, none⟩ = some (.slice none 0 0) := hG25.cell 1
          have n0' : W3.frozen? ⟨w.heap.size, 0, none⟩ = false := hG25.free 0
          have n1' : W3.frozen? ⟨w.heap.size, 1, none⟩ = false := hG25.free 1
          have HE := HZ.out W3 hQ3 i2 (HWD.1 ⟨ht, by simp⟩) rfl
          have hq := HZr.out W3 hQ3
          clear hR0 hG0 hG20 hO0 k0 k1 m0 m1 n0 n1 l0 l1 HKEEP HZ HZr
          go_wp2
          refine bodyPost_ret (results_row_slot Try.results28 _ _ w.heap.size _ _ _ (.bool false) rfl rfl hq Try.underlying32 rfl (by kernel_rfl)) rfl ?_
          exact HE
    | true =>
      have ht : t ≠ [] := fun e => by have := (HA2.tgt e).2; cases this
      obtain ⟨st, hst⟩ : ∃ st, str t = st := ⟨_, rfl⟩
      rw [hst] at k0 hsn hG0
      have HST : Hid (str t = st) := hst
      rw [hst] at HKEEP
      clear hst
      rw [decide_eq_false ht] at hsn
      cases hd : (bs s).drop i2 with
      | nil =>
        have HFIN := HA2.fin (.inl hd)
        have hov := over_q hR0 (t := true) (by exact decide_eq_true (by have := congrArg List.length hd; rw [List.length_drop, List.length_nil] at this; omega))
        clear hd
        go_wp2_with fail
        refine (hov _ hQ0).mono ?_
        rintro e W1 ⟨rfl, hQ1⟩
        obtain ⟨hR5, hG5, hG25, hO5, hT5⟩ := HKEEP.out W1 hQ1
        have k0' : W1.cell? ⟨w.heap.size + 1, 0, none⟩ = some (.string st) := hG5.cell 0
        have k1' : W1.cell? ⟨w.heap.size + 1, 1, none⟩ = some (.slice va ds.length vc) := hG5.cell 1
        have m0' : W1.cell? ⟨w.heap.size, 0, none⟩ = some (.string ⟨#[]⟩) := hG25.cell 0
        have m1' : W1.cell? ⟨w.heap.size, 1, none⟩ = some (.slice none 0 0) := hG25.cell 1
        have n0' : W1.frozen? ⟨w.heap.size, 0, none⟩ = false := hG25.free 0
        have n1' : W1.frozen? ⟨w.heap.size, 1, none⟩ = false := hG25.free 1
        have c1' : W1.cell? ⟨b, 1, none⟩ = some (.int .i64 (i2 : Int)) := Rw.cell hR5 1
        have d1' : W1.frozen? ⟨b, 1, none⟩ = false := Rw.free hR5 1
        have hRes := HFIN.2 (fun x => by cases x.2)
        have hR6 := hR5.move 1 1 rfl
        have hT6 := hT5.trans (Turn.put1 W1 b 1 (.int .i64 ((i2 : Int) + 1))) (by simp)
        have hO6 : BR.Own (W1.setCell ⟨b, 1, none⟩ (.int .i64 ((i2 : Int) + 1))) (w.heap.size + 2) (.slice va ds.length vc) ds := Row.turn hO5 (Turn.put1 W1 b 1 _) (fun g hg hm => by rw [List.mem_singleton] at hm; subst hm; exact absurd (hO5.lt _ hg).1 (by omega))
        have hG6 := hG5.turn (Turn.put1 W1 b 1 (.int .i64 ((i2 : Int) + 1))) (by simp; omega)
        have hG26 := hG25.turn (Turn.put1 W1 b 1 (.int .i64 ((i2 : Int) + 1))) (by simp; omega)
        clear hR0 hG0 hG20 hO0 k0 k1 m0 m1 n0 n1 l0 l1 HKEEP HZ HZr
        go_upto_region 16 with fail
        generalize W1.setCell ⟨b, 1, none⟩ (.int .i64 ((i2 : Int) + 1)) = W9 at *
        clear k0' k1' m0' m1' n0' n1' c1' d1'
        have k0 : W9.cell? ⟨w.heap.size + 1, 0, none⟩ = some (.string st) := hG6.cell 0
        have k1 : W9.cell? ⟨w.heap.size + 1, 1, none⟩ = some (.slice va ds.length vc) := hG6.cell 1
        have m0 : W9.cell? ⟨w.heap.size, 0, none⟩ = some (.string ⟨#[]⟩) := hG26.cell 0
        have m1 : W9.cell? ⟨w.heap.size, 1, none⟩ = some (.slice none 0 0) := hG26.cell 1
        have n0 : W9.frozen? ⟨w.heap.size, 0, none⟩ = false := hG26.free 0
        have n1 : W9.frozen? ⟨w.heap.size, 1, none⟩ = false := hG26.free 1
        have hq := hG26.put2 (.string st) (.slice va ds.length vc)
        have hR7 := hR6.turn (Turn.put2 W9 w.heap.size (.string st) (.slice va ds.length vc)) (by simp; omega)
        have hT7 := hT6.trans (Turn.put2 W9 w.heap.size (.string st) (.slice va ds.length vc)) (by simp)
        have hO7 : BR.Own ((W9.setCell ⟨w.heap.size, 0, none⟩ (.string st)).setCell ⟨w.heap.size, 1, none⟩ (.slice va ds.length vc)) w.heap.size (.slice va ds.length vc) ds := Rc.Own.low (Row.turn hO6 (Turn.put2 W9 w.heap.size _ _) (fun g hg hm => by rw [List.mem_singleton] at hm; subst hm; exact absurd (hO6.lt _ hg).1 (by omega))) (by omega)
        go_wp2
        refine bodyPost_ret (results_row_slot Try.results28 _ _ w.heap.size _ _ _ (.bool true) rfl rfl hq Try.underlying32 rfl (by kernel_rfl)) rfl ?_
        exact ⟨hT7, .inr ⟨i2 + 1, t, ds, va, ds.length, vc, by rw [HST.out], hR7, by have := HLT.out; omega, by have := HLT.out; omega, hO7, hRes⟩⟩
      | cons c r =>
        by_cases e10 : c = 10
        · subst e10
          have HFIN := HA2.fin (.inr ⟨_, hd⟩)
          have hov := over_q hR0 (t := false) (by exact decide_eq_false (by have := Dp.drop_lt hd; omega))
          have hn := pre_q hR0 hi2 ⟨#[10]⟩ (t := true) (by rw [hd]; rfl)
          clear hd
          go_wp2_with fail
          refine (hov _ hQ0).mono ?_
          rintro e W1 ⟨rfl, hQ1⟩
          go_wp2_with fail
          refine (hn _ hQ1).mono ?_
          rintro e W2 ⟨rfl, hQ2⟩
          obtain ⟨hR5, hG5, hG25, hO5, hT5⟩ := HKEEP.out W2 hQ2
          have k0' : W2.cell? ⟨w.heap.size + 1, 0, none⟩ = some (.string st) := hG5.cell 0
          have k1' : W2.cell? ⟨w.heap.size + 1, 1, none⟩ = some (.slice va ds.length vc) := hG5.cell 1
          have m0' : W2.cell? ⟨w.heap.size, 0, none⟩ = some (.string ⟨#[]⟩) := hG25.cell 0
          have m1' : W2.cell? ⟨w.heap.size, 1, none⟩ = some (.slice none 0 0) := hG25.cell 1
          have n0' : W2.frozen? ⟨w.heap.size, 0, none⟩ = false := hG25.free 0
          have n1' : W2.frozen? ⟨w.heap.size, 1, none⟩ = false := hG25.free 1
          have c1' : W2.cell? ⟨b, 1, none⟩ = some (.int .i64 (i2 : Int)) := Rw.cell hR5 1
          have d1' : W2.frozen? ⟨b, 1, none⟩ = false := Rw.free hR5 1
          have hRes := HFIN.2 (fun x => by cases x.2)
          have hR6 := hR5.move 1 1 rfl
          have hT6 := hT5.trans (Turn.put1 W2 b 1 (.int .i64 ((i2 : Int) + 1))) (by simp)
          have hO6 : BR.Own (W2.setCell ⟨b, 1, none⟩ (.int .i64 ((i2 : Int) + 1))) (w.heap.size + 2) (.slice va ds.length vc) ds := Row.turn hO5 (Turn.put1 W2 b 1 _) (fun g hg hm => by rw [List.mem_singleton] at hm; subst hm; exact absurd (hO5.lt _ hg).1 (by omega))
          have hG6 := hG5.turn (Turn.put1 W2 b 1 (.int .i64 ((i2 : Int) + 1))) (by simp; omega)
          have hG26 := hG25.turn (Turn.put1 W2 b 1 (.int .i64 ((i2 : Int) + 1))) (by simp; omega)
          clear hR0 hG0 hG20 hO0 k0 k1 m0 m1 n0 n1 l0 l1 HKEEP HZ HZr
          go_upto_region 16 with fail
          generalize W2.setCell ⟨b, 1, none⟩ (.int .i64 ((i2 : Int) + 1)) = W9 at *
          clear k0' k1' m0' m1' n0' n1' c1' d1'
          have k0 : W9.cell? ⟨w.heap.size + 1, 0, none⟩ = some (.string st) := hG6.cell 0
          have k1 : W9.cell? ⟨w.heap.size + 1, 1, none⟩ = some (.slice va ds.length vc) := hG6.cell 1
          have m0 : W9.cell? ⟨w.heap.size, 0, none⟩ = some (.string ⟨#[]⟩) := hG26.cell 0
          have m1 : W9.cell? ⟨w.heap.size, 1, none⟩ = some (.slice none 0 0) := hG26.cell 1
          have n0 : W9.frozen? ⟨w.heap.size, 0, none⟩ = false := hG26.free 0
          have n1 : W9.frozen? ⟨w.heap.size, 1, none⟩ = false := hG26.free 1
          have hq := hG26.put2 (.string st) (.slice va ds.length vc)
          have hR7 := hR6.turn (Turn.put2 W9 w.heap.size (.string st) (.slice va ds.length vc)) (by simp; omega)
          have hT7 := hT6.trans (Turn.put2 W9 w.heap.size (.string st) (.slice va ds.length vc)) (by simp)
          have hO7 : BR.Own ((W9.setCell ⟨w.heap.size, 0, none⟩ (.string st)).setCell ⟨w.heap.size, 1, none⟩ (.slice va ds.length vc)) w.heap.size (.slice va ds.length vc) ds := Rc.Own.low (Row.turn hO6 (Turn.put2 W9 w.heap.size _ _) (fun g hg hm => by rw [List.mem_singleton] at hm; subst hm; exact absurd (hO6.lt _ hg).1 (by omega))) (by omega)
          go_wp2
          refine bodyPost_ret (results_row_slot Try.results28 _ _ w.heap.size _ _ _ (.bool true) rfl rfl hq Try.underlying32 rfl (by kernel_rfl)) rfl ?_
          exact ⟨hT7, .inr ⟨i2 + 1, t, ds, va, ds.length, vc, by rw [HST.out], hR7, by have := HLT.out; omega, by have := HLT.out; omega, hO7, hRes⟩⟩
        by_cases e58 : c = 58
        · subst e58
          have HMK := HA2.mark hd
          have hov := over_q hR0 (t := false) (by exact decide_eq_false (by have := Dp.drop_lt hd; omega))
          have hn := pre_q hR0 hi2 ⟨#[10]⟩ (t := false) (by rw [hd]; rfl)
          have hC := pre_q hR0 hi2 ⟨#[58]⟩ (t := true) (by rw [hd]; rfl)
          clear hd
          go_wp2_with fail
          refine (hov _ hQ0).mono ?_
          rintro e W1 ⟨rfl, hQ1⟩
          go_wp2_with fail
          refine (hn _ hQ1).mono ?_
          rintro e W2 ⟨rfl, hQ2⟩
          go_wp2_with fail
          refine (hC _ hQ2).mono ?_
          rintro e W3 ⟨rfl, hQ3⟩
          obtain ⟨hR5, hG5, hG25, hO5, hT5⟩ := HKEEP.out W3 hQ3
          have m0' : W3.cell? ⟨w.heap.size, 0, none⟩ = some (.string ⟨#[]⟩) := hG25.cell 0
          have m1' : W3.cell? ⟨w.heap.size, 1, none⟩ = some (.slice none 0 0) := hG25.cell 1
          have n0' : W3.frozen? ⟨w.heap.size, 0, none⟩ = false := hG25.free 0
          have n1' : W3.frozen? ⟨w.heap.size, 1, none⟩ = false := hG25.free 1
          have HE := HZ.out W3 hQ3 i2 (HMK.1 (fun x => by cases x.2)) rfl
          have hq := HZr.out W3 hQ3
          clear hR0 hG0 hG20 hO0 k0 k1 m0 m1 n0 n1 l0 l1 HKEEP HZ HZr
          go_wp2
          refine bodyPost_ret (results_row_slot Try.results28 _ _ w.heap.size _ _ _ (.bool false) rfl rfl hq Try.underlying32 rfl (by kernel_rfl)) rfl ?_
          exact HE
        have hstp : Dp.stops ((bs s).drop i2) = false := by
          rw [hd]
          rw [hd] at HBL
          by_cases e92 : c = 92
          · subst e92
            cases r with
            | nil => rfl
            | cons c r =>
              by_cases e10 : c = 10
              · subst e10; cases HBL
              · exact Dp.stops_esc e10
          · rw [Dp.stops_byte e92]
            have e32 : c ≠ 32 := by rintro rfl; cases HBL
            simp [Dp.stop, e10, e58, e32]
        have HWD := HA2.word hstp
        have hov := over_q hR0 (t := false) (by exact decide_eq_false (by have := Dp.drop_lt hd; omega))
        have hn := pre_q hR0 hi2 ⟨#[10]⟩ (t := false) (by rw [hd]; simp [List.isPrefixOf, Ne.symm e10])
        have hC := pre_q hR0 hi2 ⟨#[58]⟩ (t := false) (by rw [hd]; simp [List.isPrefixOf, Ne.symm e58])
        clear hd
        go_wp2_with fail
        refine (hov _ hQ0).mono ?_
        rintro e W1 ⟨rfl, hQ1⟩
        go_wp2_with fail
        refine (hn _ hQ1).mono ?_
        rintro e W2 ⟨rfl, hQ2⟩
        go_wp2_with fail
        refine (hC _ hQ2).mono ?_
        rintro e W3 ⟨rfl, hQ3⟩
        obtain ⟨hR5, hG5, hG25, hO5, hT5⟩ := HKEEP.out W3 hQ3
        obtain ⟨HBAD, HGO⟩ := HWD.2 (fun x => by cases x.2)
        have hWd := word_any W3 b s i2 hR5 hi2 hs
        go_wp2_with fail
        refine hWd.mono ?_
        rintro e W7 ⟨rfl, hR7, hT7⟩
        have hws := fun x k => Dp.wordR_some (w := x) (k := k) hstp
        have HBD : Hid _ := HBAD
        have HGG : Hid _ := HGO
        have HWS : Hid _ := hws
        clear HBAD HGO hws hWd HWD hstp HBL
        generalize Dp.wordR ((bs s).drop i2) = WD at *
        obtain ⟨o, k⟩ := WD
        have hG7 := hG5.turn hT7 (by simp; omega)
        have hG27 := hG25.turn hT7 (by simp; omega)
        have hO7 : BR.Own W7 (w.heap.size + 2) (.slice va ds.length vc) ds := Row.turn hO5 hT7 (fun g hg hm => by rw [List.mem_singleton] at hm; subst hm; exact absurd (hO5.lt _ hg).1 (by omega))
        have hT8 := hT5.trans hT7 (by simp)
        clear hR0 hG0 hG20 hO0 k0 k1 m0 m1 n0 n1 l0 l1 HKEEP HZ HZr hR5 hG5 hG25 hO5 hT5
        cases o with
        | none =>
          obtain ⟨hbd, -⟩ := HBD.out k rfl
          have m0 : W7.cell? ⟨w.heap.size, 0, none⟩ = some (.string ⟨#[]⟩) := hG27.cell 0
          have m1 : W7.cell? ⟨w.heap.size, 1, none⟩ = some (.slice none 0 0) := hG27.cell 1
          have n0 : W7.frozen? ⟨w.heap.size, 0, none⟩ = false := hG27.free 0
          have n1 : W7.frozen? ⟨w.heap.size, 1, none⟩ = false := hG27.free 1
          have hq := hG27.put2 (.string ⟨#[]⟩) (.slice none 0 0)
          have hR9 := hR7.turn (Turn.put2 W7 w.heap.size (.string ⟨#[]⟩) (.slice none 0 0)) (by simp; omega)
          have hT9 := hT8.trans (Turn.put2 W7 w.heap.size (.string ⟨#[]⟩) (.slice none 0 0)) (by simp)
          go_wp2
          refine bodyPost_ret (results_row_slot Try.results28 _ _ w.heap.size _ _ _ (.bool false) rfl rfl hq Try.underlying32 rfl (by kernel_rfl)) rfl ?_
          exact ⟨hT9, .inl ⟨_, rfl, hR9, hbd⟩⟩
        | some x =>
          have hgo := HGG.out x k rfl
          obtain ⟨hx, hk⟩ := HWS.out x k rfl
          have hle : i2 + k ≤ s.size := by rw [← hl]; exact hgo.le
          have HX : Hid _ := hgo
          clear hgo
          have hat7 := hR7.at_
          have hwf : ∀ (xs : ByteArray), str ((some x).getD []) = xs → str x = xs := fun _ h => h
          obtain ⟨xs, hxs⟩ : ∃ xs, str ((some x).getD []) = xs := ⟨_, rfl⟩
          have HXS : Hid (str x = xs) := hwf xs hxs
          rw [hxs]
          clear hxs hwf
          have k1 : W7.cell? ⟨w.heap.size + 1, 1, none⟩ = some (.slice va ds.length vc) := hG7.cell 1
          have hL := BR.lit W7 x #[.string xs] (by rw [← HXS.out]; rfl)
          have hO8 : BR.Own (W7.alloc (.cells #[.string xs] 9)) (w.heap.size + 2) (.slice va ds.length vc) ds := hO7.alloc _
          have HLn : Hid (ds.length + [x].length ≤ 1099511627) := by have := HLT.out; show _ ≤ _; simp only [List.length_cons, List.length_nil]; omega
          have hbs8 : w.heap.size + 2 ≤ (W7.alloc (.cells #[.string xs] 9)).heap.size := by have h1 := hG7.lt; rw [size_alloc]; omega
          have HK2 : Hid (∀ w5, (W7.alloc (.cells #[.string xs] 9)).grownBy w5 (Value.slice va ds.length vc).ownBlock → RdZ w5 b s (i2 + k) ∧ Rw w5 (w.heap.size + 1) #[.string st, .slice va ds.length vc] 32 ∧ Rw w5 w.heap.size #[.string ⟨#[]⟩, .slice none 0 0] 32 ∧ Turn [b] w w5) := fun w5 hg => by
            have hT9 : Turn (Value.slice va ds.length vc).ownBlock.toList W7 w5 := ((Turn.refl (Value.slice va ds.length vc).ownBlock.toList W7).alloc _).trans (Turn.of_grown hg) (fun x hx _ => hx)
            have hn : ∀ y, y < w.heap.size + 2 → y ∉ (Value.slice va ds.length vc).ownBlock.toList := fun y hy hm => absurd (hO7.lt y (by simpa using hm)).1 (by omega)
            exact ⟨hR7.turn hT9 (hn _ (by omega)), hG7.turn hT9 (hn _ (by omega)), hG27.turn hT9 (hn _ (by omega)), hT8.trans hT9 (fun y hy hl => absurd hy (hn y (by omega)))⟩
          clear hR7 hG27 hT8 hat7
          go_wp2_with (at_builtin; go_must (refine BR.append_at rfl _ _ rfl (w.heap.size + 2) (W7.heap.size + 1) _ _ ds [x] rfl hO8 rfl hL (by simp) HLn hbs8 ?_))
          intro g cap w5 hO9 hg9 hw9 hlt9
          obtain ⟨hR9, hG9, hG29, hT9⟩ := HK2.out w5 hg9
          have l1 : w5.frozen? ⟨w.heap.size + 1, 1, none⟩ = false := hG9.free 1
          have k1 : w5.cell? ⟨w.heap.size + 1, 1, none⟩ = some (.slice va ds.length vc) := hG9.cell 1
          have hgb := (hO9.lt g rfl).1
          have hR10 := hR9.turn (Turn.put1 w5 (w.heap.size + 1) 1 (.slice (some ⟨g, 0, none⟩) (ds.length + 1) cap)) (by simp; omega)
          have hat10 := hR10.at_
          have hG10 := hG9.set 1 (.slice (some ⟨g, 0, none⟩) (ds.length + 1) cap) (by simp)
          have hG210 := hG29.turn (Turn.put1 w5 (w.heap.size + 1) 1 (.slice (some ⟨g, 0, none⟩) (ds.length + 1) cap)) (by simp)
          have hO10 := Row.turn hO9 (Turn.put1 w5 (w.heap.size + 1) 1 (.slice (some ⟨g, 0, none⟩) (ds.length + 1) cap)) (fun y hy hm => by rw [List.mem_singleton] at hm; subst hm; exact absurd (hO9.lt _ hy).1 (by omega))
          have hT10 := hT9.trans (Turn.put1 w5 (w.heap.size + 1) 1 (.slice (some ⟨g, 0, none⟩) (ds.length + 1) cap)) (fun y hy hl => by rw [List.mem_singleton] at hy; omega)
          rw [← HST.out] at hG10
          clear hL hO8 hO7 hG7
          go_wp2
          exact ⟨⟨i2 + k, t, ds ++ [x], true, _, rfl, hR10, hG10, hG210, hO10, HX, by have := HLT.out; omega, by have := HLT.out; rw [List.length_append]; simp only [List.length_cons, List.length_nil]; omega, hT10⟩, by have := HLT.out; omega⟩

end Go.Proofs.Ytppcfidaalejfaa
