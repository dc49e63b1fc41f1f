/-
  WHAT THE DOCUMENT's Parse DOES.
-/
import Derived.Test.YtppcfidaalejfaaDpParK
import Derived.Test.YtppcfidaalejfaaRecStep
import Derived.Deep.RegionHeld3
namespace Go.Proofs.Ytppcfidaalejfaa
open Go.RowKit

theorem results_ds {fn : Func} {p q : Tmp} (h : fn.results = #[.tmp q, .cell p 26]) (tmps : Array Value) (W : World) {g : Nat} {cs : Array Value} {v : Value} (hR : Rw W g cs 26) (hz : cs.size = 2) (hp : tmps.getD p undef = .pointer (some ⟨g, 0, none⟩)) (hq : tmps.getD q undef = v) :
    (results fn tmps).run Try.prog W = .ok (.tuple #[v, .agg cs]) W :=
  results_slot_row h tmps W g _ cs _ v hp hq hR Try.underlying26 rfl (by rw [hz]; kernel_rfl)
theorem kind_byte {p : Dp.Pc} (h : Dp.kind p = 4) : ∃ c, p = .byte c := by
  cases p <;> simp [Dp.kind] at h ⊢
theorem kind_cases (p : Dp.Pc) : p = .blank ∨ p = .mark ∨ p = .fin ∨ ∃ c, p = .byte c := by
  cases p <;> simp

set_option maxRecDepth 100000 in
set_option maxHeartbeats 8000000 in
theorem ParseT_any (s : ByteArray) (w : World) : Calls Try.prog 13 #[.string s] w fun e w' => PsDEnd w w' e (Dp.parse (bs s)) := by
  obtain ⟨R, hR⟩ : ∃ R, Dp.parse (bs s) = R := ⟨_, rfl⟩
  rw [hR]
  have hr0 := Rw.new w #[.int .i64 0, .int .i64 0] 26
  have hb0 := below_new w (.cells #[.int .i64 0, .int .i64 0] 26)
  have hs0 : (w.alloc (.cells #[.int .i64 0, .int .i64 0] 26)).heap.size = w.heap.size + 1 := size_alloc _ _
  by_cases hlen : s.size ≤ 32768
  · have i0 : ¬ (s.size : Int) > 32768 := by omega
    have HERR : Hid (∀ i, Dp.run (Dp.pieces 0 (bs s)).1 Dp.Rd.zero = .inl i → R = .inl (6, i)) := fun i h => by
      rw [← hR]
      unfold Dp.parse Dp.read
      rw [if_neg (by rw [bs_length]; omega), h]
    have HYES : Hid (∀ t, Dp.run (Dp.pieces 0 (bs s)).1 Dp.Rd.zero = .inr t → R = match (Dp.pieces 0 (bs s)).2 with | some i => .inl (6, i) | none => .inr t.out) := fun t h => by
      rw [← hR]
      unfold Dp.parse Dp.read
      rw [if_neg (by rw [bs_length]; omega), h]
      cases (Dp.pieces 0 (bs s)).2 <;> rfl
    have hpl := Dp.pieces_len _ (bs s) 0 (Nat.le_refl _)
    rw [bs_length] at hpl
    have hP := fun W => PiecesT_any s W (by omega)
    clear hR
    generalize Dp.pieces 0 (bs s) = PB at *
    obtain ⟨PS, bad⟩ := PB
    simp only at HERR HYES hP hpl
    have HPL : Hid (PS.length ≤ 32769) := by show _ ≤ _; omega
    clear hpl hlen
    go_enter Try.func13, Try.ntmps13
    go_wp2_with fail
    generalize w.alloc (.cells #[.int .i64 0, .int .i64 0] 26) = W1 at *
    refine (hP W1).mono ?_
    rintro e W2 ⟨vp, rfl, hOP, hB2⟩
    have hr2 := hr0.below hB2 hr0.lt
    have hb2 := hb0.trans (hB2.mono (by omega))
    have hsz2 : w.heap.size < W2.heap.size := by have := hB2.size; omega
    have hSP := hOP.sl
    obtain ⟨pa, pc, rfl, hpc⟩ := hSP.shape
    clear hOP hB2 hr0 hb0 hs0 hP i0
    have hbp : (PS.length : Int) ≤ 32769 := by have := HPL.out; omega
    go_wp2
    go_loopw [6, 7, 8, 9] (fun vo vw m k wr => ∃ (i : Nat) (ps : List (RawD × Dp.Rule)) (Wd : List (List UInt8)) (mk : Bool) (st : Dp.Rd), i ≤ PS.length ∧ k = .int .i64 (i : Int) ∧ m = .bool mk ∧ Drs wr W2.heap.size vo ps ∧ BR.Own wr W2.heap.size vw Wd ∧ Hid (∀ g, vw.ownBlock = some g → ∀ p ∈ ps, p.1.deps.ownBlock ≠ some g) ∧ Hid (ps.length ≤ i ∧ Wd.length ≤ i) ∧ Hid (Dp.Rdx PS i Wd mk (ps.map Prod.snd) st) ∧ Below W2.heap.size W2 wr) (fun _ _ _ k _ => PS.length - (intOf k).toNat)
    case atStart => exact ⟨0, [], [], false, _, Nat.zero_le _, rfl, rfl, Drs.nil _ _, Rc.Own.nil _ _, (fun g h => by cases h), ⟨Nat.le_refl _, Nat.le_refl _⟩, Dp.Rdx.zero, Below.refl _ _⟩
    case round =>
      obtain ⟨i, ps, Wd, mk, st, hi, rfl, rfl, hD, hW, HAP, HLEN, HRX, hBe⟩ := hrel
      have hrr := hr2.below hBe hsz2
      have hbw := hb2.trans (hBe.mono (Nat.le_of_lt hsz2))
      by_cases hlt : i < PS.length
      · have i1 : (i : Int) < (PS.length : Int) := by omega
        have hSr := hSP.below hBe (Nat.le_refl _)
        obtain ⟨b, o, c0, e, hbl, p0, p1, p2⟩ := PcR.at hSr i hlt
        simp only [Value.slice.injEq] at e
        obtain ⟨rfl, -, rfl⟩ := e
        obtain ⟨p, hp⟩ : ∃ p, PS.getD i Dp.noP = p := ⟨_, rfl⟩
        rw [hp] at p0 p1 p2
        have HP : Hid _ := hp
        clear hp
        obtain ⟨kd, at_⟩ := p
        simp only at p0 p1 p2
        have hwsh := hW.sl.shape
        obtain ⟨wa, wc, rfl, hwc⟩ := hwsh
        obtain ⟨oa, oc, e6, hoc⟩ := hD.row.sl.shape
        rw [List.length_map] at e6 hoc
        subst e6
        have z0 : wr.cell? ⟨w.heap.size, 0, none⟩ = some (.int .i64 0) := hrr.cell 0
        have z1 : wr.cell? ⟨w.heap.size, 1, none⟩ = some (.int .i64 0) := hrr.cell 1
        have f0 := hrr.free 0
        have f1 := hrr.free 1
        rcases kind_cases kd with rfl | rfl | rfl | ⟨cc, rfl⟩
        · -- a blank
          have HX : Hid (Dp.Rdx PS (i + 1) Wd mk (ps.map Prod.snd) _) := HRX.out.blank hlt (by rw [HP.out])
          have HL2 : Hid (ps.length ≤ i + 1 ∧ Wd.length ≤ i + 1) := ⟨by have := HLEN.out.1; omega, by have := HLEN.out.2; omega⟩
          have p0 : wr.cell? ⟨b, o + i * 3, none⟩ = some (.int .i64 1) := p0
          clear p1 p2 HRX HLEN
          go_wp2
          exact ⟨⟨i + 1, ps, Wd, mk, _, by omega, by go_num, rfl, hD, hW, HAP, HL2, HX, hBe⟩, by simp [intOf]; omega⟩
        · -- a mark
          have p0 : wr.cell? ⟨b, o + i * 3, none⟩ = some (.int .i64 2) := p0
          have HL2 : Hid (ps.length ≤ i + 1 ∧ Wd.length ≤ i + 1) := ⟨by have := HLEN.out.1; omega, by have := HLEN.out.2; omega⟩
          by_cases hw : Wd = []
          · have HE : Hid (R = .inl (6, at_)) := HERR.out _ (by rw [HRX.out.markBad hlt (by rw [HP.out]) (.inl hw), HP.out])
            have l0 : ((Wd.length : Int) == 0) = true := by rw [hw]; rfl
            clear hw HRX HLEN HP p1
            have hT := (Turn.put2 wr w.heap.size (.int .i64 6) (.int .i64 (at_ : Int))).drew
            have q3 : Rw (((wr.setCell ⟨w.heap.size, 0, none⟩ (.int .i64 6)).setCell ⟨w.heap.size, 1, none⟩ (.int .i64 (at_ : Int))).drew) w.heap.size #[.int .i64 6, .int .i64 (at_ : Int)] 26 := hrr.put2 (.int .i64 6) (.int .i64 (at_ : Int))
            go_upto_region 13 with fail
            go_region
            all_goals go_wp2
            all_goals (
              refine bodyPost_ret (results_ds Try.results13 _ _ q3 rfl rfl rfl) rfl ?_
              rw [HE.out]
              exact ⟨rfl, hT.bel hbw (by simp)⟩)
          · have l0 : ((Wd.length : Int) == 0) = false := by rw [beq_eq_false_iff_ne]; intro h; exact hw (List.eq_nil_of_length_eq_zero (by omega))
            cases mk with
            | true =>
              have HE : Hid (R = .inl (6, at_)) := HERR.out _ (by rw [HRX.out.markBad hlt (by rw [HP.out]) (.inr rfl), HP.out])
              clear hw HRX HLEN HP p1
              have hT := (Turn.put2 wr w.heap.size (.int .i64 6) (.int .i64 (at_ : Int))).drew
              have q3 : Rw (((wr.setCell ⟨w.heap.size, 0, none⟩ (.int .i64 6)).setCell ⟨w.heap.size, 1, none⟩ (.int .i64 (at_ : Int))).drew) w.heap.size #[.int .i64 6, .int .i64 (at_ : Int)] 26 := hrr.put2 (.int .i64 6) (.int .i64 (at_ : Int))
              go_upto_region 13 with fail
              go_region
              all_goals go_wp2
              all_goals (
                refine bodyPost_ret (results_ds Try.results13 _ _ q3 rfl rfl rfl) rfl ?_
                rw [HE.out]
                exact ⟨rfl, hT.bel hbw (by simp)⟩)
            | false =>
              have HX : Hid (Dp.Rdx PS (i + 1) Wd true (ps.map Prod.snd) _) := HRX.out.mark hlt (by rw [HP.out]) hw rfl
              clear p1 p2 HRX HLEN hw
              go_wp2
              exact ⟨⟨i + 1, ps, Wd, true, _, by omega, by go_num, rfl, hD, hW, HAP, HL2, HX, hBe⟩, by simp [intOf]; omega⟩
        · -- a line's end
          have p0 : wr.cell? ⟨b, o + i * 3, none⟩ = some (.int .i64 3) := p0
          cases Wd with
          | nil =>
            have HX : Hid (Dp.Rdx PS (i + 1) [] false (ps.map Prod.snd) _) := HRX.out.fin0 hlt (by rw [HP.out])
            have HL2 : Hid (ps.length ≤ i + 1 ∧ ([] : List (List UInt8)).length ≤ i + 1) := ⟨by have := HLEN.out.1; omega, Nat.zero_le _⟩
            have HAP2 : Hid (∀ g, (Value.slice none 0 0).ownBlock = some g → ∀ p ∈ ps, p.1.deps.ownBlock ≠ some g) := fun g h => by cases h
            rw [List.length_nil]
            have l0 : ¬ ((0 : Nat) : Int) > 0 := by omega
            clear p1 p2 HRX HLEN HP HAP
            go_wp2
            exact ⟨⟨i + 1, ps, [], false, _, by omega, by go_num, rfl, hD, Rc.Own.nil _ _, HAP2, HL2, HX, hBe⟩, by simp [intOf]; omega⟩
          | cons t d =>
            obtain ⟨n, hn⟩ : ∃ n, (t :: d).length = n := ⟨_, rfl⟩
            have hn1 : n = d.length + 1 := by rw [← hn]; rfl
            rw [hn]
            have l0 : ((n : Nat) : Int) > 0 := by omega
            cases mk with
            | false =>
              have HE : Hid (R = .inl (6, at_)) := HERR.out _ (by rw [HRX.out.finBad hlt (by rw [HP.out]), HP.out])
              clear HRX HLEN HP p1 hn1 hn
              have hT := (Turn.put2 wr w.heap.size (.int .i64 6) (.int .i64 (at_ : Int))).drew
              have q3 : Rw (((wr.setCell ⟨w.heap.size, 0, none⟩ (.int .i64 6)).setCell ⟨w.heap.size, 1, none⟩ (.int .i64 (at_ : Int))).drew) w.heap.size #[.int .i64 6, .int .i64 (at_ : Int)] 26 := hrr.put2 (.int .i64 6) (.int .i64 (at_ : Int))
              go_upto_region 17 with fail
              go_region
              all_goals go_wp2
              all_goals (
                refine bodyPost_ret (results_ds Try.results13 _ _ q3 rfl rfl rfl) rfl ?_
                rw [HE.out]
                exact ⟨rfl, hT.bel hbw (by simp)⟩)
            | true =>
              have HX : Hid (Dp.Rdx PS (i + 1) [] false (ps.map Prod.snd ++ [(t, d)]) _) := HRX.out.fin hlt (by rw [HP.out])
              have HL2 : Hid (ps.length + 1 ≤ i + 1 ∧ ([] : List (List UInt8)).length ≤ i + 1) := ⟨by have := HLEN.out.1; omega, Nat.zero_le _⟩
              have hdl : d.length ≤ 32769 := by have h1 := HLEN.out.2; have h2 := HPL.out; rw [List.length_cons] at h1; omega
              have hpl : ps.length ≤ 32769 := by have h1 := HLEN.out.1; have h2 := HPL.out; omega
              obtain ⟨gw, cw, e, hgwb, hgwl, -, -⟩ := Rc.Own.set hW 0 0 (by simp) (by decide)
              simp only [Value.slice.injEq, true_and] at e
              obtain ⟨rfl, rfl⟩ := e
              have k0 : wr.cell? ⟨gw, 0, none⟩ = some (.string (str t)) := by
                obtain ⟨b5, o5, c5, e5, -, r5⟩ := BR.ix hW.sl (j := 0) (by simp)
                simp only [Value.slice.injEq, Option.some.injEq, Addr.mk.injEq, and_true] at e5
                obtain ⟨⟨rfl, rfl⟩, -, -⟩ := e5
                exact r5
              obtain ⟨A, hA, hAS⟩ := Rc.slice_tail hW.sl 1 (by simp)
              rw [hn] at hA hAS
              have en : n - 1 = d.length := by omega
              rw [en] at hA hAS
              have hA' : ∀ X : World, (Instr.slice 30 (.slice (some ⟨gw, 0, none⟩) n wc) (some (.int .i64 1)) none none).run Try.prog X = .ok (.slice A d.length (wc - 1)) X := hA
              have hAS : BR.Sl wr wr.heap.size (.slice A d.length (wc - 1)) d := hAS
              generalize wc - 1 = wc1 at *
              obtain ⟨dl, hdl2⟩ : ∃ dl, d.length = dl := ⟨_, rfl⟩
              have HDL : Hid _ := hdl2
              rw [hdl2] at hA' hAS
              obtain ⟨s0, hs0⟩ : ∃ s0, str t = s0 := ⟨_, rfl⟩
              have HS0 : Hid _ := hs0
              rw [hs0] at k0
              have HSS : Hid (∀ X, Below wr.heap.size wr X → X.cell? ⟨gw, 0, none⟩ = some (.string s0)) := fun X h => (h.cell (p := ⟨gw, 0, none⟩) hgwl).trans k0
              have hWn : BR.Own wr W2.heap.size (.slice (some ⟨gw, 0, none⟩) n wc) (t :: d) := by rw [← hn]; exact hW
              have HKG : Hid (∀ X wG, Below wr.heap.size wr X → X.grownBy wG (Value.slice oa ps.length oc).ownBlock → wG.cell? ⟨gw, 0, none⟩ = some (.string s0)) := fun X wG h hg => by
                have h1 := hWn.below h (Nat.le_refl _)
                have h2 : BR.Own wG W2.heap.size (.slice (some ⟨gw, 0, none⟩) n wc) (t :: d) := World.ownsRow.kept h1 hg (own_apart h1 (hD.row.below h (Nat.le_refl _)) (by decide))
                obtain ⟨b5, o5, c5, e5, -, r5⟩ := BR.ix h2.sl (j := 0) (by simp)
                simp only [Value.slice.injEq, Option.some.injEq, Addr.mk.injEq, and_true] at e5
                obtain ⟨⟨rfl, rfl⟩, -, -⟩ := e5
                rw [← hs0]
                exact r5
              have HB2 : Hid (W2.heap.size ≤ wr.heap.size) := hBe.size
              have HROW : Hid (∀ X, Below wr.heap.size wr X → DrR.Own X W2.heap.size (.slice oa ps.length oc) (ps.map Prod.fst)) := fun X h => hD.row.below h (Nat.le_refl _)
              have hAd : BR.Sl wr wr.heap.size (.slice A dl wc1) d := hAS
              have HLn : Hid ((ps.map Prod.fst).length + 1 ≤ 1099511627) := by show _ ≤ _; simp only [List.length_map]; omega
              have k0d : wr.drew.cell? ⟨gw, 0, none⟩ = some (.string s0) := k0
              have l1 : (0 : Int) < ((n : Nat) : Int) := by omega
              have HDLL : d.length ≤ 10000000 := by omega
              clear p1 p2 HRX HLEN HP HAP hn hn1 hA hAS en hdl hpl hdl2 hs0 hW hWn
              go_upto_region 19 with fail
              go_region_held3 (fun X : World => X.cell? ⟨gw, 0, none⟩ = some (.string s0))
                (first | assumption | (refine HSS.out _ ?_; repeat (first | assumption | exact Below.refl _ _ | refine belowA ?_ _ | refine belowD ?_)))
                (first
                  | (refine Rc.dup BR ?_ (.tmp 67) (.tmp 69) ?_ wr ?_ (.slice A dl wc1) d ?_ hAd HDLL ?_ ?_; (next => rfl); (next => rfl); (next => exact ⟨_, rfl, Nat.le_refl _, heap_alloc_new _ _⟩); (next => rfl); (next => repeat (first | assumption | exact Below.refl _ _ | refine belowA ?_ _ | refine belowD ?_)); intro gF capF wF hrowF hkF hbF; have hszF := hbF.size; rw [HDL.out])
                  | (refine Rc.step_app_at DrR ?_ (.tmp 63) (.tmp 72) ?_ W2.heap.size (wF.heap.size + 1) (.slice oa ps.length oc) _ (ps.map Prod.fst) [⟨t, some ⟨gF, 0, none⟩, dl, capF⟩] ?_ (HROW.out _ (by repeat (first | assumption | exact Below.refl _ _ | refine belowA ?_ _ | refine belowD ?_))) ?_ (DrR.lit wF ⟨t, some ⟨gF, 0, none⟩, dl, capF⟩ #[.string s0, .slice (some ⟨gF, 0, none⟩) dl capF] (by rw [← HS0.out]; rfl)) (by simp) HLn ?_ ?_; (next => rfl); (next => rfl); (next => rfl); (next => rfl); (next => have h1 := HB2.out; have h2 := hbF.size; show _ ≤ (wF.alloc _).heap.size; rw [size_alloc]; omega); intro gG capG wG hrowG hgG hwG; have hSG := HKG.out _ wG (by repeat (first | assumption | exact Below.refl _ _ | refine belowA ?_ _ | refine belowD ?_)) hgG)
                  | fail)
              have hLD := Drs.laid (t := t) hD HB2.out hrowF hbF (below_new wF _) (by rw [HDL.out]; exact hrowG) hgG
              rw [HDL.out] at hLD
              have HX2 : Hid (Dp.Rdx PS (i + 1) [] false ((ps ++ [((⟨t, some ⟨gF, 0, none⟩, dl, capF⟩ : RawD), ((t, d) : Dp.Rule))]).map Prod.snd) ⟨[], none, false, ps.map Prod.snd ++ [(t, d)]⟩) := by rw [List.map_append]; exact HX.out
              have HL3 : Hid ((ps ++ [((⟨t, some ⟨gF, 0, none⟩, dl, capF⟩ : RawD), ((t, d) : Dp.Rule))]).length ≤ i + 1 ∧ ([] : List (List UInt8)).length ≤ i + 1) := ⟨by rw [List.length_append]; exact HL2.out.1, HL2.out.2⟩
              have HAP2 : Hid (∀ g, (Value.slice none 0 0).ownBlock = some g → ∀ p ∈ ps ++ [((⟨t, some ⟨gF, 0, none⟩, dl, capF⟩ : RawD), ((t, d) : Dp.Rule))], p.1.deps.ownBlock ≠ some g) := fun g h => by cases h
              obtain ⟨hLD1, hLD2⟩ := hLD
              rw [List.length_map] at hLD1
              have hLD1 : Drs wG W2.heap.size (.slice (some ⟨gG, 0, none⟩) (ps.length + 1) capG) _ := hLD1
              go_wp2
              exact ⟨⟨i + 1, _, [], false, _, by omega, by go_num, rfl, hLD1, Rc.Own.nil _ _, HAP2, HL3, HX2, hBe.trans hLD2⟩, by simp [intOf]; omega⟩
        · -- a word
          have p0 : wr.cell? ⟨b, o + i * 3, none⟩ = some (.int .i64 4) := p0
          have p1 : wr.cell? ⟨b, o + i * 3 + 1, none⟩ = some (.int .u8 (cc.toNat : Int)) := p1
          have hbw_ := hbw
          by_cases hbad : Wd.length = 1 ∧ mk = false
          · have HE : Hid (R = .inl (6, at_)) := HERR.out _ (by rw [HRX.out.byteBad hlt (by rw [HP.out]) hbad.1 hbad.2, HP.out])
            have l1 : ((Wd.length : Int) == 1) = true := by rw [beq_iff_eq]; omega
            obtain ⟨hb1_, rfl⟩ := hbad
            clear HRX HLEN HP p1 hb1_ hbw_
            have hT := (Turn.put2 wr w.heap.size (.int .i64 6) (.int .i64 (at_ : Int))).drew
            have q3 : Rw (((wr.setCell ⟨w.heap.size, 0, none⟩ (.int .i64 6)).setCell ⟨w.heap.size, 1, none⟩ (.int .i64 (at_ : Int))).drew) w.heap.size #[.int .i64 6, .int .i64 (at_ : Int)] 26 := hrr.put2 (.int .i64 6) (.int .i64 (at_ : Int))
            go_upto_region 24 with fail
            go_region
            all_goals go_wp2
            all_goals (
              refine bodyPost_ret (results_ds Try.results13 _ _ q3 rfl rfl rfl) rfl ?_
              rw [HE.out]
              exact ⟨rfl, hT.bel hbw (by simp)⟩)
          · have hbw := hbad
            by_cases hl1 : Wd.length = 1
            · have l1 : ((Wd.length : Int) == 1) = true := by rw [beq_iff_eq]; omega
              obtain rfl : mk = true := by
                cases mk with
                | true => rfl
                | false => exact absurd ⟨hl1, rfl⟩ hbad
              clear hbad hl1
              have HRUN0 : Hid (Dp.run PS Dp.Rd.zero = Dp.run (PS.drop (i + 1)) ⟨Wd, some [cc], true, ps.map Prod.snd⟩) := HRX.out.byte hlt (by rw [HP.out]) hbw
              have hOB : Own (wr.alloc (.cells #[.int .u8 (cc.toNat : Int)] 5)) wr.heap.size (.slice (some ⟨wr.heap.size, 0, none⟩) 1 1) [cc] := World.ownsRow_lit (size := 1) wr #[.int .u8 (cc.toNat : Int)] 1 (Nat.le_refl _) (by decide) rfl
              have hBB := below_new wr (.cells #[.int .u8 (cc.toNat : Int)] 5)
              clear HRX HP hbw p2 z0 z1 f0 f1
              obtain ⟨W4, hW4⟩ : ∃ W4, wr = W4 := ⟨_, rfl⟩
              rw [hW4] at hD hW hBe hrr hbw_ hSr p0 p1 hOB hBB ⊢
              clear hW4
              go_wp2
              go_loopw [9, 10] (fun k vs wr => ∃ (j : Nat) (X : List UInt8), i ≤ j ∧ j < PS.length ∧ k = .int .i64 (j : Int) ∧ Own wr W4.heap.size vs X ∧ Hid (X.length ≤ j + 1) ∧ Hid (Dp.run PS Dp.Rd.zero = Dp.run (PS.drop (j + 1)) ⟨Wd, some X, true, ps.map Prod.snd⟩) ∧ Below W4.heap.size W4 wr) (fun k _ _ => PS.length - (intOf k).toNat)
              case atStart => exact ⟨i, [cc], Nat.le_refl _, hlt, rfl, hOB, (by simp [Hid]), HRUN0, hBB⟩
              case round =>
                obtain ⟨j, X, hij, hjl, rfl, hOX, HLX, HRUN, hBq⟩ := hrel
                have j0 : (j : Int) + 1 ≤ (PS.length : Int) := by omega
                obtain ⟨xa, xc, rfl, hxc, -⟩ := hOX.byts
                by_cases hj1 : j + 1 < PS.length
                · have j1 : (j : Int) + 1 < (PS.length : Int) := by omega
                  obtain ⟨b3, o3, c3, e, hbl3, k0, k1, k2⟩ := PcR.at (hSr.below hBq hBe.size) (j + 1) hj1
                  simp only [Value.slice.injEq, Option.some.injEq, Addr.mk.injEq, and_true] at e
                  obtain ⟨⟨rfl, rfl⟩, -⟩ := e
                  obtain ⟨p3, hp3⟩ : ∃ p3, PS.getD (j + 1) Dp.noP = p3 := ⟨_, rfl⟩
                  rw [hp3] at k0 k1 k2
                  obtain ⟨kd3, at3⟩ := p3
                  simp only at k0 k1
                  by_cases hby : ∃ c, kd3 = .byte c
                  · obtain ⟨c3, rfl⟩ := hby
                    have k0 : wr.cell? ⟨b, o + (j + 1) * 3, none⟩ = some (.int .i64 4) := k0
                    have k1 : wr.cell? ⟨b, o + (j + 1) * 3 + 1, none⟩ = some (.int .u8 (c3.toNat : Int)) := k1
                    have HRUN2 : Hid _ := Dp.byte_more HRUN.out hj1 (by rw [hp3])
                    have HLB : Hid (X.length ≤ 1099511627800) := by have h1 := HLX.out; have h2 := HPL.out; show _ ≤ _; omega
                    have HLX2 : Hid ((X ++ [c3]).length ≤ j + 1 + 1) := by have h1 := HLX.out; show _ ≤ _; rw [List.length_append, List.length_cons, List.length_nil]; omega
                    clear hp3 HRUN HLX k2
                    go_wp2_with (at_builtin; go_must (refine wpList_append_byte wr rfl (.tmp 111) (.tmp 117) rfl W4.heap.size _ X _ c3 rfl rfl hOX rfl HLB hBq.size ?_))
                    intro v5 w5 hO5 hB5
                    go_wp2
                    exact ⟨⟨j + 1, X ++ [c3], by omega, hj1, by go_num, hO5, HLX2, HRUN2, hBq.trans hB5⟩, by simp [intOf]; omega⟩
                  · have HNB : Hid (∀ c, (PS.getD (j + 1) Dp.noP).1 ≠ .byte c) := fun c h => hby ⟨c, by rw [hp3] at h; exact h⟩
                    have kf : (Dp.kind kd3 == 4) = false := by rw [beq_eq_false_iff_ne]; exact fun h => hby (kind_byte h)
                    generalize Dp.kind kd3 = kk at *
                    clear hby hp3 k1 k2
                    have hcv := conv_byts hOX.byts
                    have hLt := BR.lit wr X #[.string (str X)] rfl
                    have hWr := (hW.below hBq (Nat.le_refl _)).alloc (.cells #[.string (str X)] 9)
                    have HWn : Hid (Wd.length + [X].length ≤ 1099511627) := by have h1 := HLEN.out.2; have h2 := HPL.out; show _ ≤ _; simp only [List.length_cons, List.length_nil]; omega
                    have hzb : W2.heap.size ≤ (wr.alloc (.cells #[.string (str X)] 9)).heap.size := by have h1 := hBe.size; have h2 := hBq.size; rw [size_alloc]; omega
                    have HX2 : Hid (Dp.Rdx PS (j + 1) (Wd ++ [X]) true (ps.map Prod.snd) _) := Dp.Rdx.word HRUN.out HNB.out
                    have HL2 : Hid (ps.length ≤ j + 1 ∧ (Wd ++ [X]).length ≤ j + 1) := ⟨by have := HLEN.out.1; omega, by have := HLEN.out.2; rw [List.length_append, List.length_cons, List.length_nil]; omega⟩
                    clear HRUN HNB HLX
                    go_wp2_with (at_builtin; go_must (refine BR.append_at rfl (.tmp 119) (.tmp 122) rfl W2.heap.size (wr.heap.size + 1) _ _ Wd [X] rfl hWr rfl hLt (by simp) HWn hzb ?_))
                    intro g cap w5 hO5 hg5 hw5 hlt5
                    obtain ⟨hD5, hap5, hB5⟩ := words_push hD hW hBe.size hBq hg5 hw5 HAP.out
                    have HAP2 : Hid (∀ q, (Value.slice (some ⟨g, 0, none⟩) (Wd.length + 1) cap).ownBlock = some q → ∀ p ∈ ps, p.1.deps.ownBlock ≠ some q) := fun q hq => by
                      have hq : some g = some q := hq
                      rw [Option.some.injEq] at hq
                      subst hq
                      exact hap5
                    clear hLt hWr HWn hzb hg5 hw5 hcv
                    go_wp2
                    exact ⟨⟨j + 1, ps, Wd ++ [X], true, _, by omega, by go_num, rfl, hD5, hO5, HAP2, HL2, HX2, hBe.trans hB5⟩, by simp [intOf]; omega⟩
                · have j1 : ¬ (j : Int) + 1 < (PS.length : Int) := by omega
                  have HNB : Hid (∀ c, (PS.getD (j + 1) Dp.noP).1 ≠ .byte c) := Dp.getD_last (by omega)
                  have hcv := conv_byts hOX.byts
                  have hLt := BR.lit wr X #[.string (str X)] rfl
                  have hWr := (hW.below hBq (Nat.le_refl _)).alloc (.cells #[.string (str X)] 9)
                  have HWn : Hid (Wd.length + [X].length ≤ 1099511627) := by have h1 := HLEN.out.2; have h2 := HPL.out; show _ ≤ _; simp only [List.length_cons, List.length_nil]; omega
                  have hzb : W2.heap.size ≤ (wr.alloc (.cells #[.string (str X)] 9)).heap.size := by have h1 := hBe.size; have h2 := hBq.size; rw [size_alloc]; omega
                  have HX2 : Hid (Dp.Rdx PS (j + 1) (Wd ++ [X]) true (ps.map Prod.snd) _) := Dp.Rdx.word HRUN.out HNB.out
                  have HL2 : Hid (ps.length ≤ j + 1 ∧ (Wd ++ [X]).length ≤ j + 1) := ⟨by have := HLEN.out.1; omega, by have := HLEN.out.2; rw [List.length_append, List.length_cons, List.length_nil]; omega⟩
                  clear HRUN HNB HLX
                  go_wp2_with (at_builtin; go_must (refine BR.append_at rfl (.tmp 119) (.tmp 122) rfl W2.heap.size (wr.heap.size + 1) _ _ Wd [X] rfl hWr rfl hLt (by simp) HWn hzb ?_))
                  intro g cap w5 hO5 hg5 hw5 hlt5
                  obtain ⟨hD5, hap5, hB5⟩ := words_push hD hW hBe.size hBq hg5 hw5 HAP.out
                  have HAP2 : Hid (∀ q, (Value.slice (some ⟨g, 0, none⟩) (Wd.length + 1) cap).ownBlock = some q → ∀ p ∈ ps, p.1.deps.ownBlock ≠ some q) := fun q hq => by
                    have hq : some g = some q := hq
                    rw [Option.some.injEq] at hq
                    subst hq
                    exact hap5
                  clear hLt hWr HWn hzb hg5 hw5 hcv
                  go_wp2
                  exact ⟨⟨j + 1, ps, Wd ++ [X], true, _, by omega, by go_num, rfl, hD5, hO5, HAP2, HL2, HX2, hBe.trans hB5⟩, by simp [intOf]; omega⟩
            · have l1 : ((Wd.length : Int) == 1) = false := by rw [beq_eq_false_iff_ne]; omega
              clear hbad hl1
              have HRUN0 : Hid (Dp.run PS Dp.Rd.zero = Dp.run (PS.drop (i + 1)) ⟨Wd, some [cc], mk, ps.map Prod.snd⟩) := HRX.out.byte hlt (by rw [HP.out]) hbw
              have hOB : Own (wr.alloc (.cells #[.int .u8 (cc.toNat : Int)] 5)) wr.heap.size (.slice (some ⟨wr.heap.size, 0, none⟩) 1 1) [cc] := World.ownsRow_lit (size := 1) wr #[.int .u8 (cc.toNat : Int)] 1 (Nat.le_refl _) (by decide) rfl
              have hBB := below_new wr (.cells #[.int .u8 (cc.toNat : Int)] 5)
              clear HRX HP hbw p2 z0 z1 f0 f1
              obtain ⟨W4, hW4⟩ : ∃ W4, wr = W4 := ⟨_, rfl⟩
              rw [hW4] at hD hW hBe hrr hbw_ hSr p0 p1 hOB hBB ⊢
              clear hW4
              go_wp2
              go_loopw [9, 10] (fun k vs wr => ∃ (j : Nat) (X : List UInt8), i ≤ j ∧ j < PS.length ∧ k = .int .i64 (j : Int) ∧ Own wr W4.heap.size vs X ∧ Hid (X.length ≤ j + 1) ∧ Hid (Dp.run PS Dp.Rd.zero = Dp.run (PS.drop (j + 1)) ⟨Wd, some X, mk, ps.map Prod.snd⟩) ∧ Below W4.heap.size W4 wr) (fun k _ _ => PS.length - (intOf k).toNat)
              case atStart => exact ⟨i, [cc], Nat.le_refl _, hlt, rfl, hOB, (by simp [Hid]), HRUN0, hBB⟩
              case round =>
                obtain ⟨j, X, hij, hjl, rfl, hOX, HLX, HRUN, hBq⟩ := hrel
                have j0 : (j : Int) + 1 ≤ (PS.length : Int) := by omega
                obtain ⟨xa, xc, rfl, hxc, -⟩ := hOX.byts
                by_cases hj1 : j + 1 < PS.length
                · have j1 : (j : Int) + 1 < (PS.length : Int) := by omega
                  obtain ⟨b3, o3, c3, e, hbl3, k0, k1, k2⟩ := PcR.at (hSr.below hBq hBe.size) (j + 1) hj1
                  simp only [Value.slice.injEq, Option.some.injEq, Addr.mk.injEq, and_true] at e
                  obtain ⟨⟨rfl, rfl⟩, -⟩ := e
                  obtain ⟨p3, hp3⟩ : ∃ p3, PS.getD (j + 1) Dp.noP = p3 := ⟨_, rfl⟩
                  rw [hp3] at k0 k1 k2
                  obtain ⟨kd3, at3⟩ := p3
                  simp only at k0 k1
                  by_cases hby : ∃ c, kd3 = .byte c
                  · obtain ⟨c3, rfl⟩ := hby
                    have k0 : wr.cell? ⟨b, o + (j + 1) * 3, none⟩ = some (.int .i64 4) := k0
                    have k1 : wr.cell? ⟨b, o + (j + 1) * 3 + 1, none⟩ = some (.int .u8 (c3.toNat : Int)) := k1
                    have HRUN2 : Hid _ := Dp.byte_more HRUN.out hj1 (by rw [hp3])
                    have HLB : Hid (X.length ≤ 1099511627800) := by have h1 := HLX.out; have h2 := HPL.out; show _ ≤ _; omega
                    have HLX2 : Hid ((X ++ [c3]).length ≤ j + 1 + 1) := by have h1 := HLX.out; show _ ≤ _; rw [List.length_append, List.length_cons, List.length_nil]; omega
                    clear hp3 HRUN HLX k2
                    go_wp2_with (at_builtin; go_must (refine wpList_append_byte wr rfl (.tmp 111) (.tmp 117) rfl W4.heap.size _ X _ c3 rfl rfl hOX rfl HLB hBq.size ?_))
                    intro v5 w5 hO5 hB5
                    go_wp2
                    exact ⟨⟨j + 1, X ++ [c3], by omega, hj1, by go_num, hO5, HLX2, HRUN2, hBq.trans hB5⟩, by simp [intOf]; omega⟩
                  · have HNB : Hid (∀ c, (PS.getD (j + 1) Dp.noP).1 ≠ .byte c) := fun c h => hby ⟨c, by rw [hp3] at h; exact h⟩
                    have kf : (Dp.kind kd3 == 4) = false := by rw [beq_eq_false_iff_ne]; exact fun h => hby (kind_byte h)
                    generalize Dp.kind kd3 = kk at *
                    clear hby hp3 k1 k2
                    have hcv := conv_byts hOX.byts
                    have hLt := BR.lit wr X #[.string (str X)] rfl
                    have hWr := (hW.below hBq (Nat.le_refl _)).alloc (.cells #[.string (str X)] 9)
                    have HWn : Hid (Wd.length + [X].length ≤ 1099511627) := by have h1 := HLEN.out.2; have h2 := HPL.out; show _ ≤ _; simp only [List.length_cons, List.length_nil]; omega
                    have hzb : W2.heap.size ≤ (wr.alloc (.cells #[.string (str X)] 9)).heap.size := by have h1 := hBe.size; have h2 := hBq.size; rw [size_alloc]; omega
                    have HX2 : Hid (Dp.Rdx PS (j + 1) (Wd ++ [X]) mk (ps.map Prod.snd) _) := Dp.Rdx.word HRUN.out HNB.out
                    have HL2 : Hid (ps.length ≤ j + 1 ∧ (Wd ++ [X]).length ≤ j + 1) := ⟨by have := HLEN.out.1; omega, by have := HLEN.out.2; rw [List.length_append, List.length_cons, List.length_nil]; omega⟩
                    clear HRUN HNB HLX
                    go_wp2_with (at_builtin; go_must (refine BR.append_at rfl (.tmp 119) (.tmp 122) rfl W2.heap.size (wr.heap.size + 1) _ _ Wd [X] rfl hWr rfl hLt (by simp) HWn hzb ?_))
                    intro g cap w5 hO5 hg5 hw5 hlt5
                    obtain ⟨hD5, hap5, hB5⟩ := words_push hD hW hBe.size hBq hg5 hw5 HAP.out
                    have HAP2 : Hid (∀ q, (Value.slice (some ⟨g, 0, none⟩) (Wd.length + 1) cap).ownBlock = some q → ∀ p ∈ ps, p.1.deps.ownBlock ≠ some q) := fun q hq => by
                      have hq : some g = some q := hq
                      rw [Option.some.injEq] at hq
                      subst hq
                      exact hap5
                    clear hLt hWr HWn hzb hg5 hw5 hcv
                    go_wp2
                    exact ⟨⟨j + 1, ps, Wd ++ [X], mk, _, by omega, by go_num, rfl, hD5, hO5, HAP2, HL2, HX2, hBe.trans hB5⟩, by simp [intOf]; omega⟩
                · have j1 : ¬ (j : Int) + 1 < (PS.length : Int) := by omega
                  have HNB : Hid (∀ c, (PS.getD (j + 1) Dp.noP).1 ≠ .byte c) := Dp.getD_last (by omega)
                  have hcv := conv_byts hOX.byts
                  have hLt := BR.lit wr X #[.string (str X)] rfl
                  have hWr := (hW.below hBq (Nat.le_refl _)).alloc (.cells #[.string (str X)] 9)
                  have HWn : Hid (Wd.length + [X].length ≤ 1099511627) := by have h1 := HLEN.out.2; have h2 := HPL.out; show _ ≤ _; simp only [List.length_cons, List.length_nil]; omega
                  have hzb : W2.heap.size ≤ (wr.alloc (.cells #[.string (str X)] 9)).heap.size := by have h1 := hBe.size; have h2 := hBq.size; rw [size_alloc]; omega
                  have HX2 : Hid (Dp.Rdx PS (j + 1) (Wd ++ [X]) mk (ps.map Prod.snd) _) := Dp.Rdx.word HRUN.out HNB.out
                  have HL2 : Hid (ps.length ≤ j + 1 ∧ (Wd ++ [X]).length ≤ j + 1) := ⟨by have := HLEN.out.1; omega, by have := HLEN.out.2; rw [List.length_append, List.length_cons, List.length_nil]; omega⟩
                  clear HRUN HNB HLX
                  go_wp2_with (at_builtin; go_must (refine BR.append_at rfl (.tmp 119) (.tmp 122) rfl W2.heap.size (wr.heap.size + 1) _ _ Wd [X] rfl hWr rfl hLt (by simp) HWn hzb ?_))
                  intro g cap w5 hO5 hg5 hw5 hlt5
                  obtain ⟨hD5, hap5, hB5⟩ := words_push hD hW hBe.size hBq hg5 hw5 HAP.out
                  have HAP2 : Hid (∀ q, (Value.slice (some ⟨g, 0, none⟩) (Wd.length + 1) cap).ownBlock = some q → ∀ p ∈ ps, p.1.deps.ownBlock ≠ some q) := fun q hq => by
                    have hq : some g = some q := hq
                    rw [Option.some.injEq] at hq
                    subst hq
                    exact hap5
                  clear hLt hWr HWn hzb hg5 hw5 hcv
                  go_wp2
                  exact ⟨⟨j + 1, ps, Wd ++ [X], mk, _, by omega, by go_num, rfl, hD5, hO5, HAP2, HL2, HX2, hBe.trans hB5⟩, by simp [intOf]; omega⟩
      · obtain rfl : i = PS.length := by omega
        have i1 : ¬ (PS.length : Int) < (PS.length : Int) := by omega
        obtain ⟨t, ht, hto⟩ := HRX.out.done
        have hE := HYES.out t ht
        have z0 : wr.cell? ⟨w.heap.size, 0, none⟩ = some (.int .i64 0) := hrr.cell 0
        have z1 : wr.cell? ⟨w.heap.size, 1, none⟩ = some (.int .i64 0) := hrr.cell 1
        have f0 := hrr.free 0
        have f1 := hrr.free 1
        clear ht HRX
        cases bad with
        | some q =>
          have HE : Hid (R = .inl (6, q)) := hE
          have bI : ((q : Nat) : Int) ≥ 0 := by omega
          clear hE hto
          have hT := Turn.put2 wr w.heap.size (.int .i64 6) (.int .i64 (q : Int))
          have q3 := hrr.put2 (.int .i64 6) (.int .i64 (q : Int))
          simp only [Dp.badI]
          go_wp2
          refine bodyPost_ret (results_ds Try.results13 _ _ q3 rfl rfl rfl) rfl ?_
          rw [HE.out]
          exact ⟨rfl, hT.bel hbw (by simp)⟩
        | none =>
          have HE : Hid (R = .inr (ps.map Prod.snd)) := by show _ = _; rw [hE, hto]
          clear hE hto
          have hT := Turn.put2 wr w.heap.size (.int .i64 0) (.int .i64 0)
          have q3 := hrr.put2 (.int .i64 0) (.int .i64 0)
          simp only [Dp.badI]
          go_wp2
          refine bodyPost_ret (results_ds Try.results13 _ _ q3 rfl rfl rfl) rfl ?_
          rw [HE.out]
          refine ⟨_, rfl, ?_, hT.bel hbw (by simp)⟩
          exact (hD.turn hT (by simpa using hsz2)).own.low (Nat.le_of_lt hsz2)
  · have HE : Hid (R = .inl (3, 32768)) := by
      show _ = _
      rw [← hR]
      unfold Dp.parse
      rw [if_pos (by rw [bs_length]; omega)]
    have i0 : (s.size : Int) > 32768 := by omega
    have hr3 := Rw.new w #[.int .i64 3, .int .i64 32768] 26
    have hb3 := below_new w (.cells #[.int .i64 3, .int .i64 32768] 26)
    clear hlen hR hr0 hb0 hs0
    go_enter Try.func13, Try.ntmps13
    go_wp2
    refine bodyPost_ret (results_ds Try.results13 _ _ hr3 rfl rfl rfl) rfl ?_
    rw [HE.out]
    exact ⟨rfl, hb3⟩

end Go.Proofs.Ytppcfidaalejfaa
