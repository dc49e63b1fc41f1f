/-
  ActionJoins' walk, where both lists may be.
-/
import Derived.Test.YtfgdlnidfkjbdaaDoorLaJoinN
import Derived.Test.YtfgdlnidfkjbdaaDoorLaCut
namespace Go.Proofs.YtfgdlnidfkjbdaaDoor
open Go.RowKit

/-- what Lines answers of a list that may be -/
theorem lines_yes {f : Ac.Fo} (hm : Ac.may f = true) (s : Small f) {v : Value} {W : World} {B : Nat} (h : FoS W B v f) (hB : B ≤ W.heap.size) (hL : Laid W) :
    Calls Tryd.prog 16 #[v] W fun e w' => ∃ xa xn xc rs, e = .returned (.tuple #[.slice xa xn xc, .int .i64 0]) ∧ LiR.Own w' W.heap.size (.slice xa xn xc) rs ∧ LiE w' W.heap.size (Ac.all f) rs ∧ Below W.heap.size W w' := by
  have hc := Lines_any f v W B h hB hL (by have := s.size; omega) s.nar2
  rw [hm] at hc
  refine hc.mono ?_
  rintro e w' ⟨⟨xa, xn, xc, rs, rfl, h1, h2⟩, hb⟩
  exact ⟨xa, xn, xc, rs, rfl, h1, h2, hb⟩

set_option maxRecDepth 100000 in
set_option maxHeartbeats 1000000 in
theorem joins_yes (va : Value) (f : Ac.Fo) (vb : Value) (g : Ac.Fo) (n : Int) (w : World) (hL : Laid w) (h1 : FoS w w.heap.size va f) (hn1 : f.len ≤ reachBytes) (hz1 : Ac.SzE f) (h2 : FoS w w.heap.size vb g) (hn2 : g.len ≤ reachBytes) (hz2 : Ac.SzE g) (hf : Ac.may f = true) (hg : Ac.may g = true) :
    Calls Tryd.prog 6 #[va, vb, .int .i64 n] w fun e w' => e = .returned (.bool true) ∧ Below w.heap.size w w' := by
  have hW := works_any w hL
  have hG1 := fun W (h : Below w.heap.size w W) => great_any f va W w.heap.size (h1.below h (Nat.le_refl _)) hn1 hz1
  have hG2 := fun W (h : Below w.heap.size w W) => great_any g vb W w.heap.size (h2.below h (Nat.le_refl _)) hn2 hz2
  have hM1 := fun W (h : Below w.heap.size w W) (s : Small f) => May_any f va W w.heap.size (h1.below h (Nat.le_refl _)) h.size (hL.below h hL.size) (by have := s.size; omega) s.nar
  have hM2 := fun W (h : Below w.heap.size w W) (s : Small g) => May_any g vb W w.heap.size (h2.below h (Nat.le_refl _)) h.size (hL.below h hL.size) (by have := s.size; omega) s.nar
  have hLa := fun W (h : Below w.heap.size w W) (s : Small f) => lines_yes hf s (h1.below h (Nat.le_refl _)) h.size (hL.below h hL.size)
  have hLb := fun W (h : Below w.heap.size w W) (s : Small g) => lines_yes hg s (h2.below h (Nat.le_refl _)) h.size (hL.below h hL.size)
  obtain ⟨ad, c, rfl, hle⟩ := h1.shape
  obtain ⟨bd, d, rfl, hld⟩ := h2.shape
  rw [hf] at hM1
  rw [hg] at hM2
  clear hn1 hz1 hn2 hz2
  go_enter Tryd.func6, Tryd.ntmps6
  go_upto_region 3 with (first | (go_at_call 9; refine hW.mono ?_; rintro e w1 ⟨rfl, hb1⟩) | fail)
  go_wp2_with (first
    | (go_at_call 14; (with_reducible refine (hG1 _ hb1).mono ?_); rintro e w2 ⟨rfl | ⟨rfl, s1⟩, rfl⟩)
    | (go_at_call 14; (with_reducible refine (hG2 _ hb1).mono ?_); rintro e w2 ⟨rfl | ⟨rfl, s2⟩, rfl⟩)
    | fail)
  · go_ret
    exact ⟨rfl, hb1⟩
  · go_ret
    exact ⟨rfl, hb1⟩
  · go_upto_region 9 with (first
      | (go_at_call 18; (with_reducible refine (hM1 _ hb1 s1).mono ?_); rintro e w3 ⟨rfl, hb3⟩; have hb4 := hb1.trans (hb3.mono hb1.size))
      | (go_at_call 18; (with_reducible refine (hM2 _ hb4 s2).mono ?_); rintro e w5 ⟨rfl, hb5⟩; have hb6 := hb4.trans (hb5.mono hb4.size))
      | (go_at_call 16; (with_reducible refine (hLa _ hb6 s1).mono ?_); rintro e w7 ⟨xa, xn, xc, xr, rfl, xO, xE, hb7⟩; have hb8 := hb6.trans (hb7.mono hb6.size))
      | (go_at_call 16; (with_reducible refine (hLb _ hb8 s2).mono ?_); rintro e w9 ⟨ya, yn, yc, yr, rfl, yO, yE, hb9⟩; have hb10 := hb8.trans (hb9.mono hb8.size))
      | fail)
    obtain ⟨rsA, hSA, hRA⟩ := h1
    obtain ⟨rsB, hSB, hRB⟩ := h2
    have hlA : rsA.length = f.len := hRA.len
    have hlB : rsB.length = g.len := hRB.len
    have hfA := Ac.len_size f
    have hfB := Ac.len_size g
    have sA := s1.size
    have sB := s2.size
    have HL1 : Hid (([] : List RawS).length + rsA.length ≤ 1099511627) := by show _ ≤ _; simp only [List.length_nil]; omega
    have HL2 : Hid (rsA.length + rsB.length ≤ 1099511627) := by show _ ≤ _; omega
    have hz9 := hb10.size
    have hO0 := Own.litN (R := SmR) w9 w9.heap.size 0 #[] [] (Nat.le_refl _) rfl (by decide) rfl
    have hbA := hb10.alloc hb10.size (.cells #[] 34)
    have hbN := (Below.refl w9.heap.size w9).alloc (Nat.le_refl _) (.cells #[] 34)
    have hSA1 := hSA.below hbA (Nat.le_refl _)
    go_wp2_with (at_builtin; go_must (refine SmR.append rfl _ _ rfl w9.heap.size w.heap.size _ _ [] rsA rfl hO0 rfl hSA1 HL1 hbN.size ?_))
    intro v11 X11 hO11 hG11
    have hN11 : Below w9.heap.size w9 X11 := hbN.trans ((Turn.of_grown hG11).below' hbN.size fun x hx => (hO0.lt x (ownL hx)).1)
    have hb11 := hb10.trans (hN11.mono hz9)
    have hSB1 := hSB.below hb11 (Nat.le_refl _)
    go_wp2_with (at_builtin; go_must (refine SmR.append rfl _ _ rfl w9.heap.size w.heap.size _ _ rsA rsB rfl hO11 rfl hSB1 HL2 hN11.size ?_))
    intro v12 X12 hO12 hG12
    have hN12 : Below w9.heap.size w9 X12 := hN11.trans ((Turn.of_grown hG12).below' hN11.size fun x hx => (hO11.lt x (ownL hx)).1)
    have hb12 := hb10.trans (hN12.mono hz9)
    have hboth : FoS X12 X12.heap.size v12 (f.app g) := ⟨_, hO12.sl, ((hRA.below hb12 (Nat.le_refl _)).app (hRB.below hb12 (Nat.le_refl _))).mono hb12.size⟩
    go_upto_region 10 with fail
    obtain ⟨ba, bc, rfl, -⟩ := hboth.shape
    clear hSA1 hSB1 hO0 hO11 hG11 hG12 HL1 HL2 hbA hbN hN11 hb11
    have xO2 := (xO.below hb9 (Nat.le_refl _)).below hN12 (Nat.le_refl _)
    have xE2 : Hid (LiE X12 w5.heap.size (Ac.all f) xr) := (xE.turn (Turn.of_below hb9) (by simp)).turn (Turn.of_below hN12) (by simp)
    have yO2 := yO.below hN12 (Nat.le_refl _)
    have yE2 : Hid (LiE X12 w7.heap.size (Ac.all g) yr) := yE.turn (Turn.of_below hN12) (by simp)
    have lx := xE2.out.len
    have ly := yE2.out.len
    have lA := Ac.all_len f
    have lB := Ac.all_len g
    have HL1 : Hid (([] : List RawT).length + xr.length ≤ 1099511627) := by show _ ≤ _; simp only [List.length_nil]; omega
    have HL2 : Hid (xr.length + yr.length ≤ 1099511627) := by show _ ≤ _; omega
    have hO0 := Own.litN (R := LiR) X12 X12.heap.size 0 #[] [] (Nat.le_refl _) rfl (by decide) rfl
    have hbN := (Below.refl X12.heap.size X12).alloc (Nat.le_refl _) (.cells #[] 32)
    have hx1 := xO2.sl.below hbN (Nat.le_refl _)
    clear lx ly lA lB
    go_wp2_with (at_builtin; go_must (refine LiR.append rfl _ _ rfl X12.heap.size X12.heap.size _ _ [] xr rfl hO0 rfl hx1 HL1 hbN.size ?_))
    intro v13 X13 hO13 hG13
    have hN13 : Below X12.heap.size X12 X13 := hbN.trans ((Turn.of_grown hG13).below' hbN.size fun x hx => (hO0.lt x (ownL hx)).1)
    have hy1 := yO2.sl.below hN13 (Nat.le_refl _)
    go_wp2_with (at_builtin; go_must (refine LiR.append rfl _ _ rfl X12.heap.size X12.heap.size _ _ xr yr rfl hO13 rfl hy1 HL2 hN13.size ?_))
    intro v14 X14 hO14 hG14
    have hN14 : Below X12.heap.size X12 X14 := hN13.trans ((Turn.of_grown hG14).below' hN13.size fun x hx => (hO13.lt x (ownL hx)).1)
    have h57 : w5.heap.size ≤ w7.heap.size := hb7.size
    have hLS : LiS X14 X14.heap.size v14 (Ac.all f ++ Ac.all g) := ⟨_, hO14.sl, (((xE2.out.turn (Turn.of_below hN14) (by simp))).app ((yE2.out.turn (Turn.of_below hN14) (by simp)).low h57)).row⟩
    have hb14 := hb12.trans (hN14.mono hb12.size)
    have hPj := Parse_any v14 _ _ X14 (hL.below hb14 hL.size) hLS (Nat.le_refl _) (fit_join s1 s2 hf hg)
    obtain ⟨la, lc, hv14, -⟩ := hLS.shape
    generalize (Ac.all f ++ Ac.all g).length = ll at hv14
    subst hv14
    clear hO0 hO13 hO14 hG13 hG14 HL1 HL2 hx1 hy1 hbN hN13
    obtain ⟨pj1, pj2⟩ := Ac.parse_join hf hg
    have hPj2 : Calls Tryd.prog 11 #[.slice la ll lc] X14 fun e w' => (∃ (pa : Option Addr) (pn pc : Nat) (x : Int) (j : Nat), e = .returned (.tuple #[.slice pa pn pc, .agg #[.int .i64 x, .int .i64 (j : Int)]]) ∧ Hid ((Ac.size f + Ac.size g ≤ 256 → x = 0 ∧ j = 0 ∧ FoS w' w'.heap.size (.slice pa pn pc) (f.app g)) ∧ (256 < Ac.size f + Ac.size g → x = 3 ∧ pn = 0))) ∧ Below X14.heap.size X14 w' := by
      refine hPj.mono ?_
      rintro e w' ⟨hp, hb⟩
      refine ⟨?_, hb⟩
      by_cases h256 : Ac.size f + Ac.size g ≤ 256
      · rw [(pj1 h256).1] at hp
        obtain ⟨pa, pn, pc, rfl, hN⟩ := hp
        exact ⟨pa, pn, pc, 0, 0, rfl, fun _ => ⟨rfl, rfl, hN.foS⟩, fun h => by omega⟩
      · obtain ⟨⟨j, hj⟩, -⟩ := pj2 (by omega)
        rw [hj] at hp
        exact ⟨none, 0, 0, 3, j, hp, fun h => by omega, fun _ => ⟨rfl, rfl⟩⟩
    clear hPj
    go_upto_region 11 with (first | (go_at_call 11; refine hPj2.mono ?_; rintro e w15 ⟨⟨pa, pn, pc, x, j, rfl, HPJ⟩, hb15⟩) | fail)
    have r13 := Rw.new w15 #[.int .i64 x, .int .i64 (j : Int)] 28
    have hb16 := hb14.trans (hb15.mono hb14.size)
    have hb17 := hb16.alloc hb16.size (.cells #[.int .i64 x, .int .i64 (j : Int)] 28)
    have hN17 := hN14.trans ((hb15.mono hN14.size).trans (((Below.refl w15.heap.size w15).alloc (Nat.le_refl _) (.cells #[.int .i64 x, .int .i64 (j : Int)] 28)).mono (by have := hN14.size; have := hb15.size; omega)))
    have hVw := (Below.refl w15.heap.size w15).alloc (Nat.le_refl _) (.cells #[.int .i64 x, .int .i64 (j : Int)] 28)
    have HZ15 : Hid (X12.heap.size ≤ w15.heap.size) := Nat.le_trans hN14.size hb15.size
    generalize w15.alloc (.cells #[.int .i64 x, .int .i64 (j : Int)] 28) = V at r13 hb17 hN17 hVw ⊢
    have bA : (Ac.size f : Int) ≤ 262144 := by omega
    have bB : (Ac.size g : Int) ≤ 262144 := by omega
    have hSa := fun W (h : Below w.heap.size w W) => Size_any f (.slice ad f.len c) W w.heap.size ((show FoS w w.heap.size (.slice ad f.len c) f from ⟨rsA, hSA, hRA⟩).below h (Nat.le_refl _)) h.size (by have := s1.ht; omega) (by omega)
    have hSb := fun W (h : Below w.heap.size w W) => Size_any g (.slice bd g.len d) W w.heap.size ((show FoS w w.heap.size (.slice bd g.len d) g from ⟨rsB, hSB, hRB⟩).below h (Nat.le_refl _)) h.size (by have := s2.ht; omega) (by omega)
    go_upto_if 69 with (first
      | (go_at_call 21; (with_reducible refine (hSa _ hb17).mono ?_); rintro e w18 ⟨rfl, hb18⟩; have hb19 := hb17.trans (hb18.mono hb17.size))
      | (go_at_call 21; (with_reducible refine (hSb _ hb19).mono ?_); rintro e w20 ⟨rfl, hb20⟩; have hb21 := hb19.trans (hb20.mono hb19.size))
      | fail)
    have s0 : ∀ W, Below V.heap.size V W → W.cell? ⟨w15.heap.size, 0, none⟩ = some (.int .i64 x) ∧ W.cell? ⟨w15.heap.size, 1, none⟩ = some (.int .i64 (j : Int)) := fun W h => ⟨(r13.below h r13.lt).cell 0, (r13.below h r13.lt).cell 1⟩
    have hV20 := hb18.trans (hb20.mono hb18.size)
    have hzV : X12.heap.size ≤ V.heap.size := hN17.size
    have hbothV := fun W (h : Below V.heap.size V W) => (hboth.below hN17 (Nat.le_refl _)).below h hzV
    have hMb := fun W (h : Below V.heap.size V W) => May_any (f.app g) _ W _ (hbothV W h) (by have := h.size; omega) (hL.below (hb17.trans (h.mono hb17.size)) hL.size) (by rw [Ac.size_app]; omega) (Ac.nar_app s1.nar s2.nar)
    go_cut [2] (fun nn X => nn = .int .i64 n ∧ Below V.heap.size V X)
    case first =>
      by_cases h256 : Ac.size f + Ac.size g ≤ 256
      · obtain ⟨hx, hj0, hPf⟩ := HPJ.out.1 h256
        subst hx
        subst hj0
        have hPV : FoS V V.heap.size (.slice pa pn pc) (f.app g) := (hPf.below hVw (Nat.le_refl _)).mono hVw.size
        have hza : Ac.ht (f.app g) ≤ 65536 := by rw [Ac.ht_app]; have := s1.ht; have := s2.ht; omega
        have hzs : Ac.size (f.app g) ≤ 1099511627 := by rw [Ac.size_app]; omega
        have hSm := fun W (h : Below V.heap.size V W) => Same_any (f.app g) (f.app g) (.slice pa pn pc) (.slice ba (f.app g).len bc) V.heap.size W (hPV.below h (Nat.le_refl _)) ((hbothV W h).mono hzV) h.size (by omega) (by omega) hzs (Ac.nar_app s1.nar s2.nar)
        simp only [decide_true] at hSm
        have hDab := fun W (h : Below V.heap.size V W) => Deep_any (f.app g) (.slice ba (f.app g).len bc) W X12.heap.size (hbothV W h) (by have := h.size; omega) (hL.below (hb17.trans (h.mono hb17.size)) hL.size) hza hzs
        have hDa := fun W (h : Below w.heap.size w W) => Deep_any f (.slice ad f.len c) W w.heap.size ((show FoS w w.heap.size (.slice ad f.len c) f from ⟨rsA, hSA, hRA⟩).below h (Nat.le_refl _)) h.size (hL.below h hL.size) (by have := s1.ht; omega) (by omega)
        have hDb := fun W (h : Below w.heap.size w W) => Deep_any g (.slice bd g.len d) W w.heap.size ((show FoS w w.heap.size (.slice bd g.len d) g from ⟨rsB, hSB, hRB⟩).below h (Nat.le_refl _)) h.size (hL.below h hL.size) (by have := s2.ht; omega) (by omega)
        have hdd : Ac.deepL (f.app g) = max (Ac.deepL f) (Ac.deepL g) := by
          rw [Ac.deepL_one (Ac.may_iff.1 (pj1 h256).2).1, Ac.deepL_one (Ac.may_iff.1 hf).1, Ac.deepL_one (Ac.may_iff.1 hg).1, Ac.deep_app]
        rw [hdd] at hDab
        have d1 := Ac.deepL_ht f
        have d2 := Ac.deepL_ht g
        have d3 := s1.ht
        have d4 := s2.ht
        have i1 : ¬ (256 : Int) < (Ac.size f : Int) + (Ac.size g : Int) := by omega
        generalize Ac.deepL f = DF at *
        generalize Ac.deepL g = DG at *
        obtain ⟨q0, q1⟩ := s0 _ hV20
        have hwV := hb17
        obtain ⟨DM, hDM⟩ : ∃ DM, max DF DG = DM := ⟨_, rfl⟩
        rw [hDM] at hDab
        have e1 : max (DF : Int) (DG : Int) = (DM : Int) := by omega
        clear hdd hDM
        go_wp2_with (first
          | (go_at_call 15; (with_reducible refine (hSm _ hV20).mono ?_); rintro e w22 ⟨rfl, hb22⟩; have hV22 := hV20.trans (hb22.mono hV20.size))
          | (go_at_call 22; (with_reducible refine (hDab _ hV22).mono ?_); rintro e w23 ⟨rfl, hb23⟩; have hV23 := hV22.trans (hb23.mono hV22.size))
          | (go_at_call 22; (with_reducible refine (hDa _ (hwV.trans (hV23.mono hwV.size))).mono ?_); rintro e w24 ⟨rfl, hb24⟩; have hV24 := hV23.trans (hb24.mono hV23.size))
          | (go_at_call 22; (with_reducible refine (hDb _ (hwV.trans (hV24.mono hwV.size))).mono ?_); rintro e w25 ⟨rfl, hb25⟩; have hV25 := hV24.trans (hb25.mono hV24.size))
          | fail)
        go_meet
        case rel => exact ⟨rfl, hV25⟩
      · obtain ⟨hx, hp0⟩ := HPJ.out.2 (by omega)
        subst hx
        subst hp0
        rw [(pj2 (by omega)).2] at hMb
        have i1 : (256 : Int) < (Ac.size f : Int) + (Ac.size g : Int) := by omega
        obtain ⟨q0, q1⟩ := s0 _ hV20
        go_wp2_with (first | (go_at_call 18; (with_reducible refine (hMb _ hV20).mono ?_); rintro e w22 ⟨rfl, hb22⟩) | fail)
        go_meet
        case rel => exact ⟨rfl, hV20.trans (hb22.mono hV20.size)⟩
    case rest =>
      obtain ⟨rfl, hVX⟩ := hcut
      have tm : -1000 ≤ n.tmod 1001 ∧ n.tmod 1001 ≤ 1000 := by have h := tmod_le n 1000; simpa using h
      obtain ⟨q, hq⟩ : ∃ q, n.tmod 1001 = q := ⟨_, rfl⟩
      rw [hq] at tm
      obtain ⟨tm1, tm2⟩ := tm
      have hbX := hb17.trans (hVX.mono hb17.size)
      clear hSa hSb hMb hbothV HPJ hPj2 pj1 pj2 hV20 hb18 hb19 hb20 hb21 hb15 hb14 hb16 hN14 hW hG1 hG2 hM1 hM2 hLa hLb
      go_upto_if 104 with fail
      go_cut [2] (fun nn X => ∃ k : Nat, k ≤ 1000 ∧ nn = .int .i64 (k : Int) ∧ X = wc)
      case first =>
        by_cases hneg : q < 0
        · have HQ : Hid (q + 1001 = ((q + 1001).toNat : Int)) := by show _ = _; omega
          go_wp2
          go_meet
          case rel => exact ⟨(q + 1001).toNat, by omega, by first | rw [← HQ.out] | rw [HQ.out], rfl⟩
        · have HQ : Hid (q = (q.toNat : Int)) := by show _ = _; omega
          go_wp2
          go_meet
          case rel => exact ⟨q.toNat, by omega, by rw [← HQ.out], rfl⟩
      case rest =>
        obtain ⟨k, hk, rfl, rfl⟩ := hcut
        have hDg := DigitsT_any k wc (by omega)
        go_upto_region 20 with (first | (go_at_call 23; refine hDg.mono ?_; rintro e w30 ⟨rfl, hb30⟩) | fail)
        have hV30 := hVX.trans (hb30.mono hVX.size)
        have hW30 := hbX.trans (hb30.mono hbX.size)
        have z5 : w5.heap.size ≤ w30.heap.size := by have := hb9.size; have := hN12.size; have := hN17.size; have := hV30.size; omega
        have hd2 : (#[.string ⟨#[114, 101, 112, 101, 97, 116]⟩, .string (str (Ac.digits k))] : Array Value).toList = TxR.vals [Ac.word 10, Ac.digits k] := rfl
        have qt := (Own.litN (R := TxR) w30 w5.heap.size 2 #[.string ⟨#[114, 101, 112, 101, 97, 116]⟩, .string (str (Ac.digits k))] [Ac.word 10, Ac.digits k] z5 rfl (by decide) hd2).alloc (.cells #[.slice (some ⟨w30.heap.size, 0, none⟩) 2 2] 32)
        have qa := Own.litN (R := LiR) (w30.alloc (.cells #[.string ⟨#[114, 101, 112, 101, 97, 116]⟩, .string (str (Ac.digits k))] 9)) w30.heap.size 1 #[.slice (some ⟨w30.heap.size, 0, none⟩) 2 2] [⟨some ⟨w30.heap.size, 0, none⟩, 2, 2⟩] (by rw [size_alloc]; omega) rfl (by decide) rfl
        rw [size_alloc] at qa
        have hWa := ((Below.refl w30.heap.size w30).alloc (Nat.le_refl _) (.cells #[.string ⟨#[114, 101, 112, 101, 97, 116]⟩, .string (str (Ac.digits k))] 9)).alloc (by rw [size_alloc]; omega) (.cells #[.slice (some ⟨w30.heap.size, 0, none⟩) 2 2] 32)
        have qtH : TxR.Own ((w30.alloc (.cells #[.string ⟨#[114, 101, 112, 101, 97, 116]⟩, .string (str (Ac.digits k))] 9)).alloc (.cells #[.slice (some ⟨w30.heap.size, 0, none⟩) 2 2] 32)) w5.heap.size (.slice (some ⟨w30.heap.size, 0, none⟩) 2 2) [Ac.word 10, Ac.digits k] := qt
        have qaH : LiR.Own ((w30.alloc (.cells #[.string ⟨#[114, 101, 112, 101, 97, 116]⟩, .string (str (Ac.digits k))] 9)).alloc (.cells #[.slice (some ⟨w30.heap.size, 0, none⟩) 2 2] 32)) w30.heap.size (.slice (some ⟨w30.heap.size + 1, 0, none⟩) 1 1) [⟨some ⟨w30.heap.size, 0, none⟩, 2, 2⟩] := qa
        clear qt qa
        generalize (w30.alloc (.cells #[.string ⟨#[114, 101, 112, 101, 97, 116]⟩, .string (str (Ac.digits k))] 9)).alloc (.cells #[.slice (some ⟨w30.heap.size, 0, none⟩) 2 2] 32) = Wa at qtH qaH hWa ⊢
        have hVa := hV30.trans (hWa.mono hV30.size)
        have hXa := hN17.trans (hVa.mono hzV)
        have xOa := xO2.below hXa (Nat.le_refl _)
        have xEa : Hid (LiE Wa w5.heap.size (Ac.all f) xr) := xE2.out.turn (Turn.of_below hXa) (by simp)
        have lx := xE2.out.len
        have lA := Ac.all_len f
        have HL1 : Hid (([⟨some ⟨w30.heap.size, 0, none⟩, 2, 2⟩] : List RawT).length + xr.length ≤ 1099511627) := by show _ ≤ _; simp only [List.length_cons, List.length_nil]; omega
        have HL2 : Hid (((⟨some ⟨w30.heap.size, 0, none⟩, 2, 2⟩ : RawT) :: xr).length + [(⟨none, 0, 0⟩ : RawT)].length ≤ 1099511627) := by show _ ≤ _; simp only [List.length_cons, List.length_nil]; omega
        clear lx lA
        go_wp2_with (at_builtin; go_must (refine LiR.append rfl _ _ rfl w30.heap.size Wa.heap.size _ _ [⟨some ⟨w30.heap.size, 0, none⟩, 2, 2⟩] xr rfl qaH rfl xOa.sl HL1 hWa.size ?_))
        intro v31 X31 hO31 hG31
        have hN31 : Below w30.heap.size w30 X31 := hWa.trans ((Turn.of_grown hG31).below' hWa.size fun x hx => (qaH.lt x (ownL hx)).1)
        have hS1 : ∀ x ∈ (Value.slice (some ⟨w30.heap.size + 1, 0, none⟩) 1 1).ownBlock.toList, x < w5.heap.size ∨ ∃ cs t, Rw Wa x cs t ∧ t ≠ 9 := fun x hx => by
          obtain ⟨cs, h'⟩ := own_rw qaH (ownL hx)
          exact .inr ⟨cs, _, h', by decide⟩
        have E1 : Hid (LiE X31 w5.heap.size ([Ac.word 10, Ac.digits k] :: Ac.all f) (⟨some ⟨w30.heap.size, 0, none⟩, 2, 2⟩ :: xr)) := ((show LiE Wa w5.heap.size [[Ac.word 10, Ac.digits k]] [⟨some ⟨w30.heap.size, 0, none⟩, 2, 2⟩] from ⟨_, [], rfl, qtH, rfl⟩).turn (Turn.of_grown hG31) hS1).app (xEa.out.turn (Turn.of_grown hG31) hS1)
        have z31 : w5.heap.size ≤ X31.heap.size := Nat.le_trans z5 hN31.size
        have et : TxR.Own ((X31.alloc (.cells #[.string ⟨#[101, 110, 100]⟩] 9)).alloc (.cells #[.slice (some ⟨X31.heap.size, 0, none⟩) 1 1] 32)) w5.heap.size (.slice (some ⟨X31.heap.size, 0, none⟩) 1 1) [Ac.sEnd] := (Own.litN (R := TxR) X31 w5.heap.size 1 #[.string ⟨#[101, 110, 100]⟩] [Ac.sEnd] z31 rfl (by decide) rfl).alloc (.cells #[.slice (some ⟨X31.heap.size, 0, none⟩) 1 1] 32)
        have ea := Rc.lit (R := LiR) (X31.alloc (.cells #[.string ⟨#[101, 110, 100]⟩] 9)) ⟨some ⟨X31.heap.size, 0, none⟩, 1, 1⟩ #[.slice (some ⟨X31.heap.size, 0, none⟩) 1 1] rfl
        rw [size_alloc X31 (.cells #[.string ⟨#[101, 110, 100]⟩] 9)] at ea
        have eaH : LiR.Sl ((X31.alloc (.cells #[.string ⟨#[101, 110, 100]⟩] 9)).alloc (.cells #[.slice (some ⟨X31.heap.size, 0, none⟩) 1 1] 32)) (X31.heap.size + 1 + 1) (.slice (some ⟨X31.heap.size + 1, 0, none⟩) 1 1) [⟨some ⟨X31.heap.size, 0, none⟩, 1, 1⟩] := ea
        clear ea
        have hWb := ((Below.refl X31.heap.size X31).alloc (Nat.le_refl _) (.cells #[.string ⟨#[101, 110, 100]⟩] 9)).alloc (by rw [size_alloc]; omega) (.cells #[.slice (some ⟨X31.heap.size, 0, none⟩) 1 1] 32)
        have hO31b := hO31.below hWb (Nat.le_refl _)
        have hNb := hN31.trans (hWb.mono hN31.size)
        have E1b : Hid (LiE ((X31.alloc (.cells #[.string ⟨#[101, 110, 100]⟩] 9)).alloc (.cells #[.slice (some ⟨X31.heap.size, 0, none⟩) 1 1] 32)) w5.heap.size ([Ac.word 10, Ac.digits k] :: Ac.all f) (⟨some ⟨w30.heap.size, 0, none⟩, 2, 2⟩ :: xr)) := E1.out.turn (Turn.of_below hWb) (by simp)
        have zb : w30.heap.size ≤ ((X31.alloc (.cells #[.string ⟨#[101, 110, 100]⟩] 9)).alloc (.cells #[.slice (some ⟨X31.heap.size, 0, none⟩) 1 1] 32)).heap.size := hNb.size
        go_wp2_with (at_builtin; go_must (refine LiR.append rfl _ _ rfl w30.heap.size (X31.heap.size + 1 + 1) _ _ (⟨some ⟨w30.heap.size, 0, none⟩, 2, 2⟩ :: xr) [⟨some ⟨X31.heap.size, 0, none⟩, 1, 1⟩] rfl hO31b rfl eaH HL2 zb ?_))
        intro v33 X33 hO33 hG33
        generalize (X31.alloc (.cells #[.string ⟨#[101, 110, 100]⟩] 9)).alloc (.cells #[.slice (some ⟨X31.heap.size, 0, none⟩) 1 1] 32) = Wb at et hO31b hNb E1b zb hG33
        have hS2 : ∀ x ∈ v31.ownBlock.toList, x < w5.heap.size ∨ ∃ cs t, Rw Wb x cs t ∧ t ≠ 9 := fun x hx => by
          obtain ⟨cs, h'⟩ := own_rw hO31b (ownL hx)
          exact .inr ⟨cs, _, h', by decide⟩
        have hN33 : Below w30.heap.size w30 X33 := hNb.trans ((Turn.of_grown hG33).below' hNb.size fun x hx => (hO31b.lt x (ownL hx)).1)
        have E2 : Hid (LiE X33 w5.heap.size (([Ac.word 10, Ac.digits k] :: Ac.all f) ++ [[Ac.sEnd]]) ((⟨some ⟨w30.heap.size, 0, none⟩, 2, 2⟩ :: xr) ++ [⟨some ⟨X31.heap.size, 0, none⟩, 1, 1⟩])) := (E1b.out.turn (Turn.of_grown hG33) hS2).app ((show LiE Wb w5.heap.size [[Ac.sEnd]] [⟨some ⟨X31.heap.size, 0, none⟩, 1, 1⟩] from ⟨_, [], rfl, et, rfl⟩).turn (Turn.of_grown hG33) hS2)
        have hLS2 : LiS X33 X33.heap.size v33 ([Ac.word 10, Ac.digits k] :: (Ac.all f ++ [[Ac.sEnd]])) := ⟨_, hO33.sl, E2.out.row⟩
        have hV33 := hV30.trans (hN33.mono hV30.size)
        have hW33 := hW30.trans (hN33.mono hW30.size)
        have hPb := Parse_any v33 _ _ X33 (hL.below hW33 hL.size) hLS2 (Nat.le_refl _) (fit_body s1 hf)
        obtain ⟨ra, rc, hv33, -⟩ := hLS2.shape
        generalize ([Ac.word 10, Ac.digits k] :: (Ac.all f ++ [[Ac.sEnd]])).length = rl at hv33
        subst hv33
        obtain ⟨pb1, pb2⟩ := Ac.parse_body hf hk
        have hPb2 : Calls Tryd.prog 11 #[.slice ra rl rc] X33 fun e w' => (∃ (pa : Option Addr) (pn pc : Nat) (x : Int) (j : Nat), e = .returned (.tuple #[.slice pa pn pc, .agg #[.int .i64 x, .int .i64 (j : Int)]]) ∧ Hid ((Ac.size f < 256 ∧ Ac.deep f < 8 → x = 0 ∧ j = 0 ∧ FoNew w' X33.heap.size (.slice pa pn pc) (.cons 10 [] (k : Int) f .nil)) ∧ (¬ (Ac.size f < 256 ∧ Ac.deep f < 8) → (x = 3 ∨ x = 132) ∧ pn = 0))) ∧ Below X33.heap.size X33 w' := by
          refine hPb.mono ?_
          rintro e w' ⟨hp, hb⟩
          refine ⟨?_, hb⟩
          by_cases h256 : Ac.size f < 256 ∧ Ac.deep f < 8
          · rw [(pb1 h256).1] at hp
            obtain ⟨pa, pn, pc, rfl, hN⟩ := hp
            exact ⟨pa, pn, pc, 0, 0, rfl, fun _ => ⟨rfl, rfl, hN⟩, fun h => absurd h256 h⟩
          · obtain ⟨⟨e', j, hj, he⟩, -⟩ := pb2 h256
            rw [hj] at hp
            exact ⟨none, 0, 0, e', j, hp, fun h => absurd h h256, fun _ => ⟨he, rfl⟩⟩
        clear hPb E1 E1b E2 hO33 hG33 hO31 hG31 hO31b eaH et hS1 hS2 HL1 HL2 xOa xEa qtH qaH hWb hNb zb hN31 hXa hVa
        go_upto_region 22 with (first | (go_at_call 11; refine hPb2.mono ?_; rintro e w35 ⟨⟨pa2, pn2, pc2, x2, j2, rfl, HPB⟩, hb35⟩; have hV35 := hV33.trans (hb35.mono hV33.size); have r35 := r13.below hV35 r13.lt; have z0 : w35.cell? ⟨w15.heap.size, 0, none⟩ = some (.int .i64 x) := r35.cell 0; have z1 : w35.cell? ⟨w15.heap.size, 1, none⟩ = some (.int .i64 (j : Int)) := r35.cell 1; have y0 := r35.free 0; have y1 := r35.free 1) | fail)
        have r36 := r35.put2 (.int .i64 x2) (.int .i64 (j2 : Int))
        have hT36 := Turn.put2 w35 w15.heap.size (.int .i64 x2) (.int .i64 (j2 : Int))
        have hW35 := hW33.trans (hb35.mono hW33.size)
        have z15 : w.heap.size ≤ w15.heap.size := Nat.le_trans hb12.size HZ15.out
        have hW36 := hT36.bel hW35 (by simpa using z15)
        have z33 : w15.heap.size < X33.heap.size := Nat.lt_of_lt_of_le r13.lt hV33.size
        generalize (w35.setCell ⟨w15.heap.size, 0, none⟩ (.int .i64 x2)).setCell ⟨w15.heap.size, 1, none⟩ (.int .i64 (j2 : Int)) = Y at r36 hT36 hW36 ⊢
        have hone : SmR.Sl (Y.alloc (.cells #[.int .i64 10, .slice none 0 0, .int .i64 (k : Int), .slice ad f.len c] 34)) (Y.heap.size + 1) (.slice (some ⟨Y.heap.size, 0, none⟩) 1 1) [⟨10, none, 0, 0, (k : Int), ad, f.len, c⟩] := Rc.lit (R := SmR) Y ⟨10, none, 0, 0, (k : Int), ad, f.len, c⟩ #[.int .i64 10, .slice none 0 0, .int .i64 (k : Int), .slice ad f.len c] rfl
        have hYa := (Below.refl Y.heap.size Y).alloc (Nat.le_refl _) (.cells #[.int .i64 10, .slice none 0 0, .int .i64 (k : Int), .slice ad f.len c] 34)
        have hW37 := hW36.trans (hYa.mono hW36.size)
        have zY : (Y.alloc (.cells #[.int .i64 10, .slice none 0 0, .int .i64 (k : Int), .slice ad f.len c] 34)).heap.size = Y.heap.size + 1 := size_alloc _ _
        have r37 := r36.alloc (.cells #[.int .i64 10, .slice none 0 0, .int .i64 (k : Int), .slice ad f.len c] 34)
        go_upto_region 23 with fail
        generalize Y.alloc (.cells #[.int .i64 10, .slice none 0 0, .int .i64 (k : Int), .slice ad f.len c] 34) = Z at hone hYa hW37 zY r37 ⊢
        have hFa : FoS w w.heap.size (.slice ad f.len c) f := ⟨rsA, hSA, hRA⟩
        have hOne : FoS Z Z.heap.size (.slice (some ⟨Y.heap.size, 0, none⟩) 1 1) (.cons 10 [] (k : Int) f .nil) := ⟨_, hone.mono (by omega), ⟨_, [], rfl, rfl, rfl, Rc.Sl.nil _ _, ⟨rsA, (hSA.below hW37 (Nat.le_refl _)).mono hW37.size, (hRA.below hW37 (Nat.le_refl _)).mono hW37.size⟩, rfl⟩⟩
        have hSz : Ac.size (.cons 10 [] (k : Int) f .nil) = Ac.size f + 1 := by simp only [Ac.size]; omega
        have hHt : Ac.ht (.cons 10 [] (k : Int) f .nil) = Ac.ht f + 1 := by simp only [Ac.ht]; omega
        have hNr : Ac.nar 1099511627 (.cons 10 [] (k : Int) f .nil) := ⟨by simp, s1.nar, trivial⟩
        have hDl : Ac.deepL (.cons 10 [] (k : Int) f .nil) = Ac.deep f + 1 := by
          rw [Ac.deepL, if_pos (.inl (by decide)), Ac.deepL_one (Ac.may_iff.1 hf).1]
          simp only [Ac.deepL]
          omega
        have m1 := (Ac.may_iff.1 hf).2.1
        have m2 := (Ac.may_iff.1 hf).2.2
        have mh := s1.ht
        have hSa := fun W (h : Below w.heap.size w W) => Size_any f (.slice ad f.len c) W w.heap.size (hFa.below h (Nat.le_refl _)) h.size (by omega) (by omega)
        have hDa := fun W (h : Below w.heap.size w W) => Deep_any f (.slice ad f.len c) W w.heap.size (hFa.below h (Nat.le_refl _)) h.size (hL.below h hL.size) (by omega) (by omega)
        rw [Ac.deepL_one (Ac.may_iff.1 hf).1] at hDa
        have hMo := fun W (h : Below Z.heap.size Z W) => May_any _ _ W _ (hOne.below h (Nat.le_refl _)) h.size (hL.below (hW37.trans (h.mono hW37.size)) hL.size) (by rw [hSz]; omega) hNr
        have hSo := fun W (h : Below Z.heap.size Z W) => Size_any _ _ W _ (hOne.below h (Nat.le_refl _)) h.size (by rw [hHt]; omega) (by rw [hSz]; omega)
        have hDo := fun W (h : Below Z.heap.size Z W) => Deep_any _ _ W _ (hOne.below h (Nat.le_refl _)) h.size (hL.below (hW37.trans (h.mono hW37.size)) hL.size) (by rw [hHt]; omega) (by rw [hSz]; omega)
        rw [hSz] at hSo
        rw [hDl] at hDo
        have hs0 : ∀ W, Below Z.heap.size Z W → W.cell? ⟨w15.heap.size, 0, none⟩ = some (.int .i64 x2) ∧ W.cell? ⟨w15.heap.size, 1, none⟩ = some (.int .i64 (j2 : Int)) := fun W h => ⟨(r37.below h r37.lt).cell 0, (r37.below h r37.lt).cell 1⟩
        by_cases hq8 : Ac.size f < 256 ∧ Ac.deep f < 8
        · obtain ⟨hx0, hj0, hNw⟩ := HPB.out.1 hq8
          subst hx0
          subst hj0
          obtain ⟨q8, q9⟩ := hq8
          rw [(pb1 ⟨q8, q9⟩).2] at hMo
          have hPl : FoS Z Z.heap.size (.slice pa2 pn2 pc2) (.cons 10 [] (k : Int) f .nil) := ((hNw.turn hT36 (by simpa using z33)).foS.below hYa (Nat.le_refl _)).mono hYa.size
          have hSm := fun W (h : Below Z.heap.size Z W) => Same_any _ _ (.slice pa2 pn2 pc2) (.slice (some ⟨Y.heap.size, 0, none⟩) 1 1) Z.heap.size W (hPl.below h (Nat.le_refl _)) (hOne.below h (Nat.le_refl _)) h.size (by rw [hHt]; omega) (by rw [hHt]; omega) (by rw [hSz]; omega) hNr
          simp only [decide_true] at hSm
          have i1 : (Ac.size f : Int) < 256 := by omega
          have i2 : (Ac.deep f : Int) < 8 := by omega
          generalize Ac.size f = SF at *
          generalize Ac.deep f = DF at *
          clear pb1 pb2 HPB hPb2 hDg hSz hHt hDl hfA hfB sA sB bA bB
          have m3 : (SF : Int) ≤ 262144 := by omega
          obtain ⟨q0, q1⟩ := hs0 Z (Below.refl _ _)
          go_upto_region 24 with (first
            | (go_at_call 21; (with_reducible refine (hSa _ hW37).mono ?_); rintro e w40 ⟨rfl, hb40⟩; have hZ40 := hb40)
            | (go_at_call 22; (with_reducible refine (hDa _ (hW37.trans (hZ40.mono hW37.size))).mono ?_); rintro e w41 ⟨rfl, hb41⟩; have hZ41 := hZ40.trans (hb41.mono hZ40.size))
            | fail)
          obtain ⟨q2, q3⟩ := hs0 _ hZ41
          go_wp2_with (first
            | (go_at_call 15; (with_reducible refine (hSm _ hZ41).mono ?_); rintro e w42 ⟨rfl, hb42⟩; have hZ42 := hZ41.trans (hb42.mono hZ41.size))
            | (go_at_call 18; (with_reducible refine (hMo _ hZ42).mono ?_); rintro e w43 ⟨rfl, hb43⟩; have hZ43 := hZ42.trans (hb43.mono hZ42.size))
            | (go_at_call 21; (with_reducible refine (hSo _ hZ43).mono ?_); rintro e w44 ⟨rfl, hb44⟩; have hZ44 := hZ43.trans (hb44.mono hZ43.size))
            | (go_at_call 21; (with_reducible refine (hSa _ (hW37.trans (hZ44.mono hW37.size))).mono ?_); rintro e w45 ⟨rfl, hb45⟩; have hZ45 := hZ44.trans (hb45.mono hZ44.size))
            | (go_at_call 22; (with_reducible refine (hDo _ hZ45).mono ?_); rintro e w46 ⟨rfl, hb46⟩; have hZ46 := hZ45.trans (hb46.mono hZ45.size))
            | (go_at_call 22; (with_reducible refine (hDa _ (hW37.trans (hZ46.mono hW37.size))).mono ?_); rintro e w47 ⟨rfl, hb47⟩; have hZ47 := hZ46.trans (hb47.mono hZ46.size))
            | fail)
          go_ret
          exact ⟨by simp, hW37.trans (hZ47.mono hW37.size)⟩
        · obtain ⟨hx0, hp0⟩ := HPB.out.2 hq8
          subst hp0
          rw [(pb2 hq8).2] at hMo
          clear HPB pb1 pb2 hPb2 hDg hSz hHt hDl hfA hfB sA sB bA bB hSo hDo
          have i0 : 256 ≤ Ac.size f ∨ (Ac.size f < 256 ∧ 8 ≤ Ac.deep f) := by omega
          generalize Ac.size f = SF at *
          generalize Ac.deep f = DF at *
          clear hq8
          have m3 : (SF : Int) ≤ 262144 := by omega
          rcases i0 with i0 | ⟨i0, i9⟩
          · have i1 : ¬ (SF : Int) < 256 := by omega
            go_upto_region 25 with (first
              | (go_at_call 21; (with_reducible refine (hSa _ hW37).mono ?_); rintro e w40 ⟨rfl, hb40⟩)
              | fail)
            obtain ⟨q2, q3⟩ := hs0 _ hb40
            rcases hx0 with rfl | rfl
            all_goals go_wp2_with (first
              | (go_at_call 18; (with_reducible refine (hMo _ hb40).mono ?_); rintro e w43 ⟨rfl, hb43⟩; have hZ43 := hb40.trans (hb43.mono hb40.size))
              | fail)
            all_goals go_ret
            all_goals exact ⟨by simp, hW37.trans (hZ43.mono hW37.size)⟩
          · have i1 : (SF : Int) < 256 := by omega
            have i2 : ¬ (DF : Int) < 8 := by omega
            go_upto_region 25 with (first
              | (go_at_call 21; (with_reducible refine (hSa _ hW37).mono ?_); rintro e w40 ⟨rfl, hb40⟩)
              | (go_at_call 22; (with_reducible refine (hDa _ (hW37.trans (hb40.mono hW37.size))).mono ?_); rintro e w41 ⟨rfl, hb41⟩; have hZ41 := hb40.trans (hb41.mono hb40.size))
              | fail)
            obtain ⟨q2, q3⟩ := hs0 _ hZ41
            rcases hx0 with rfl | rfl
            all_goals go_wp2_with (first
              | (go_at_call 18; (with_reducible refine (hMo _ hZ41).mono ?_); rintro e w43 ⟨rfl, hb43⟩; have hZ43 := hZ41.trans (hb43.mono hZ41.size))
              | fail)
            all_goals go_ret
            all_goals exact ⟨by simp, hW37.trans (hZ43.mono hW37.size)⟩

end Go.Proofs.YtfgdlnidfkjbdaaDoor
