/-
  DepfileUnion, walked.
-/
import Derived.Test.YtppcfidaalejfaaDpC
import Derived.Test.YtppcfidaalejfaaDpHas
import Derived.Test.YtppcfidaalejfaaRecG
import Derived.Test.YtppcfidaalejfaaPXS
namespace Go.Proofs.Ytppcfidaalejfaa
open Go.RowKit

set_option maxRecDepth 100000 in
set_option maxHeartbeats 8000000 in
theorem union_walk (hP : ParseC) (hD : DepsC) (hMe : MergeC) (p : ByteArray) (v : Value) (A : List Dp.Rule) (u : Value) (C : List Dp.Rule) (w : World) (hps : p.size ≤ 140737488351232) (hv : DrS w w.heap.size v A) (hz : Dp.Sized A) (hu : DrS w w.heap.size u C) (hz2 : Dp.Sized C) :
    Calls Try.prog 9 #[.string p, v, u] w fun e w' => e = .returned (.bool true) ∧ Below w.heap.size w w' := by
  obtain ⟨ad, c0, rfl, hle⟩ := hv.shape
  obtain ⟨ad2, c2, rfl, hle2⟩ := hu.shape
  have hW := works_any hP w
  go_enter Try.func9, Try.ntmps9
  go_wp2_with fail
  refine hW.mono ?_
  rintro e w1 ⟨rfl, hb1⟩
  have hv1 := hv.below hb1 (Nat.le_refl _)
  have hu1 := hu.below hb1 (Nat.le_refl _)
  have hR := RowsS.two hv1 hu1 hb1.size
  have hbr := hb1.alloc hb1.size (.cells #[.slice ad A.length c0, .slice ad2 C.length c2] 23)
  have hv2 := hv1.below ((Below.refl w1.heap.size w1).alloc (Nat.le_refl _) (.cells #[.slice ad A.length c0, .slice ad2 C.length c2] 23)) hb1.size
  have hu2 := hu1.below ((Below.refl w1.heap.size w1).alloc (Nat.le_refl _) (.cells #[.slice ad A.length c0, .slice ad2 C.length c2] 23)) hb1.size
  have hG := great_any _ [A, C] _ _ hR (by simp) (by simpa using ⟨hz, hz2⟩)
  clear hW hv1 hR hb1 hv hu hu1
  go_wp2_with fail
  refine hG.mono ?_
  rintro e w2 ⟨M, rfl, HM, hw2⟩
  rw [hw2]
  clear hw2 hG
  by_cases hm : M < 32768
  · have hV : Dp.vol A + Dp.vol C < 32768 := by have := HM.out hm; simp [Dp.vols] at this; omega
    have m0 : decide ((M : Int) ≥ 32768) = false := decide_eq_false (by omega)
    rw [m0]
    clear HM hm m0
    have hI := Is_any p (w1.alloc (.cells #[.slice ad A.length c0, .slice ad2 C.length c2] 23)) (by omega)
    cases hip : Pm.isP (bs p) with
    | false =>
      rw [hip] at hI
      go_wp2_with fail
      refine hI.mono ?_
      rintro e w3 ⟨rfl, hb3⟩
      go_wp2
      go_ret
      exact ⟨rfl, hbr.trans (hb3.mono hbr.size)⟩
    | true =>
      rw [hip] at hI
      go_wp2_with fail
      refine hI.mono ?_
      rintro e W4 ⟨rfl, hb3⟩
      have hv4 := hv2.below hb3 hbr.size
      have hu4 := hu2.below hb3 hbr.size
      have hbr := hbr.trans (hb3.mono hbr.size)
      have HV : Hid _ := hV
      have HIP : Hid _ := hip
      clear hI hb3 hv2 hu2 hV hip
      -- both
      obtain ⟨pl, l1, l2, l3⟩ := hv4
      obtain ⟨pm, m1, m2, m3⟩ := hu4
      have hv4 : DrS W4 w.heap.size (.slice ad A.length c0) A := ⟨pl, l1, l2, l3⟩
      have hu4 : DrS W4 w.heap.size (.slice ad2 C.length c2) C := ⟨pm, m1, m2, m3⟩
      have hlit : DrR.Own (W4.alloc (.cells #[] 32)) W4.heap.size (.slice (some ⟨W4.heap.size, 0, none⟩) 0 0) [] := World.ownsRow_lit (size := 2) W4 #[] 0 (Nat.le_refl _) (by decide) rfl
      have hBn := below_new W4 (.cells #[] 32)
      have l1a := l1.below hBn hbr.size
      have hpl : pl.length ≤ 32768 ∧ pm.length ≤ 32768 := by
        have h1 := Dp.vol_len A
        have h2 := Dp.vol_len C
        have h3 := HV.out
        have e1 : A.length = pl.length := by rw [l2, List.length_map]
        have e2 : C.length = pm.length := by rw [m2, List.length_map]
        omega
      have L2 : Hid _ := l2
      have M2 : Hid _ := m2
      clear l2 m2
      have HL1 : Hid (([] : List RawD).length + (pl.map Prod.fst).length ≤ 1099511627) := by
        show _ ≤ _
        simp only [List.length_nil, List.length_map]; omega
      have HL2 : Hid ((pl.map Prod.fst).length + (pm.map Prod.fst).length ≤ 1099511627) := by
        show _ ≤ _
        simp only [List.length_map]; omega
      have hzz : W4.heap.size ≤ (W4.alloc (.cells #[] 32)).heap.size := by rw [size_alloc]; omega
      go_wp2_with (at_builtin; first | go_must (refine Rc.append DrR rfl (.tmp 35) (.tmp 36) rfl W4.heap.size w.heap.size _ _ [] (pl.map Prod.fst) rfl hlit rfl l1a HL1 hzz ?_))
      intro v5 w5 hR5 hg5
      have hB5 : Below W4.heap.size W4 w5 := hBn.grown hg5 hBn.size fun q e => (hlit.lt q e).1
      have m1a := m1.below hB5 hbr.size
      go_wp2_with (at_builtin; first | go_must (refine Rc.append DrR rfl (.tmp 37) (.tmp 38) rfl W4.heap.size w.heap.size _ _ (pl.map Prod.fst) (pm.map Prod.fst) rfl hR5 rfl m1a HL2 hB5.size ?_))
      intro v6 w6 hR6 hg6
      have hB6 : Below W4.heap.size W4 w6 := hB5.grown hg6 hB5.size fun q e => (hR5.lt q e).1
      have hS6 : DrS w6 w6.heap.size v6 (A ++ C) := by
        refine ⟨pl ++ pm, ?_, by rw [List.map_append, ← L2.out, ← M2.out], fun q hq => ?_⟩
        · have := hR6.sl
          rw [← List.map_append] at this
          exact this
        · have hsz := Nat.le_trans hbr.size hB6.size
          rcases List.mem_append.1 hq with hq | hq
          · exact ⟨(l3 q hq).1, ((l3 q hq).2.below hB6 hbr.size).mono hsz⟩
          · exact ⟨(m3 q hq).1, ((m3 q hq).2.below hB6 hbr.size).mono hsz⟩
      have hv6 := hv4.below hB6 hbr.size
      have hu6 := hu4.below hB6 hbr.size
      have hbr := hbr.trans (hB6.mono hbr.size)
      clear hR6 hR5 hg5 hg6 m1a l1a hlit hBn HL1 HL2 hzz l1 l3 m1 m3 hB5 hB6 hv4 hu4 hpl L2 M2
      have hvb : Dp.vol (A ++ C) < 32768 := by
        have h : ∀ X Y : List Dp.Rule, Dp.vol (X ++ Y) = Dp.vol X + Dp.vol Y := fun X Y => by unfold Dp.vol; rw [List.map_append, List.sum_append]
        rw [h]; exact HV.out
      have hvm := Dp.vol_merge (A ++ C)
      have hU := Dp.uni (bs p) A C
      have HMM : Hid (Dp.merge (Dp.merge (A ++ C)) = Dp.merge (A ++ C)) := Dp.merge_merge _
      have hml := Dp.merge_len (A ++ C)
      have HML : Hid ((Dp.merge (A ++ C)).length ≤ 32768 ∧ ∀ x ∈ Dp.merge (A ++ C), x.2.length ≤ 32768) := ⟨by have := hml.1; omega, fun x hx => by have := hml.2 x hx; omega⟩
      have HLN : Hid ((Dp.lst (Dp.hangs Dp.nm (bs p) A)).length ≤ 32768 ∧ (Dp.lst (Dp.hangs Dp.nm (bs p) C)).length ≤ 32768 ∧ (Dp.lst (Dp.hangs Dp.nm (bs p) (A ++ C))).length ≤ 32768) := by
        have h1 := Dp.lst_len (p := bs p) (l := A)
        have h2 := Dp.lst_len (p := bs p) (l := C)
        have h3 := Dp.lst_len (p := bs p) (l := A ++ C)
        have h4 := HV.out
        exact ⟨by omega, by omega, by omega⟩
      have hD1 := hD p hps _ A w6 _ hv6 hbr.size (by have := HV.out; omega)
      have hD2 := fun W (h : DrS W w.heap.size (.slice ad2 C.length c2) C) (hs : w.heap.size ≤ W.heap.size) => hD p hps _ C W _ h hs (by have := HV.out; omega)
      have hD3 := fun W (h : DrS W w6.heap.size v6 (A ++ C)) (hs : w6.heap.size ≤ W.heap.size) => hD p hps _ (A ++ C) W _ h hs (by omega)
      have hM1 := fun W (h : DrS W w6.heap.size v6 (A ++ C)) (hs : w6.heap.size ≤ W.heap.size) => hMe _ (A ++ C) W _ h hs (by omega)
      have hM2 := fun W v B (h : DrS W B v (Dp.merge (A ++ C))) (hs : B ≤ W.heap.size) => hMe v (Dp.merge (A ++ C)) W B h hs (by omega)
      have hD4 := fun W v B (h : DrS W B v (Dp.merge (A ++ C))) (hs : B ≤ W.heap.size) => hD p hps v (Dp.merge (A ++ C)) W B h hs (by omega)
      rw [Dp.asked_is HIP.out] at hD1
      simp only [Dp.asked_is HIP.out] at hD2 hD3 hD4
      simp only [HMM.out] at hM2
      clear hvb hvm hml
      generalize Dp.hangs Dp.nm (bs p) A = r1 at *
      generalize Dp.hangs Dp.nm (bs p) C = r2 at *
      generalize Dp.hangs Dp.nm (bs p) (A ++ C) = r3 at *
      generalize Dp.hangs Dp.nm (bs p) (Dp.merge (A ++ C)) = r4 at *
      generalize Dp.merge (A ++ C) = MM at *
      generalize A ++ C = AC at *
      have HU : Hid _ := hU
      have HD2 : Hid _ := hD2
      have HD3 : Hid _ := hD3
      have HD4 : Hid _ := hD4
      have HM1 : Hid _ := hM1
      have HM2 : Hid _ := hM2
      clear hU hD2 hD3 hD4 hM1 hM2 HV HIP
      go_wp2_with fail
      refine hD1.mono ?_
      rintro e w7 h7
      obtain ⟨va, rfl, hOa, hb7⟩ := h7.uni
      have hu7 := hu6.below hb7 hbr.size
      have hS7 := hS6.below hb7 (Nat.le_refl _)
      have hSa := hOa.sl
      have h67 := hb7.size
      have hbr := hbr.trans (hb7.mono hbr.size)
      clear hD1 h7 hOa hb7 hu6 hS6 hv6
      go_wp2_with fail
      refine (HD2.out w7 hu7 hbr.size).mono ?_
      rintro e w8 h8
      obtain ⟨vb, rfl, hOb, hb8⟩ := h8.uni
      have hS8 := hS7.below hb8 h67
      have hSa := (hSa.below hb8 (Nat.le_refl _)).mono hb8.size
      have hSb := hOb.sl
      have h68 := Nat.le_trans h67 hb8.size
      have hbr := hbr.trans (hb8.mono hbr.size)
      clear HD2 h8 hOb hb8 hu7 hS7 h67
      go_wp2_with fail
      refine (HD3.out w8 hS8 h68).mono ?_
      rintro e w9 h9
      obtain ⟨vc, rfl, hOc, hb9⟩ := h9.uni
      have hS9 := hS8.below hb9 h68
      have hSa := (hSa.below hb9 (Nat.le_refl _)).mono hb9.size
      have hSb := (hSb.below hb9 (Nat.le_refl _)).mono hb9.size
      have hSc := hOc.sl
      have h69 := Nat.le_trans h68 hb9.size
      have hbr := hbr.trans (hb9.mono hbr.size)
      clear HD3 h9 hOc hb9 hS8 h68
      go_wp2_with fail
      refine (HM1.out w9 hS9 h69).mono ?_
      rintro e wa ⟨ve, rfl, hOe, hba⟩
      have hSa := (hSa.below hba (Nat.le_refl _)).mono hba.size
      have hSb := (hSb.below hba (Nat.le_refl _)).mono hba.size
      have hSc := (hSc.below hba (Nat.le_refl _)).mono hba.size
      have hSe := hOe.s
      have hbr := hbr.trans (hba.mono hbr.size)
      clear HM1 hOe hba hS9 h69
      go_wp2_with fail
      refine (HM2.out wa ve _ hSe (Nat.le_refl _)).mono ?_
      rintro e wb ⟨vf, rfl, hOf, hbb⟩
      have hSa := (hSa.below hbb (Nat.le_refl _)).mono hbb.size
      have hSb := (hSb.below hbb (Nat.le_refl _)).mono hbb.size
      have hSc := (hSc.below hbb (Nat.le_refl _)).mono hbb.size
      have hSe := (hSe.below hbb (Nat.le_refl _)).mono hbb.size
      have hSf := hOf.s
      have hbr := hbr.trans (hbb.mono hbr.size)
      clear HM2 hOf hbb
      go_wp2_with fail
      refine (HD4.out wb ve _ hSe (Nat.le_refl _)).mono ?_
      rintro e wc hc
      obtain ⟨vd, rfl, hOd, hbc⟩ := hc.uni
      have hSa := (hSa.below hbc (Nat.le_refl _)).mono hbc.size
      have hSb := (hSb.below hbc (Nat.le_refl _)).mono hbc.size
      have hSc := (hSc.below hbc (Nat.le_refl _)).mono hbc.size
      have hSe := (hSe.below hbc (Nat.le_refl _)).mono hbc.size
      have hSf := (hSf.below hbc (Nat.le_refl _)).mono hbc.size
      have hSd := hOd.sl
      have hbr := hbr.trans (hbc.mono hbr.size)
      clear HD4 hc hOd hbc
      have hEq := SameD_quiet ve vf MM MM wc wc.heap.size hSe hSf (by have := HML.out.1; omega) (fun x hx => by have := HML.out.2 x hx; omega)
      rw [decide_eq_true rfl] at hEq
      obtain ⟨k1, k2, k3, kok, klen, kmem, kbad, kboth⟩ := HU.out
      obtain ⟨n1, n2, n3⟩ := HLN.out
      generalize Dp.lst r1 = a at *
      generalize Dp.lst r2 = b at *
      generalize Dp.lst r3 = al at *
      generalize Dp.lst r4 = cl at *
      generalize Dp.err r1 = e at *
      generalize Dp.err r2 = f at *
      generalize Dp.err r3 = g at *
      generalize Dp.err r4 = h at *
      have KBAD : Hid _ := kbad
      have KBOTH : Hid _ := kboth
      have KMEM : Hid _ := kmem
      have KLEN : Hid _ := klen
      have K1 : Hid _ := k1
      have K2 : Hid _ := k2
      have K3 : Hid _ := k3
      have hgh : (h == 0) = (g == 0) := by rw [Bool.eq_iff_iff, beq_iff_eq, beq_iff_eq]; exact kok.symm
      obtain ⟨gb, hgb⟩ : ∃ gb, (g == 0) = gb := ⟨_, rfl⟩
      rw [hgb] at hgh
      have HGB : Hid _ := hgb
      obtain ⟨aA, aC, rfl, haC⟩ := hSa.shape
      obtain ⟨bA, bC, rfl, hbC⟩ := hSb.shape
      obtain ⟨cA, cC, rfl, hcC⟩ := hSc.shape
      obtain ⟨dA, dC, rfl, hdC⟩ := hSd.shape
      rw [klen]
      clear kbad kboth kmem klen k1 k2 k3 kok HU HLN
      have HN1 : Hid _ := n1
      have HN2 : Hid _ := n2
      have HN3 : Hid _ := n3
      clear hSe hSf n1 n2 n3
      go_wp2_with fail
      refine hEq.mono ?_
      rintro e' wd ⟨rfl, nd, hnd⟩
      have hbd : Below wc.heap.size wc wd := by rw [hnd]; exact below_drewN (Below.refl _ _) nd
      have hSa := (hSa.below hbd (Nat.le_refl _)).mono hbd.size
      have hSb := (hSb.below hbd (Nat.le_refl _)).mono hbd.size
      have hSc := (hSc.below hbd (Nat.le_refl _)).mono hbd.size
      have hSd := (hSd.below hbd (Nat.le_refl _)).mono hbd.size
      have hbr := hbr.trans (hbd.mono hbr.size)
      rw [KLEN.out] at hSd
      clear hEq hnd hbd
      have n3 : (al.length : Int) ≤ 32768 := by have := HN3.out; omega
      go_wp2
      go_loopw [88] (fun k wr => ∃ i : Nat, i ≤ al.length ∧ k = .int .i64 (i : Int) ∧ wd = wr) (fun k _ => al.length - (intOf k).toNat)
      case atStart => exact ⟨0, Nat.zero_le _, rfl, rfl⟩
      case round =>
        obtain ⟨i, hi, rfl, rfl⟩ := hrel
        by_cases hlt : i < al.length
        · have i1 : (i : Int) < (al.length : Int) := by omega
          have hic : i < cl.length := by rw [KLEN.out]; exact hlt
          obtain ⟨b2, o2, cc2, e2, -, r0⟩ := BR.ix hSd hic
          simp only [Value.slice.injEq] at e2
          obtain ⟨rfl, -, rfl⟩ := e2
          have hH := has_any _ al cl[i] _ wd hSc (by have := HN3.out; omega)
          rw [decide_eq_true (KMEM.out _ (List.getElem_mem hic))] at hH
          generalize cl[i] = d at *
          generalize str d = sd at *
          go_wp2_with fail
          refine hH.mono ?_
          rintro e3 w8 ⟨rfl, hw8⟩
          rw [hw8]
          clear hw8 hH
          go_wp2
          exact ⟨⟨i + 1, by omega, by go_num, trivial⟩, by simp [intOf]; omega⟩
        · have i1 : ¬ (i : Int) < (al.length : Int) := by omega
          have hbe := bad_any e wd
          have hbf := bad_any f wd
          have hbg := bad_any g wd
          have hbad : ∀ x : Int, (x = 0 ∨ x = 4 ∨ Dp.Bad x) → (Dp.Bad x ↔ (x ≠ 0 ∧ x ≠ 4)) := fun x hx => by
            unfold Dp.Bad at *
            omega
          by_cases hb : Dp.Bad e ∨ Dp.Bad f
          · obtain ⟨hg, hal⟩ := KBAD.out hb
            rw [decide_eq_true ((hbad g K3.out).1 hg)] at hbg
            have l2 : ((al.length : Int) == 0) = true := by rw [hal]; rfl
            have HAL : Hid _ := hal
            clear hal hg
            by_cases he : Dp.Bad e
            · rw [decide_eq_true ((hbad e K1.out).1 he)] at hbe
              clear hb he hbad hbf
              go_wp2_with fail
              refine hbe.mono ?_
              rintro e3 w8 ⟨rfl, hw8⟩
              rw [hw8]
              clear hw8 hbe
              go_wp2_with fail
              refine hbg.mono ?_
              rintro e3 w8 ⟨rfl, hw8⟩
              rw [hw8]
              clear hw8 hbg
              go_wp2
              go_ret
              exact ⟨rfl, hbr⟩
            · rw [decide_eq_false (fun h => he ((hbad e K1.out).2 h))] at hbe
              rw [decide_eq_true ((hbad f K2.out).1 (hb.resolve_left he))] at hbf
              clear hb he hbad
              go_wp2_with fail
              refine hbe.mono ?_
              rintro e3 w8 ⟨rfl, hw8⟩
              rw [hw8]
              clear hw8 hbe
              go_wp2_with fail
              refine hbf.mono ?_
              rintro e3 w8 ⟨rfl, hw8⟩
              rw [hw8]
              clear hw8 hbf
              go_wp2_with fail
              refine hbg.mono ?_
              rintro e3 w8 ⟨rfl, hw8⟩
              rw [hw8]
              clear hw8 hbg
              go_wp2
              go_ret
              exact ⟨rfl, hbr⟩
          · obtain ⟨kg, kal⟩ := KBOTH.out hb
            rw [decide_eq_false (fun h => hb (.inl ((hbad e K1.out).2 h)))] at hbe
            rw [decide_eq_false (fun h => hb (.inr ((hbad f K2.out).2 h)))] at hbf
            clear hb hbad hbg
            have KAL : Hid _ := kal
            have hla : a.length ≤ al.length := by rw [kal, List.length_append]; omega
            have hgb2 : gb = ((e == 0) || (f == 0)) := by
              rw [← HGB.out, Bool.eq_iff_iff, Bool.or_eq_true, beq_iff_eq, beq_iff_eq, beq_iff_eq]
              exact kg
            clear kal kg
            go_wp2_with fail
            refine hbe.mono ?_
            rintro e3 w8 ⟨rfl, hw8⟩
            rw [hw8]
            clear hw8 hbe
            go_wp2_with fail
            refine hbf.mono ?_
            rintro e3 w8 ⟨rfl, hw8⟩
            rw [hw8]
            clear hw8 hbf
            obtain ⟨eb, heb⟩ : ∃ eb, (e == 0) = eb := ⟨_, rfl⟩
            obtain ⟨fb, hfb⟩ : ∃ fb, (f == 0) = fb := ⟨_, rfl⟩
            rw [heb, hfb] at hgb2
            have hgb3 := HGB.out
            rw [hgb2] at hgb3
            clear hgb2 hgb hgh HGB
            have n4 : (a.length : Int) ≤ (al.length : Int) := by omega
            have n5 : ¬ (al.length : Int) < (a.length : Int) := by omega
            have n6 : decide (al.length < a.length) = false := decide_eq_false (by omega)
            have hsl := Rc.slice_head (R := BR) wd cA al.length cC a.length (by omega)
            have hsl' : (Instr.slice 30 (.slice cA al.length cC) none (some (.int .i64 (a.length : Int))) none).run Try.prog wd = .ok (.slice cA a.length cC) wd := hsl
            have hSh := hSc.head a.length hla
            have htk : al.take a.length = a := by rw [KAL.out, List.take_left]
            rw [htk] at hSh
            have hT := TextsD_quiet wd _ _ _ a a hSh hSa (by have := HN1.out; omega)
            rw [decide_eq_true rfl] at hT
            clear hsl htk hSh
            go_upto_region 23 with fail
            go_cut [137] (fun t wx => t = .bool false ∧ Below wd.heap.size wd wx)
            case first =>
              cases eb <;> cases fb <;> (
                go_wp2_with fail
                refine hT.mono ?_
                rintro e3 w8 ⟨rfl, n8, hw8⟩
                rw [hw8]
                clear hw8
                go_wp2
                go_meet
                exact ⟨rfl, below_drewN (Below.refl _ _) _⟩)
            case rest =>
              obtain ⟨rfl, hbx⟩ := hcut
              have hSa := (hSa.below hbx (Nat.le_refl _)).mono hbx.size
              have hSb := (hSb.below hbx (Nat.le_refl _)).mono hbx.size
              have hSc := (hSc.below hbx (Nat.le_refl _)).mono hbx.size
              have hbr := hbr.trans (hbx.mono hbr.size)
              clear hbx hT hsl' n5 n6 hgb3
              have n7 : (b.length : Int) ≤ 32768 := by have := HN2.out; omega
              go_wp2
              go_loopw [21, 142] (fun m k wr => ∃ i N : Nat, i ≤ b.length ∧ k = .int .i64 (i : Int) ∧ m = .int .i64 (N : Int) ∧ Hid (N = a.length + ((b.take i).filter (fun s => decide (s ∉ a))).length) ∧ wc = wr) (fun _ k _ => b.length - (intOf k).toNat)
              case atStart => exact ⟨0, a.length, Nat.zero_le _, rfl, rfl, rfl, rfl⟩
              case round =>
                obtain ⟨i, N, hi, rfl, rfl, HN, rfl⟩ := hrel
                have hsp : al = a ++ ((b.take i).filter (fun s => decide (s ∉ a)) ++ (b.drop i).filter (fun s => decide (s ∉ a))) := by
                  rw [← List.filter_append, List.take_append_drop]; exact KAL.out
                have HSP : Hid _ := hsp
                clear hsp
                by_cases hlt : i < b.length
                · have i1 : (i : Int) < (b.length : Int) := by omega
                  obtain ⟨b2, o2, cc2, e2, -, r0⟩ := BR.ix hSb hlt
                  simp only [Value.slice.injEq] at e2
                  obtain ⟨rfl, -, rfl⟩ := e2
                  have hH := has_any _ a b[i] _ wc hSa (by have := HN1.out; omega)
                  have HT1 : Hid ((b.take (i + 1)).filter (fun s => decide (s ∉ a)) = (b.take i).filter (fun s => decide (s ∉ a)) ++ [b[i]].filter (fun s => decide (s ∉ a))) := by
                    show _ = _
                    rw [List.take_succ_eq_append_getElem hlt, List.filter_append]
                  have HDR : Hid ((b.drop i).filter (fun s => decide (s ∉ a)) = [b[i]].filter (fun s => decide (s ∉ a)) ++ (b.drop (i + 1)).filter (fun s => decide (s ∉ a))) := by
                    show _ = _
                    rw [← List.filter_append]
                    congr 1
                    exact List.drop_eq_getElem_cons hlt
                  generalize b[i] = d at *
                  by_cases hda : d ∈ a
                  · rw [decide_eq_true hda] at hH
                    have HN9 : Hid (N = a.length + ((b.take (i + 1)).filter (fun s => decide (s ∉ a))).length) := by
                      show _ = _
                      rw [HT1.out, HN.out]
                      simp [hda]
                    clear hda HT1 HDR HSP
                    generalize str d = sd at *
                    go_wp2_with fail
                    refine hH.mono ?_
                    rintro e3 w8 ⟨rfl, hw8⟩
                    rw [hw8]
                    clear hw8 hH
                    go_wp2
                    exact ⟨⟨i + 1, N, by omega, by go_num, rfl, HN9, trivial⟩, by simp [intOf]; omega⟩
                  · rw [decide_eq_false hda] at hH
                    have hfd : [d].filter (fun s => decide (s ∉ a)) = [d] := by simp [hda]
                    have HN9 : Hid (N + 1 = a.length + ((b.take (i + 1)).filter (fun s => decide (s ∉ a))).length) := by
                      show _ = _
                      rw [HT1.out, hfd, HN.out, List.length_append]; rfl
                    have hal2 : al = a ++ (b.take i).filter (fun s => decide (s ∉ a)) ++ d :: (b.drop (i + 1)).filter (fun s => decide (s ∉ a)) := by
                      rw [HSP.out, HDR.out, hfd]; simp
                    have hNl : N < al.length := by
                      rw [hal2, HN.out]
                      simp only [List.length_append, List.length_cons]; omega
                    have hNd : al[N] = d := by
                      have h1 : al[N]? = some d := by
                        rw [hal2, HN.out, List.getElem?_append_right (by rw [List.length_append]; exact Nat.le_refl _), List.length_append, Nat.sub_self]
                        rfl
                      rw [List.getElem?_eq_getElem hNl] at h1
                      exact Option.some.inj h1
                    obtain ⟨b3, o3, cc3, e3, -, r1⟩ := BR.ix hSc hNl
                    simp only [Value.slice.injEq] at e3
                    obtain ⟨rfl, -, rfl⟩ := e3
                    rw [hNd] at r1
                    have i2 : (N : Int) < (al.length : Int) := by omega
                    have i3 : ¬ (N : Int) ≥ (al.length : Int) := by omega
                    clear hda HT1 HDR HSP hfd hal2 hNd HN
                    generalize str d = sd at *
                    go_wp2_with fail
                    refine hH.mono ?_
                    rintro e4 w8 ⟨rfl, hw8⟩
                    rw [hw8]
                    clear hw8 hH
                    go_wp2
                    exact ⟨⟨i + 1, N + 1, by omega, by go_num, by go_num, HN9, trivial⟩, by simp [intOf]; omega⟩
                · obtain rfl : i = b.length := by omega
                  have i1 : ¬ (b.length : Int) < (b.length : Int) := by omega
                  have hNe : N = al.length := by
                    rw [HN.out, HSP.out, List.drop_length, List.take_length]
                    simp
                  have i2 : ((N : Int) == (al.length : Int)) = true := by rw [beq_iff_eq]; omega
                  clear hNe HN HSP
                  go_wp2
                  go_ret
                  exact ⟨rfl, hbr⟩
  · have m0 : decide ((M : Int) ≥ 32768) = true := decide_eq_true (by omega)
    rw [m0]
    clear HM m0 hm
    go_wp2
    go_ret
    exact ⟨rfl, hbr⟩

end Go.Proofs.Ytppcfidaalejfaa
