/-
  DepfileMerges, walked.
-/
import Derived.Test.YtppcfidaalejfaaDpC
import Derived.Test.YtppcfidaalejfaaDpGreat
import Derived.Test.YtppcfidaalejfaaDpMrgT
import Derived.Test.YtppcfidaalejfaaDpLen
namespace Go.Proofs.Ytppcfidaalejfaa
open Go.RowKit

set_option maxRecDepth 100000 in
set_option maxHeartbeats 4000000 in
theorem merges_walk (hP : ParseC) (hMe : MergeC) (v : Value) (A : List Dp.Rule) (w : World) (hv : DrS w w.heap.size v A) (hz : Dp.Sized A) :
    Calls Try.prog 6 #[v] w fun e w' => e = .returned (.bool true) ∧ Below w.heap.size w w' := by
  obtain ⟨ad, c, rfl, hle⟩ := hv.shape
  have hW := works_any hP w
  go_enter Try.func6, Try.ntmps6
  go_wp2_with fail
  refine hW.mono ?_
  rintro e w1 ⟨rfl, hb1⟩
  have hv1 := hv.below hb1 (Nat.le_refl _)
  have hR := RowsS.one hv1 hb1.size
  have hbr := hb1.alloc hb1.size (.cells #[.slice ad A.length c] 23)
  have hv2 := hv1.below ((Below.refl w1.heap.size w1).alloc (Nat.le_refl _) (.cells #[.slice ad A.length c] 23)) hb1.size
  have hG := great_any _ [A] _ _ hR (by simp) (by simpa using hz)
  clear hW hv1 hR hb1 hv
  go_wp2_with fail
  refine hG.mono ?_
  rintro e w2 ⟨M, rfl, HM, hw2⟩
  rw [hw2]
  clear hw2 hG
  by_cases hm : M < 32768
  · have hV : Dp.vol A < 32768 := by have := HM.out hm; simp [Dp.vols] at this; omega
    have m0 : decide ((M : Int) ≥ 32768) = false := decide_eq_false (by omega)
    rw [m0]
    clear HM hm m0
    generalize w1.alloc (.cells #[.slice ad A.length c] 23) = W2 at *
    obtain ⟨hml, hmd⟩ := Dp.merge_len A
    have HML : Hid ((Dp.merge A).length ≤ 32768) := by show _ ≤ _; omega
    have HMD : Hid (∀ u ∈ Dp.merge A, u.2.length ≤ 32768) := fun u hu => by have := hmd u hu; omega
    have h1 := MergeT_any _ A W2 _ hv2 hbr.size (by omega)
    have h2 := fun W (h : DrS W w.heap.size (.slice ad A.length c) A) (hs : w.heap.size ≤ W.heap.size) => hMe _ A W _ h hs (by omega)
    clear hml hmd hV
    generalize Dp.merge A = MM at *
    go_wp2_with fail
    refine h1.mono ?_
    rintro e w3 ⟨v3, rfl, hO3, hb3⟩
    have hv3 := hv2.below hb3 hbr.size
    have hbr := hbr.trans (hb3.mono hbr.size)
    clear h1 hv2 hb3
    go_wp2_with fail
    refine (h2 w3 hv3 hbr.size).mono ?_
    rintro e w4 ⟨v4, rfl, hO4, hb4⟩
    have hv4 := hv3.below hb4 hbr.size
    have hbr4 := hbr.trans (hb4.mono hbr.size)
    have hS3 := hO3.s
    have hS34 := (hS3.below hb4 (Nat.le_refl _)).mono hb4.size
    obtain ⟨ps, k1, k2, k3, k4⟩ := hO4
    have hD4 : Drs w4 w3.heap.size v4 ps := ⟨k1, k3, k4⟩
    have hEq := SameD_quiet v4 v3 MM MM w4 w4.heap.size (by rw [k2]; exact hD4.s) hS34 (by have := HML.out; omega) (fun x hx => by have := HMD.out x hx; omega)
    rw [decide_eq_true rfl] at hEq
    have hpl : ps.length = MM.length := by rw [k2, List.length_map]
    have HK2 : Hid (MM = ps.map Prod.snd) := k2
    clear k1 k2 k3 k4 hO3 hS34
    go_wp2_with fail
    refine hEq.mono ?_
    rintro e w5 ⟨rfl, n5, hn5⟩
    have hb45 : Below w4.heap.size w4 w5 := by rw [hn5]; exact below_drewN (Below.refl _ _) _
    have hD5 := hD4.below hb45 (Nat.le_refl _)
    have hb35 : Below w3.heap.size w3 w5 := hb4.trans (hb45.mono hb4.size)
    clear hEq hn5 hD4 hb45 hb4 hv4 hbr4
    have HBR : Hid (w.heap.size ≤ w3.heap.size) := hbr.size
    obtain ⟨a3, c3, rfl, hc3⟩ := hS3.shape
    have hvl := DrS.shape hD5.s
    obtain ⟨a4, c4, e4, hc4⟩ := hvl
    rw [List.length_map] at e4 hc4
    subst e4
    have hbn : (ps.length : Int) ≤ 32768 := by have := HML.out; omega
    obtain ⟨N, hN⟩ : ∃ N, MM.length = N := ⟨_, rfl⟩
    rw [hN] at hpl hc3 HML hS3 ⊢
    rw [hpl] at hbn hc4 hD5 ⊢
    have HN : Hid _ := hN
    have HPL : Hid _ := hpl
    clear hN hpl
    go_wp2
    go_loopw [5] (fun k wr => ∃ (i : Nat) (qs : List (RawD × Dp.Rule)), i ≤ N ∧ k = .int .i64 (i : Int) ∧ Drs wr w3.heap.size (.slice a4 N c4) qs ∧ Hid (qs.length = N) ∧ Hid (∀ j (hj : j < qs.length), i ≤ j → qs[j].2 = MM.getD j Dp.noR) ∧ Below w3.heap.size w3 wr) (fun k _ => N - (intOf k).toNat)
    case atStart => exact ⟨0, ps, Nat.zero_le _, rfl, hD5, HPL, (fun j hj _ => by rw [HK2.out]; simp [List.getD, List.getElem?_eq_getElem hj]), hb35⟩
    case round =>
      obtain ⟨i, qs, hi, rfl, hD, HQL, HQ, hBe⟩ := hrel
      by_cases hlt : i < N
      · have i1 : (i : Int) < (N : Int) := by omega
        have hiq : i < qs.length := by rw [HQL.out]; exact hlt
        obtain ⟨ga, ca, e, hga, -, -, -⟩ := Rc.Own.set hD.row i 1 (by rw [List.length_map]; exact hiq) (by decide)
        simp only [Value.slice.injEq] at e
        obtain ⟨rfl, -, rfl⟩ := e
        have hDa := hD.alloc (.cells #[.string ⟨#[109, 111, 114, 101]⟩] 9)
        obtain ⟨-, m1, hOd⟩ := hDa.cells hiq
        obtain ⟨-, m1', -⟩ := hD.cells hiq
        have hdl : qs[i].2.2.length ≤ 32768 := by
          rw [HQ.out i hiq (Nat.le_refl _)]
          exact HMD.out _ (List.getD_mem' _ (by rw [HN.out]; exact hlt))
        have hLt := BR.lit wr [109, 111, 114, 101] #[.string ⟨#[109, 111, 114, 101]⟩] rfl
        have HLn : Hid (qs[i].2.2.length + [([109, 111, 114, 101] : List UInt8)].length ≤ 1099511627) := by show _ ≤ _; simp only [List.length_cons, List.length_nil]; omega
        have hzb : w3.heap.size ≤ (wr.alloc (.cells #[.string ⟨#[109, 111, 114, 101]⟩] 9)).heap.size := by have := hBe.size; rw [size_alloc']; omega
        obtain ⟨dA, dn, dc, hqd⟩ : ∃ dA dn dc, qs[i].1.deps = .slice dA dn dc := ⟨_, _, _, rfl⟩
        rw [hqd] at m1 m1' hOd
        have hdn : dn = qs[i].2.2.length := by
          obtain ⟨a9, c9, e9, -⟩ := hOd.sl.shape
          simp only [Value.slice.injEq] at e9
          exact e9.2.1
        subst hdn
        have HSD := fun (w6 : World) (g cap n : Nat) (D : List (List UInt8)) (hO : BR.Own w6 w3.heap.size (.slice (some ⟨g, 0, none⟩) n cap) D) hg hn => hDa.setDeps (w5 := w6) hiq (ad' := some ⟨g, 0, none⟩) (n' := n) (c' := cap) (D := D) hO hg hn
        have HSD : Hid _ := HSD
        have HQ2 : Hid (∀ (r : RawD) (D : List (List UInt8)) j (hj : j < (qs.set i (r, (qs[i].2.1, D))).length), i + 1 ≤ j → (qs.set i (r, (qs[i].2.1, D)))[j].2 = MM.getD j Dp.noR) := fun r D j hj hij => by
          rw [List.getElem_set, if_neg (by omega)]
          exact HQ.out j (by rw [List.length_set] at hj; exact hj) (by omega)
        have HQ3 : Hid (∀ (r : RawD) (D : List (List UInt8)), (qs.set i (r, (qs[i].2.1, D))).length = N) := fun r D => by rw [List.length_set]; exact HQL.out
        have HQ4 : Hid (∀ (r : RawD) (D : List (List UInt8)) (h : i < (qs.set i (r, (qs[i].2.1, D))).length), (qs.set i (r, (qs[i].2.1, D)))[i].2.2 = D) := fun r D h => by rw [List.getElem_set, if_pos rfl]
        have HOD : Hid (∀ w6 : World, (wr.alloc (.cells #[.string ⟨#[109, 111, 114, 101]⟩] 9)).grownBy w6 (Value.slice dA qs[i].2.2.length dc).ownBlock → Below w3.heap.size w3 w6) := fun w6 h => (hBe.alloc hBe.size _).grown h hzb fun q e => (hOd.lt q e).1
        obtain ⟨D0, hD0⟩ : ∃ D0, qs[i].2.2 = D0 := ⟨_, rfl⟩
        rw [hD0] at HLn hOd m1 m1' hqd HOD hdl
        have HD0 : Hid _ := hD0
        have HQD : Hid _ := hqd
        clear hDa HQ HQL hD0 hqd
        go_wp2_with (at_builtin; go_must (refine BR.append_at rfl (.tmp 32) (.tmp 33) rfl w3.heap.size (wr.heap.size + 1) _ _ D0 [[109, 111, 114, 101]] rfl hOd rfl hLt (by simp) HLn hzb ?_))
        intro g cap w6 hO6 hg6 hw6 hlt6
        have hg6' : (wr.alloc (.cells #[.string ⟨#[109, 111, 114, 101]⟩] 9)).grownBy w6 (Value.slice dA D0.length dc).ownBlock := hg6
        have hbe6 := HOD.out w6 hg6'
        obtain ⟨fr6, ce6, hD6⟩ := HSD.out w6 g cap (D0.length + 1) (D0 ++ [[109, 111, 114, 101]]) (by simpa using hO6) (by rw [HQD.out]; exact hg6') (fun q hq => by
          have hq : some g = some q := hq
          rw [Option.some.injEq] at hq
          subst hq
          rw [HQD.out]
          rcases hw6 with h | h
          · exact .inl h
          · right; rw [size_alloc', h]; omega)
        rw [HQD.out] at ce6
        have hgg : w3.heap.size ≤ ga := hga
        have hBs : Below w3.heap.size w6 (w6.setCell ⟨ga, i * 2 + 1, none⟩ (.slice (some ⟨g, 0, none⟩) (D0.length + 1) cap)) := ((Turn.refl [ga] w6).set (fun _ => by simp) _).below' hbe6.size (by simpa using hgg)
        have hB6 := hbe6.trans hBs
        have HR2 := HQ2.out ⟨qs[i].1.t, some ⟨g, 0, none⟩, D0.length + 1, cap⟩ (D0 ++ [[109, 111, 114, 101]])
        have HR3 := HQ3.out ⟨qs[i].1.t, some ⟨g, 0, none⟩, D0.length + 1, cap⟩ (D0 ++ [[109, 111, 114, 101]])
        have HR4 := HQ4.out ⟨qs[i].1.t, some ⟨g, 0, none⟩, D0.length + 1, cap⟩ (D0 ++ [[109, 111, 114, 101]])
        generalize qs.set i (⟨qs[i].1.t, some ⟨g, 0, none⟩, D0.length + 1, cap⟩, (qs[i].2.1, D0 ++ [[109, 111, 114, 101]])) = rs at *
        have HR5 : Hid (∀ h : i < rs.length, rs[i].2.2.length = D0.length + 1) := fun h => by rw [HR4 h, List.length_append]; rfl
        have HR2 : Hid _ := HR2
        have HR3 : Hid _ := HR3
        clear HR4 HSD HQ2 HQ3 HQ4 hBs hg6 hg6' hw6 hlt6 hO6 hLt HLn hzb HOD HQD HD0 hOd m1 hbe6
        obtain ⟨L1, hL1⟩ : ∃ L1, D0.length + 1 = L1 := ⟨_, rfl⟩
        rw [hL1] at HR5 hD6 hB6
        have hlb : (L1 : Int) ≤ 32769 := by omega
        have hD0L : (D0.length : Int) + 1 = (L1 : Int) := by omega
        have hL1' : D0.length + 1 = L1 := hL1
        clear hdl
        go_wp2
        rw [hL1']
        generalize w6.setCell ⟨ga, i * 2 + 1, none⟩ (.slice (some ⟨g, 0, none⟩) L1 cap) = W6 at *
        clear hL1 hL1' hD0L ce6 fr6 m1'
        go_loopw [6] (fun kk wr => ∃ (k : Nat) (rs : List (RawD × Dp.Rule)), k ≤ L1 ∧ kk = .int .i64 (k : Int) ∧ Drs wr w3.heap.size (.slice (some ⟨ga, 0, none⟩) N c4) rs ∧ Hid (rs.length = N) ∧ Hid (∀ j (hj : j < rs.length), i + 1 ≤ j → rs[j].2 = MM.getD j Dp.noR) ∧ Hid (∀ h : i < rs.length, rs[i].2.2.length = L1) ∧ Below w3.heap.size w3 wr) (fun kk _ => L1 - (intOf kk).toNat)
        case atStart => exact ⟨0, rs, Nat.zero_le _, rfl, hD6, HR3, HR2, HR5, hB6⟩
        case round =>
          obtain ⟨k, rs, hk, rfl, hDr, HRL, HRQ, HRD, hBr⟩ := hrel
          have hir : i < rs.length := by rw [HRL.out]; exact hlt
          obtain ⟨-, m1, hOd⟩ := hDr.cells hir
          obtain ⟨dA2, dc2, e, -⟩ := hOd.sl.shape
          rw [HRD.out hir] at e
          rw [e] at m1
          by_cases hkl : k < L1
          · have k1 : (k : Int) < (L1 : Int) := by omega
            obtain ⟨gd, cap2, e2, hgb, hfr, hce, hset⟩ := hDr.setText hir (f := k) (by rw [HRD.out hir]; exact hkl) [103, 111, 110, 101]
            rw [e] at e2
            simp only [Value.slice.injEq] at e2
            obtain ⟨rfl, -, rfl⟩ := e2
            rw [show str [103, 111, 110, 101] = ⟨#[103, 111, 110, 101]⟩ from rfl] at hset
            have hBs : Below w3.heap.size wr (wr.setCell ⟨gd, k, none⟩ (.string ⟨#[103, 111, 110, 101]⟩)) := ((Turn.refl [gd] wr).set (fun _ => by simp) _).below' hBr.size (by simpa using hgb)
            have hB7 := hBr.trans hBs
            have HS2 : Hid (∀ j (hj : j < (rs.set i (rs[i].1, (rs[i].2.1, rs[i].2.2.set k [103, 111, 110, 101]))).length), i + 1 ≤ j → (rs.set i (rs[i].1, (rs[i].2.1, rs[i].2.2.set k [103, 111, 110, 101])))[j].2 = MM.getD j Dp.noR) := fun j hj hij => by
              rw [List.getElem_set, if_neg (by omega)]
              exact HRQ.out j (by rw [List.length_set] at hj; exact hj) hij
            have HS3 : Hid ((rs.set i (rs[i].1, (rs[i].2.1, rs[i].2.2.set k [103, 111, 110, 101]))).length = N) := by show _ = _; rw [List.length_set]; exact HRL.out
            have HS4 : Hid (∀ h : i < (rs.set i (rs[i].1, (rs[i].2.1, rs[i].2.2.set k [103, 111, 110, 101]))).length, (rs.set i (rs[i].1, (rs[i].2.1, rs[i].2.2.set k [103, 111, 110, 101])))[i].2.2.length = L1) := fun h => by
              rw [List.getElem_set, if_pos rfl]
              show (rs[i].2.2.set k [103, 111, 110, 101]).length = L1
              rw [List.length_set]
              exact HRD.out hir
            generalize rs.set i (rs[i].1, (rs[i].2.1, rs[i].2.2.set k [103, 111, 110, 101])) = ts at *
            obtain ⟨old, hold⟩ : ∃ u, wr.cell? ⟨gd, k, none⟩ = some u := ⟨_, hce⟩
            clear hce hBs hOd e HRQ HRL HRD hDr
            go_wp2
            exact ⟨⟨k + 1, ts, by omega, by go_num, hset, HS3, HS2, HS4, hB7⟩, by simp [intOf]; omega⟩
          · have k1 : ¬ (k : Int) < (L1 : Int) := by omega
            obtain ⟨A1, hA1, hT1⟩ := hDr.s.tail (i + 1) (by rw [List.length_map, HRL.out]; omega)
            obtain ⟨A2, hA2, hT2⟩ := (hS3.below hBr (Nat.le_refl _)).tail (i + 1) (by rw [HN.out]; omega)
            have hA1' : ∀ W : World, (Instr.slice 23 (.slice (some ⟨ga, 0, none⟩) N c4) (some (.int .i64 ((i : Int) + 1))) none none).run Try.prog W = .ok (.slice A1 (N - (i + 1)) (c4 - (i + 1))) W := hA1
            have hA2' : ∀ W : World, (Instr.slice 23 (.slice a3 N c3) (some (.int .i64 ((i : Int) + 1))) none none).run Try.prog W = .ok (.slice A2 (N - (i + 1)) (c3 - (i + 1))) W := hA2
            have hEqs : (rs.map Prod.snd).drop (i + 1) = MM.drop (i + 1) := by
              refine List.ext_getElem (by rw [List.length_drop, List.length_drop, List.length_map, HRL.out, HN.out]) fun j h1 h2 => ?_
              rw [List.getElem_drop, List.getElem_drop, List.getElem_map]
              rw [List.length_drop, List.length_map] at h1
              rw [HRQ.out (i + 1 + j) (by omega) (by omega)]
              rw [List.length_drop] at h2
              simp [List.getD, List.getElem?_eq_getElem (show i + 1 + j < MM.length by omega)]
            rw [hEqs] at hT1
            have hTq : ∀ q : Nat, Calls Try.prog 14 #[.slice A1 (N - (i + 1)) (c4 - (i + 1)), .slice A2 (N - (i + 1)) (c3 - (i + 1))] (wr.drewN q) fun e w' => e = .returned (.bool true) ∧ ∃ n, w' = (wr.drewN q).drewN n := fun q => by
              have hb := below_drewN (Below.refl wr.heap.size wr) q
              have := SameD_quiet _ _ (MM.drop (i + 1)) (MM.drop (i + 1)) (wr.drewN q) wr.heap.size (hT1.below hb (Nat.le_refl _)) ((hT2.mono hBr.size).below hb (Nat.le_refl _)) (by rw [List.length_drop, HN.out]; have := HML.out; omega) (fun x hx => by have := HMD.out x (List.mem_of_mem_drop hx); omega)
              rw [decide_eq_true rfl] at this
              exact this
            have HRQ2 : Hid _ := HRQ
            generalize N - (i + 1) = N2 at *
            generalize c4 - (i + 1) = c42 at *
            generalize c3 - (i + 1) = c32 at *
            clear hA1 hA2 hT1 hT2 hEqs HRQ HRD e hOd
            have hbw : Below wr.heap.size wr wr := Below.refl _ _
            go_wp2_with fail
            go_quiet (first | (go_at_call 14; exact Calls.quiet_of (hTq _)) | fail)
            go_wp2
            exact ⟨⟨i + 1, rs, by omega, by go_num, hDr.below (below_drewN (Below.refl wr.heap.size wr) _) (Nat.le_refl _), HRL, HRQ2, below_drewN hBr _⟩, by simp [intOf]; omega⟩
      · obtain rfl : i = N := by omega
        have i1 : ¬ (i : Int) < (i : Int) := by omega
        have hv9 := hv3.below hBe HBR.out
        have hbz := hbr.trans (hBe.mono HBR.out)
        have h9 := h2 wr hv9 hbz.size
        clear hD HQ HQL
        go_wp2_with fail
        refine h9.mono ?_
        rintro e w8 ⟨v8, rfl, hO8, hb8⟩
        have hS8 := ((hS3.below hBe (Nat.le_refl _)).below hb8 hBe.size).mono (Nat.le_trans hBe.size hb8.size)
        have hEq := SameD_quiet v8 _ MM MM w8 w8.heap.size hO8.s hS8 (by rw [HN.out]; have := HML.out; omega) (fun x hx => by have := HMD.out x hx; omega)
        rw [decide_eq_true rfl] at hEq
        have hbz := hbz.trans (hb8.mono hbz.size)
        clear h9 hS8 hO8 hb8
        go_wp2_with fail
        refine hEq.mono ?_
        rintro e w9 ⟨rfl, n9, hn9⟩
        rw [hn9]
        clear hn9 hEq
        go_wp2
        go_ret
        exact ⟨rfl, below_drewN hbz _⟩
  · have m0 : decide ((M : Int) ≥ 32768) = true := decide_eq_true (by omega)
    rw [m0]
    clear HM m0 hm
    go_wp2
    go_ret
    exact ⟨rfl, hbr⟩

end Go.Proofs.Ytppcfidaalejfaa
