/-
  WHAT THE DOCUMENT's Deps DOES.
-/
import Derived.Test.YtppcfidaalejfaaDpDepT
import Derived.Test.YtppcfidaalejfaaDpVol
namespace Go.Proofs.Ytppcfidaalejfaa
open Go.RowKit

/-- what Deps answers, at work: an error, or the deps in a row of the call's own -/
def DepsEnd (w w' : World) (e : Ending) (r : Int ⊕ List (List UInt8)) : Prop := match r with
  | .inl x => e = .returned (.tuple #[.slice none 0 0, .int .i64 x]) ∧ Below w.heap.size w w'
  | .inr d => ∃ v, e = .returned (.tuple #[v, .int .i64 0]) ∧ BR.Own w' w.heap.size v d ∧ Below w.heap.size w w'

theorem flat_le {K L : List Dp.Rule} (h : K.Sublist L) : (K.flatMap Prod.snd).length ≤ (L.flatMap Prod.snd).length := by
  induction h with
  | slnil => simp
  | cons a _ ih => simp only [List.flatMap_cons, List.length_append]; omega
  | cons_cons a _ ih => simp only [List.flatMap_cons, List.length_append]; omega
theorem nm_of {s t : ByteArray} (ht : bs t = (Pm.norm (bs s)).1) : Dp.nm (bs s) = if (Pm.norm (bs s)).2 = 0 then .inr (bs t) else .inl ((Pm.norm (bs s)).2 : Int) := by
  unfold Dp.nm
  rw [← ht]

set_option maxRecDepth 100000 in
set_option maxHeartbeats 4000000 in
theorem DepsT_any (p : ByteArray) (v : Value) (A : List Dp.Rule) (w : World) (B : Nat) (ha : DrS w B v A) (hB : B ≤ w.heap.size) (hV : Dp.vol A ≤ 1000000) :
    Calls Try.prog 20 #[.string p, v] w fun e w' => DepsEnd w w' e (Dp.asked (bs p) A) := by
  have hlA := Dp.vol_len A
  have hwl : ∀ x ∈ A, x.1.length ≤ 1000000 ∧ x.2.length ≤ 1000000 ∧ ∀ d ∈ x.2, d.length ≤ 1000000 := fun x hx => by
    have h1 := Dp.vol_mem hx
    have h2 := Dp.sum_len x.2
    exact ⟨by omega, by omega, fun d hd => by have := Dp.sum_mem hd; omega⟩
  have HWL : Hid _ := hwl
  have HVOL : Hid ((A.flatMap Prod.snd).length ≤ 1000000) := by
    have : ∀ L : List Dp.Rule, (L.flatMap Prod.snd).length ≤ Dp.vol L := fun L => by
      induction L with
      | nil => simp
      | cons u r ih =>
        have := Dp.sum_len u.2
        unfold Dp.vol at *
        simp only [List.flatMap_cons, List.length_append, List.map_cons, List.sum_cons]
        omega
    have := this A
    show _ ≤ _
    omega
  have hbA : A.length ≤ 1000000 := by omega
  obtain ⟨ad, c, rfl, hle⟩ := ha.shape
  clear hwl hlA hV
  obtain ⟨P, hP⟩ : ∃ P, Dp.asked (bs p) A = P := ⟨_, rfl⟩
  rw [hP]
  have hI := IsT_any p w
  cases hip : Pm.isP (bs p) with
  | false =>
    have HF : Hid (P = .inl 2) := by
      show _ = _
      rw [← hP]
      unfold Dp.asked
      rw [hip, if_neg (by simp)]
    rw [hip] at hI
    clear hip hP
    go_enter Try.func20, Try.ntmps20
    go_wp2_with fail
    refine hI.mono ?_
    rintro e w1 ⟨rfl, hB1⟩
    go_wp2
    go_ret2
    rw [HF.out]
    exact ⟨rfl, hB1⟩
  | true =>
    have HF : Hid (P = Dp.hangs Dp.nm (bs p) A) := by
      show _ = _
      rw [← hP]
      unfold Dp.asked
      rw [hip, if_pos rfl]
    rw [hip] at hI
    clear hip hP
    have HERR : Hid (∀ e, Dp.paths Dp.nm (Dp.ws Dp.nm (bs p) A) = .inl e → P = .inl e) := fun e h => by
      rw [HF.out]
      unfold Dp.hangs
      rw [h]
    have HYES : Hid (∀ qs, Dp.paths Dp.nm (Dp.ws Dp.nm (bs p) (A.take A.length)) = .inr qs → P = if Dp.there Dp.nm (bs p) (A.take A.length) = true then .inr (Dp.adds [] qs) else .inl 4) := fun qs h => by
      rw [List.take_length] at h ⊢
      rw [HF.out]
      unfold Dp.hangs
      rw [h]
    clear HF
    go_enter Try.func20, Try.ntmps20
    go_wp2_with fail
    refine hI.mono ?_
    rintro e w1 ⟨rfl, hB1⟩
    clear hI
    go_wp2
    go_loopw [6, 7, 8] (fun vo th k wr => ∃ (i : Nat) (X : List (List UInt8)) (qs : List (List UInt8)), i ≤ A.length ∧ k = .int .i64 (i : Int) ∧ BR.Own wr w.heap.size vo X ∧ Hid (X = Dp.adds [] qs) ∧ X.length ≤ (Dp.ws Dp.nm (bs p) (A.take i)).length ∧ th = .bool (Dp.there Dp.nm (bs p) (A.take i)) ∧ Hid (Dp.paths Dp.nm (Dp.ws Dp.nm (bs p) (A.take i)) = .inr qs) ∧ Below w.heap.size w wr) (fun _ _ k _ => A.length - (intOf k).toNat)
    case atStart => exact ⟨0, [], [], Nat.zero_le _, rfl, Rc.Own.nil _ _, rfl, Nat.zero_le _, rfl, rfl, hB1⟩
    case round =>
      obtain ⟨i, X, qs, hi, rfl, hO, HXQ, hXl, rfl, HPQ, hBe⟩ := hrel
      have HXL : Hid _ := hXl
      clear hXl
      by_cases hlt : i < A.length
      · have i1 : (i : Int) < (A.length : Int) := by omega
        have ha1 := ha.below (hBe.mono hB) (Nat.le_refl _)
        obtain ⟨hw1, hw2, hw3⟩ := HWL.out (A.getD i Dp.noR) (by simp [List.getD, List.getElem?_eq_getElem hlt])
        obtain ⟨b, o, c1, ad1, c2, e, hb1, p0, p1, hW⟩ := ha1.at i hlt
        simp only [Value.slice.injEq] at e
        obtain ⟨rfl, -, rfl⟩ := e
        have HWT : Hid (Dp.ws Dp.nm (bs p) (A.take (i + 1)) = Dp.ws Dp.nm (bs p) (A.take i) ++ (if Dp.nm (A.getD i Dp.noR).1 = .inr (bs p) then (A.getD i Dp.noR).2 else [])) := Dp.ws_take hlt
        have HTT : Hid _ := Dp.there_take (p := bs p) hlt
        have HSP : Hid (Dp.nm (A.getD i Dp.noR).1 = .inr (bs p) → ∀ j, ∃ r, Dp.ws Dp.nm (bs p) A = Dp.ws Dp.nm (bs p) (A.take i) ++ (A.getD i Dp.noR).2.take j ++ r) := fun h j => Dp.ws_split hlt h j
        have HWB : Hid ((Dp.ws Dp.nm (bs p) (A.take (i + 1))).length ≤ 1000000) := by
          have h1 := HVOL.out
          have h2 : (Dp.ws Dp.nm (bs p) (A.take (i + 1))).length ≤ (A.flatMap Prod.snd).length := by
            unfold Dp.ws
            exact flat_le ((List.filter_sublist ..).trans (List.take_sublist ..))
          show _ ≤ _
          omega
        obtain ⟨x, hx⟩ : ∃ x, A.getD i Dp.noR = x := ⟨_, rfl⟩
        rw [hx] at p0 p1 hW hw1 hw2 hw3 HWT HTT HSP
        clear hx ha1
        obtain ⟨x1, x2⟩ := x
        simp only at hw1 hw2
        have HW3 : Hid _ := hw3
        clear hw3
        obtain ⟨th, hth⟩ : ∃ th, Dp.there Dp.nm (bs p) (A.take i) = th := ⟨_, rfl⟩
        rw [hth] at HTT ⊢
        clear hth
        have hN := NormT_any (str x1) wr (by rw [str_size]; omega)
        have HBX : Hid (bs (str x1) = x1) := bs_str x1
        obtain ⟨s1, hs1⟩ : ∃ s1, str x1 = s1 := ⟨_, rfl⟩
        rw [hs1] at hN HBX p0
        clear hs1
        go_wp2_with fail
        refine hN.mono ?_
        rintro e w2 ⟨⟨t, rfl, ht⟩, hB2⟩
        have HNM : Hid (Dp.nm x1 = if (Pm.norm (bs s1)).2 = 0 then .inr (bs t) else .inl ((Pm.norm (bs s1)).2 : Int)) := by
          have := nm_of ht
          rw [HBX.out] at this ⊢
          exact this
        obtain ⟨er, her⟩ : ∃ er, (Pm.norm (bs s1)).2 = er := ⟨_, rfl⟩
        rw [her] at HNM ⊢
        clear her ht hN p0
        have p1 := (hB2.cell (p := ⟨b, o + i * 2 + 1, none⟩) (Nat.lt_of_lt_of_le hb1 (Nat.le_trans hB hBe.size))).trans p1
        have hW := hW.below hB2 (Nat.le_trans hB hBe.size)
        have hO := hO.below hB2 (Nat.le_refl _)
        have hBe := hBe.trans (hB2.mono hBe.size)
        clear hB2
        have HEQ := beq_str (bs t) (bs p)
        rw [str_of, str_of] at HEQ
        have HNE : (t.toList != p.toList) = !decide (bs t = bs p) := by rw [← HEQ]; rfl
        by_cases hskip : Dp.nm x1 = .inr (bs p)
        · have h0 : er = 0 := by
            have := HNM.out
            rw [hskip] at this
            by_cases h : er = 0
            · exact h
            · rw [if_neg h] at this; cases this
          subst h0
          have htp : bs t = bs p := by
            have := HNM.out
            rw [hskip, if_pos rfl] at this
            exact (Sum.inr.inj this).symm
          rw [decide_eq_true htp] at HEQ HNE
          simp only [Bool.not_true] at HNE
          have HTT2 : Hid (Dp.there Dp.nm (bs p) (A.take (i + 1)) = true) := by
            show _ = _
            rw [HTT.out, decide_eq_true hskip, Bool.or_true]
          have HWT2 : Hid (Dp.ws Dp.nm (bs p) (A.take (i + 1)) = Dp.ws Dp.nm (bs p) (A.take i) ++ x2) := by
            show _ = _
            rw [HWT.out, if_pos hskip]
          have HSP2 : Hid _ := HSP.out hskip
          clear hskip htp HSP HTT HWT HNM HBX
          obtain ⟨ws, hws⟩ : ∃ ws, Dp.ws Dp.nm (bs p) (A.take i) = ws := ⟨_, rfl⟩
          rw [hws] at HWT2 HSP2 HPQ HXL
          clear hws
          go_wp2
          go_loopw [6, 11] (fun vo k wr => ∃ (j : Nat) (Y : List (List UInt8)) (q2 : List (List UInt8)), j ≤ x2.length ∧ k = .int .i64 (j : Int) ∧ BR.Own wr w.heap.size vo Y ∧ Hid (Y = Dp.adds [] q2) ∧ Hid (Y.length ≤ (ws ++ x2.take j).length) ∧ Hid (Dp.paths Dp.nm (ws ++ x2.take j) = .inr q2) ∧ Below w.heap.size w wr ∧ wr.cell? ⟨b, o + i * 2 + 1, none⟩ = some (.slice ad1 x2.length c2) ∧ BR.Sl wr B (.slice ad1 x2.length c2) x2) (fun _ k _ => x2.length - (intOf k).toNat)
          case atStart =>
            refine ⟨0, X, qs, Nat.zero_le _, rfl, hO, HXQ, ?_, ?_, hBe, p1, hW⟩
            · show _ ≤ _
              have := HXL.out
              simpa using this
            · show _ = _
              have := HPQ.out
              simpa using this
          case round =>
            obtain ⟨j, Y, q2, hj, rfl, hOY, HYQ, HYL, HPJ, hBq, r1, hWq⟩ := hrel
            by_cases hjl : j < x2.length
            · have j1 : (j : Int) < (x2.length : Int) := by omega
              obtain ⟨b2, o2, cc2, e, hb2, r0⟩ := BR.ix hWq hjl
              simp only [Value.slice.injEq] at e
              obtain ⟨rfl, -, rfl⟩ := e
              have hd := HW3.out x2[j] (List.getElem_mem hjl)
              have HT2 : Hid (x2.take (j + 1) = x2.take j ++ [x2[j]]) := List.take_succ_eq_append_getElem hjl
              have HSJ : Hid _ := HSP2.out (j + 1)
              have hYb : Y.length ≤ 1000000 := by
                have h1 := HYL.out
                have h2 := HWB.out
                rw [HWT2.out] at h2
                simp only [List.length_append, List.length_take] at h1 h2
                omega
              generalize x2[j] = d at *
              have hN := NormT_any (str d) wr (by rw [str_size]; omega)
              have HBX : Hid (bs (str d) = d) := bs_str d
              obtain ⟨s2, hs2⟩ : ∃ s2, str d = s2 := ⟨_, rfl⟩
              rw [hs2] at hN HBX r0
              clear hs2
              go_wp2_with fail
              refine hN.mono ?_
              rintro e w4 ⟨⟨t2, rfl, ht2⟩, hB4⟩
              have HNM : Hid (Dp.nm d = if (Pm.norm (bs s2)).2 = 0 then .inr (bs t2) else .inl ((Pm.norm (bs s2)).2 : Int)) := by
                have := nm_of ht2
                rw [HBX.out] at this ⊢
                exact this
              obtain ⟨er, her⟩ : ∃ er, (Pm.norm (bs s2)).2 = er := ⟨_, rfl⟩
              rw [her] at HNM ⊢
              clear her ht2 hN r0
              have r1 := (hB4.cell (p := ⟨b, o + i * 2 + 1, none⟩) (Nat.lt_of_lt_of_le hb1 (Nat.le_trans hB hBq.size))).trans r1
              have hWq := hWq.below hB4 (Nat.le_trans hB hBq.size)
              have hOY := hOY.below hB4 (Nat.le_refl _)
              have hBq := hBq.trans (hB4.mono hBq.size)
              clear hB4
              by_cases he : er = 0
              · subst he
                rw [if_pos rfl] at HNM
                have hA := AddD_any _ Y (bs t2) w.heap.size w4 hOY hBq.size (by omega)
                rw [str_of] at hA
                have HP2 : Hid (Dp.paths Dp.nm (ws ++ x2.take (j + 1)) = .inr (q2 ++ [bs t2])) := by
                  show _ = _
                  rw [HT2.out, ← List.append_assoc, Dp.paths_snoc HPJ.out, HNM.out]
                have HY2 : Hid (Dp.add Y (bs t2) = Dp.adds [] (q2 ++ [bs t2])) := by
                  show _ = _
                  rw [HYQ.out, Dp.adds_add]
                have HL2 : Hid ((Dp.add Y (bs t2)).length ≤ (ws ++ x2.take (j + 1)).length) := by
                  have h1 := HYL.out
                  show _ ≤ _
                  rw [HT2.out]
                  unfold Dp.add
                  simp only [List.length_append, List.length_cons, List.length_nil] at h1 ⊢
                  split
                  · omega
                  · simp only [List.length_append, List.length_cons, List.length_nil]; omega
                clear HT2 HPJ HYQ HYL HSJ HNM
                go_wp2_with fail
                refine hA.mono ?_
                rintro e w5 ⟨v5, rfl, hO5, hg5, -⟩
                have hB5 : Below w.heap.size w4 w5 := (Below.refl _ _).grown hg5 hBq.size fun g e => (hOY.lt g e).1
                have r1 := (hB5.cell (p := ⟨b, o + i * 2 + 1, none⟩) (Nat.lt_of_lt_of_le hb1 hB)).trans r1
                have hWq := hWq.below hB5 hB
                have hBq := hBq.trans hB5
                go_wp2
                exact ⟨⟨j + 1, _, _, by omega, by go_num, hO5, HY2, HL2, HP2, hBq, r1, hWq⟩, by simp [intOf]; omega⟩
              · rw [if_neg he] at HNM
                have HE : Hid (P = .inl (er : Int)) := HERR.out _ (by
                  obtain ⟨r, hr⟩ := HSJ.out
                  rw [hr, HT2.out, ← List.append_assoc]
                  refine Dp.paths_ahead ?_
                  rw [Dp.paths_snoc HPJ.out, HNM.out])
                have hne : ((er : Int) != 0) = true := by rw [bne_iff_ne]; omega
                clear he
                go_wp2
                go_ret2
                rw [HE.out]
                exact ⟨rfl, hBq⟩
            · obtain rfl : j = x2.length := by omega
              have j1 : ¬ (x2.length : Int) < (x2.length : Int) := by omega
              have HY3 : Hid (Y.length ≤ (Dp.ws Dp.nm (bs p) (A.take (i + 1))).length) := by
                have h1 := HYL.out
                rw [List.take_length] at h1
                show _ ≤ _
                rw [HWT2.out]; exact h1
              have HP3 : Hid (Dp.paths Dp.nm (Dp.ws Dp.nm (bs p) (A.take (i + 1))) = .inr q2) := by
                have h1 := HPJ.out
                rw [List.take_length] at h1
                show _ = _
                rw [HWT2.out]; exact h1
              clear HYL HPJ
              go_wp2
              exact ⟨⟨i + 1, Y, q2, by omega, by go_num, hOY, HYQ, HY3.out, by rw [HTT2.out], HP3, hBq⟩, by simp [intOf]; omega⟩
        · have HTT2 : Hid (Dp.there Dp.nm (bs p) (A.take (i + 1)) = th) := by
            show _ = _
            rw [HTT.out, decide_eq_false hskip, Bool.or_false]
          have HWT2 : Hid (Dp.ws Dp.nm (bs p) (A.take (i + 1)) = Dp.ws Dp.nm (bs p) (A.take i)) := by
            show _ = _
            rw [HWT.out, if_neg hskip, List.append_nil]
          by_cases he : er = 0
          · subst he
            have htp : bs t ≠ bs p := fun h => hskip (by rw [HNM.out, if_pos rfl, h])
            rw [decide_eq_false htp] at HEQ HNE
            simp only [Bool.not_false] at HNE
            clear hskip htp HSP HTT HWT HNM HBX
            go_wp2
            exact ⟨⟨i + 1, X, qs, by omega, by go_num, hO, HXQ, by rw [HWT2.out]; exact HXL.out, by rw [HTT2.out], by rw [HWT2.out]; exact HPQ, hBe⟩, by simp [intOf]; omega⟩
          · have hne : ((er : Int) != 0) = true := by rw [bne_iff_ne]; omega
            clear hskip HSP HTT HWT HNM HBX he HEQ HNE
            go_wp2
            exact ⟨⟨i + 1, X, qs, by omega, by go_num, hO, HXQ, by rw [HWT2.out]; exact HXL.out, by rw [HTT2.out], by rw [HWT2.out]; exact HPQ, hBe⟩, by simp [intOf]; omega⟩
      · obtain rfl : i = A.length := by omega
        have i1 : ¬ (A.length : Int) < (A.length : Int) := by omega
        have HE : Hid _ := HYES.out qs HPQ.out
        clear HPQ
        cases hth : Dp.there Dp.nm (bs p) (A.take A.length) with
        | true =>
          rw [hth, if_pos rfl] at HE
          clear hth
          go_wp2
          go_ret2
          rw [HE.out]
          exact ⟨_, rfl, by rw [← HXQ.out]; exact hO, hBe⟩
        | false =>
          rw [hth, if_neg (by simp)] at HE
          clear hth
          go_wp2
          go_ret2
          rw [HE.out]
          exact ⟨rfl, hBe⟩

end Go.Proofs.Ytppcfidaalejfaa
