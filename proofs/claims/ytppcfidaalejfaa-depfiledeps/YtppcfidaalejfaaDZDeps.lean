/-
  THE LANDED Deps.
-/
import Derived.Test.YtppcfidaalejfaaDZOnce
import Derived.Test.YtppcfidaalejfaaDpC
import Derived.Test.YtppcfidaalejfaaDpLen
import Derived.Test.YtppcfidaalejfaaPX
namespace Go.Proofs.Ytppcfidaalejfaa
open Go.RowKit

theorem Dp.nm_len {s q : Dp.B} (h : Dp.nm s = .inr q) : q.length ≤ 60 := by
  unfold Dp.nm at h
  split at h
  · rw [← Sum.inr.inj h]
    unfold Pm.norm Pm.told
    split
    · simp
    · simp
    · split
      · simp
      · simp only; omega
  · cases h

set_option maxRecDepth 100000 in
set_option maxHeartbeats 8000000 in
theorem depsC : DepsC := by
  intro p hps v A w B ha hB hV
  have hlA := Dp.vol_len A
  have hwl : ∀ x ∈ A, x.1.length ≤ 1000000 ∧ x.2.length ≤ 1000000 ∧ ∀ d ∈ x.2, d.length ≤ 1000000 := fun x hx => by
    have h1 := Dp.vol_mem hx
    have h2 := Dp.sum_len x.2
    exact ⟨by omega, by omega, fun d hd => by have := Dp.sum_mem hd; omega⟩
  have HWL : Hid _ := hwl
  have HVOL : Hid ((A.flatMap Prod.snd).length ≤ 1000000) := by
    have : ∀ L : List Dp.Rule, (L.flatMap Prod.snd).length ≤ Dp.vol L := fun L => by
      induction L with
      | nil => simp
      | cons u r ih =>
        have := Dp.sum_len u.2
        unfold Dp.vol at *
        simp only [List.flatMap_cons, List.length_append, List.map_cons, List.sum_cons]
        omega
    have := this A
    show _ ≤ _
    omega
  have hbA : A.length ≤ 1000000 := by omega
  obtain ⟨ad, c, rfl, hle⟩ := ha.shape
  clear hwl hlA hV
  obtain ⟨P, hP⟩ : ∃ P, Dp.asked (bs p) A = P := ⟨_, rfl⟩
  rw [hP]
  have hI := Is_any p w (by omega)
  cases hip : Pm.isP (bs p) with
  | false =>
    have HF : Hid (P = .inl 2) := by
      show _ = _
      rw [← hP]
      unfold Dp.asked
      rw [hip, if_neg (by simp)]
    rw [hip] at hI
    clear hip hP
    go_enter Try.func19, Try.ntmps19
    go_wp2_with fail
    refine hI.mono ?_
    rintro e w1 ⟨rfl, hB1⟩
    go_wp2
    go_ret2
    rw [HF.out]
    exact ⟨rfl, hB1⟩
  | true =>
    have HF : Hid (P = Dp.hangs Dp.nm (bs p) A) := by
      show _ = _
      rw [← hP]
      unfold Dp.asked
      rw [hip, if_pos rfl]
    rw [hip] at hI
    clear hip hP
    have HERR : Hid (∀ e, Dp.paths Dp.nm (Dp.ws Dp.nm (bs p) A) = .inl e → P = .inl e) := fun e h => by
      rw [HF.out]
      unfold Dp.hangs
      rw [h]
    have HYES : Hid (∀ qs, Dp.paths Dp.nm (Dp.ws Dp.nm (bs p) (A.take A.length)) = .inr qs → P = if Dp.there Dp.nm (bs p) (A.take A.length) = true then .inr (Dp.adds [] qs) else .inl 4) := fun qs h => by
      rw [List.take_length] at h ⊢
      rw [HF.out]
      unfold Dp.hangs
      rw [h]
    clear HF
    go_enter Try.func19, Try.ntmps19
    go_wp2_with fail
    refine hI.mono ?_
    rintro e w1 ⟨rfl, hB1⟩
    clear hI
    go_wp2
    go_loopw [6, 7, 21] (fun vo th k wr => ∃ (i : Nat) (qs : List (List UInt8)), i ≤ A.length ∧ k = .int .i64 (i : Int) ∧ BR.Own wr w.heap.size vo qs ∧ th = .bool (Dp.there Dp.nm (bs p) (A.take i)) ∧ Hid (Dp.paths Dp.nm (Dp.ws Dp.nm (bs p) (A.take i)) = .inr qs) ∧ Below w.heap.size w wr) (fun _ _ k _ => A.length - (intOf k).toNat)
    case atStart => exact ⟨0, [], Nat.zero_le _, rfl, Rc.Own.nil _ _, rfl, rfl, hB1⟩
    case round =>
      obtain ⟨i, qs, hi, rfl, hO, rfl, HPQ, hBe⟩ := hrel
      by_cases hlt : i < A.length
      · have i1 : (i : Int) < (A.length : Int) := by omega
        have ha1 := ha.below (hBe.mono hB) (Nat.le_refl _)
        obtain ⟨hw1, hw2, hw3⟩ := HWL.out (A.getD i Dp.noR) (by simp [List.getD, List.getElem?_eq_getElem hlt])
        obtain ⟨b, o, c1, ad1, c2, e, hb1, p0, p1, hW⟩ := ha1.at i hlt
        simp only [Value.slice.injEq] at e
        obtain ⟨rfl, -, rfl⟩ := e
        have HWT : Hid (Dp.ws Dp.nm (bs p) (A.take (i + 1)) = Dp.ws Dp.nm (bs p) (A.take i) ++ (if Dp.nm (A.getD i Dp.noR).1 = .inr (bs p) then (A.getD i Dp.noR).2 else [])) := Dp.ws_take hlt
        have HTT : Hid _ := Dp.there_take (p := bs p) hlt
        have HSP : Hid (Dp.nm (A.getD i Dp.noR).1 = .inr (bs p) → ∀ j, ∃ r, Dp.ws Dp.nm (bs p) A = Dp.ws Dp.nm (bs p) (A.take i) ++ (A.getD i Dp.noR).2.take j ++ r) := fun h j => Dp.ws_split hlt h j
        have HWB : Hid ((Dp.ws Dp.nm (bs p) (A.take (i + 1))).length ≤ 1000000) := by
          have h1 := HVOL.out
          have h2 : (Dp.ws Dp.nm (bs p) (A.take (i + 1))).length ≤ (A.flatMap Prod.snd).length := by
            unfold Dp.ws
            exact flat_le ((List.filter_sublist ..).trans (List.take_sublist ..))
          show _ ≤ _
          omega
        obtain ⟨x, hx⟩ : ∃ x, A.getD i Dp.noR = x := ⟨_, rfl⟩
        rw [hx] at p0 p1 hW hw1 hw2 hw3 HWT HTT HSP
        clear hx ha1
        obtain ⟨x1, x2⟩ := x
        simp only at hw1 hw2
        have HW3 : Hid _ := hw3
        clear hw3
        obtain ⟨th, hth⟩ : ∃ th, Dp.there Dp.nm (bs p) (A.take i) = th := ⟨_, rfl⟩
        rw [hth] at HTT ⊢
        clear hth
        have hN := fun W => Norm_any (str x1) W (by rw [str_size]; omega)
        have HBX : Hid (bs (str x1) = x1) := bs_str x1
        obtain ⟨s1, hs1⟩ : ∃ s1, str x1 = s1 := ⟨_, rfl⟩
        rw [hs1] at hN HBX p0
        clear hs1
        have hq0 := Rw.new wr #[.string s1, .slice ad1 x2.length c2] 32
        have hW := hW.below ((Below.refl wr.heap.size wr).alloc (Nat.le_refl _) (.cells #[.string s1, .slice ad1 x2.length c2] 32)) (Nat.le_trans hB hBe.size)
        have hO := hO.alloc (.cells #[.string s1, .slice ad1 x2.length c2] 32)
        have hBe1 := hBe.alloc hBe.size (.cells #[.string s1, .slice ad1 x2.length c2] 32)
        have hqz := hBe.size
        go_upto_region 8 with fail
        clear hBe p0 p1
        generalize wr.alloc (.cells #[.string s1, .slice ad1 x2.length c2] 32) = w0 at *
        have p0 : w0.cell? ⟨wr.heap.size, 0, none⟩ = some (.string s1) := hq0.cell 0
        generalize wr.heap.size = q at *
        have hBe := hBe1
        clear hBe1
        have hN := hN w0
        go_wp2_with fail
        refine hN.mono ?_
        rintro e w2 ⟨⟨t, rfl, ht⟩, hB2⟩
        have HNM : Hid (Dp.nm x1 = if (Pm.norm (bs s1)).2 = 0 then .inr (bs t) else .inl ((Pm.norm (bs s1)).2 : Int)) := by
          have := nm_of ht
          rw [HBX.out] at this ⊢
          exact this
        obtain ⟨er, her⟩ : ∃ er, (Pm.norm (bs s1)).2 = er := ⟨_, rfl⟩
        rw [her] at HNM ⊢
        clear her ht hN p0
        have p1 : w2.cell? ⟨q, 1, none⟩ = some (.slice ad1 x2.length c2) := (hq0.below hB2 hq0.lt).cell 1
        clear hq0
        have hW := hW.below hB2 (Nat.le_trans hB hBe.size)
        have hO := hO.below hB2 (Nat.le_refl _)
        have hBe := hBe.trans (hB2.mono hBe.size)
        clear hB2
        have HEQ := beq_str (bs t) (bs p)
        rw [str_of, str_of] at HEQ
        have HNE : (t.toList != p.toList) = !decide (bs t = bs p) := by rw [← HEQ]; rfl
        by_cases hskip : Dp.nm x1 = .inr (bs p)
        · have h0 : er = 0 := by
            have := HNM.out
            rw [hskip] at this
            by_cases h : er = 0
            · exact h
            · rw [if_neg h] at this; cases this
          subst h0
          have htp : bs t = bs p := by
            have := HNM.out
            rw [hskip, if_pos rfl] at this
            exact (Sum.inr.inj this).symm
          rw [decide_eq_true htp] at HEQ HNE
          simp only [Bool.not_true] at HNE
          have HTT2 : Hid (Dp.there Dp.nm (bs p) (A.take (i + 1)) = true) := by
            show _ = _
            rw [HTT.out, decide_eq_true hskip, Bool.or_true]
          have HWT2 : Hid (Dp.ws Dp.nm (bs p) (A.take (i + 1)) = Dp.ws Dp.nm (bs p) (A.take i) ++ x2) := by
            show _ = _
            rw [HWT.out, if_pos hskip]
          have HSP2 : Hid _ := HSP.out hskip
          clear hskip htp HSP HTT HWT HNM HBX
          obtain ⟨ws, hws⟩ : ∃ ws, Dp.ws Dp.nm (bs p) (A.take i) = ws := ⟨_, rfl⟩
          rw [hws] at HWT2 HSP2 HPQ
          clear hws
          go_wp2
          go_loopw [6, 41] (fun vo k wr => ∃ (j : Nat) (q2 : List (List UInt8)), j ≤ x2.length ∧ k = .int .i64 (j : Int) ∧ BR.Own wr w.heap.size vo q2 ∧ Hid (Dp.paths Dp.nm (ws ++ x2.take j) = .inr q2) ∧ Below w.heap.size w wr ∧ BR.Sl wr B (.slice ad1 x2.length c2) x2) (fun _ k _ => x2.length - (intOf k).toNat)
          case atStart =>
            refine ⟨0, qs, Nat.zero_le _, rfl, hO, ?_, hBe, hW⟩
            show _ = _
            have := HPQ.out
            simpa using this
          case round =>
            obtain ⟨j, q2, hj, rfl, hOY, HPJ, hBq, hWq⟩ := hrel
            by_cases hjl : j < x2.length
            · have j1 : (j : Int) < (x2.length : Int) := by omega
              obtain ⟨b2, o2, cc2, e, hb2, r0⟩ := BR.ix hWq hjl
              simp only [Value.slice.injEq] at e
              obtain ⟨rfl, -, rfl⟩ := e
              have hd := HW3.out x2[j] (List.getElem_mem hjl)
              have HT2 : Hid (x2.take (j + 1) = x2.take j ++ [x2[j]]) := List.take_succ_eq_append_getElem hjl
              have HSJ : Hid _ := HSP2.out (j + 1)
              have hYb : q2.length ≤ 1000000 := by
                have h1 := Dp.paths_len HPJ.out
                have h2 := HWB.out
                rw [HWT2.out] at h2
                simp only [List.length_append, List.length_take] at h1 h2
                omega
              obtain ⟨oa, oc, rfl, hoc⟩ := hOY.sl.shape
              generalize x2[j] = d at *
              have hN := Norm_any (str d) wr (by rw [str_size]; omega)
              have HBX : Hid (bs (str d) = d) := bs_str d
              obtain ⟨s2, hs2⟩ : ∃ s2, str d = s2 := ⟨_, rfl⟩
              rw [hs2] at hN HBX r0
              clear hs2
              go_wp2_with fail
              refine hN.mono ?_
              rintro e w4 ⟨⟨t2, rfl, ht2⟩, hB4⟩
              have HNM : Hid (Dp.nm d = if (Pm.norm (bs s2)).2 = 0 then .inr (bs t2) else .inl ((Pm.norm (bs s2)).2 : Int)) := by
                have := nm_of ht2
                rw [HBX.out] at this ⊢
                exact this
              obtain ⟨er, her⟩ : ∃ er, (Pm.norm (bs s2)).2 = er := ⟨_, rfl⟩
              rw [her] at HNM ⊢
              clear her ht2 hN r0
              have hWq := hWq.below hB4 (Nat.le_trans hB hBq.size)
              have hOY := hOY.below hB4 (Nat.le_refl _)
              have hBq := hBq.trans (hB4.mono hBq.size)
              clear hB4
              by_cases he : er = 0
              · subst he
                rw [if_pos rfl] at HNM
                have hL := BR.lit w4 (bs t2) #[.string t2] (by show _ = [Value.string (str (bs t2))]; rw [str_of])
                have hOY4 := hOY.alloc (.cells #[.string t2] 9)
                have hBq4 := hBq.alloc hBq.size (.cells #[.string t2] 9)
                have HLn : Hid (q2.length + [bs t2].length ≤ 1099511627) := by show _ ≤ _; simp only [List.length_cons, List.length_nil]; omega
                have HP2 : Hid (Dp.paths Dp.nm (ws ++ x2.take (j + 1)) = .inr (q2 ++ [bs t2])) := by
                  show _ = _
                  rw [HT2.out, ← List.append_assoc, Dp.paths_snoc HPJ.out, HNM.out]
                clear HT2 HPJ HSJ HNM
                go_wp2_with (at_builtin; go_must (refine BR.append_at rfl _ _ rfl w.heap.size (w4.heap.size + 1) _ _ q2 [bs t2] rfl hOY4 rfl hL (by simp) HLn hBq4.size ?_))
                intro g cap w5 hO5 hg5 hw5 hlt5
                have hB5 : Below w.heap.size (w4.alloc (.cells #[.string t2] 9)) w5 := (Below.refl _ _).grown hg5 hBq4.size fun g e => (hOY4.lt g e).1
                have hWq := (hWq.below ((Below.refl w4.heap.size w4).alloc (Nat.le_refl _) (.cells #[.string t2] 9)) (Nat.le_trans hB hBq.size)).below hB5 hB
                have hBq := hBq4.trans hB5
                go_wp2
                exact ⟨⟨j + 1, _, by omega, by go_num, hO5, HP2, hBq, hWq⟩, by simp [intOf]; omega⟩
              · rw [if_neg he] at HNM
                have HE : Hid (P = .inl (er : Int)) := HERR.out _ (by
                  obtain ⟨r, hr⟩ := HSJ.out
                  rw [hr, HT2.out, ← List.append_assoc]
                  refine Dp.paths_ahead ?_
                  rw [Dp.paths_snoc HPJ.out, HNM.out])
                have hne : ((er : Int) != 0) = true := by rw [bne_iff_ne]; omega
                clear he
                go_wp2
                go_ret2
                rw [HE.out]
                exact ⟨rfl, hBq⟩
            · obtain rfl : j = x2.length := by omega
              have j1 : ¬ (x2.length : Int) < (x2.length : Int) := by omega
              have HP3 : Hid (Dp.paths Dp.nm (Dp.ws Dp.nm (bs p) (A.take (i + 1))) = .inr q2) := by
                have h1 := HPJ.out
                rw [List.take_length] at h1
                show _ = _
                rw [HWT2.out]; exact h1
              clear HPJ
              go_wp2
              exact ⟨⟨i + 1, q2, by omega, by go_num, hOY, by rw [HTT2.out], HP3, hBq⟩, by simp [intOf]; omega⟩
        · have HTT2 : Hid (Dp.there Dp.nm (bs p) (A.take (i + 1)) = th) := by
            show _ = _
            rw [HTT.out, decide_eq_false hskip, Bool.or_false]
          have HWT2 : Hid (Dp.ws Dp.nm (bs p) (A.take (i + 1)) = Dp.ws Dp.nm (bs p) (A.take i)) := by
            show _ = _
            rw [HWT.out, if_neg hskip, List.append_nil]
          by_cases he : er = 0
          · subst he
            have htp : bs t ≠ bs p := fun h => hskip (by rw [HNM.out, if_pos rfl, h])
            rw [decide_eq_false htp] at HEQ HNE
            simp only [Bool.not_false] at HNE
            clear hskip htp HSP HTT HWT HNM HBX
            go_wp2
            exact ⟨⟨i + 1, qs, by omega, by go_num, hO, by rw [HTT2.out], by rw [HWT2.out]; exact HPQ, hBe⟩, by simp [intOf]; omega⟩
          · have hne : ((er : Int) != 0) = true := by rw [bne_iff_ne]; omega
            clear hskip HSP HTT HWT HNM HBX he HEQ HNE
            go_wp2
            exact ⟨⟨i + 1, qs, by omega, by go_num, hO, by rw [HTT2.out], by rw [HWT2.out]; exact HPQ, hBe⟩, by simp [intOf]; omega⟩
      · obtain rfl : i = A.length := by omega
        have i1 : ¬ (A.length : Int) < (A.length : Int) := by omega
        have HE : Hid _ := HYES.out qs HPQ.out
        have hOn := once_any _ qs wr wr.heap.size hO.sl (Nat.le_refl _) (by
          have h1 := Dp.paths_len HPQ.out
          have h2 := HVOL.out
          have h3 : (Dp.ws Dp.nm (bs p) (A.take A.length)).length ≤ (A.flatMap Prod.snd).length := by
            unfold Dp.ws
            exact flat_le ((List.filter_sublist ..).trans (List.take_sublist ..))
          omega) (fun x hx => by
          obtain ⟨s, -, h⟩ := (Dp.paths_mem Dp.nm HPQ.out x).1 hx
          have := Dp.nm_len h
          omega)
        clear HPQ
        cases hth : Dp.there Dp.nm (bs p) (A.take A.length) with
        | true =>
          rw [hth, if_pos rfl] at HE
          clear hth
          go_wp2_with fail
          refine hOn.mono ?_
          rintro e w9 ⟨v9, rfl, hO9, hB9⟩
          have hB0 := hBe.trans (hB9.mono hBe.size)
          have hz9 := hBe.size
          go_wp2
          go_ret2
          rw [HE.out]
          exact ⟨_, rfl, hO9.low hz9, hB0⟩
        | false =>
          rw [hth, if_neg (by simp)] at HE
          clear hth
          go_wp2
          go_ret2
          rw [HE.out]
          exact ⟨rfl, hBe⟩



end Go.Proofs.Ytppcfidaalejfaa
