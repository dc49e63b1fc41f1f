/-
  WHAT THE DOCUMENT's Merge DOES.
-/
import Derived.Test.YtppcfidaalejfaaDpMrgK
import Derived.Deep.RegionHeld3
namespace Go.Proofs.Ytppcfidaalejfaa
open Go.RowKit

/-- a rule without deps, as it is made -/
def newR (t : List UInt8) : RawD := ⟨t, none, 0, 0⟩

set_option maxRecDepth 100000 in
set_option maxHeartbeats 4000000 in
theorem MergeT_any (v : Value) (A : List Dp.Rule) (w : World) (B : Nat) (ha : DrS w B v A) (hB : B ≤ w.heap.size) (hV : Dp.vol A ≤ 1000000) :
    Calls Try.prog 22 #[v] w fun e w' => ∃ v', e = .returned v' ∧ DrOwn w' w.heap.size v' (Dp.merge A) ∧ Below w.heap.size w w' := by
  have hlA := Dp.vol_len A
  have HDN : Hid (∀ i, Dp.dn ((A.take i).foldl Dp.put []) ≤ 1000000) := fun i => by
    have h1 := Dp.dn_foldl (A.take i) []
    have h2 := Dp.dn_take A i
    have h3 := Dp.dn_vol A
    have h4 : Dp.dn [] = 0 := rfl
    omega
  have HLN : Hid (∀ i, ((A.take i).foldl Dp.put []).length ≤ 1000000) := fun i => by
    have h1 := Dp.foldl_len (A.take i) []
    rw [List.length_take] at h1
    simp only [List.length_nil] at h1
    omega
  have hwl : ∀ x ∈ A, x.2.length ≤ 1000000 := fun x hx => by
    have h1 := Dp.vol_mem hx
    have h2 := Dp.sum_len x.2
    omega
  have HWL : Hid _ := hwl
  have hbA : A.length ≤ 1000000 := by omega
  obtain ⟨ad, c, rfl, hle⟩ := ha.shape
  clear hwl hlA hV
  have HFIN : Hid (Dp.merge A = (A.take A.length).foldl Dp.put []) := by show _ = _; rw [List.take_length]; rfl
  generalize Dp.merge A = M at *
  go_enter Try.func22, Try.ntmps22
  go_wp2
  go_loopw [3, 4] (fun vo k wr => ∃ (i : Nat) (ps : List (RawD × Dp.Rule)), i ≤ A.length ∧ k = .int .i64 (i : Int) ∧ Drs wr w.heap.size vo ps ∧ Hid (ps.map Prod.snd = (A.take i).foldl Dp.put []) ∧ Below w.heap.size w wr) (fun _ k _ => A.length - (intOf k).toNat)
  case atStart => exact ⟨0, [], Nat.zero_le _, rfl, Drs.nil _ _, rfl, Below.refl _ _⟩
  case round =>
    obtain ⟨i, ps, hi, rfl, hD, HM, hBe⟩ := hrel
    obtain ⟨va, vc, hv0, hvc⟩ := hD.row.sl.shape
    rw [List.length_map] at hv0 hvc
    subst hv0
    by_cases hlt : i < A.length
    · have i1 : (i : Int) < (A.length : Int) := by omega
      have ha1 := ha.below (hBe.mono hB) (Nat.le_refl _)
      have hw2 := HWL.out (A.getD i Dp.noR) (by simp [List.getD, List.getElem?_eq_getElem hlt])
      obtain ⟨b, o, c1, ad1, c2, e, hb1, p0, p1, hW⟩ := ha1.at i hlt
      simp only [Value.slice.injEq] at e
      obtain ⟨rfl, -, rfl⟩ := e
      have HM1 : Hid ((A.take (i + 1)).foldl Dp.put [] = Dp.put (ps.map Prod.snd) (A.getD i Dp.noR)) := by
        show _ = _
        rw [List.take_succ_eq_append_getElem hlt, List.foldl_append, ← HM.out]
        simp [List.getD, List.getElem?_eq_getElem hlt]
      have hpl : ps.length ≤ 1000000 := by
        have h := HLN.out i
        rw [← HM.out, List.length_map] at h
        exact h
      obtain ⟨x, hx⟩ : ∃ x, A.getD i Dp.noR = x := ⟨_, rfl⟩
      rw [hx] at p0 p1 hW hw2 HM1
      clear hx ha1
      obtain ⟨x1, x2⟩ := x
      simp only at hw2
      obtain ⟨s1, hs1⟩ : ∃ s1, str x1 = s1 := ⟨_, rfl⟩
      rw [hs1] at p0
      have HS1 : Hid _ := hs1
      clear hs1
      have HPL : Hid (((ps.length : Nat) : Int) ≤ 1000000) := by show _ ≤ _; omega
      obtain ⟨W1, hW1⟩ : ∃ W1, wr = W1 := ⟨_, rfl⟩
      rw [hW1] at hD hBe p0 p1 hW ⊢
      clear hW1
      go_wp2
      go_loopw [5] (fun k wr => ∃ j : Nat, j ≤ ps.length ∧ k = .int .i64 (j : Int) ∧ Hid (∀ q (hq : q < ps.length), q < j → ps[q].2.1 ≠ x1) ∧ ∃ n, wr = W1.drewN n) (fun k _ => ps.length - (intOf k).toNat)
      case atStart => exact ⟨0, Nat.zero_le _, rfl, fun q _ h => absurd h (by omega), 0, rfl⟩
      case round =>
        obtain ⟨j, hj, rfl, HNE, n0, hwr⟩ := hrel
        have hBw : Below W1.heap.size W1 wr := by rw [hwr]; exact below_drewN (Below.refl _ _) n0
        have HWR : Hid _ := hwr
        clear hwr
        have hDr := hD.below hBw (Nat.le_refl _)
        have hBr := hBe.trans (hBw.mono hBe.size)
        have r0 := (hBw.cell (p := ⟨b, o + i * 2, none⟩) (Nat.lt_of_lt_of_le hb1 (Nat.le_trans hB hBe.size))).trans p0
        have r1 := (hBw.cell (p := ⟨b, o + i * 2 + 1, none⟩) (Nat.lt_of_lt_of_le hb1 (Nat.le_trans hB hBe.size))).trans p1
        have hWr := hW.below hBw (Nat.le_trans hB hBe.size)
        by_cases hjl : j < ps.length
        · obtain ⟨g, cap, e, -, hgl, -, -⟩ := Rc.Own.set hDr.row j 0 (by rw [List.length_map]; exact hjl) (by decide)
          rw [List.length_map] at e
          simp only [Value.slice.injEq, true_and] at e
          obtain ⟨rfl, rfl⟩ := e
          obtain ⟨k0, k1, hOj⟩ := hDr.cells hjl
          have j1 : (j : Int) < (ps.length : Int) := by omega
          have HE := beq_str ps[j].2.1 x1
          rw [HS1.out] at HE
          have HE2 : ((str ps[j].2.1).toList != s1.toList) = !decide (ps[j].2.1 = x1) := by rw [← HE]; rfl
          by_cases hxe : ps[j].2.1 = x1
          · rw [decide_eq_true hxe] at HE HE2
            simp only [Bool.not_true] at HE2
            generalize str ps[j].2.1 = s2 at *
            have HXE : Hid _ := hxe
            clear hxe
            have jn : ((j : Int) == (ps.length : Int)) = false := by rw [beq_eq_false_iff_ne]; omega
            go_wp2_with fail
            go_quiet (fail)
            obtain ⟨W2, hW2e⟩ : ∃ W2, wr.drewN nq = W2 := ⟨_, rfl⟩
            have hBn : Below wr.heap.size wr W2 := by rw [← hW2e]; exact below_drewN (Below.refl _ _) nq
            rw [hW2e]
            clear hW2e
            have hD2 := hDr.below hBn (Nat.le_refl _)
            have hB2 := hBr.trans (hBn.mono hBr.size)
            have q1 := (hBn.cell (p := ⟨b, o + i * 2 + 1, none⟩) (Nat.lt_of_lt_of_le hb1 (Nat.le_trans hB hBr.size))).trans r1
            have hW2 := hWr.below hBn (Nat.le_trans hB hBr.size)
            have hkN := hjl
            obtain ⟨K2, hK2⟩ : ∃ K2, ps.map Prod.snd = K2 := ⟨_, rfl⟩
            have HK2 : Hid (K2.length = ps.length) := by show _ = _; rw [← hK2, List.length_map]
            obtain ⟨d0, hd0⟩ : ∃ d0, ps[j].2.2 = d0 := ⟨_, rfl⟩
            have hKj : K2[j]'(by rw [HK2.out]; exact hjl) = (x1, d0) := by
              subst hK2
              rw [List.getElem_map, ← hd0, ← HXE.out]
            have HD0 : Hid (d0.length ≤ 1000000) := by
              have h1 := Dp.dn_mem (l := K2) (k := j) (by rw [HK2.out]; exact hjl)
              rw [hKj] at h1
              have h2 := HDN.out i
              rw [← HM.out, hK2] at h2
              show _ ≤ _
              simp only at h1
              omega
            have HK0 : Hid (ps.map Prod.snd = K2.set j (x1, Dp.adds d0 (x2.take 0))) := by
              show _ = _
              rw [hK2]
              have : (x1, Dp.adds d0 (x2.take 0)) = K2[j]'(by rw [HK2.out]; exact hjl) := by rw [hKj]; rfl
              rw [this, List.set_getElem_self]
            have HPUT : Hid (Dp.put (ps.map Prod.snd) (x1, x2) = K2.set j (x1, Dp.adds d0 x2)) := by
              show _ = _
              rw [hK2]
              have := Dp.put_at K2 (x1, x2) j (by rw [HK2.out]; exact hjl) (by rw [hKj]) (fun q hq hqj => by
                subst hK2
                rw [List.getElem_map]
                exact HNE.out q (by rw [List.length_map] at hq; exact hq) hqj)
              rw [this, hKj]
            have HPN : Hid _ := HPL
            clear hK2 hd0 hKj HM HNE HXE hDr hBr r0 r1 hWr k0 k1 hOj hjl hD hBe hBw hBn p0 p1 hW HWR hvc hgl
            clear HE HE2 j1 HS1
            generalize ps.length = N at *
            go_wp2
            go_loopw [6] (fun kk wr => ∃ (n : Nat) (qs : List (RawD × Dp.Rule)), n ≤ x2.length ∧ kk = .int .i64 (n : Int) ∧ Drs wr w.heap.size (.slice (some ⟨g, 0, none⟩) N vc) qs ∧ Hid (qs.map Prod.snd = K2.set j (x1, Dp.adds d0 (x2.take n))) ∧ Below w.heap.size w wr ∧ wr.cell? ⟨b, o + i * 2 + 1, none⟩ = some (.slice ad1 x2.length c2) ∧ BR.Sl wr B (.slice ad1 x2.length c2) x2) (fun kk _ => x2.length - (intOf kk).toNat)
            case atStart => exact ⟨0, ps, Nat.zero_le _, rfl, hD2, HK0, hB2, q1, hW2⟩
            case round =>
              obtain ⟨n, qs, hn, rfl, hD, HQ, hBq, q1, hWq⟩ := hrel
              by_cases hnl : n < x2.length
              · have j1 : (n : Int) < (x2.length : Int) := by omega
                obtain ⟨b2, o2, cc2, e, hb2, r0⟩ := BR.ix hWq hnl
                simp only [Value.slice.injEq] at e
                obtain ⟨rfl, -, rfl⟩ := e
                have HT2 : Hid (x2.take (n + 1) = x2.take n ++ [x2[n]]) := List.take_succ_eq_append_getElem hnl
                have hql : qs.length = N := by
                  have := hD.row.1
                  obtain ⟨ad9, c9, e9, -⟩ := hD.row.sl.shape
                  simp only [Value.slice.injEq, List.length_map] at e9
                  exact e9.2.1.symm
                have hkq : j < qs.length := by rw [hql]; exact hkN
                have hDd : Drs wr.drew w.heap.size (.slice (some ⟨g, 0, none⟩) N vc) qs := hD.below ((Below.refl wr.heap.size wr).drew) (Nat.le_refl _)
                obtain ⟨-, m1, hOd⟩ := hDd.cells hkq
                generalize x2[n] = dx at *
                have hqk : qs[j].2 = (x1, Dp.adds d0 (x2.take n)) := by
                  have h1 : (qs.map Prod.snd)[j]? = some qs[j].2 := by rw [List.getElem?_map, List.getElem?_eq_getElem hkq]; rfl
                  rw [HQ.out, List.getElem?_set_self (by rw [HK2.out]; exact hkN)] at h1
                  exact (Option.some.inj h1).symm
                have hql2 : qs[j].2.2.length ≤ 10000000 := by
                  rw [hqk]
                  have h1 := Dp.adds_len d0 (x2.take n)
                  rw [List.length_take] at h1
                  have h2 := HD0.out
                  simp only
                  omega
                obtain ⟨dA, dn, dc, hqd⟩ : ∃ dA dn dc, qs[j].1.deps = .slice dA dn dc := ⟨_, _, _, rfl⟩
                rw [hqd] at m1 hOd
                have hBd := hBq.drew
                have hWd : BR.Sl wr.drew B (.slice (some ⟨b2, o2, none⟩) x2.length c2) x2 := hWq
                have m2 : wr.drew.cell? ⟨b, o + i * 2 + 1, none⟩ = some (.slice (some ⟨b2, o2, none⟩) x2.length c2) := q1
                have hA := AddD_any (.slice dA dn dc) qs[j].2.2 dx w.heap.size wr.drew hOd hBd.size (by omega)
                obtain ⟨sd, hsd⟩ : ∃ sd, str dx = sd := ⟨_, rfl⟩
                rw [hsd] at hA r0
                have m3 : wr.drew.cell? ⟨b2, o2 + n, none⟩ = some (.string sd) := r0
                have HQ2 : Hid ((qs.set j (⟨qs[j].1.t, dA, dn, dc⟩, (qs[j].2.1, Dp.add qs[j].2.2 dx))).map Prod.snd = K2.set j (x1, Dp.adds d0 (x2.take (n + 1)))) := by
                  show _ = _
                  rw [List.map_set, HQ.out, hqk, HT2.out, Dp.adds_add, List.set_set]
                have HQ3 : Hid (∀ r : RawD, (qs.set j (r, (qs[j].2.1, Dp.add qs[j].2.2 dx))).map Prod.snd = K2.set j (x1, Dp.adds d0 (x2.take (n + 1)))) := fun r => by
                  have := HQ2.out
                  rw [List.map_set] at this ⊢
                  exact this
                have nk : (j : Int) < (N : Int) := by omega
                clear hsd HT2 HQ HQ2 hqk hql2 r0 hWq
                go_upto_region 13 with fail
                refine wp_region_held_drew (S := (fun X : World => X.cell? ⟨b, o + i * 2 + 1, none⟩ = some (.slice (some ⟨b2, o2, none⟩) x2.length c2) ∧ X.cell? ⟨b2, o2 + n, none⟩ = some (.string sd))) (by kernel_rfl) ⟨m2, m3⟩ (fun hHeld => ?_)
                refine wpAnyH_take (i := 0) (v := ?_) rfl (by kernel_rfl) (by kernel_rfl) (by kernel_rfl) (fun _ _ _ h => h) (Or.inl ⟨(by simp [Region.wanted]), ?_⟩) (hHeld) ?_
                rotate_left
                · (intro w hSw; (try dsimp only at hSw); ((go_simp) <;> (with_reducible rfl)))
                try simp only [Act.put, List.setIfInBounds_toArray]
                refine wpAnyH_take (i := 1) (v := ?_) rfl (by kernel_rfl) (by kernel_rfl) (by kernel_rfl) (fun _ _ _ h => h) (Or.inl ⟨(by simp [Region.wanted]), ?_⟩) (hHeld) ?_
                rotate_left
                · (intro w hSw; (try dsimp only at hSw); ((go_simp) <;> (with_reducible rfl)))
                try simp only [Act.put]
                refine wpAnyH_take (i := 2) (v := ?_) rfl (by kernel_rfl) (by kernel_rfl) (by kernel_rfl) (fun _ _ _ h => h) (Or.inl ⟨(by simp [Region.wanted]), ?_⟩) (hHeld) ?_
                rotate_left
                · (intro w hSw; (try dsimp only at hSw); ((go_simp) <;> (with_reducible rfl)))
                try simp only [Act.put]
                refine wpAnyH_take (i := 3) (v := ?_) rfl (by kernel_rfl) (by kernel_rfl) (by kernel_rfl) (fun _ _ _ h => h) (Or.inl ⟨(by simp [Region.wanted]), ?_⟩) (hHeld) ?_
                rotate_left
                · (intro w hSw; (try dsimp only at hSw); ((go_simp) <;> (with_reducible rfl)))
                try simp only [Act.put]
                refine wpAnyH_take (i := 4) (v := ?_) rfl (by kernel_rfl) (by kernel_rfl) (by kernel_rfl) (fun _ _ _ h => h) (Or.inl ⟨(by simp [Region.wanted]), ?_⟩) (hHeld) ?_
                rotate_left
                · (intro w hSw; (try dsimp only at hSw); ((go_simp) <;> (with_reducible rfl)))
                try simp only [Act.put]
                refine wpAnyH_take (i := 5) (v := ?_) rfl (by kernel_rfl) (by kernel_rfl) (by kernel_rfl) (fun _ _ _ h => h) (Or.inl ⟨(by simp [Region.wanted]), ?_⟩) (hHeld) ?_
                rotate_left
                · (intro w hSw; (try dsimp only at hSw); ((go_simp) <;> (with_reducible rfl)))
                try simp only [Act.put]
                refine wpAnyH_take (i := 7) (v := ?_) rfl (by kernel_rfl) (by kernel_rfl) (by kernel_rfl) (fun _ _ _ h => h) (Or.inl ⟨(by simp [Region.wanted]), ?_⟩) (hHeld) ?_
                rotate_left
                · (intro w hSw; (try dsimp only at hSw); ((go_simp) <;> (with_reducible rfl)))
                try simp only [Act.put]
                refine wpAnyH_take (i := 8) (v := ?_) rfl (by kernel_rfl) (by kernel_rfl) (by kernel_rfl) (fun _ _ _ h => h) (Or.inl ⟨(by simp [Region.wanted]), ?_⟩) (hHeld) ?_
                rotate_left
                · (intro w hSw; (try dsimp only at hSw); ((go_simp) <;> (with_reducible rfl)))
                try simp only [Act.put]
                refine wpAnyH_take (i := 9) (v := ?_) rfl (by kernel_rfl) (by kernel_rfl) (by kernel_rfl) (fun _ _ _ h => h) (Or.inl ⟨(by simp [Region.wanted]), ?_⟩) (hHeld) ?_
                rotate_left
                · (intro w hSw; (try dsimp only at hSw); ((go_simp) <;> (with_reducible rfl)))
                try simp only [Act.put]
                refine wpAnyH_take (i := 10) (v := ?_) rfl (by kernel_rfl) (by kernel_rfl) (by kernel_rfl) (fun _ _ _ h => h) (Or.inl ⟨(by simp [Region.wanted]), ?_⟩) (hHeld) ?_
                rotate_left
                · (intro w hSw; (try dsimp only at hSw); ((go_simp) <;> (with_reducible rfl)))
                try simp only [Act.put]
                refine wpAnyH_take (i := 11) (v := ?_) rfl (by kernel_rfl) (by kernel_rfl) (by kernel_rfl) (fun _ _ _ h => h) (Or.inl ⟨(by simp [Region.wanted]), ?_⟩) (hHeld) ?_
                rotate_left
                · (intro w hSw; (try dsimp only at hSw); ((go_simp) <;> (with_reducible rfl)))
                try simp only [Act.put]
                refine wpAnyH_take (i := 12) (v := ?_) rfl (by kernel_rfl) (by kernel_rfl) (by kernel_rfl) (fun _ _ _ h => h) (Or.inl ⟨(by simp [Region.wanted]), ?_⟩) (hHeld) ?_
                rotate_left
                · (intro w hSw; (try dsimp only at hSw); ((go_simp) <;> (with_reducible rfl)))
                try simp only [Act.put]
                refine wpAnyH_take (i := 13) (v := ?_) rfl (by kernel_rfl) (by kernel_rfl) (by kernel_rfl) (fun _ _ _ h => h) (Or.inl ⟨(by simp [Region.wanted]), ?_⟩) (hHeld) ?_
                rotate_left
                · (intro w hSw; (try dsimp only at hSw); ((go_simp) <;> (with_reducible rfl)))
                try simp only [Act.put]
                refine wpAnyH_take (i := 14) (v := ?_) rfl (by kernel_rfl) (by kernel_rfl) (by kernel_rfl) (fun _ _ _ h => h) (Or.inl ⟨(by simp [Region.wanted]), ?_⟩) (hHeld) ?_
                rotate_left
                · (intro w hSw; (try dsimp only at hSw); ((go_simp) <;> (with_reducible rfl)))
                try simp only [Act.put]
                refine wpAnyH_ready (rs := [6]) (by kernel_rfl) (by simp) ?_
                refine AllReadyH.cons rfl (fun K hK => ?_) AllReadyH.nil
                go_simp
                refine hK.out _ _ (⟨m2, m3⟩) (fun hHeld => ?_)
                clear hK K
                try simp only [Act.put, List.setIfInBounds_toArray, List.set_cons_zero, List.set_cons_succ]
                refine wpAnyH_ready (rs := [15]) (by kernel_rfl) (by simp) ?_
                refine AllReadyH.cons rfl (fun K hK => ?_) AllReadyH.nil
                go_simp
                refine hA.mono ?_
                rintro e w5 ⟨v5, rfl, hO5, hg5, hn5⟩
                obtain ⟨a5, n5, c5, rfl⟩ := hO5.isSl
                obtain ⟨fr5, ce5, hD5⟩ := hDd.setDeps hkq hO5 (by rw [hqd]; exact hg5) (by rw [hqd]; exact hn5)
                rw [hqd] at ce5
                have hBX : Below w.heap.size wr.drew w5 := (Below.refl _ _).grown hg5 hBd.size fun q e => (hOd.lt q e).1
                have m2b : w5.cell? ⟨b, o + i * 2 + 1, none⟩ = some (.slice (some ⟨b2, o2, none⟩) x2.length c2) := (hBX.cell (p := ⟨b, o + i * 2 + 1, none⟩) (Nat.lt_of_lt_of_le hb1 hB)).trans m2
                have m3b : w5.cell? ⟨b2, o2 + n, none⟩ = some (.string sd) := (hBX.cell (p := ⟨b2, o2 + n, none⟩) (Nat.lt_of_lt_of_le hb2 hB)).trans m3
                have hW5 := hWd.below hBX hB
                have hB5 := hBd.trans hBX
                refine hK.out _ _ (⟨m2b, m3b⟩) (fun hHeld => ?_)
                clear hK K
                try simp only [Act.put, List.setIfInBounds_toArray, List.set_cons_zero, List.set_cons_succ]
                refine wpAnyH_take (i := 16) (v := ?_) rfl (by kernel_rfl) (by kernel_rfl) (by kernel_rfl) (fun _ _ _ h => h) (Or.inl ⟨(by simp [Region.wanted]), ?_⟩) (hHeld) ?_
                rotate_left
                · (intro w hSw; (try dsimp only at hSw); ((go_simp) <;> (with_reducible rfl)))
                try simp only [Act.put, List.setIfInBounds_toArray]
                refine wpAnyH_take (i := 17) (v := ?_) rfl (by kernel_rfl) (by kernel_rfl) (by kernel_rfl) (fun _ _ _ h => h) (Or.inl ⟨(by simp [Region.wanted]), ?_⟩) (hHeld) ?_
                rotate_left
                · (intro w hSw; (try dsimp only at hSw); ((go_simp) <;> (with_reducible rfl)))
                try simp only [Act.put]
                refine wpAnyH_ready (rs := [18]) (by kernel_rfl) (by simp) ?_
                refine AllReadyH.cons rfl (fun K hK => ?_) AllReadyH.nil
                go_simp
                have hgg : w.heap.size ≤ g := (hD.row.lt g rfl).1
                have hBs : Below w.heap.size w5 (w5.setCell ⟨g, j * 2 + 1, none⟩ (.slice a5 n5 c5)) := ((Turn.refl [g] w5).set (fun _ => by simp) _).below' hB5.size (by simpa using hgg)
                have m2s := (hBs.cell (p := ⟨b, o + i * 2 + 1, none⟩) (Nat.lt_of_lt_of_le hb1 hB)).trans m2b
                have m3s := (hBs.cell (p := ⟨b2, o2 + n, none⟩) (Nat.lt_of_lt_of_le hb2 hB)).trans m3b
                have hW6 := hW5.below hBs hB
                have hB6 := hB5.trans hBs
                refine hK.out _ _ ⟨m2s, m3s⟩ (fun hHeld => ?_)
                clear hK K
                try simp only [Act.put, List.setIfInBounds_toArray, List.set_cons_zero, List.set_cons_succ]
                refine wpAnyH_done (by kernel_rfl) ?_ _
                generalize w5.setCell ⟨g, j * 2 + 1, none⟩ (.slice a5 n5 c5) = w6 at hD5 m2s hW6 hB6 ⊢
                clear hBs m3s hW5 hB5 m2b m3b ce5 fr5
                go_wp2
                exact ⟨⟨n + 1, _, by omega, by go_num, hD5, HQ3.out _, hB6, m2s, hW6⟩, by simp [intOf]; omega⟩
              · obtain rfl : n = x2.length := by omega
                have j1 : ¬ (x2.length : Int) < (x2.length : Int) := by omega
                have HQ4 : Hid (qs.map Prod.snd = (A.take (i + 1)).foldl Dp.put []) := by
                  show _ = _
                  rw [HQ.out, List.take_length, HM1.out, HPUT.out]
                go_wp2
                exact ⟨⟨i + 1, qs, by omega, by go_num, hD, HQ4, hBq⟩, by simp [intOf]; omega⟩
          · rw [decide_eq_false hxe] at HE HE2
            simp only [Bool.not_false] at HE2
            have HNE2 : Hid (∀ q (hq : q < ps.length), q < j + 1 → ps[q].2.1 ≠ x1) := fun q hq h => by
              by_cases hqj : q = j
              · subst hqj; exact hxe
              · exact HNE.out q hq (by omega)
            generalize str ps[j].2.1 = s2 at *
            clear hxe HNE
            go_wp2_with fail
            go_quiet (fail)
            go_wp2
            exact ⟨⟨j + 1, by omega, by go_num, HNE2, _, by rw [HWR.out]; exact World.drewN_drewN _ _ _⟩, by simp [intOf]; omega⟩
        · obtain rfl : j = ps.length := by omega
          have j1 : ¬ (ps.length : Int) < (ps.length : Int) := by omega
          have jn : ((ps.length : Int) == (ps.length : Int)) = true := by simp
          go_wp2_with fail
          go_quiet (fail)
          obtain ⟨W2, hW2e⟩ : ∃ W2, wr.drewN nq = W2 := ⟨_, rfl⟩
          have hBn : Below wr.heap.size wr W2 := by rw [← hW2e]; exact below_drewN (Below.refl _ _) nq
          rw [hW2e]
          clear hW2e
          have hD2 := hDr.below hBn (Nat.le_refl _)
          have hB2 := hBr.trans (hBn.mono hBr.size)
          have q0 := (hBn.cell (p := ⟨b, o + i * 2, none⟩) (Nat.lt_of_lt_of_le hb1 (Nat.le_trans hB hBr.size))).trans r0
          have q1 := (hBn.cell (p := ⟨b, o + i * 2 + 1, none⟩) (Nat.lt_of_lt_of_le hb1 (Nat.le_trans hB hBr.size))).trans r1
          have hW2 := hWr.below hBn (Nat.le_trans hB hBr.size)
          obtain ⟨K2, hK2⟩ : ∃ K2, ps.map Prod.snd ++ [(x1, ([] : List (List UInt8)))] = K2 := ⟨_, rfl⟩
          obtain ⟨d0, hd0⟩ : ∃ d0, ([] : List (List UInt8)) = d0 := ⟨_, rfl⟩
          have HD0 : Hid (d0.length ≤ 1000000) := by show _ ≤ _; rw [← hd0]; simp
          have HPUT : Hid (Dp.put (ps.map Prod.snd) (x1, x2) = K2.set ps.length (x1, Dp.adds d0 x2)) := by
            show _ = _
            have := Dp.put_none (ps.map Prod.snd) (x1, x2) (fun q hq => by
              rw [List.getElem_map]
              rw [List.length_map] at hq
              exact HNE.out q hq hq)
            rw [this, ← hK2, ← hd0, List.length_map]
          have HK0' : Hid ((ps ++ [(newR x1, (x1, ([] : List (List UInt8))))]).map Prod.snd = K2.set ps.length (x1, Dp.adds d0 (x2.take 0))) := by
            show _ = _
            rw [← hK2, ← hd0, List.map_append]
            have : ((ps.map Prod.snd) ++ [(x1, ([] : List (List UInt8)))]).set ps.length (x1, Dp.adds [] (x2.take 0)) = ps.map Prod.snd ++ [(x1, Dp.adds [] (x2.take 0))] := by
              rw [List.set_append_right _ _ (by rw [List.length_map]; exact Nat.le_refl _), List.length_map, Nat.sub_self]
              rfl
            rw [this]
            rfl
          have HK2 : Hid (K2.length = ps.length + 1) := by show _ = _; rw [← hK2]; simp
          have hL := DrR.lit W2 (newR x1) #[.string s1, .slice none 0 0] (by rw [← HS1.out]; rfl)
          have hD4 := hD2.alloc (.cells #[.string s1, .slice none 0 0] 32)
          have hB4 := hB2.alloc hB2.size (.cells #[.string s1, .slice none 0 0] 32)
          have HLn : Hid ((ps.map Prod.fst).length + [newR x1].length ≤ 1099511627) := by show _ ≤ _; simp only [List.length_map, List.length_cons, List.length_nil]; omega
          have HPE : Hid ((ps.map Prod.fst).length + [newR x1].length = ps.length + 1) := by show _ = _; simp
          clear hK2 hd0 HM HNE hDr hBr r0 r1 hWr hjl hD hBe hBw hBn p0 p1 hW HWR hvc j1 HS1
          go_wp2_with (at_builtin; go_must (refine DrR.append_at rfl (.tmp 36) (.tmp 43) rfl w.heap.size (W2.heap.size + 1) _ _ (ps.map Prod.fst) [newR x1] rfl hD4.row rfl hL (by simp) HLn hB4.size ?_))
          intro g C w5 hO5 hg5 _ _
          have hD5 := hD4.push (r := newR x1) (x := (x1, [])) (by rw [List.map_append]; exact hO5) hg5 ⟨rfl, Rc.Own.nil _ _⟩ (fun q hq => by cases hq)
          have hB5 : Below w.heap.size (W2.alloc (.cells #[.string s1, .slice none 0 0] 32)) w5 := (Below.refl _ _).grown hg5 hB4.size fun q e => (hD4.row.lt q e).1
          have hB6 := hB4.trans hB5
          have hB7 := ((Below.refl w.heap.size W2).alloc hB2.size (.cells #[.string s1, .slice none 0 0] 32)).trans hB5
          have q1 := (hB7.cell (p := ⟨b, o + i * 2 + 1, none⟩) (Nat.lt_of_lt_of_le hb1 hB)).trans q1
          have hW2 := hW2.below hB7 hB
          have hB2 := hB6
          have hD2 := hD5
          clear hL hD4 hB4 HLn HPE hO5 hg5 hB5 hB6 hB7 q0 hD5
          generalize ps ++ [(newR x1, (x1, ([] : List (List UInt8))))] = ps2 at hD2 HK0'
          have HK0 : Hid _ := HK0'
          obtain ⟨k, hk⟩ : ∃ k, ps.length = k := ⟨_, rfl⟩
          obtain ⟨N, hN⟩ : ∃ N, ps.length + 1 = N := ⟨_, rfl⟩
          rw [hN] at HK2 hD2 ⊢
          rw [hk] at HPUT HK0
          have hkN : k < N := by omega
          have HPN : Hid (((N : Nat) : Int) ≤ 1000001) := by show _ ≤ _; omega
          rw [hk]
          clear hN hk HK0'
          go_wp2
          go_loopw [6] (fun kk wr => ∃ (n : Nat) (qs : List (RawD × Dp.Rule)), n ≤ x2.length ∧ kk = .int .i64 (n : Int) ∧ Drs wr w.heap.size (.slice (some ⟨g, 0, none⟩) N C) qs ∧ Hid (qs.map Prod.snd = K2.set k (x1, Dp.adds d0 (x2.take n))) ∧ Below w.heap.size w wr ∧ wr.cell? ⟨b, o + i * 2 + 1, none⟩ = some (.slice ad1 x2.length c2) ∧ BR.Sl wr B (.slice ad1 x2.length c2) x2) (fun kk _ => x2.length - (intOf kk).toNat)
          case atStart => exact ⟨0, ps2, Nat.zero_le _, rfl, hD2, HK0, hB2, q1, hW2⟩
          case round =>
            obtain ⟨n, qs, hn, rfl, hD, HQ, hBq, q1, hWq⟩ := hrel
            by_cases hnl : n < x2.length
            · have j1 : (n : Int) < (x2.length : Int) := by omega
              obtain ⟨b2, o2, cc2, e, hb2, r0⟩ := BR.ix hWq hnl
              simp only [Value.slice.injEq] at e
              obtain ⟨rfl, -, rfl⟩ := e
              have HT2 : Hid (x2.take (n + 1) = x2.take n ++ [x2[n]]) := List.take_succ_eq_append_getElem hnl
              have hql : qs.length = N := by
                have := hD.row.1
                obtain ⟨ad9, c9, e9, -⟩ := hD.row.sl.shape
                simp only [Value.slice.injEq, List.length_map] at e9
                exact e9.2.1.symm
              have hkq : k < qs.length := by rw [hql]; exact hkN
              have hDd : Drs wr.drew w.heap.size (.slice (some ⟨g, 0, none⟩) N C) qs := hD.below ((Below.refl wr.heap.size wr).drew) (Nat.le_refl _)
              obtain ⟨-, m1, hOd⟩ := hDd.cells hkq
              generalize x2[n] = dx at *
              have hqk : qs[k].2 = (x1, Dp.adds d0 (x2.take n)) := by
                have h1 : (qs.map Prod.snd)[k]? = some qs[k].2 := by rw [List.getElem?_map, List.getElem?_eq_getElem hkq]; rfl
                rw [HQ.out, List.getElem?_set_self (by rw [HK2.out]; exact hkN)] at h1
                exact (Option.some.inj h1).symm
              have hql2 : qs[k].2.2.length ≤ 10000000 := by
                rw [hqk]
                have h1 := Dp.adds_len d0 (x2.take n)
                rw [List.length_take] at h1
                have h2 := HD0.out
                simp only
                omega
              obtain ⟨dA, dn, dc, hqd⟩ : ∃ dA dn dc, qs[k].1.deps = .slice dA dn dc := ⟨_, _, _, rfl⟩
              rw [hqd] at m1 hOd
              have hBd := hBq.drew
              have hWd : BR.Sl wr.drew B (.slice (some ⟨b2, o2, none⟩) x2.length c2) x2 := hWq
              have m2 : wr.drew.cell? ⟨b, o + i * 2 + 1, none⟩ = some (.slice (some ⟨b2, o2, none⟩) x2.length c2) := q1
              have hA := AddD_any (.slice dA dn dc) qs[k].2.2 dx w.heap.size wr.drew hOd hBd.size (by omega)
              obtain ⟨sd, hsd⟩ : ∃ sd, str dx = sd := ⟨_, rfl⟩
              rw [hsd] at hA r0
              have m3 : wr.drew.cell? ⟨b2, o2 + n, none⟩ = some (.string sd) := r0
              have HQ2 : Hid ((qs.set k (⟨qs[k].1.t, dA, dn, dc⟩, (qs[k].2.1, Dp.add qs[k].2.2 dx))).map Prod.snd = K2.set k (x1, Dp.adds d0 (x2.take (n + 1)))) := by
                show _ = _
                rw [List.map_set, HQ.out, hqk, HT2.out, Dp.adds_add, List.set_set]
              have HQ3 : Hid (∀ r : RawD, (qs.set k (r, (qs[k].2.1, Dp.add qs[k].2.2 dx))).map Prod.snd = K2.set k (x1, Dp.adds d0 (x2.take (n + 1)))) := fun r => by
                have := HQ2.out
                rw [List.map_set] at this ⊢
                exact this
              have nk : (k : Int) < (N : Int) := by omega
              clear hsd HT2 HQ HQ2 hqk hql2 r0 hWq
              go_upto_region 13 with fail
              refine wp_region_held_drew (S := (fun X : World => X.cell? ⟨b, o + i * 2 + 1, none⟩ = some (.slice (some ⟨b2, o2, none⟩) x2.length c2) ∧ X.cell? ⟨b2, o2 + n, none⟩ = some (.string sd))) (by kernel_rfl) ⟨m2, m3⟩ (fun hHeld => ?_)
              refine wpAnyH_take (i := 0) (v := ?_) rfl (by kernel_rfl) (by kernel_rfl) (by kernel_rfl) (fun _ _ _ h => h) (Or.inl ⟨(by simp [Region.wanted]), ?_⟩) (hHeld) ?_
              rotate_left
              · (intro w hSw; (try dsimp only at hSw); ((go_simp) <;> (with_reducible rfl)))
              try simp only [Act.put, List.setIfInBounds_toArray]
              refine wpAnyH_take (i := 1) (v := ?_) rfl (by kernel_rfl) (by kernel_rfl) (by kernel_rfl) (fun _ _ _ h => h) (Or.inl ⟨(by simp [Region.wanted]), ?_⟩) (hHeld) ?_
              rotate_left
              · (intro w hSw; (try dsimp only at hSw); ((go_simp) <;> (with_reducible rfl)))
              try simp only [Act.put]
              refine wpAnyH_take (i := 2) (v := ?_) rfl (by kernel_rfl) (by kernel_rfl) (by kernel_rfl) (fun _ _ _ h => h) (Or.inl ⟨(by simp [Region.wanted]), ?_⟩) (hHeld) ?_
              rotate_left
              · (intro w hSw; (try dsimp only at hSw); ((go_simp) <;> (with_reducible rfl)))
              try simp only [Act.put]
              refine wpAnyH_take (i := 3) (v := ?_) rfl (by kernel_rfl) (by kernel_rfl) (by kernel_rfl) (fun _ _ _ h => h) (Or.inl ⟨(by simp [Region.wanted]), ?_⟩) (hHeld) ?_
              rotate_left
              · (intro w hSw; (try dsimp only at hSw); ((go_simp) <;> (with_reducible rfl)))
              try simp only [Act.put]
              refine wpAnyH_take (i := 4) (v := ?_) rfl (by kernel_rfl) (by kernel_rfl) (by kernel_rfl) (fun _ _ _ h => h) (Or.inl ⟨(by simp [Region.wanted]), ?_⟩) (hHeld) ?_
              rotate_left
              · (intro w hSw; (try dsimp only at hSw); ((go_simp) <;> (with_reducible rfl)))
              try simp only [Act.put]
              refine wpAnyH_take (i := 5) (v := ?_) rfl (by kernel_rfl) (by kernel_rfl) (by kernel_rfl) (fun _ _ _ h => h) (Or.inl ⟨(by simp [Region.wanted]), ?_⟩) (hHeld) ?_
              rotate_left
              · (intro w hSw; (try dsimp only at hSw); ((go_simp) <;> (with_reducible rfl)))
              try simp only [Act.put]
              refine wpAnyH_take (i := 7) (v := ?_) rfl (by kernel_rfl) (by kernel_rfl) (by kernel_rfl) (fun _ _ _ h => h) (Or.inl ⟨(by simp [Region.wanted]), ?_⟩) (hHeld) ?_
              rotate_left
              · (intro w hSw; (try dsimp only at hSw); ((go_simp) <;> (with_reducible rfl)))
              try simp only [Act.put]
              refine wpAnyH_take (i := 8) (v := ?_) rfl (by kernel_rfl) (by kernel_rfl) (by kernel_rfl) (fun _ _ _ h => h) (Or.inl ⟨(by simp [Region.wanted]), ?_⟩) (hHeld) ?_
              rotate_left
              · (intro w hSw; (try dsimp only at hSw); ((go_simp) <;> (with_reducible rfl)))
              try simp only [Act.put]
              refine wpAnyH_take (i := 9) (v := ?_) rfl (by kernel_rfl) (by kernel_rfl) (by kernel_rfl) (fun _ _ _ h => h) (Or.inl ⟨(by simp [Region.wanted]), ?_⟩) (hHeld) ?_
              rotate_left
              · (intro w hSw; (try dsimp only at hSw); ((go_simp) <;> (with_reducible rfl)))
              try simp only [Act.put]
              refine wpAnyH_take (i := 10) (v := ?_) rfl (by kernel_rfl) (by kernel_rfl) (by kernel_rfl) (fun _ _ _ h => h) (Or.inl ⟨(by simp [Region.wanted]), ?_⟩) (hHeld) ?_
              rotate_left
              · (intro w hSw; (try dsimp only at hSw); ((go_simp) <;> (with_reducible rfl)))
              try simp only [Act.put]
              refine wpAnyH_take (i := 11) (v := ?_) rfl (by kernel_rfl) (by kernel_rfl) (by kernel_rfl) (fun _ _ _ h => h) (Or.inl ⟨(by simp [Region.wanted]), ?_⟩) (hHeld) ?_
              rotate_left
              · (intro w hSw; (try dsimp only at hSw); ((go_simp) <;> (with_reducible rfl)))
              try simp only [Act.put]
              refine wpAnyH_take (i := 12) (v := ?_) rfl (by kernel_rfl) (by kernel_rfl) (by kernel_rfl) (fun _ _ _ h => h) (Or.inl ⟨(by simp [Region.wanted]), ?_⟩) (hHeld) ?_
              rotate_left
              · (intro w hSw; (try dsimp only at hSw); ((go_simp) <;> (with_reducible rfl)))
              try simp only [Act.put]
              refine wpAnyH_take (i := 13) (v := ?_) rfl (by kernel_rfl) (by kernel_rfl) (by kernel_rfl) (fun _ _ _ h => h) (Or.inl ⟨(by simp [Region.wanted]), ?_⟩) (hHeld) ?_
              rotate_left
              · (intro w hSw; (try dsimp only at hSw); ((go_simp) <;> (with_reducible rfl)))
              try simp only [Act.put]
              refine wpAnyH_take (i := 14) (v := ?_) rfl (by kernel_rfl) (by kernel_rfl) (by kernel_rfl) (fun _ _ _ h => h) (Or.inl ⟨(by simp [Region.wanted]), ?_⟩) (hHeld) ?_
              rotate_left
              · (intro w hSw; (try dsimp only at hSw); ((go_simp) <;> (with_reducible rfl)))
              try simp only [Act.put]
              refine wpAnyH_ready (rs := [6]) (by kernel_rfl) (by simp) ?_
              refine AllReadyH.cons rfl (fun K hK => ?_) AllReadyH.nil
              go_simp
              refine hK.out _ _ (⟨m2, m3⟩) (fun hHeld => ?_)
              clear hK K
              try simp only [Act.put, List.setIfInBounds_toArray, List.set_cons_zero, List.set_cons_succ]
              refine wpAnyH_ready (rs := [15]) (by kernel_rfl) (by simp) ?_
              refine AllReadyH.cons rfl (fun K hK => ?_) AllReadyH.nil
              go_simp
              refine hA.mono ?_
              rintro e w5 ⟨v5, rfl, hO5, hg5, hn5⟩
              obtain ⟨a5, n5, c5, rfl⟩ := hO5.isSl
              obtain ⟨fr5, ce5, hD5⟩ := hDd.setDeps hkq hO5 (by rw [hqd]; exact hg5) (by rw [hqd]; exact hn5)
              rw [hqd] at ce5
              have hBX : Below w.heap.size wr.drew w5 := (Below.refl _ _).grown hg5 hBd.size fun q e => (hOd.lt q e).1
              have m2b : w5.cell? ⟨b, o + i * 2 + 1, none⟩ = some (.slice (some ⟨b2, o2, none⟩) x2.length c2) := (hBX.cell (p := ⟨b, o + i * 2 + 1, none⟩) (Nat.lt_of_lt_of_le hb1 hB)).trans m2
              have m3b : w5.cell? ⟨b2, o2 + n, none⟩ = some (.string sd) := (hBX.cell (p := ⟨b2, o2 + n, none⟩) (Nat.lt_of_lt_of_le hb2 hB)).trans m3
              have hW5 := hWd.below hBX hB
              have hB5 := hBd.trans hBX
              refine hK.out _ _ (⟨m2b, m3b⟩) (fun hHeld => ?_)
              clear hK K
              try simp only [Act.put, List.setIfInBounds_toArray, List.set_cons_zero, List.set_cons_succ]
              refine wpAnyH_take (i := 16) (v := ?_) rfl (by kernel_rfl) (by kernel_rfl) (by kernel_rfl) (fun _ _ _ h => h) (Or.inl ⟨(by simp [Region.wanted]), ?_⟩) (hHeld) ?_
              rotate_left
              · (intro w hSw; (try dsimp only at hSw); ((go_simp) <;> (with_reducible rfl)))
              try simp only [Act.put, List.setIfInBounds_toArray]
              refine wpAnyH_take (i := 17) (v := ?_) rfl (by kernel_rfl) (by kernel_rfl) (by kernel_rfl) (fun _ _ _ h => h) (Or.inl ⟨(by simp [Region.wanted]), ?_⟩) (hHeld) ?_
              rotate_left
              · (intro w hSw; (try dsimp only at hSw); ((go_simp) <;> (with_reducible rfl)))
              try simp only [Act.put]
              refine wpAnyH_ready (rs := [18]) (by kernel_rfl) (by simp) ?_
              refine AllReadyH.cons rfl (fun K hK => ?_) AllReadyH.nil
              go_simp
              have hgg : w.heap.size ≤ g := (hD.row.lt g rfl).1
              have hBs : Below w.heap.size w5 (w5.setCell ⟨g, k * 2 + 1, none⟩ (.slice a5 n5 c5)) := ((Turn.refl [g] w5).set (fun _ => by simp) _).below' hB5.size (by simpa using hgg)
              have m2s := (hBs.cell (p := ⟨b, o + i * 2 + 1, none⟩) (Nat.lt_of_lt_of_le hb1 hB)).trans m2b
              have m3s := (hBs.cell (p := ⟨b2, o2 + n, none⟩) (Nat.lt_of_lt_of_le hb2 hB)).trans m3b
              have hW6 := hW5.below hBs hB
              have hB6 := hB5.trans hBs
              refine hK.out _ _ ⟨m2s, m3s⟩ (fun hHeld => ?_)
              clear hK K
              try simp only [Act.put, List.setIfInBounds_toArray, List.set_cons_zero, List.set_cons_succ]
              refine wpAnyH_done (by kernel_rfl) ?_ _
              generalize w5.setCell ⟨g, k * 2 + 1, none⟩ (.slice a5 n5 c5) = w6 at hD5 m2s hW6 hB6 ⊢
              clear hBs m3s hW5 hB5 m2b m3b ce5 fr5
              go_wp2
              exact ⟨⟨n + 1, _, by omega, by go_num, hD5, HQ3.out _, hB6, m2s, hW6⟩, by simp [intOf]; omega⟩
            · obtain rfl : n = x2.length := by omega
              have j1 : ¬ (x2.length : Int) < (x2.length : Int) := by omega
              have HQ4 : Hid (qs.map Prod.snd = (A.take (i + 1)).foldl Dp.put []) := by
                show _ = _
                rw [HQ.out, List.take_length, HM1.out, HPUT.out]
              go_wp2
              exact ⟨⟨i + 1, qs, by omega, by go_num, hD, HQ4, hBq⟩, by simp [intOf]; omega⟩
    · obtain rfl : i = A.length := by omega
      have i1 : ¬ (A.length : Int) < (A.length : Int) := by omega
      go_wp2
      go_ret
      exact ⟨_, rfl, by rw [HFIN.out, ← HM.out]; exact hD.own, hBe⟩

end Go.Proofs.Ytppcfidaalejfaa
