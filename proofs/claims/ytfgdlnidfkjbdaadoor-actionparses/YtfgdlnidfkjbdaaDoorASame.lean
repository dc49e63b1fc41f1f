/-
  WHAT THE DOCUMENT's Same DOES.
-/
import Derived.Test.YtfgdlnidfkjbdaaDoorAAlike
import Derived.Deep.RegionHeld3
namespace Go.Proofs.YtfgdlnidfkjbdaaDoor
open Go.RowKit

theorem cell_belowA {B b : Nat} {w w' : World} (h : Below B w w') (hb : b < B) (o : Nat) : w'.cell? ⟨b, o, none⟩ = w.cell? ⟨b, o, none⟩ := by
  simp only [World.cell?, h.block b hb]
/-- no statement has more than N words -/
def Ac.nar (N : Nat) : Ac.Fo → Prop
  | .nil => True
  | .cons _ a _ b t => a.length ≤ N ∧ Ac.nar N b ∧ Ac.nar N t
theorem Ac.nar_at {N : Nat} : ∀ {f : Ac.Fo} {k : Nat} {o : Int} {a : List (List UInt8)} {n : Int} {b r : Ac.Fo}, Ac.nar N f → f.drop k = .cons o a n b r → a.length ≤ N ∧ Ac.nar N b
  | .nil, k, _, _, _, _, _, _, e => by rw [Ac.Fo.drop_nil] at e; cases e
  | .cons _ _ _ _ _, 0, _, _, _, _, _, h, e => by
    simp only [Ac.Fo.drop, Ac.Fo.cons.injEq] at e
    obtain ⟨rfl, rfl, rfl, rfl, rfl⟩ := e
    exact ⟨h.1, h.2.1⟩
  | .cons _ _ _ _ _, k + 1, _, _, _, _, _, h, e => Ac.nar_at (k := k) h.2.2 e
theorem Ac.len_size : ∀ f : Ac.Fo, f.len ≤ Ac.size f
  | .nil => Nat.le_refl _
  | .cons _ _ _ _ t => by have := Ac.len_size t; rw [Ac.Fo.len, Ac.size]; omega

set_option maxRecDepth 100000 in
set_option maxHeartbeats 4000000 in
theorem SameT_any : ∀ (f g : Ac.Fo) (va vb : Value) (w : World) (B : Nat), FoS w B va f → FoS w B vb g → B ≤ w.heap.size → Ac.size f ≤ 1099511627 → Ac.nar 1099511627 f →
    Calls Tryd.prog 13 #[va, vb] w fun e w' => e = .returned (.bool (decide (f = g))) ∧ Below w.heap.size w w' := by
  refine Ac.fo_ind fun f ih => ?_
  intro g va vb w B ha hb hBw hs hnar
  obtain ⟨ad, c, rfl, hle⟩ := ha.shape
  obtain ⟨ad', c', rfl, hle'⟩ := hb.shape
  have hfl := Ac.len_size f
  have hfb : (f.len : Int) ≤ 1099511627 := by omega
  have HI : Hid _ := ih
  have HNA : Hid _ := hnar
  clear ih hnar
  obtain ⟨D, hDD⟩ : ∃ D, decide (f = g) = D := ⟨_, rfl⟩
  rw [hDD]
  have HNE : Hid (f ≠ g → D = false) := fun h => by rw [← hDD]; exact decide_eq_false h
  have HEQ : Hid (f = g → D = true) := fun h => by rw [← hDD]; exact decide_eq_true h
  clear hDD
  go_enter Tryd.func13, Tryd.ntmps13
  by_cases hlen : f.len = g.len
  · have n1 : ((f.len : Int) != (g.len : Int)) = false := by rw [bne_eq_false_iff_eq]; omega
    have HLE : Hid _ := hlen
    clear hlen
    go_wp2
    go_loopw [5] (fun k wr => ∃ i : Nat, i ≤ f.len ∧ k = .int .i64 (i : Int) ∧ Hid (f = g ↔ f.drop i = g.drop i) ∧ Below w.heap.size w wr) (fun k _ => f.len - (intOf k).toNat)
    case atStart => exact ⟨0, Nat.zero_le _, rfl, by show _ ↔ _; simp [Ac.Fo.drop], Below.refl _ _⟩
    case round =>
      obtain ⟨i, hi, rfl, HT, hD⟩ := hrel
      by_cases hlt : i < f.len
      · have hlt' : i < g.len := by have := HLE.out; omega
        have i1 : (i : Int) < (f.len : Int) := by omega
        have i2 : (i : Int) < (g.len : Int) := by omega
        obtain ⟨o, a, n, b, r, e⟩ := Ac.Fo.drop_lt hlt
        obtain ⟨o', a', n', b', r', e'⟩ := Ac.Fo.drop_lt hlt'
        have hwl := Ac.nar_at HNA.out e
        obtain ⟨ga, oa, c1, aa, ac, ba, bc, q, hga, p0, p1, p2, p3, hA, hB⟩ := ha.at e hlt
        simp only [Value.slice.injEq] at q
        obtain ⟨rfl, -, rfl⟩ := q
        obtain ⟨gb, ob, c1', aa', ac', ba', bc', q, hgb, s0, s1, s2, s3, hA', hB'⟩ := hb.at e' hlt'
        simp only [Value.slice.injEq] at q
        obtain ⟨rfl, -, rfl⟩ := q
        have HNO : Hid (¬ (o = o' ∧ a = a' ∧ n = n' ∧ b = b') → D = false) := fun h => HNE.out fun h2 => by
          have := HT.out.1 h2
          rw [e, e', Ac.Fo.cons.injEq] at this
          exact h ⟨this.1, this.2.1, this.2.2.1, this.2.2.2.1⟩
        have HYES : Hid ((o = o' ∧ a = a' ∧ n = n' ∧ b = b') → (f = g ↔ f.drop (i + 1) = g.drop (i + 1))) := fun h => by
          have := HT.out
          rw [e, e', Ac.Fo.cons.injEq] at this
          rw [Ac.Fo.drop_next e, Ac.Fo.drop_next e', this]
          exact ⟨fun x => x.2.2.2.2, fun x => ⟨h.1, h.2.1, h.2.2.1, h.2.2.2, x⟩⟩
        have hbs := Ac.size_body e
        have hc := HI.out i o a n b r e b'
        clear HI HT e e' hfl
        rw [← cell_belowA hD (Nat.lt_of_lt_of_le hga hBw)] at p0 p1 p2 p3
        rw [← cell_belowA hD (Nat.lt_of_lt_of_le hgb hBw)] at s0 s1 s2 s3
        go_upto_region 6 with fail
        go_cut [6, 7] (fun t6 t7 X => ∃ g1 g2 : Nat, t6 = .pointer (some ⟨g1, 0, none⟩) ∧ t7 = .pointer (some ⟨g2, 0, none⟩) ∧ X.heap[g1]? = some (.cells #[.int .i64 o, .slice aa a.length ac, .int .i64 n, .slice ba b.len bc] 34 (0, 0)) ∧ X.heap[g2]? = some (.cells #[.int .i64 o', .slice aa' a'.length ac', .int .i64 n', .slice ba' b'.len bc'] 34 (0, 0)) ∧ Below w.heap.size w X)
        case first =>
          have hBA : ∀ o1 o2 : Obj, Below w.heap.size w ((wr.alloc o1).alloc o2).drew := fun o1 o2 => ((hD.alloc hD.size o1).alloc (hD.alloc hD.size o1).size o2).drew
          go_region_held3 (fun X : World => X.cell? ⟨ga, oa + i * 4, none⟩ = some (.int .i64 o) ∧ X.cell? ⟨ga, oa + i * 4 + 1, none⟩ = some (.slice aa a.length ac) ∧ X.cell? ⟨ga, oa + i * 4 + 2, none⟩ = some (.int .i64 n) ∧ X.cell? ⟨ga, oa + i * 4 + 3, none⟩ = some (.slice ba b.len bc) ∧ X.cell? ⟨gb, ob + i * 4, none⟩ = some (.int .i64 o') ∧ X.cell? ⟨gb, ob + i * 4 + 1, none⟩ = some (.slice aa' a'.length ac') ∧ X.cell? ⟨gb, ob + i * 4 + 2, none⟩ = some (.int .i64 n') ∧ X.cell? ⟨gb, ob + i * 4 + 3, none⟩ = some (.slice ba' b'.len bc')) (go_keep) (fail)
          all_goals go_wp2
          all_goals (go_meet; first | exact ⟨_, _, rfl, rfl, heap_alloc2_old _ _ _, heap_alloc2_new _ _ _, hBA _ _⟩ | exact ⟨_, _, rfl, rfl, heap_alloc2_new _ _ _, heap_alloc2_old _ _ _, hBA _ _⟩)
        case rest =>
          obtain ⟨g1, g2, rfl, rfl, k1, k2, hB3⟩ := hcut
          clear p0 p1 p2 p3 s0 s1 s2 s3 hD
          have r0 : wc.cell? ⟨g1, 0, none⟩ = some (.int .i64 o) := by simp [World.cell?, k1]
          have r1 : wc.cell? ⟨g1, 1, none⟩ = some (.slice aa a.length ac) := by simp [World.cell?, k1]
          have r2 : wc.cell? ⟨g1, 2, none⟩ = some (.int .i64 n) := by simp [World.cell?, k1]
          have r3 : wc.cell? ⟨g1, 3, none⟩ = some (.slice ba b.len bc) := by simp [World.cell?, k1]
          have t0 : wc.cell? ⟨g2, 0, none⟩ = some (.int .i64 o') := by simp [World.cell?, k2]
          have t1 : wc.cell? ⟨g2, 1, none⟩ = some (.slice aa' a'.length ac') := by simp [World.cell?, k2]
          have t2 : wc.cell? ⟨g2, 2, none⟩ = some (.int .i64 n') := by simp [World.cell?, k2]
          have t3 : wc.cell? ⟨g2, 3, none⟩ = some (.slice ba' b'.len bc') := by simp [World.cell?, k2]
          have hg1 : g1 < wc.heap.size := (Array.getElem?_eq_some_iff.1 k1).1
          have hg2 : g2 < wc.heap.size := (Array.getElem?_eq_some_iff.1 k2).1
          have hBc : B ≤ wc.heap.size := Nat.le_trans hBw hB3.size
          have hca := hc _ _ wc B (hB.below hB3 hBw) (hB'.below hB3 hBw) hBc (by omega) hwl.2
          have hal := hwl.1
          clear k1 k2 hB hB' hc hwl hbs
          by_cases ho : o = o'
          · have m0 : (o != o') = false := by rw [bne_eq_false_iff_eq]; exact ho
            by_cases hn : n = n'
            · have m1 : (n != n') = false := by rw [bne_eq_false_iff_eq]; exact hn
              by_cases hl : a.length = a'.length
              · have m2 : ((a.length : Int) != (a'.length : Int)) = false := by rw [bne_eq_false_iff_eq]; omega
                have HO : Hid _ := ho
                have HN : Hid _ := hn
                have HL : Hid _ := hl
                clear ho hn hl
                go_wp2_with fail
                refine hca.mono ?_
                rintro e w2 ⟨rfl, hB4⟩
                have hB5 : Below w.heap.size w w2 := hB3.trans (hB4.mono hB3.size)
                rw [← cell_belowA hB4 hg1] at r1
                rw [← cell_belowA hB4 hg2] at t1
                rw [← cell_belowA hB4 hg1] at r0 r2 r3
                rw [← cell_belowA hB4 hg2] at t0 t2 t3
                have hg1' : g1 < w2.heap.size := Nat.lt_of_lt_of_le hg1 hB4.size
                have hg2' : g2 < w2.heap.size := Nat.lt_of_lt_of_le hg2 hB4.size
                have hw2 : w.heap.size ≤ w2.heap.size := hB5.size
                clear hca hB3 hg1 hg2 hB4
                by_cases hbb : b = b'
                · rw [decide_eq_true hbb]
                  have HBB : Hid _ := hbb
                  clear hbb
                  go_wp2
                  go_loopw [8] (fun k W => ∃ j : Nat, j ≤ a.length ∧ k = .int .i64 (j : Int) ∧ Hid (a.take j = a'.take j) ∧ Below w2.heap.size w2 W) (fun k _ => a.length - (intOf k).toNat)
                  case atStart => exact ⟨0, Nat.zero_le _, rfl, by simp [Hid], by first | exact Below.refl _ _ | exact below_drewA (Below.refl _ _) _⟩
                  case round =>
                    obtain ⟨j, hj, rfl, HT2, hB6⟩ := hrel
                    have hB7 := hB5.trans (hB6.mono hw2)
                    have u1 := (cell_belowA hB6 hg1' 1).trans r1
                    have v1 := (cell_belowA hB6 hg2' 1).trans t1
                    by_cases hjl : j < a.length
                    · have hjl' : j < a'.length := by have := HL.out; omega
                      have j1 : (j : Int) < (a.length : Int) := by omega
                      have j2 : (j : Int) < (a'.length : Int) := by omega
                      obtain ⟨b2, o2, cc2, e, -, x0⟩ := TxR.at (hA.below hB7 hBw) hjl
                      simp only [Value.slice.injEq] at e
                      obtain ⟨rfl, -, rfl⟩ := e
                      obtain ⟨b3, o3, cc3, e, -, y0⟩ := TxR.at (hA'.below hB7 hBw) hjl'
                      simp only [Value.slice.injEq] at e
                      obtain ⟨rfl, -, rfl⟩ := e
                      obtain ⟨u, hu⟩ : ∃ u, a[j] = u := ⟨_, rfl⟩
                      obtain ⟨v, hv⟩ : ∃ v, a'[j] = v := ⟨_, rfl⟩
                      rw [hu] at x0
                      rw [hv] at y0
                      clear r0 r1 r2 r3 t0 t1 t2 t3
                      by_cases ht : u = v
                      · have HT3 : Hid (a.take (j + 1) = a'.take (j + 1)) := take_moreA hjl hjl' HT2.out (by rw [hu, hv, ht])
                        subst ht
                        clear hu hv HT2
                        go_wp2_with fail
                        go_quiet (fail)
                        go_wp2
                        exact ⟨⟨j + 1, by omega, by go_num, HT3, by first | exact hB6 | exact below_drewA hB6 _⟩, by simp [intOf]; omega⟩
                      · have HF : Hid (D = false) := HNO.out fun h => ht (by rw [← hu, ← hv]; obtain ⟨-, h, -⟩ := h; subst h; rfl)
                        have m5 : ¬ (str u).toList = (str v).toList := by rw [ByteArray.toList_eq, ByteArray.toList_eq, str_toList, str_toList]; exact ht
                        have m6 : ((str u).toList != (str v).toList) = true := by rw [bne_iff_ne]; exact m5
                        have m7 : ((str u).toList == (str v).toList) = false := by rw [beq_eq_false_iff_ne]; exact m5
                        clear hu hv HT2 ht
                        go_wp2_with fail
                        go_quiet (fail)
                        go_wp2
                        go_ret
                        rw [HF.out]
                        exact ⟨rfl, by first | exact hB7 | exact below_drewA hB7 _⟩
                    · obtain rfl : j = a.length := by omega
                      have j1 : ¬ (a.length : Int) < (a.length : Int) := by omega
                      have HXY : Hid (f = g ↔ f.drop (i + 1) = g.drop (i + 1)) := by
                        refine HYES.out ⟨HO.out, ?_, HN.out, HBB.out⟩
                        have hw := HT2.out
                        rwa [List.take_length, List.take_of_length_le (by rw [← HL.out]; omega)] at hw
                      clear HT2 HNO HYES r0 r1 r2 r3 t0 t1 t2 t3
                      go_wp2
                      exact ⟨⟨i + 1, by omega, by go_num, HXY, hB7⟩, by simp [intOf]; omega⟩
                · rw [decide_eq_false hbb]
                  have HF : Hid (D = false) := HNO.out fun h => hbb h.2.2.2
                  clear hbb
                  go_wp2
                  go_ret
                  rw [HF.out]
                  exact ⟨rfl, by first | exact hB5 | exact below_drewA hB5 _⟩
              · have m2 : ((a.length : Int) != (a'.length : Int)) = true := by rw [bne_iff_ne]; omega
                have HF : Hid (D = false) := HNO.out fun h => hl (by rw [h.2.1])
                clear ho hn hl hca
                go_wp2
                go_ret
                rw [HF.out]
                exact ⟨rfl, by first | exact hB3 | exact below_drewA hB3 _⟩
            · have m1 : (n != n') = true := by rw [bne_iff_ne]; exact hn
              have HF : Hid (D = false) := HNO.out fun h => hn h.2.2.1
              clear ho hn hca
              go_wp2
              go_ret
              rw [HF.out]
              exact ⟨rfl, by first | exact hB3 | exact below_drewA hB3 _⟩
          · have m0 : (o != o') = true := by rw [bne_iff_ne]; exact ho
            have HF : Hid (D = false) := HNO.out fun h => ho h.1
            clear ho hca
            go_wp2
            go_ret
            rw [HF.out]
            exact ⟨rfl, by first | exact hB3 | exact below_drewA hB3 _⟩
      · obtain rfl : i = f.len := by omega
        have i1 : ¬ (f.len : Int) < (f.len : Int) := by omega
        have HE : Hid (f = g) := by
          refine HT.out.2 ?_
          have h2 := Ac.Fo.drop_len g
          rw [← HLE.out] at h2
          rw [Ac.Fo.drop_len, h2]
        clear HT HI
        go_wp2
        go_ret
        rw [HEQ.out HE.out]
        exact ⟨rfl, hD⟩
  · have n1 : ((f.len : Int) != (g.len : Int)) = true := by rw [bne_iff_ne]; omega
    have HF : Hid (D = false) := HNE.out fun h => hlen (by rw [h])
    clear hlen HI
    go_wp2
    go_ret
    rw [HF.out]
    exact ⟨rfl, Below.refl _ _⟩

end Go.Proofs.YtfgdlnidfkjbdaaDoor
