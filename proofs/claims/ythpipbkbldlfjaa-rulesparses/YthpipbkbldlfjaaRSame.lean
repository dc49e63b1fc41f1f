/-
  WHAT THE DOCUMENT's Same OF ITEMS DOES.
-/
import Derived.Test.YthpipbkbldlfjaaRName
import Derived.Deep.RegionHeld3
namespace Go.Proofs.Ythpipbkbldlfjaa
open Go.RowKit

theorem Alike_q {w : World} {B : Nat} {va vb : Value} {A C : List Lx.V} (ha : WdR.Sl w B va A) (hb : WdR.Sl w B vb C) (hAl : A.length ≤ 1099511627) (hB : B ≤ w.heap.size) {D : Bool} (hD : decide (A.map Rl.bw = C.map Rl.bw) = D) (q : Nat) :
    Calls Try.prog 47 #[va, vb] (w.drewN q) fun e w' => e = .returned (.bool D) ∧ ∃ m, w' = (w.drewN q).drewN m := by
  rw [← hD]
  exact AlikeW_any va vb A C _ B (ha.below (below_drewN (Below.refl w.heap.size w) q) hB) (hb.below (below_drewN (Below.refl w.heap.size w) q) hB) hAl
theorem cell_below {B b : Nat} {w w' : World} (h : Below B w w') (hb : b < B) (o : Nat) : w'.cell? ⟨b, o, none⟩ = w.cell? ⟨b, o, none⟩ := by
  simp only [World.cell?, h.block b hb]
theorem getD_mem {α : Type} {l : List α} {i : Nat} (z : α) (h : i < l.length) : l.getD i z = l[i] := by simp [List.getD, List.getElem?_eq_getElem h]
/-- how many words, lines there are at most -/
structure Rl.Few (x : Rl.It) : Prop where
  name : x.name.length ≤ 1099511
  targets : x.targets.length ≤ 1099511627
  words : x.words.length ≤ 1099511627
  code : x.code.length ≤ 1099511627
  lines : ∀ l ∈ x.code, l.words.length ≤ 1099511627
  tt : ∀ v ∈ x.targets, v.text.length ≤ 1099511
  wt : ∀ v ∈ x.words, v.text.length ≤ 1099511
  ct : ∀ l ∈ x.code, ∀ v ∈ l.words, v.text.length ≤ 1099511

set_option maxRecDepth 100000 in
set_option maxHeartbeats 4000000 in
theorem SameR_any (va vb : Value) (A C : List Rl.It) (w : World) (B : Nat) (ha : ItsS w B va A) (hb : ItsS w B vb C) (hBw : B ≤ w.heap.size) (hAl : A.length ≤ 1099511627) (hf : ∀ x ∈ A, Rl.Few x) :
    Calls Try.prog 24 #[va, vb] w fun e w' => e = .returned (.bool (decide (A.map Rl.bi = C.map Rl.bi))) ∧ Below w.heap.size w w' := by
  obtain ⟨ad, c, rfl, hle⟩ := ha.shape
  obtain ⟨ad', c', rfl, hle'⟩ := hb.shape
  have HFW : Hid _ := hf
  clear hf
  obtain ⟨D, hDD⟩ : ∃ D, decide (A.map Rl.bi = C.map Rl.bi) = D := ⟨_, rfl⟩
  rw [hDD]
  have HNE : Hid (A.map Rl.bi ≠ C.map Rl.bi → D = false) := fun h => by rw [← hDD]; exact decide_eq_false h
  have HEQ : Hid (A.map Rl.bi = C.map Rl.bi → D = true) := fun h => by rw [← hDD]; exact decide_eq_true h
  clear hDD
  go_enter Try.func24, Try.ntmps24
  by_cases hlen : A.length = C.length
  · have n1 : ((A.length : Int) != (C.length : Int)) = false := by rw [bne_eq_false_iff_eq]; omega
    have HLE : Hid _ := hlen
    clear hlen
    go_wp2
    go_loopw [5] (fun k wr => ∃ i : Nat, i ≤ A.length ∧ k = .int .i64 (i : Int) ∧ Hid ((A.map Rl.bi).take i = (C.map Rl.bi).take i) ∧ Below w.heap.size w wr) (fun k _ => A.length - (intOf k).toNat)
    case atStart => exact ⟨0, Nat.zero_le _, rfl, by simp [Hid], Below.refl _ _⟩
    case round =>
      obtain ⟨i, hi, rfl, HT, hD⟩ := hrel
      by_cases hlt : i < A.length
      · have hlt' : i < C.length := by have := HLE.out; omega
        have i1 : (i : Int) < (A.length : Int) := by omega
        have i2 : (i : Int) < (C.length : Int) := by omega
        obtain ⟨b, o, c1, ta, tc, wa, wc_, ca, cc, e, hb1, hc, hX1, hX2, hX3⟩ := ha.at i hlt
        simp only [Value.slice.injEq] at e
        obtain ⟨rfl, -, rfl⟩ := e
        obtain ⟨b', o', c1', ta', tc', wa', wc', ca', cc', e, hb1', hc', hY1, hY2, hY3⟩ := hb.at i hlt'
        simp only [Value.slice.injEq] at e
        obtain ⟨rfl, -, rfl⟩ := e
        obtain ⟨x, hx⟩ : ∃ x, A.getD i Rl.noI = x := ⟨_, rfl⟩
        obtain ⟨y, hy⟩ : ∃ y, C.getD i Rl.noI = y := ⟨_, rfl⟩
        rw [hx] at hc hX1 hX2 hX3
        rw [hy] at hc' hY1 hY2 hY3
        rw [getD_mem _ hlt] at hx
        rw [getD_mem _ hlt'] at hy
        have hfew := HFW.out x (by rw [← hx]; exact List.getElem_mem hlt)
        have HNO : Hid (Rl.bi x ≠ Rl.bi y → D = false) := fun h => HNE.out fun h2 => h (by
          have := congrArg (fun l => l[i]?) h2
          simpa only [List.getElem?_map, List.getElem?_eq_getElem hlt, List.getElem?_eq_getElem hlt', Option.map_some, Option.some.injEq, hx, hy] using this)
        have HYES : Hid (Rl.bi x = Rl.bi y → (A.map Rl.bi).take (i + 1) = (C.map Rl.bi).take (i + 1)) := fun h => by
          refine take_more (Rl.bi Rl.noI) (by rw [List.length_map]; exact hlt) (by rw [List.length_map]; exact hlt') HT.out ?_
          simp only [List.getD, List.getElem?_map, List.getElem?_eq_getElem hlt, List.getElem?_eq_getElem hlt', Option.map_some, Option.getD_some, hx, hy, h]
        clear hx hy
        have p0 : wr.cell? ⟨b, o + i * 6, none⟩ = some (.int .i64 x.kind) := (cell_below hD (Nat.lt_of_lt_of_le hb1 hBw) _).trans (hc 0 _ rfl)
        have p1 : wr.cell? ⟨b, o + i * 6 + 1, none⟩ = some (.int .i64 x.line) := (cell_below hD (Nat.lt_of_lt_of_le hb1 hBw) _).trans (hc 1 _ rfl)
        have p2 : wr.cell? ⟨b, o + i * 6 + 2, none⟩ = some (.string (str x.name)) := (cell_below hD (Nat.lt_of_lt_of_le hb1 hBw) _).trans (hc 2 _ rfl)
        have p3 : wr.cell? ⟨b, o + i * 6 + 3, none⟩ = some (.slice ta x.targets.length tc) := (cell_below hD (Nat.lt_of_lt_of_le hb1 hBw) _).trans (hc 3 _ rfl)
        have p4 : wr.cell? ⟨b, o + i * 6 + 4, none⟩ = some (.slice wa x.words.length wc_) := (cell_below hD (Nat.lt_of_lt_of_le hb1 hBw) _).trans (hc 4 _ rfl)
        have p5 : wr.cell? ⟨b, o + i * 6 + 5, none⟩ = some (.slice ca x.code.length cc) := (cell_below hD (Nat.lt_of_lt_of_le hb1 hBw) _).trans (hc 5 _ rfl)
        have q0 : wr.cell? ⟨b', o' + i * 6, none⟩ = some (.int .i64 y.kind) := (cell_below hD (Nat.lt_of_lt_of_le hb1' hBw) _).trans (hc' 0 _ rfl)
        have q1 : wr.cell? ⟨b', o' + i * 6 + 1, none⟩ = some (.int .i64 y.line) := (cell_below hD (Nat.lt_of_lt_of_le hb1' hBw) _).trans (hc' 1 _ rfl)
        have q2 : wr.cell? ⟨b', o' + i * 6 + 2, none⟩ = some (.string (str y.name)) := (cell_below hD (Nat.lt_of_lt_of_le hb1' hBw) _).trans (hc' 2 _ rfl)
        have q3 : wr.cell? ⟨b', o' + i * 6 + 3, none⟩ = some (.slice ta' y.targets.length tc') := (cell_below hD (Nat.lt_of_lt_of_le hb1' hBw) _).trans (hc' 3 _ rfl)
        have q4 : wr.cell? ⟨b', o' + i * 6 + 4, none⟩ = some (.slice wa' y.words.length wc') := (cell_below hD (Nat.lt_of_lt_of_le hb1' hBw) _).trans (hc' 4 _ rfl)
        have q5 : wr.cell? ⟨b', o' + i * 6 + 5, none⟩ = some (.slice ca' y.code.length cc') := (cell_below hD (Nat.lt_of_lt_of_le hb1' hBw) _).trans (hc' 5 _ rfl)
        clear hc hc'
        go_upto_region 6 with fail
        go_cut [6, 7] (fun t6 t7 X => ∃ g1 g2 : Nat, t6 = .pointer (some ⟨g1, 0, none⟩) ∧ t7 = .pointer (some ⟨g2, 0, none⟩) ∧ X.heap[g1]? = some (.cells (itCs x ta tc wa wc_ ca cc) 33 (0, 0)) ∧ X.heap[g2]? = some (.cells (itCs y ta' tc' wa' wc' ca' cc') 33 (0, 0)) ∧ Below w.heap.size w X)
        case first =>
          have hBA : ∀ o1 o2 : Obj, Below w.heap.size w ((wr.alloc o1).alloc o2).drew := fun o1 o2 => ((hD.alloc hD.size o1).alloc (hD.alloc hD.size o1).size o2).drew
          go_region_held3 (fun X : World => X.cell? ⟨b, o + i * 6, none⟩ = some (.int .i64 x.kind) ∧ X.cell? ⟨b, o + i * 6 + 1, none⟩ = some (.int .i64 x.line) ∧ X.cell? ⟨b, o + i * 6 + 2, none⟩ = some (.string (str x.name)) ∧ X.cell? ⟨b, o + i * 6 + 3, none⟩ = some (.slice ta x.targets.length tc) ∧ X.cell? ⟨b, o + i * 6 + 4, none⟩ = some (.slice wa x.words.length wc_) ∧ X.cell? ⟨b, o + i * 6 + 5, none⟩ = some (.slice ca x.code.length cc) ∧ X.cell? ⟨b', o' + i * 6, none⟩ = some (.int .i64 y.kind) ∧ X.cell? ⟨b', o' + i * 6 + 1, none⟩ = some (.int .i64 y.line) ∧ X.cell? ⟨b', o' + i * 6 + 2, none⟩ = some (.string (str y.name)) ∧ X.cell? ⟨b', o' + i * 6 + 3, none⟩ = some (.slice ta' y.targets.length tc') ∧ X.cell? ⟨b', o' + i * 6 + 4, none⟩ = some (.slice wa' y.words.length wc') ∧ X.cell? ⟨b', o' + i * 6 + 5, none⟩ = some (.slice ca' y.code.length cc')) (go_keep) (fail)
          all_goals go_wp2
          all_goals (go_meet; first | exact ⟨_, _, rfl, rfl, heap_alloc2_old _ _ _, heap_alloc2_new _ _ _, hBA _ _⟩ | exact ⟨_, _, rfl, rfl, heap_alloc2_new _ _ _, heap_alloc2_old _ _ _, hBA _ _⟩)
        case rest =>
          obtain ⟨g1, g2, rfl, rfl, k1, k2, hB3⟩ := hcut
          clear p0 p1 p2 p3 p4 p5 q0 q1 q2 q3 q4 q5 hD
          have x1 := hX1.below hB3 hBw
          have x2 := hX2.below hB3 hBw
          have x3 := hX3.below hB3 hBw
          have y1 := hY1.below hB3 hBw
          have y2 := hY2.below hB3 hBw
          have y3 := hY3.below hB3 hBw
          clear hX1 hX2 hX3 hY1 hY2 hY3
          have hBc : B ≤ wc.heap.size := Nat.le_trans hBw hB3.size
          have r0 : wc.cell? ⟨g1, 0, none⟩ = some (.int .i64 x.kind) := by simp [World.cell?, k1, itCs]
          have r2 : wc.cell? ⟨g1, 2, none⟩ = some (.string (str x.name)) := by simp [World.cell?, k1, itCs]
          have r3 : wc.cell? ⟨g1, 3, none⟩ = some (.slice ta x.targets.length tc) := by simp [World.cell?, k1, itCs]
          have r4 : wc.cell? ⟨g1, 4, none⟩ = some (.slice wa x.words.length wc_) := by simp [World.cell?, k1, itCs]
          have r5 : wc.cell? ⟨g1, 5, none⟩ = some (.slice ca x.code.length cc) := by simp [World.cell?, k1, itCs]
          have s0 : wc.cell? ⟨g2, 0, none⟩ = some (.int .i64 y.kind) := by simp [World.cell?, k2, itCs]
          have s2 : wc.cell? ⟨g2, 2, none⟩ = some (.string (str y.name)) := by simp [World.cell?, k2, itCs]
          have s3 : wc.cell? ⟨g2, 3, none⟩ = some (.slice ta' y.targets.length tc') := by simp [World.cell?, k2, itCs]
          have s4 : wc.cell? ⟨g2, 4, none⟩ = some (.slice wa' y.words.length wc') := by simp [World.cell?, k2, itCs]
          have s5 : wc.cell? ⟨g2, 5, none⟩ = some (.slice ca' y.code.length cc') := by simp [World.cell?, k2, itCs]
          clear k1 k2
          by_cases hk : x.kind = y.kind
          · have m0 : (x.kind != y.kind) = false := by rw [bne_eq_false_iff_eq]; exact hk
            by_cases hn : x.name = y.name
            · rw [← hn] at s2
              by_cases ht : x.targets.map Rl.bw = y.targets.map Rl.bw
              · by_cases hw : x.words.map Rl.bw = y.words.map Rl.bw
                · by_cases hl : x.code.length = y.code.length
                  · have m3 : ((x.code.length : Int) != (y.code.length : Int)) = false := by rw [bne_eq_false_iff_eq]; omega
                    have HK : Hid _ := hk
                    have HN : Hid _ := hn
                    have HTT : Hid _ := ht
                    have HW : Hid _ := hw
                    have HL : Hid _ := hl
                    clear hk hn hl
                    go_wp2_with fail
                    refine (AlikeW_any _ _ x.targets y.targets _ B x1 y1 hfew.targets).mono ?_
                    rintro e w1 ⟨rfl, q, rfl⟩
                    rw [decide_eq_true ht]
                    go_wp2_with fail
                    refine (AlikeW_any _ _ x.words y.words _ B (x2.below (below_drewN (Below.refl wc.heap.size wc) q) hBc) (y2.below (below_drewN (Below.refl wc.heap.size wc) q) hBc) hfew.words).mono ?_
                    rintro e w1 ⟨rfl, q', rfl⟩
                    rw [decide_eq_true hw]
                    clear ht hw
                    have hcl := hfew.code
                    go_wp2
                    go_loopw [8] (fun k W => ∃ j q : Nat, j ≤ x.code.length ∧ k = .int .i64 (j : Int) ∧ Hid ((x.code.map fun l => l.words.map Rl.bw).take j = (y.code.map fun l => l.words.map Rl.bw).take j) ∧ W = wc.drewN q) (fun k _ => x.code.length - (intOf k).toNat)
                    case atStart => exact ⟨0, _, Nat.zero_le _, rfl, by simp [Hid], rfl⟩
                    case round =>
                      obtain ⟨j, q2, hj, rfl, HT2, hwr⟩ := hrel
                      have hbr : Below wc.heap.size wc wr := by rw [hwr]; exact below_drewN (Below.refl wc.heap.size wc) q2
                      have r5' : wr.cell? ⟨g1, 5, none⟩ = some (.slice ca x.code.length cc) := by rw [hwr, World.cell?_drewN]; exact r5
                      have s5' : wr.cell? ⟨g2, 5, none⟩ = some (.slice ca' y.code.length cc') := by rw [hwr, World.cell?_drewN]; exact s5
                      have HWR : Hid _ := hwr
                      clear hwr
                      have hBr : B ≤ wr.heap.size := Nat.le_trans hBc hbr.size
                      by_cases hjl : j < x.code.length
                      · have hjl' : j < y.code.length := by have := HL.out; omega
                        have j1 : (j : Int) < (x.code.length : Int) := by omega
                        have j2 : (j : Int) < (y.code.length : Int) := by omega
                        obtain ⟨b4, o4, c4, ad4, cc4, e, -, -, -, z2, hW⟩ := (x3.below hbr hBc).at j hjl
                        simp only [Value.slice.injEq] at e
                        obtain ⟨rfl, -, rfl⟩ := e
                        obtain ⟨b5, o5, c5, ad5, cc5, e, -, -, -, z2', hW'⟩ := (y3.below hbr hBc).at j hjl'
                        simp only [Value.slice.injEq] at e
                        obtain ⟨rfl, -, rfl⟩ := e
                        obtain ⟨u, hu⟩ : ∃ u, x.code.getD j Lx.noL = u := ⟨_, rfl⟩
                        obtain ⟨v, hv⟩ : ∃ v, y.code.getD j Lx.noL = v := ⟨_, rfl⟩
                        rw [hu] at z2 hW
                        rw [hv] at z2' hW'
                        rw [getD_mem _ hjl] at hu
                        rw [getD_mem _ hjl'] at hv
                        have hul := hfew.lines u (by rw [← hu]; exact List.getElem_mem hjl)
                        by_cases huv : u.words.map Rl.bw = v.words.map Rl.bw
                        · have HT3 : Hid ((x.code.map fun l => l.words.map Rl.bw).take (j + 1) = (y.code.map fun l => l.words.map Rl.bw).take (j + 1)) := by
                            refine take_more [] (by rw [List.length_map]; exact hjl) (by rw [List.length_map]; exact hjl') HT2.out ?_
                            simp only [List.getD, List.getElem?_map, List.getElem?_eq_getElem hjl, List.getElem?_eq_getElem hjl', Option.map_some, Option.getD_some, hu, hv, huv]
                          have hal := Alike_q hW hW' hul hBr (decide_eq_true huv)
                          clear hu hv huv
                          go_wp2_with fail
                          go_quiet ((go_at_call 47; refine Calls.quiet_of (hal _)))
                          go_wp2
                          exact ⟨⟨j + 1, _, by omega, by go_num, HT3, by rw [HWR.out]; exact World.drewN_drewN _ _ _⟩, by simp [intOf]; omega⟩
                        · have HF : Hid _ := HNO.out fun h => huv (by
                            simp only [Rl.bi, Prod.mk.injEq] at h
                            have := congrArg (fun l => l[j]?) h.2.2.2.2
                            simpa only [List.getElem?_map, List.getElem?_eq_getElem hjl, List.getElem?_eq_getElem hjl', Option.map_some, Option.some.injEq, hu, hv] using this)
                          have hal := Alike_q hW hW' hul hBr (decide_eq_false huv)
                          clear hu hv huv
                          go_wp2_with fail
                          go_quiet ((go_at_call 47; refine Calls.quiet_of (hal _)))
                          go_wp2
                          go_ret
                          rw [HF.out]
                          exact ⟨rfl, below_drewN (by rw [HWR.out]; exact below_drewN hB3 _) _⟩
                      · obtain rfl : j = x.code.length := by omega
                        have j1 : ¬ (x.code.length : Int) < (x.code.length : Int) := by omega
                        have HXY : Hid _ := HYES.out (by
                          have hc2 := HT2.out
                          rw [List.take_of_length_le (by rw [List.length_map]; omega), List.take_of_length_le (by rw [List.length_map, ← HL.out]; omega)] at hc2
                          simp only [Rl.bi, HK.out, HN.out, HTT.out, HW.out, hc2])
                        clear HT HT2 HNO HYES
                        go_wp2
                        exact ⟨⟨i + 1, by omega, by go_num, HXY, by rw [HWR.out]; exact below_drewN hB3 _⟩, by simp [intOf]; omega⟩
                  · have m3 : ((x.code.length : Int) != (y.code.length : Int)) = true := by rw [bne_iff_ne]; omega
                    have HF : Hid _ := HNO.out fun h => hl (by
                      simp only [Rl.bi, Prod.mk.injEq] at h
                      have := congrArg List.length h.2.2.2.2
                      simpa using this)
                    clear hk hn hl HNO HYES
                    go_wp2_with fail
                    refine (AlikeW_any _ _ x.targets y.targets _ B x1 y1 hfew.targets).mono ?_
                    rintro e w1 ⟨rfl, q, rfl⟩
                    rw [decide_eq_true ht]
                    go_wp2_with fail
                    refine (AlikeW_any _ _ x.words y.words _ B (x2.below (below_drewN (Below.refl wc.heap.size wc) q) hBc) (y2.below (below_drewN (Below.refl wc.heap.size wc) q) hBc) hfew.words).mono ?_
                    rintro e w1 ⟨rfl, q', rfl⟩
                    rw [decide_eq_true hw]
                    clear ht hw
                    go_wp2
                    go_ret
                    rw [HF.out]
                    exact ⟨rfl, below_drewN hB3 _⟩
                · have HF : Hid _ := HNO.out fun h => hw (by
                    simp only [Rl.bi, Prod.mk.injEq] at h
                    exact h.2.2.2.1)
                  clear hk hn HNO HYES
                  go_wp2_with fail
                  refine (AlikeW_any _ _ x.targets y.targets _ B x1 y1 hfew.targets).mono ?_
                  rintro e w1 ⟨rfl, q, rfl⟩
                  rw [decide_eq_true ht]
                  go_wp2_with fail
                  refine (AlikeW_any _ _ x.words y.words _ B (x2.below (below_drewN (Below.refl wc.heap.size wc) q) hBc) (y2.below (below_drewN (Below.refl wc.heap.size wc) q) hBc) hfew.words).mono ?_
                  rintro e w1 ⟨rfl, q', rfl⟩
                  rw [decide_eq_false hw]
                  clear ht hw
                  go_wp2
                  go_ret
                  rw [HF.out]
                  exact ⟨rfl, below_drewN hB3 _⟩
              · have HF : Hid _ := HNO.out fun h => ht (by
                  simp only [Rl.bi, Prod.mk.injEq] at h
                  exact h.2.2.1)
                clear hk hn HNO HYES
                go_wp2_with fail
                refine (AlikeW_any _ _ x.targets y.targets _ B x1 y1 hfew.targets).mono ?_
                rintro e w1 ⟨rfl, q, rfl⟩
                rw [decide_eq_false ht]
                clear ht
                go_wp2
                go_ret
                rw [HF.out]
                exact ⟨rfl, below_drewN hB3 _⟩
            · have HF : Hid _ := HNO.out fun h => hn (by
                simp only [Rl.bi, Prod.mk.injEq] at h
                exact h.2.1)
              have m5 : ¬ (str x.name).toList = (str y.name).toList := by rw [str_list, str_list]; exact hn
              have m6 : ((str x.name).toList != (str y.name).toList) = true := by rw [bne_iff_ne]; exact m5
              have m7 : ((str x.name).toList == (str y.name).toList) = false := by rw [beq_eq_false_iff_ne]; exact m5
              clear hk hn HNO HYES
              go_wp2
              go_ret
              rw [HF.out]
              exact ⟨rfl, hB3⟩
          · have m0 : (x.kind != y.kind) = true := by rw [bne_iff_ne]; exact hk
            have HF : Hid _ := HNO.out fun h => hk (by
              simp only [Rl.bi, Prod.mk.injEq] at h
              exact h.1)
            clear hk HNO HYES
            go_wp2
            go_ret
            rw [HF.out]
            exact ⟨rfl, hB3⟩
      · obtain rfl : i = A.length := by omega
        have i1 : ¬ (A.length : Int) < (A.length : Int) := by omega
        have HE : Hid (A.map Rl.bi = C.map Rl.bi) := by
          show _ = _
          have := HT.out
          rwa [List.take_of_length_le (by rw [List.length_map]; omega), List.take_of_length_le (by rw [List.length_map, ← HLE.out]; omega)] at this
        clear HT
        go_wp2
        go_ret
        rw [HEQ.out HE.out]
        exact ⟨rfl, hD⟩
  · have n1 : ((A.length : Int) != (C.length : Int)) = true := by rw [bne_iff_ne]; omega
    have HF : Hid (D = false) := HNE.out fun h => hlen (by have := congrArg List.length h; simpa using this)
    clear hlen
    go_wp2
    go_ret
    rw [HF.out]
    exact ⟨rfl, Below.refl _ _⟩

end Go.Proofs.Ythpipbkbldlfjaa
