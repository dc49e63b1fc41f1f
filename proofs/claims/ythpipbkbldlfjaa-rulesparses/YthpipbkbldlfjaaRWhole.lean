/-
  WHAT THE DOCUMENT's Whole DOES.
-/
import Derived.Test.YthpipbkbldlfjaaRPrint
namespace Go.Proofs.Ythpipbkbldlfjaa
open Go.RowKit

/-- two lines, laid at once -/
theorem lns_two {W : World} {B : Nat} {ta wa : Option Addr} {tn tc wn wc : Nat} {T U : List Lx.V} (hT : WdR.Sl W B (.slice ta tn tc) T) (hU : WdR.Sl W B (.slice wa wn wc) U) (hB : B ≤ W.heap.size) :
    LnsS (W.alloc (.cells #[.int .i64 0, .bool false, .slice ta tn tc, .int .i64 0, .bool false, .slice wa wn wc] 48)) (W.heap.size + 1) (.slice (some ⟨W.heap.size, 0, none⟩) 2 2) [⟨0, false, T⟩, ⟨0, false, U⟩] := by
  refine ⟨[(⟨0, false, ta, tn, tc⟩, ⟨0, false, T⟩), (⟨0, false, wa, wn, wc⟩, ⟨0, false, U⟩)], Rc.lits (R := LnR) W _ 2 rfl _ rfl, rfl, fun p hp => ?_⟩
  simp only [List.mem_cons, List.not_mem_nil, or_false] at hp
  rcases hp with rfl | rfl
  · exact ⟨rfl, rfl, (hT.below (below_box W _) hB).mono (by omega)⟩
  · exact ⟨rfl, rfl, (hU.below (below_box W _) hB).mono (by omega)⟩
theorem LnsS.mono {w : World} {B B' : Nat} {v : Value} {L : List Lx.L} (h : LnsS w B v L) (hB : B ≤ B') : LnsS w B' v L := by
  obtain ⟨ps, h1, h2, h3⟩ := h
  exact ⟨ps, h1.mono hB, h2, fun p hp => ⟨(h3 p hp).1, (h3 p hp).2.1, (h3 p hp).2.2.mono hB⟩⟩
theorem Rl.it_eq {x y : Rl.It} (hb : Rl.bi x = Rl.bi y) (hl : x.line = y.line) (ht : x.targets = y.targets) (hw : x.words = y.words) (hc : x.code = y.code) : x = y := by
  simp only [Rl.bi, Prod.mk.injEq] at hb
  obtain ⟨k, ln, nm, ts, ws, cd⟩ := x
  obtain ⟨k', ln', nm', ts', ws', cd'⟩ := y
  simp only at hb hl ht hw hc
  obtain ⟨h1, h2, -⟩ := hb
  subst h1 h2 hl ht hw hc
  rfl

set_option maxRecDepth 100000 in
set_option maxHeartbeats 4000000 in
theorem WholeR_any (va vb : Value) (A C : List Rl.It) (w : World) (B : Nat) (ha : ItsS w B va A) (hb : ItsS w B vb C) (hBw : B ≤ w.heap.size) (hAl : A.length ≤ 1099511627) (hf : ∀ x ∈ A, Rl.Few x) :
    Calls Try.prog 15 #[va, vb] w fun e w' => e = .returned (.bool (decide (A = C))) ∧ Below w.heap.size w w' := by
  have hsm := SameR_any va vb A C w B ha hb hBw hAl hf
  obtain ⟨ad, c, rfl, hle⟩ := ha.shape
  obtain ⟨ad', c', rfl, hle'⟩ := hb.shape
  have HFW : Hid _ := hf
  clear hf
  obtain ⟨D, hDD⟩ : ∃ D, decide (A = C) = D := ⟨_, rfl⟩
  rw [hDD]
  have HNE : Hid (A ≠ C → D = false) := fun h => by rw [← hDD]; exact decide_eq_false h
  have HEQ : Hid (A = C → D = true) := fun h => by rw [← hDD]; exact decide_eq_true h
  clear hDD
  by_cases hs : A.map Rl.bi = C.map Rl.bi
  · rw [decide_eq_true hs] at hsm
    have HSM : Hid _ := hs
    have HLE : Hid (A.length = C.length) := by
      show _ = _
      have := congrArg List.length hs
      simpa using this
    clear hs
    go_enter Try.func15, Try.ntmps15
    go_wp2_with fail
    refine hsm.mono ?_
    rintro e w1 ⟨rfl, hB1⟩
    clear hsm
    go_wp2
    go_loopw [5] (fun k wr => ∃ i : Nat, i ≤ A.length ∧ k = .int .i64 (i : Int) ∧ Hid (A.take i = C.take i) ∧ Below w.heap.size w wr) (fun k _ => A.length - (intOf k).toNat)
    case atStart => exact ⟨0, Nat.zero_le _, rfl, by simp [Hid], hB1⟩
    case round =>
      obtain ⟨i, hi, rfl, HT, hD⟩ := hrel
      by_cases hlt : i < A.length
      · have hlt' : i < C.length := by have := HLE.out; omega
        have i1 : (i : Int) < (A.length : Int) := by omega
        have i2 : (i : Int) < (C.length : Int) := by omega
        obtain ⟨b, o, c1, ta, tc, wa, wc_, ca, cc, e, hb1, hc, hX1, hX2, hX3⟩ := ha.at i hlt
        simp only [Value.slice.injEq] at e
        obtain ⟨rfl, -, rfl⟩ := e
        obtain ⟨b', o', c1', ta', tc', wa', wc', ca', cc', e, hb1', hc', hY1, hY2, hY3⟩ := hb.at i hlt'
        simp only [Value.slice.injEq] at e
        obtain ⟨rfl, -, rfl⟩ := e
        obtain ⟨x, hx⟩ : ∃ x, A.getD i Rl.noI = x := ⟨_, rfl⟩
        obtain ⟨y, hy⟩ : ∃ y, C.getD i Rl.noI = y := ⟨_, rfl⟩
        rw [hx] at hc hX1 hX2 hX3
        rw [hy] at hc' hY1 hY2 hY3
        rw [getD_mem _ hlt] at hx
        rw [getD_mem _ hlt'] at hy
        have hfew := HFW.out x (by rw [← hx]; exact List.getElem_mem hlt)
        have HNO : Hid (x ≠ y → D = false) := fun h => HNE.out fun h2 => h (by
          have := congrArg (fun l => l[i]?) h2
          simpa only [List.getElem?_eq_getElem hlt, List.getElem?_eq_getElem hlt', Option.some.injEq, hx, hy] using this)
        have HYES : Hid (x = y → A.take (i + 1) = C.take (i + 1)) := fun h => by
          rw [List.take_succ_eq_append_getElem hlt, List.take_succ_eq_append_getElem hlt', HT.out, hx, hy, h]
        have HBI : Hid (Rl.bi x = Rl.bi y) := by
          show _ = _
          have := congrArg (fun l => l[i]?) HSM.out
          simpa only [List.getElem?_map, List.getElem?_eq_getElem hlt, List.getElem?_eq_getElem hlt', Option.map_some, Option.some.injEq, hx, hy] using this
        clear hx hy
        have p0 : wr.cell? ⟨b, o + i * 6, none⟩ = some (.int .i64 x.kind) := (cell_below hD (Nat.lt_of_lt_of_le hb1 hBw) _).trans (hc 0 _ rfl)
        have p1 : wr.cell? ⟨b, o + i * 6 + 1, none⟩ = some (.int .i64 x.line) := (cell_below hD (Nat.lt_of_lt_of_le hb1 hBw) _).trans (hc 1 _ rfl)
        have p2 : wr.cell? ⟨b, o + i * 6 + 2, none⟩ = some (.string (str x.name)) := (cell_below hD (Nat.lt_of_lt_of_le hb1 hBw) _).trans (hc 2 _ rfl)
        have p3 : wr.cell? ⟨b, o + i * 6 + 3, none⟩ = some (.slice ta x.targets.length tc) := (cell_below hD (Nat.lt_of_lt_of_le hb1 hBw) _).trans (hc 3 _ rfl)
        have p4 : wr.cell? ⟨b, o + i * 6 + 4, none⟩ = some (.slice wa x.words.length wc_) := (cell_below hD (Nat.lt_of_lt_of_le hb1 hBw) _).trans (hc 4 _ rfl)
        have p5 : wr.cell? ⟨b, o + i * 6 + 5, none⟩ = some (.slice ca x.code.length cc) := (cell_below hD (Nat.lt_of_lt_of_le hb1 hBw) _).trans (hc 5 _ rfl)
        have q0 : wr.cell? ⟨b', o' + i * 6, none⟩ = some (.int .i64 y.kind) := (cell_below hD (Nat.lt_of_lt_of_le hb1' hBw) _).trans (hc' 0 _ rfl)
        have q1 : wr.cell? ⟨b', o' + i * 6 + 1, none⟩ = some (.int .i64 y.line) := (cell_below hD (Nat.lt_of_lt_of_le hb1' hBw) _).trans (hc' 1 _ rfl)
        have q2 : wr.cell? ⟨b', o' + i * 6 + 2, none⟩ = some (.string (str y.name)) := (cell_below hD (Nat.lt_of_lt_of_le hb1' hBw) _).trans (hc' 2 _ rfl)
        have q3 : wr.cell? ⟨b', o' + i * 6 + 3, none⟩ = some (.slice ta' y.targets.length tc') := (cell_below hD (Nat.lt_of_lt_of_le hb1' hBw) _).trans (hc' 3 _ rfl)
        have q4 : wr.cell? ⟨b', o' + i * 6 + 4, none⟩ = some (.slice wa' y.words.length wc') := (cell_below hD (Nat.lt_of_lt_of_le hb1' hBw) _).trans (hc' 4 _ rfl)
        have q5 : wr.cell? ⟨b', o' + i * 6 + 5, none⟩ = some (.slice ca' y.code.length cc') := (cell_below hD (Nat.lt_of_lt_of_le hb1' hBw) _).trans (hc' 5 _ rfl)
        clear hc hc'
        go_upto_region 6 with fail
        go_cut [6, 7] (fun t6 t7 X => ∃ g1 g2 : Nat, t6 = .pointer (some ⟨g1, 0, none⟩) ∧ t7 = .pointer (some ⟨g2, 0, none⟩) ∧ X.heap[g1]? = some (.cells (itCs x ta tc wa wc_ ca cc) 33 (0, 0)) ∧ X.heap[g2]? = some (.cells (itCs y ta' tc' wa' wc' ca' cc') 33 (0, 0)) ∧ Below w.heap.size w X)
        case first =>
          have hBA : ∀ o1 o2 : Obj, Below w.heap.size w ((wr.alloc o1).alloc o2).drew := fun o1 o2 => ((hD.alloc hD.size o1).alloc (hD.alloc hD.size o1).size o2).drew
          go_region_held3 (fun X : World => X.cell? ⟨b, o + i * 6, none⟩ = some (.int .i64 x.kind) ∧ X.cell? ⟨b, o + i * 6 + 1, none⟩ = some (.int .i64 x.line) ∧ X.cell? ⟨b, o + i * 6 + 2, none⟩ = some (.string (str x.name)) ∧ X.cell? ⟨b, o + i * 6 + 3, none⟩ = some (.slice ta x.targets.length tc) ∧ X.cell? ⟨b, o + i * 6 + 4, none⟩ = some (.slice wa x.words.length wc_) ∧ X.cell? ⟨b, o + i * 6 + 5, none⟩ = some (.slice ca x.code.length cc) ∧ X.cell? ⟨b', o' + i * 6, none⟩ = some (.int .i64 y.kind) ∧ X.cell? ⟨b', o' + i * 6 + 1, none⟩ = some (.int .i64 y.line) ∧ X.cell? ⟨b', o' + i * 6 + 2, none⟩ = some (.string (str y.name)) ∧ X.cell? ⟨b', o' + i * 6 + 3, none⟩ = some (.slice ta' y.targets.length tc') ∧ X.cell? ⟨b', o' + i * 6 + 4, none⟩ = some (.slice wa' y.words.length wc') ∧ X.cell? ⟨b', o' + i * 6 + 5, none⟩ = some (.slice ca' y.code.length cc')) (go_keep) (fail)
          all_goals go_wp2
          all_goals (go_meet; first | exact ⟨_, _, rfl, rfl, heap_alloc2_old _ _ _, heap_alloc2_new _ _ _, hBA _ _⟩ | exact ⟨_, _, rfl, rfl, heap_alloc2_new _ _ _, heap_alloc2_old _ _ _, hBA _ _⟩)
        case rest =>
          obtain ⟨g1, g2, rfl, rfl, k1, k2, hB3⟩ := hcut
          obtain ⟨W1, rfl⟩ : ∃ W, W = wc := ⟨_, rfl⟩
          clear p0 p1 p2 p3 p4 p5 q0 q1 q2 q3 q4 q5 hD
          have hg1 : g1 < W1.heap.size := (Array.getElem?_eq_some_iff.1 k1).1
          have hg2 : g2 < W1.heap.size := (Array.getElem?_eq_some_iff.1 k2).1
          have x1 := hX1.below hB3 hBw
          have x2 := hX2.below hB3 hBw
          have x3 := hX3.below hB3 hBw
          have y1 := hY1.below hB3 hBw
          have y2 := hY2.below hB3 hBw
          have y3 := hY3.below hB3 hBw
          clear hX1 hX2 hX3 hY1 hY2 hY3
          have hBc : B ≤ W1.heap.size := Nat.le_trans hBw hB3.size
          have r1 : W1.cell? ⟨g1, 1, none⟩ = some (.int .i64 x.line) := by simp [World.cell?, k1, itCs]
          have r3 : W1.cell? ⟨g1, 3, none⟩ = some (.slice ta x.targets.length tc) := by simp [World.cell?, k1, itCs]
          have r4 : W1.cell? ⟨g1, 4, none⟩ = some (.slice wa x.words.length wc_) := by simp [World.cell?, k1, itCs]
          have r5 : W1.cell? ⟨g1, 5, none⟩ = some (.slice ca x.code.length cc) := by simp [World.cell?, k1, itCs]
          have s1 : W1.cell? ⟨g2, 1, none⟩ = some (.int .i64 y.line) := by simp [World.cell?, k2, itCs]
          have s3 : W1.cell? ⟨g2, 3, none⟩ = some (.slice ta' y.targets.length tc') := by simp [World.cell?, k2, itCs]
          have s4 : W1.cell? ⟨g2, 4, none⟩ = some (.slice wa' y.words.length wc') := by simp [World.cell?, k2, itCs]
          have s5 : W1.cell? ⟨g2, 5, none⟩ = some (.slice ca' y.code.length cc') := by simp [World.cell?, k2, itCs]
          clear k1 k2
          by_cases hk : x.line = y.line
          · have m0 : (x.line != y.line) = false := by rw [bne_eq_false_iff_eq]; exact hk
            have HK : Hid _ := hk
            clear hk
            have hL1 := lns_two x1 x2 hBc
            have bA := below_box W1 (.cells #[.int .i64 0, .bool false, .slice ta x.targets.length tc, .int .i64 0, .bool false, .slice wa x.words.length wc_] 48)
            obtain ⟨o1, ho1⟩ : ∃ o, Obj.cells #[.int .i64 0, .bool false, .slice ta x.targets.length tc, .int .i64 0, .bool false, .slice wa x.words.length wc_] 48 = o := ⟨_, rfl⟩
            obtain ⟨o2, ho2⟩ : ∃ o, Obj.cells #[.int .i64 0, .bool false, .slice ta' y.targets.length tc', .int .i64 0, .bool false, .slice wa' y.words.length wc'] 48 = o := ⟨_, rfl⟩
            have hz1 : (W1.alloc o1).heap.size = W1.heap.size + 1 := Array.size_push ..
            rw [ho1] at hL1 bA
            have hL2 := lns_two (y1.below bA hBc) (y2.below bA hBc) (Nat.le_trans hBc bA.size)
            rw [ho2, hz1] at hL2
            have bB := below_box (W1.alloc o1) o2
            have hz2 : ((W1.alloc o1).alloc o2).heap.size = W1.heap.size + 2 := by rw [show ((W1.alloc o1).alloc o2).heap.size = (W1.alloc o1).heap.size + 1 from Array.size_push .., hz1]
            have hL3 := (hL1.below bB (by rw [hz1]; exact Nat.le_refl _)).mono (show W1.heap.size + 1 ≤ W1.heap.size + 2 by omega)
            have hB4 : Below W1.heap.size W1 ((W1.alloc o1).alloc o2) := bA.trans (bB.mono (by rw [hz1]; omega))
            have hsm := SameT_any _ _ [⟨0, false, x.targets⟩, ⟨0, false, x.words⟩] [⟨0, false, y.targets⟩, ⟨0, false, y.words⟩] _ (W1.heap.size + 2) hL3 hL2 (by simp) (by
              intro l hl
              simp only [List.mem_cons, List.not_mem_nil, or_false] at hl
              rcases hl with rfl | rfl
              · exact hfew.targets
              · exact hfew.words)
            have hsc : ∀ W : World, Below W1.heap.size W1 W → Calls Try.prog 34 #[.slice ca x.code.length cc, .slice ca' y.code.length cc'] W fun e w' => e = .returned (.bool (decide (x.code = y.code))) ∧ Below W.heap.size W w' := fun W hW =>
              SameT_any _ _ x.code y.code W B (x3.below hW hBc) (y3.below hW hBc) hfew.code hfew.lines
            clear x1 x2 x3 y1 y2 y3 hL1 hL2 hL3 bA bB
            by_cases htw : x.targets = y.targets ∧ x.words = y.words
            · have HTW : Hid _ := htw
              rw [decide_eq_true (by rw [htw.1, htw.2])] at hsm
              clear htw
              by_cases hc2 : x.code = y.code
              · rw [decide_eq_true hc2] at hsc
                have HXY : Hid _ := HYES.out (Rl.it_eq HBI.out HK.out HTW.out.1 HTW.out.2 hc2)
                clear hc2
                go_wp2_with fail
                refine hsm.mono ?_
                rintro e W2 ⟨rfl, hB5⟩
                have hB6 : Below W1.heap.size W1 W2 := hB4.trans (hB5.mono hB4.size)
                have r5' := (cell_below hB6 hg1 5).trans r5
                have s5' := (cell_below hB6 hg2 5).trans s5
                clear hsm
                go_wp2_with fail
                refine (hsc W2 hB6).mono ?_
                rintro e W3 ⟨rfl, hB7⟩
                have hB8 : Below w.heap.size w W3 := (hB3.trans (hB6.mono hB3.size)).trans (hB7.mono (Nat.le_trans hB3.size hB6.size))
                go_wp2
                exact ⟨⟨i + 1, by omega, by go_num, HXY, hB8⟩, by simp [intOf]; omega⟩
              · rw [decide_eq_false hc2] at hsc
                have HF : Hid (D = false) := HNO.out fun h => hc2 (by rw [h])
                clear hc2
                go_wp2_with fail
                refine hsm.mono ?_
                rintro e W2 ⟨rfl, hB5⟩
                have hB6 : Below W1.heap.size W1 W2 := hB4.trans (hB5.mono hB4.size)
                have r5' := (cell_below hB6 hg1 5).trans r5
                have s5' := (cell_below hB6 hg2 5).trans s5
                clear hsm
                go_wp2_with fail
                refine (hsc W2 hB6).mono ?_
                rintro e W3 ⟨rfl, hB7⟩
                have hB8 : Below w.heap.size w W3 := (hB3.trans (hB6.mono hB3.size)).trans (hB7.mono (Nat.le_trans hB3.size hB6.size))
                go_wp2
                go_ret
                rw [HF.out]
                exact ⟨rfl, hB8⟩
            · rw [decide_eq_false (by
                intro h
                simp only [List.cons.injEq, Lx.L.mk.injEq, true_and, and_true] at h
                exact htw h)] at hsm
              have HF : Hid (D = false) := HNO.out fun h => htw (by rw [h]; exact ⟨rfl, rfl⟩)
              clear htw
              go_wp2_with fail
              refine hsm.mono ?_
              rintro e W2 ⟨rfl, hB5⟩
              have hB6 : Below W1.heap.size W1 W2 := hB4.trans (hB5.mono hB4.size)
              clear hsm
              go_wp2
              go_ret
              rw [HF.out]
              exact ⟨rfl, hB3.trans (hB6.mono hB3.size)⟩
          · have m0 : (x.line != y.line) = true := by rw [bne_iff_ne]; exact hk
            have HF : Hid (D = false) := HNO.out fun h => hk (by rw [h])
            clear hk HNO HYES
            go_wp2
            go_ret
            rw [HF.out]
            exact ⟨rfl, hB3⟩
      · obtain rfl : i = A.length := by omega
        have i1 : ¬ (A.length : Int) < (A.length : Int) := by omega
        have HE : Hid (A = C) := by
          show _ = _
          have := HT.out
          rwa [List.take_length, HLE.out, List.take_length] at this
        clear HT
        go_wp2
        go_ret
        rw [HEQ.out HE.out]
        exact ⟨rfl, hD⟩
  · rw [decide_eq_false hs] at hsm
    have HF : Hid (D = false) := HNE.out fun h => hs (by rw [h])
    clear hs
    go_enter Try.func15, Try.ntmps15
    go_wp2_with fail
    refine hsm.mono ?_
    rintro e w1 ⟨rfl, hB1⟩
    clear hsm
    go_wp2
    go_ret
    rw [HF.out]
    exact ⟨rfl, hB1⟩

end Go.Proofs.Ythpipbkbldlfjaa
