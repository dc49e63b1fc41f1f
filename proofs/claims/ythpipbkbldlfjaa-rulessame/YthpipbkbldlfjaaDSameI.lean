/-
  WHAT THE PROGRAM's sameItem, Same DO.
-/
import Derived.Test.YthpipbkbldlfjaaDSame
namespace Go.Proofs.Ythpipbkbldlfjaa
open Go.RowKit

set_option maxRecDepth 100000 in
set_option maxHeartbeats 4000000 in
theorem sameItem_any (x y : Rl.It) (ta : Option Addr) (tc : Nat) (wa : Option Addr) (wc : Nat) (ca : Option Addr) (cc : Nat) (ta' : Option Addr) (tc' : Nat) (wa' : Option Addr) (wc' : Nat) (ca' : Option Addr) (cc' : Nat) (w : World) (B : Nat)
    (hx1 : WdR.Sl w B (.slice ta x.targets.length tc) x.targets) (hx2 : WdR.Sl w B (.slice wa x.words.length wc) x.words) (hx3 : LnsS w B (.slice ca x.code.length cc) x.code)
    (hy1 : WdR.Sl w B (.slice ta' y.targets.length tc') y.targets) (hy2 : WdR.Sl w B (.slice wa' y.words.length wc') y.words) (hy3 : LnsS w B (.slice ca' y.code.length cc') y.code) (hBw : B ≤ w.heap.size) (hf : Rl.Few x) :
    Calls Try.prog 46 #[.agg #[.int .i64 x.kind, .int .i64 x.line, .string (str x.name), .slice ta x.targets.length tc, .slice wa x.words.length wc, .slice ca x.code.length cc], .agg #[.int .i64 y.kind, .int .i64 y.line, .string (str y.name), .slice ta' y.targets.length tc', .slice wa' y.words.length wc', .slice ca' y.code.length cc']] w fun e w' => e = .returned (.bool (decide (Rl.bi x = Rl.bi y))) ∧ Below w.heap.size w w' := by
  obtain ⟨d1, d2, d3, d4⟩ := alloc2_any w #[.int .i64 x.kind, .int .i64 x.line, .string (str x.name), .slice ta x.targets.length tc, .slice wa x.words.length wc, .slice ca x.code.length cc] #[.int .i64 y.kind, .int .i64 y.line, .string (str y.name), .slice ta' y.targets.length tc', .slice wa' y.words.length wc', .slice ca' y.code.length cc'] 33 33
  have HD : Hid (decide (Rl.bi x = Rl.bi y) = (decide (x.kind = y.kind) && (decide (x.name = y.name) && (decide (x.targets.map Rl.bw = y.targets.map Rl.bw) && (decide (x.words.map Rl.bw = y.words.map Rl.bw) && decide ((x.code.map fun l => l.words.map Rl.bw) = (y.code.map fun l => l.words.map Rl.bw))))))) := by
    show _ = _
    rw [Bool.eq_iff_iff]
    simp only [decide_eq_true_eq, Bool.and_eq_true, Rl.bi, Prod.mk.injEq]
  have hs1 := fun (W : World) (h : Below w.heap.size w W) => sameWords_any _ _ x.targets y.targets W B (hx1.below h hBw) (hy1.below h hBw) (Nat.le_trans hBw h.size) hf.targets
  have hs2 := fun (W : World) (h : Below w.heap.size w W) => sameWords_any _ _ x.words y.words W B (hx2.below h hBw) (hy2.below h hBw) (Nat.le_trans hBw h.size) hf.words
  have hs3 := fun (W : World) (h : Below w.heap.size w W) => EqualL_any _ _ x.code y.code W B (hx3.below h hBw) (hy3.below h hBw) (Nat.le_trans hBw h.size) hf.code hf.lines
  generalize decide (Rl.bi x = Rl.bi y) = K at *
  generalize decide (x.targets.map Rl.bw = y.targets.map Rl.bw) = K1 at *
  generalize decide (x.words.map Rl.bw = y.words.map Rl.bw) = K2 at *
  generalize decide ((x.code.map fun l => l.words.map Rl.bw) = (y.code.map fun l => l.words.map Rl.bw)) = K3 at *
  have he : ((str x.name).toList == (str y.name).toList) = decide (x.name = y.name) := by rw [str_list, str_list, beq_dec]
  generalize decide (x.name = y.name) = K0 at *
  clear hx1 hx2 hx3 hy1 hy2 hy3 hf
  go_enter Try.func46, Try.ntmps46
  go_upto_region 1 with fail
  generalize (w.alloc (.cells #[.int .i64 x.kind, .int .i64 x.line, .string (str x.name), .slice ta x.targets.length tc, .slice wa x.words.length wc, .slice ca x.code.length cc] 33)).alloc (.cells #[.int .i64 y.kind, .int .i64 y.line, .string (str y.name), .slice ta' y.targets.length tc', .slice wa' y.words.length wc', .slice ca' y.code.length cc'] 33) = Y at *
  have a0 : Y.cell? ⟨w.heap.size, 0, none⟩ = some (.int .i64 x.kind) := by rw [cell_of_row Y _ 0 _ _ _ d1]; rfl
  have a1 : Y.cell? ⟨w.heap.size, 1, none⟩ = some (.int .i64 x.line) := by rw [cell_of_row Y _ 1 _ _ _ d1]; rfl
  have a2 : Y.cell? ⟨w.heap.size, 2, none⟩ = some (.string (str x.name)) := by rw [cell_of_row Y _ 2 _ _ _ d1]; rfl
  have a3 : Y.cell? ⟨w.heap.size, 3, none⟩ = some (.slice ta x.targets.length tc) := by rw [cell_of_row Y _ 3 _ _ _ d1]; rfl
  have a4 : Y.cell? ⟨w.heap.size, 4, none⟩ = some (.slice wa x.words.length wc) := by rw [cell_of_row Y _ 4 _ _ _ d1]; rfl
  have a5 : Y.cell? ⟨w.heap.size, 5, none⟩ = some (.slice ca x.code.length cc) := by rw [cell_of_row Y _ 5 _ _ _ d1]; rfl
  have b0 : Y.cell? ⟨w.heap.size + 1, 0, none⟩ = some (.int .i64 y.kind) := by rw [cell_of_row Y _ 0 _ _ _ d2]; rfl
  have b1 : Y.cell? ⟨w.heap.size + 1, 1, none⟩ = some (.int .i64 y.line) := by rw [cell_of_row Y _ 1 _ _ _ d2]; rfl
  have b2 : Y.cell? ⟨w.heap.size + 1, 2, none⟩ = some (.string (str y.name)) := by rw [cell_of_row Y _ 2 _ _ _ d2]; rfl
  have b3 : Y.cell? ⟨w.heap.size + 1, 3, none⟩ = some (.slice ta' y.targets.length tc') := by rw [cell_of_row Y _ 3 _ _ _ d2]; rfl
  have b4 : Y.cell? ⟨w.heap.size + 1, 4, none⟩ = some (.slice wa' y.words.length wc') := by rw [cell_of_row Y _ 4 _ _ _ d2]; rfl
  have b5 : Y.cell? ⟨w.heap.size + 1, 5, none⟩ = some (.slice ca' y.code.length cc') := by rw [cell_of_row Y _ 5 _ _ _ d2]; rfl
  have g1 : w.heap.size < Y.heap.size := by omega
  have g2 : w.heap.size + 1 < Y.heap.size := by omega
  clear d1 d2 d4
  by_cases hk : x.kind = y.kind
  rotate_left
  · have q0 : (x.kind == y.kind) = false := by rw [beq_eq_false_iff_ne]; exact hk
    have HE : Hid (K = false) := by show _ = _; rw [HD.out, decide_eq_false hk]; rfl
    clear hk HD
    go_wp2
    go_ret
    rw [HE.out]
    exact ⟨rfl, d3⟩
  have q0 : (x.kind == y.kind) = true := by rw [beq_iff_eq]; exact hk
  rw [decide_eq_true hk, Bool.true_and] at HD
  clear hk
  cases K0 with
  | false =>
    have HE : Hid (K = false) := HD.out
    clear HD
    go_wp2
    go_ret
    rw [HE.out]
    exact ⟨rfl, d3⟩
  | true =>
  rw [Bool.true_and] at HD
  go_wp2_with fail
  refine (hs1 _ d3).mono ?_
  rintro e w1 ⟨rfl, hB1⟩
  have hE1 := d3.trans (hB1.mono d3.size)
  clear hs1 a0 a1 a2 a3 b0 b1 b2 b3
  cases K1 with
  | false =>
    have HE : Hid (K = false) := HD.out
    clear HD
    go_wp2
    go_ret
    rw [HE.out]
    exact ⟨rfl, hE1⟩
  | true =>
  rw [Bool.true_and] at HD
  have a4' := (hB1.cell (p := ⟨w.heap.size, 4, none⟩) g1).trans a4
  have b4' := (hB1.cell (p := ⟨w.heap.size + 1, 4, none⟩) g2).trans b4
  go_wp2_with fail
  refine (hs2 _ hE1).mono ?_
  rintro e w2 ⟨rfl, hB2⟩
  have hE2 := hE1.trans (hB2.mono hE1.size)
  clear hs2 a4' b4' a4 b4
  cases K2 with
  | false =>
    have HE : Hid (K = false) := HD.out
    clear HD
    go_wp2
    go_ret
    rw [HE.out]
    exact ⟨rfl, hE2⟩
  | true =>
  rw [Bool.true_and] at HD
  have hB12 := hB1.trans (hB2.mono hB1.size)
  have a5' := (hB12.cell (p := ⟨w.heap.size, 5, none⟩) g1).trans a5
  have b5' := (hB12.cell (p := ⟨w.heap.size + 1, 5, none⟩) g2).trans b5
  go_wp2_with fail
  refine (hs3 _ hE2).mono ?_
  rintro e w3 ⟨rfl, hB3⟩
  have hE3 := hE2.trans (hB3.mono hE2.size)
  clear hs3 a5' b5' a5 b5
  have HE : Hid (K = K3) := HD.out
  clear HD
  go_wp2
  go_ret
  rw [HE.out]
  exact ⟨rfl, hE3⟩

set_option maxRecDepth 100000 in
set_option maxHeartbeats 2000000 in
theorem EqualI_any (va vb : Value) (A C : List Rl.It) (w : World) (B : Nat) (ha : ItsS w B va A) (hb : ItsS w B vb C) (hBw : B ≤ w.heap.size) (hAl : A.length ≤ 1099511627) (hf : ∀ x ∈ A, Rl.Few x) :
    Calls Try.prog 45 #[va, vb, .func (.func 46) #[] #[]] w fun e w' => e = .returned (.bool (decide (A.map Rl.bi = C.map Rl.bi))) ∧ Below w.heap.size w w' := by
  have HFW : Hid _ := hf
  clear hf
  have eg : ∀ args w, (callFunc 46 args).run Try.prog w = .ok (.enter 46 args) w := enters_of Try.func46 (by kernel_rfl) rfl
  obtain ⟨ad, c, rfl, hle⟩ := ha.shape
  obtain ⟨ad', c9, rfl, hle'⟩ := hb.shape
  obtain ⟨D, hDD⟩ : ∃ D, decide (A.map Rl.bi = C.map Rl.bi) = D := ⟨_, rfl⟩
  rw [hDD]
  have HNE : Hid (A.map Rl.bi ≠ C.map Rl.bi → D = false) := fun h => by rw [← hDD]; exact decide_eq_false h
  have HEQ : Hid (A.map Rl.bi = C.map Rl.bi → D = true) := fun h => by rw [← hDD]; exact decide_eq_true h
  clear hDD
  go_enter Try.func45, Try.ntmps45
  by_cases hlen : A.length = C.length
  · have n1 : ((A.length : Int) != (C.length : Int)) = false := by rw [bne_eq_false_iff_eq]; omega
    have HLE : Hid _ := hlen
    clear hlen
    go_wp2
    go_loopw [17] (fun k wr => ∃ i : Nat, i ≤ A.length ∧ k = .int .i64 (i : Int) ∧ Hid ((A.map Rl.bi).take i = (C.map Rl.bi).take i) ∧ Below w.heap.size w wr) (fun k _ => A.length - (intOf k).toNat)
    case atStart => exact ⟨0, Nat.zero_le _, rfl, by simp [Hid], Below.refl _ _⟩
    case round =>
      obtain ⟨i, hi, rfl, HT, hD⟩ := hrel
      by_cases hlt : i < A.length
      · have hlt' : i < C.length := by have := HLE.out; omega
        have i1 : (i : Int) < (A.length : Int) := by omega
        have i2 : (i : Int) < (C.length : Int) := by omega
        have hBr : B ≤ wr.heap.size := Nat.le_trans hBw hD.size
        obtain ⟨b2, o2, c2, ta, tc, wa, wc, ca, cc, e, hb2, hcx, hX1, hX2, hX3⟩ := (ha.below hD hBw).at i hlt
        simp only [Value.slice.injEq] at e
        obtain ⟨rfl, -, rfl⟩ := e
        obtain ⟨b3, o3, c3, ta', tc', wa', wc', ca', cc', e, hb3, hcy, hY1, hY2, hY3⟩ := (hb.below hD hBw).at i hlt'
        simp only [Value.slice.injEq] at e
        obtain ⟨rfl, -, rfl⟩ := e
        obtain ⟨x, hu⟩ : ∃ x, A.getD i Rl.noI = x := ⟨_, rfl⟩
        obtain ⟨y, hv⟩ : ∃ y, C.getD i Rl.noI = y := ⟨_, rfl⟩
        rw [hu] at hcx hX1 hX2 hX3
        rw [hv] at hcy hY1 hY2 hY3
        have hu' : A[i] = x := by rw [← hu]; simp [List.getD, List.getElem?_eq_getElem hlt]
        have hv' : C[i] = y := by rw [← hv]; simp [List.getD, List.getElem?_eq_getElem hlt']
        have hfx := HFW.out x (by rw [← hu']; exact List.getElem_mem hlt)
        have r0 : wr.cell? ⟨b2, o2 + i * 6, none⟩ = some (.int .i64 x.kind) := hcx 0 _ rfl
        have r1 : wr.cell? ⟨b2, o2 + i * 6 + 1, none⟩ = some (.int .i64 x.line) := hcx 1 _ rfl
        have r2 : wr.cell? ⟨b2, o2 + i * 6 + 2, none⟩ = some (.string (str x.name)) := hcx 2 _ rfl
        have r3 : wr.cell? ⟨b2, o2 + i * 6 + 3, none⟩ = some (.slice ta x.targets.length tc) := hcx 3 _ rfl
        have r4 : wr.cell? ⟨b2, o2 + i * 6 + 4, none⟩ = some (.slice wa x.words.length wc) := hcx 4 _ rfl
        have r5 : wr.cell? ⟨b2, o2 + i * 6 + 5, none⟩ = some (.slice ca x.code.length cc) := hcx 5 _ rfl
        have s0 : wr.cell? ⟨b3, o3 + i * 6, none⟩ = some (.int .i64 y.kind) := hcy 0 _ rfl
        have s1 : wr.cell? ⟨b3, o3 + i * 6 + 1, none⟩ = some (.int .i64 y.line) := hcy 1 _ rfl
        have s2 : wr.cell? ⟨b3, o3 + i * 6 + 2, none⟩ = some (.string (str y.name)) := hcy 2 _ rfl
        have s3 : wr.cell? ⟨b3, o3 + i * 6 + 3, none⟩ = some (.slice ta' y.targets.length tc') := hcy 3 _ rfl
        have s4 : wr.cell? ⟨b3, o3 + i * 6 + 4, none⟩ = some (.slice wa' y.words.length wc') := hcy 4 _ rfl
        have s5 : wr.cell? ⟨b3, o3 + i * 6 + 5, none⟩ = some (.slice ca' y.code.length cc') := hcy 5 _ rfl
        clear hcx hcy
        have HNO : Hid (Rl.bi x ≠ Rl.bi y → D = false) := fun h => HNE.out fun h2 => h (by
          have := congrArg (fun l => l[i]?) h2
          simpa only [List.getElem?_map, List.getElem?_eq_getElem hlt, List.getElem?_eq_getElem hlt', Option.map_some, Option.some.injEq, hu', hv'] using this)
        have HYES : Hid (Rl.bi x = Rl.bi y → (A.map Rl.bi).take (i + 1) = (C.map Rl.bi).take (i + 1)) := fun h => by
          refine take_more (Rl.bi Rl.noI) (by rw [List.length_map]; exact hlt) (by rw [List.length_map]; exact hlt') HT.out ?_
          simp only [List.getD, List.getElem?_map, List.getElem?_eq_getElem hlt, List.getElem?_eq_getElem hlt', Option.map_some, Option.getD_some, hu', hv', h]
        clear hu hv hu' hv'
        have hD2 := hD.alloc hD.size (.cells #[.int .i64 x.kind, .int .i64 x.line, .string (str x.name), .slice ta x.targets.length tc, .slice wa x.words.length wc, .slice ca x.code.length cc] 33)
        have hn2 := heap_alloc_new wr (.cells #[.int .i64 x.kind, .int .i64 x.line, .string (str x.name), .slice ta x.targets.length tc, .slice wa x.words.length wc, .slice ca x.code.length cc] 33)
        have hbb := below_box wr (.cells #[.int .i64 x.kind, .int .i64 x.line, .string (str x.name), .slice ta x.targets.length tc, .slice wa x.words.length wc, .slice ca x.code.length cc] 33)
        go_upto_region 6 with fail
        clear r0 r1 r2 r3 r4 r5
        generalize wr.alloc (.cells #[.int .i64 x.kind, .int .i64 x.line, .string (str x.name), .slice ta x.targets.length tc, .slice wa x.words.length wc, .slice ca x.code.length cc] 33) = Y at *
        have hgY : wr.heap.size < Y.heap.size := (Array.getElem?_eq_some_iff.1 hn2).1
        replace s0 := (hbb.cell (p := ⟨b3, o3 + i * 6, none⟩) (Nat.lt_of_lt_of_le hb3 hBr)).trans s0
        replace s1 := (hbb.cell (p := ⟨b3, o3 + i * 6 + 1, none⟩) (Nat.lt_of_lt_of_le hb3 hBr)).trans s1
        replace s2 := (hbb.cell (p := ⟨b3, o3 + i * 6 + 2, none⟩) (Nat.lt_of_lt_of_le hb3 hBr)).trans s2
        replace s3 := (hbb.cell (p := ⟨b3, o3 + i * 6 + 3, none⟩) (Nat.lt_of_lt_of_le hb3 hBr)).trans s3
        replace s4 := (hbb.cell (p := ⟨b3, o3 + i * 6 + 4, none⟩) (Nat.lt_of_lt_of_le hb3 hBr)).trans s4
        replace s5 := (hbb.cell (p := ⟨b3, o3 + i * 6 + 5, none⟩) (Nat.lt_of_lt_of_le hb3 hBr)).trans s5
        have hE2 := hD2.alloc hD2.size (.cells #[.int .i64 y.kind, .int .i64 y.line, .string (str y.name), .slice ta' y.targets.length tc', .slice wa' y.words.length wc', .slice ca' y.code.length cc'] 33)
        have hn3 := heap_alloc_new Y (.cells #[.int .i64 y.kind, .int .i64 y.line, .string (str y.name), .slice ta' y.targets.length tc', .slice wa' y.words.length wc', .slice ca' y.code.length cc'] 33)
        have hbc := below_box Y (.cells #[.int .i64 y.kind, .int .i64 y.line, .string (str y.name), .slice ta' y.targets.length tc', .slice wa' y.words.length wc', .slice ca' y.code.length cc'] 33)
        go_upto_region 7 with fail
        clear s0 s1 s2 s3 s4 s5
        have hn4 := (hbc.block _ hgY).trans hn2
        have hbr : Below wr.heap.size wr (Y.alloc (.cells #[.int .i64 y.kind, .int .i64 y.line, .string (str y.name), .slice ta' y.targets.length tc', .slice wa' y.words.length wc', .slice ca' y.code.length cc'] 33)) := hbb.trans (hbc.mono hbb.size)
        generalize Y.alloc (.cells #[.int .i64 y.kind, .int .i64 y.line, .string (str y.name), .slice ta' y.targets.length tc', .slice wa' y.words.length wc', .slice ca' y.code.length cc'] 33) = Z at *
        have z0 : Z.cell? ⟨wr.heap.size, 0, none⟩ = some (.int .i64 x.kind) := by rw [cell_of_row Z _ 0 _ _ _ hn4]; rfl
        have z1 : Z.cell? ⟨wr.heap.size, 1, none⟩ = some (.int .i64 x.line) := by rw [cell_of_row Z _ 1 _ _ _ hn4]; rfl
        have z2 : Z.cell? ⟨wr.heap.size, 2, none⟩ = some (.string (str x.name)) := by rw [cell_of_row Z _ 2 _ _ _ hn4]; rfl
        have z3 : Z.cell? ⟨wr.heap.size, 3, none⟩ = some (.slice ta x.targets.length tc) := by rw [cell_of_row Z _ 3 _ _ _ hn4]; rfl
        have z4 : Z.cell? ⟨wr.heap.size, 4, none⟩ = some (.slice wa x.words.length wc) := by rw [cell_of_row Z _ 4 _ _ _ hn4]; rfl
        have z5 : Z.cell? ⟨wr.heap.size, 5, none⟩ = some (.slice ca x.code.length cc) := by rw [cell_of_row Z _ 5 _ _ _ hn4]; rfl
        have t0 : Z.cell? ⟨Y.heap.size, 0, none⟩ = some (.int .i64 y.kind) := by rw [cell_of_row Z _ 0 _ _ _ hn3]; rfl
        have t1 : Z.cell? ⟨Y.heap.size, 1, none⟩ = some (.int .i64 y.line) := by rw [cell_of_row Z _ 1 _ _ _ hn3]; rfl
        have t2 : Z.cell? ⟨Y.heap.size, 2, none⟩ = some (.string (str y.name)) := by rw [cell_of_row Z _ 2 _ _ _ hn3]; rfl
        have t3 : Z.cell? ⟨Y.heap.size, 3, none⟩ = some (.slice ta' y.targets.length tc') := by rw [cell_of_row Z _ 3 _ _ _ hn3]; rfl
        have t4 : Z.cell? ⟨Y.heap.size, 4, none⟩ = some (.slice wa' y.words.length wc') := by rw [cell_of_row Z _ 4 _ _ _ hn3]; rfl
        have t5 : Z.cell? ⟨Y.heap.size, 5, none⟩ = some (.slice ca' y.code.length cc') := by rw [cell_of_row Z _ 5 _ _ _ hn3]; rfl
        have hc := sameItem_any x y ta tc wa wc ca cc ta' tc' wa' wc' ca' cc' Z B (hX1.below hbr hBr) (hX2.below hbr hBr) (hX3.below hbr hBr) (hY1.below hbr hBr) (hY2.below hbr hBr) (hY3.below hbr hBr) (Nat.le_trans hBr hbr.size) hfx
        clear hn2 hn3 hn4 hbb hbc
        by_cases hq : Rl.bi x = Rl.bi y
        · rw [decide_eq_true hq] at hc
          have HT3 : Hid _ := HYES.out hq
          clear hq HNO HYES
          go_wp2_with fail
          refine hc.mono ?_
          rintro e w1 ⟨rfl, hB1⟩
          go_wp2
          exact ⟨⟨i + 1, by omega, by go_num, HT3, hE2.trans (hB1.mono hE2.size)⟩, by simp [intOf]; omega⟩
        · rw [decide_eq_false hq] at hc
          have HF : Hid _ := HNO.out hq
          clear hq HNO HYES
          go_wp2_with fail
          refine hc.mono ?_
          rintro e w1 ⟨rfl, hB1⟩
          go_wp2
          go_ret
          rw [HF.out]
          exact ⟨rfl, hE2.trans (hB1.mono hE2.size)⟩
      · obtain rfl : i = A.length := by omega
        have i1 : ¬ (A.length : Int) < (A.length : Int) := by omega
        have HE : Hid (A.map Rl.bi = C.map Rl.bi) := by
          show _ = _
          have := HT.out
          rwa [List.take_of_length_le (by rw [List.length_map]; omega), List.take_of_length_le (by rw [List.length_map, ← HLE.out]; omega)] at this
        clear HT
        go_wp2
        go_ret
        rw [HEQ.out HE.out]
        exact ⟨rfl, hD⟩
  · have n1 : ((A.length : Int) != (C.length : Int)) = true := by rw [bne_iff_ne]; omega
    have HF : Hid (D = false) := HNE.out fun h => hlen (by have := congrArg List.length h; simpa using this)
    clear hlen
    go_wp2
    go_ret
    rw [HF.out]
    exact ⟨rfl, Below.refl _ _⟩

set_option maxRecDepth 100000 in
set_option maxHeartbeats 2000000 in
theorem Same_any (va vb : Value) (A C : List Rl.It) (w : World) (B : Nat) (ha : ItsS w B va A) (hb : ItsS w B vb C) (hBw : B ≤ w.heap.size) (hAl : A.length ≤ 1099511627) (hf : ∀ x ∈ A, Rl.Few x) :
    Calls Try.prog 23 #[va, vb] w fun e w' => e = .returned (.bool (decide (A.map Rl.bi = C.map Rl.bi))) ∧ Below w.heap.size w w' := by
  have h := EqualI_any va vb A C w B ha hb hBw hAl hf
  generalize decide (A.map Rl.bi = C.map Rl.bi) = K at *
  go_enter Try.func23, Try.ntmps23
  go_wp2_with fail
  refine h.mono ?_
  rintro e w1 ⟨rfl, hB1⟩
  go_wp2
  go_ret
  exact ⟨rfl, hB1⟩

end Go.Proofs.Ythpipbkbldlfjaa
