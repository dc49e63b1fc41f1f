/-
  WHAT THE PROGRAM's readRule DOES.
-/
import Derived.Test.YthpipbkbldlfjaaDName
import Derived.Test.YthpipbkbldlfjaaKit
import Derived.BigQuiet
namespace Go.Proofs.Ythpipbkbldlfjaa
open Go.RowKit

theorem Rl.ruleOf_one (num : Int) (r : List Lx.V) : (Rl.fm r = r.length → Rl.ruleOf num [] 1 r = .bad (120, r.length)) ∧ (Rl.fm r < r.length → (Rl.fm r = 0 ∨ (r.getD (Rl.fm r) Lx.noV).text ≠ [58]) → Rl.ruleOf num [] 1 r = .bad (120, 1 + Rl.fm r)) ∧
    (Rl.fm r < r.length → Rl.fm r ≠ 0 → (r.getD (Rl.fm r) Lx.noV).text = [58] → Rl.ruleOf num [] 1 r = if Rl.fm (r.drop (Rl.fm r + 1)) < (r.drop (Rl.fm r + 1)).length then .bad (120, 1 + Rl.fm r + 1 + Rl.fm (r.drop (Rl.fm r + 1))) else .ok ⟨3, num, [], r.take (Rl.fm r), r.drop (Rl.fm r + 1), []⟩) := by
  have hr := Rl.ruleOf_fm num r [] 1
  rw [List.nil_append] at hr
  refine ⟨fun h => ?_, fun h1 h2 => ?_, fun h1 h2 h3 => ?_⟩
  · rw [hr, if_pos h]
    congr 2
    omega
  · rw [hr, if_neg (by omega), if_pos]
    rcases h2 with h | h
    · left; rw [h]; rfl
    · exact .inr h
  · have ht : r.take (Rl.fm r) ≠ [] := by
      intro e
      have := congrArg List.length e
      simp only [List.length_take, List.length_nil] at this
      omega
    rw [hr, if_neg (by omega), if_neg (by rintro (h | h); exact ht h; exact h h3)]
    unfold Rl.depsOf
    rw [Rl.clean_fm]
    by_cases h : Rl.fm (r.drop (Rl.fm r + 1)) < (r.drop (Rl.fm r + 1)).length
    · rw [if_pos h, if_pos h]
    · rw [if_neg h, if_neg h]

set_option maxRecDepth 100000 in
set_option maxHeartbeats 4000000 in
theorem readRule_any (num : Int) (ind : Bool) (ad : Option Addr) (c : Nat) (u : Lx.V) (r : List Lx.V) (w : World) (B : Nat) (hW : WdR.Sl w B (.slice ad (r.length + 1) c) (u :: r)) (hBw : B ≤ w.heap.size) (hl : r.length ≤ 131072) :
    Calls Try.prog 55 #[lnV num ind (.slice ad (r.length + 1) c)] w fun e w' => RdEnd (u :: r) w.heap.size e w' (Rl.ruleOf num [] 1 r) ∧ Below w.heap.size w w' := by
  obtain ⟨hR1, hR2, hR3⟩ := Rl.ruleOf_one num r
  have HR1 : Hid _ := hR1
  have HR2 : Hid _ := hR2
  have HR3 : Hid _ := hR3
  clear hR1 hR2 hR3
  generalize Rl.ruleOf num [] 1 r = R at *
  obtain ⟨n, hn0⟩ : ∃ n, r.length + 1 = n := ⟨_, rfl⟩
  rw [hn0] at hW ⊢
  have HNL : Hid _ := hn0
  have HL : Hid _ := hl
  obtain ⟨k, hk⟩ : ∃ k, Rl.fm r = k := ⟨_, rfl⟩
  have hfl := Rl.fm_le r
  rw [hk] at HR1 HR2 HR3 hfl
  have HK : Hid _ := hk
  obtain ⟨mk, hmk⟩ : ∃ mk : Nat, (1 : Int) + (k : Int) = (mk : Int) := ⟨1 + k, by omega⟩
  have HMK : Hid (mk = 1 + k) := by show _ = _; omega
  have hkl : (k : Int) ≤ 131072 := by omega
  have hmk2 : (mk : Int) ≤ 131073 := by omega
  have hml : mk ≤ n := by omega
  have HML : Hid _ := hml
  have HFL : Hid _ := hfl
  clear hn0 hl hk hml hfl
  have hY : RdW w (((w.alloc (.cells #[.int .i64 num, .bool ind, .slice ad n c] 48)).alloc (.cells #[.int .i64 0, .int .i64 0, .string ⟨#[]⟩, .slice none 0 0, .slice none 0 0, .slice none 0 0] 33)).alloc (.cells #[.int .i64 0, .string ⟨#[]⟩, .int .i64 0, .int .i64 0] 26)) num ind (.slice ad n c) := rdW_is w num ind (.slice ad n c)
  unfold lnV
  go_enter Try.func55, Try.ntmps55
  go_upto_region 1 with fail
  generalize ((w.alloc (.cells #[.int .i64 num, .bool ind, .slice ad n c] 48)).alloc (.cells #[.int .i64 0, .int .i64 0, .string ⟨#[]⟩, .slice none 0 0, .slice none 0 0, .slice none 0 0] 33)).alloc (.cells #[.int .i64 0, .string ⟨#[]⟩, .int .i64 0, .int .i64 0] 26) = Y at hY ⊢
  have y0 := hY.num
  have y1 := hY.ind
  have y2 := hY.words
  have hWY := hW.below hY.below hBw
  obtain ⟨b, o, c', e, hb, -⟩ := WdR.at hWY 0 (by simp)
  simp only [Value.slice.injEq] at e
  obtain ⟨rfl, -, rfl⟩ := e
  obtain ⟨A, hsl, hT⟩ := Rc.slice_tail hWY 1 (by simp)
  have e1 : n - 1 = r.length := by have := HNL.out; omega
  rw [e1] at hsl hT
  have hT' : WdR.Sl Y B (.slice A r.length (c - 1)) r := hT
  have hsl' : ∀ W : World, (Instr.slice 30 (.slice (some ⟨b, o, none⟩) n c) (some (.int .i64 1)) none none).run Try.prog W = .ok (.slice A r.length (c - 1)) W := hsl
  have HZ : Hid _ := hY.size
  have hBY : B ≤ Y.heap.size := by have := HZ.out; omega
  have hfm := firstMark_any _ r Y B hT' hBY (by have := HL.out; omega)
  rw [HK.out] at hfm
  clear hsl hT e1
  go_wp2_with fail
  refine hfm.mono ?_
  rintro e w2 ⟨rfl, hB2⟩
  have hW2 := hWY.below hB2 hBY
  have hwl : w.heap.size < Y.heap.size := by have := HZ.out; omega
  have y0a := (hB2.cell (p := ⟨w.heap.size, 0, none⟩) hwl).trans y0
  clear hfm hW hT' hsl' y0 y1 y2 hWY
  by_cases hA : k = r.length
  · have HE : Hid (R = .bad (120, r.length)) := HR1.out hA
    have i1 : ((mk : Int) == (n : Int)) = true := by rw [beq_iff_eq]; have := HNL.out; omega
    obtain ⟨q, hq⟩ : ∃ q : Nat, q = r.length := ⟨_, rfl⟩
    rw [← hq] at HE
    have i2 : (n : Int) - 1 = (q : Int) := by have := HNL.out; omega
    have i5 : (q : Int) ≤ 131072 := by have := HL.out; omega
    have i3 : (q : Int) < (n : Int) := by have := HNL.out; omega
    obtain ⟨b', o', c', e, -, q0, q1, q2, q3, q4⟩ := WdR.at hW2 q (by rw [hq]; simp)
    simp only [Value.slice.injEq, Option.some.injEq, Addr.mk.injEq, and_true] at e
    obtain ⟨⟨rfl, rfl⟩, -, -⟩ := e
    obtain ⟨x, hx⟩ : ∃ x, (u :: r).getD q Lx.noV = x := ⟨_, rfl⟩
    rw [hx] at q0 q1 q2 q3 q4
    have HX : Hid _ := hx
    clear hx hA hq hW2
    have hwr := fun W => rwrong_any 120 x W
    unfold wdV at hwr
    go_wp2_with fail
    refine (hwr _).mono ?_
    rintro e w1 ⟨rfl, hB1⟩
    obtain ⟨hO1, hb1⟩ := hY.after (hB2.trans (hB1.mono hB2.size))
    obtain ⟨f1, f2⟩ := hO1.free
    obtain ⟨k0, k1, k2, k3, k4, k5, l0, l1, l2, l3⟩ := hO1.cells
    have hfin := hO1.put (by omega) noRaw 120 x.line x.col
    have hbf := below10 hb1 (g1 := w.heap.size + 1) (g2 := w.heap.size + 1 + 1) (by omega) (by omega)
    unfold itV itCells whCs noRaw
    go_wp2
    refine bodyPost_ret (results_iw rfl _ _ hfin rfl rfl) rfl ?_
    rw [HE.out]
    refine ⟨?_, hbf _ _ _ _ _ _ _ _ _ _⟩
    show Ending.returned _ = Ending.returned (.tuple #[itV noRaw, .agg (whCs 120 ((u :: r).getD (q) Lx.noV).line ((u :: r).getD (q) Lx.noV).col)])
    rw [HX.out]
  have HA : Hid (k < r.length) := by show _ < _; have := HFL.out; omega
  have i1 : ((mk : Int) == (n : Int)) = false := by rw [beq_eq_false_iff_ne]; have := HNL.out; have := HA.out; omega
  have i3 : (mk : Int) < (n : Int) := by have := HNL.out; have := HA.out; omega
  clear hA
  obtain ⟨b', o', c', e, -, q0, q1, q2, q3, q4⟩ := WdR.at hW2 mk (by have := HA.out; have := HMK.out; simp only [List.length_cons]; omega)
  simp only [Value.slice.injEq, Option.some.injEq, Addr.mk.injEq, and_true] at e
  obtain ⟨⟨rfl, rfl⟩, -, -⟩ := e
  obtain ⟨x, hx⟩ : ∃ x, (u :: r).getD mk Lx.noV = x := ⟨_, rfl⟩
  rw [hx] at q0 q1 q2 q3 q4
  have HX : Hid _ := hx
  have HX2 : Hid (r.getD k Lx.noV = x) := by
    show _ = _
    rw [← hx, HMK.out, Nat.add_comm, List.getD_cons_succ]
  clear hx
  by_cases hk0 : k = 0
  · have HE : Hid (R = .bad (120, mk)) := by
      show _ = _
      rw [HR2.out HA.out (.inl hk0), HMK.out]
    have j1 : ((mk : Int) == 1) = true := by rw [beq_iff_eq]; omega
    clear hk0 hW2
    have hwr := fun W => rwrong_any 120 x W
    unfold wdV at hwr
    go_wp2_with fail
    refine (hwr _).mono ?_
    rintro e w1 ⟨rfl, hB1⟩
    obtain ⟨hO1, hb1⟩ := hY.after (hB2.trans (hB1.mono hB2.size))
    obtain ⟨f1, f2⟩ := hO1.free
    obtain ⟨k0, k1, k2, k3, k4, k5, l0, l1, l2, l3⟩ := hO1.cells
    have hfin := hO1.put (by omega) noRaw 120 x.line x.col
    have hbf := below10 hb1 (g1 := w.heap.size + 1) (g2 := w.heap.size + 1 + 1) (by omega) (by omega)
    unfold itV itCells whCs noRaw
    go_wp2
    refine bodyPost_ret (results_iw rfl _ _ hfin rfl rfl) rfl ?_
    rw [HE.out]
    refine ⟨?_, hbf _ _ _ _ _ _ _ _ _ _⟩
    show Ending.returned _ = Ending.returned (.tuple #[itV noRaw, .agg (whCs 120 ((u :: r).getD (mk) Lx.noV).line ((u :: r).getD (mk) Lx.noV).col)])
    rw [HX.out]
  have j1 : ((mk : Int) == 1) = false := by rw [beq_eq_false_iff_ne]; omega
  have HK0 : Hid _ := hk0
  clear hk0
  by_cases ht : x.text = [58]
  rotate_left
  · have HE : Hid (R = .bad (120, mk)) := by
      show _ = _
      rw [HR2.out HA.out (.inr (by rw [HX2.out]; exact ht)), HMK.out]
    have j2 : ((str x.text).toList == [58]) = false := by rw [beq_eq_false_iff_ne, str_list]; exact ht
    clear ht hW2
    have hwr := fun W => rwrong_any 120 x W
    unfold wdV at hwr
    go_wp2_with fail
    refine (hwr _).mono ?_
    rintro e w1 ⟨rfl, hB1⟩
    obtain ⟨hO1, hb1⟩ := hY.after (hB2.trans (hB1.mono hB2.size))
    obtain ⟨f1, f2⟩ := hO1.free
    obtain ⟨k0, k1, k2, k3, k4, k5, l0, l1, l2, l3⟩ := hO1.cells
    have hfin := hO1.put (by omega) noRaw 120 x.line x.col
    have hbf := below10 hb1 (g1 := w.heap.size + 1) (g2 := w.heap.size + 1 + 1) (by omega) (by omega)
    unfold itV itCells whCs noRaw
    go_wp2
    refine bodyPost_ret (results_iw rfl _ _ hfin rfl rfl) rfl ?_
    rw [HE.out]
    refine ⟨?_, hbf _ _ _ _ _ _ _ _ _ _⟩
    show Ending.returned _ = Ending.returned (.tuple #[itV noRaw, .agg (whCs 120 ((u :: r).getD (mk) Lx.noV).line ((u :: r).getD (mk) Lx.noV).col)])
    rw [HX.out]
  have HE : Hid _ := HR3.out HA.out HK0.out (by rw [HX2.out]; exact ht)
  have j2 : ((str x.text).toList == [58]) = true := by rw [beq_iff_eq, str_list]; exact ht
  clear ht HR1 HR2 HR3
  obtain ⟨m2, hm2⟩ : ∃ m2 : Nat, (mk : Int) + 1 = (m2 : Int) := ⟨mk + 1, by omega⟩
  have hm3 : (m2 : Int) ≤ 131074 := by omega
  have HM2 : Hid (m2 = k + 2) := by show _ = _; have := HMK.out; omega
  obtain ⟨A2, hs2, hT2⟩ := Rc.slice_mid hW2 1 mk (by have := HMK.out; omega) (by have := HNL.out; have := HML.out; simp only [List.length_cons]; omega)
  obtain ⟨A3, hs3, hT3⟩ := Rc.slice_tail hW2 m2 (by have := HNL.out; have := HA.out; have := HM2.out; simp only [List.length_cons]; omega)
  obtain ⟨D, hD⟩ : ∃ D, r.drop (k + 1) = D := ⟨_, rfl⟩
  have f2 : (u :: r).drop m2 = D := by rw [HM2.out, List.drop_succ_cons, hD]
  have f1 : ((u :: r).take mk).drop 1 = r.take k := by rw [HMK.out, Nat.add_comm, List.take_succ_cons]; rfl
  have f3 : n - m2 = D.length := by rw [← hD, List.length_drop]; have := HNL.out; have := HM2.out; omega
  have f4 : mk - 1 = k := by have := HMK.out; omega
  rw [f1, f4] at hT2
  rw [f4] at hs2
  rw [f2, f3] at hT3
  rw [f3] at hs3
  have hs2' : ∀ W : World, (Instr.slice 30 (.slice (some ⟨b, o, none⟩) n c) (some (.int .i64 1)) (some (.int .i64 (mk : Int))) none).run Try.prog W = .ok (.slice A2 k (c - 1)) W := hs2
  have hs3' : ∀ W : World, (Instr.slice 30 (.slice (some ⟨b, o, none⟩) n c) (some (.int .i64 (m2 : Int))) none none).run Try.prog W = .ok (.slice A3 D.length (c - m2)) W := hs3
  rw [hD] at HE
  have HDL : Hid (D.length ≤ 131072) := by show _ ≤ _; rw [← hD, List.length_drop]; have := HL.out; omega
  have HIX : Hid (∀ j, (u :: r).getD (1 + k + 1 + j) Lx.noV = D.getD j Lx.noV) := fun j => by
    rw [← hD]
    have : 1 + k + 1 + j = (k + 1 + j) + 1 := by omega
    rw [this, List.getD_cons_succ]
    simp [List.getD, List.getElem?_drop]
  clear f1 f2 f3 f4 hs2 hs3 hD
  have hfm2 := fun (W : World) (h : Below w2.heap.size w2 W) => firstMark_any _ D W B (hT3.below h (Nat.le_trans hBY hB2.size)) (Nat.le_trans (Nat.le_trans hBY hB2.size) h.size) (by have := HDL.out; omega)
  have hfl2 := Rl.fm_le D
  obtain ⟨k2, hk2⟩ : ∃ k2, Rl.fm D = k2 := ⟨_, rfl⟩
  rw [hk2] at hfm2 hfl2 HE
  have HFL2 : Hid _ := hfl2
  clear hk2 hfl2
  have hkk : (k2 : Int) ≤ 131072 := by have := HDL.out; have := HFL2.out; omega
  go_wp2_with fail
  go_quiet (fail)
  go_wp2_with fail
  refine (hfm2 _ (below_drewN (Below.refl _ _) _)).mono ?_
  rintro e w3 ⟨rfl, hB3⟩
  have hB23 : Below w2.heap.size w2 w3 := (below_drewN (Below.refl w2.heap.size w2) _).trans hB3
  have hB03 : Below Y.heap.size Y w3 := hB2.trans (hB23.mono hB2.size)
  have y0b := (hB23.cell (p := ⟨w.heap.size, 0, none⟩) (Nat.lt_of_lt_of_le hwl hB2.size)).trans y0a
  have hT2' := hT2.below hB23 (Nat.le_trans hBY hB2.size)
  have hT3' := hT3.below hB23 (Nat.le_trans hBY hB2.size)
  clear hfm2 hs2' hs3' y0a q0 q1 q2 q3 q4 hT2 hT3 hW2
  by_cases hlt : k2 < D.length
  · have HE2 : Hid (R = .bad (120, 1 + k + 1 + k2)) := by
      show _ = _
      rw [HE.out, if_pos hlt]
    have i4 : (k2 : Int) < (D.length : Int) := by omega
    obtain ⟨b4, o4, c4, e, -, q0, q1, q2, q3, q4⟩ := WdR.at hT3' k2 hlt
    simp only [Value.slice.injEq] at e
    obtain ⟨rfl, -, rfl⟩ := e
    have HX3 : Hid _ := HIX.out k2
    obtain ⟨y, hy⟩ : ∃ y, D.getD k2 Lx.noV = y := ⟨_, rfl⟩
    rw [hy] at q0 q1 q2 q3 q4 HX3
    clear hy hlt HE
    have hwr := fun W => rwrong_any 120 y W
    unfold wdV at hwr
    go_wp2_with fail
    refine (hwr _).mono ?_
    rintro e w1 ⟨rfl, hB1⟩
    obtain ⟨hO1, hb1⟩ := hY.after (hB03.trans (hB1.mono hB03.size))
    obtain ⟨f1, f2⟩ := hO1.free
    obtain ⟨k0, k1, k22, k3, k4, k5, l0, l1, l2, l3⟩ := hO1.cells
    have hfin := hO1.put (by omega) noRaw 120 y.line y.col
    have hbf := below10 hb1 (g1 := w.heap.size + 1) (g2 := w.heap.size + 1 + 1) (by omega) (by omega)
    unfold itV itCells whCs noRaw
    go_wp2
    refine bodyPost_ret (results_iw rfl _ _ hfin rfl rfl) rfl ?_
    rw [HE2.out]
    refine ⟨?_, hbf _ _ _ _ _ _ _ _ _ _⟩
    show Ending.returned _ = Ending.returned (.tuple #[itV noRaw, .agg (whCs 120 ((u :: r).getD (1 + k + 1 + k2) Lx.noV).line ((u :: r).getD (1 + k + 1 + k2) Lx.noV).col)])
    rw [HX3.out]
  · have HE2 : Hid (R = .ok ⟨3, num, [], r.take k, D, []⟩) := by
      show _ = _
      rw [HE.out, if_neg hlt]
    have i4 : ¬ (k2 : Int) < (D.length : Int) := by omega
    clear HE hlt
    have hBw3 : B ≤ w3.heap.size := Nat.le_trans hBY hB03.size
    have hc1 := fun (W : World) (h : Below w3.heap.size w3 W) => CloneW_any (r.take k) (.slice A2 k (c - 1)) B W (hT2'.below h hBw3) (Nat.le_trans hBw3 h.size) (by rw [List.length_take]; have := HL.out; omega)
    have hc2 := fun (W : World) (h : Below w3.heap.size w3 W) => CloneW_any D (.slice A3 D.length (c - m2)) B W (hT3'.below h hBw3) (Nat.le_trans hBw3 h.size) (by have := HDL.out; omega)
    have hYa := fun (W : World) (h : Below Y.heap.size Y W) => hY.after h
    have far1 : ∀ (W : World) (j : Nat) (v : Value), (W.setCell ⟨w.heap.size + 1, j, none⟩ v).cell? ⟨w.heap.size, 0, none⟩ = W.cell? ⟨w.heap.size, 0, none⟩ := fun W j v => World.cell?_setCell_far _ _ _ _ (by simp)
    have far2 : ∀ (W : World) (j : Nat) (v : Value), (W.setCell ⟨w.heap.size + 1 + 1, j, none⟩ v).cell? ⟨w.heap.size, 0, none⟩ = W.cell? ⟨w.heap.size, 0, none⟩ := fun W j v => World.cell?_setCell_far _ _ _ _ (by show w.heap.size + 1 + 1 ≠ w.heap.size; omega)
    have y0d : w3.drew.cell? ⟨w.heap.size, 0, none⟩ = some (.int .i64 num) := y0b
    have hyd : Below w3.heap.size w3 w3.drew := (Below.refl _ _).drew
    have hw3 : w.heap.size < w3.heap.size := Nat.lt_of_lt_of_le hwl hB03.size
    have HSW : Hid (w.heap.size + 3 ≤ w3.heap.size) := by show _ ≤ _; have := HZ.out; have := hB03.size; omega
    clear hT2' hT3' hB2 hB3
    go_wp2_with fail
    go_region_held3 (fun X : World => X.cell? ⟨w.heap.size, 0, none⟩ = some (.int .i64 num)) (first | with_reducible exact y0d | with_reducible exact y0e | with_reducible exact y0f | (simp only [far1, far2]; with_reducible exact y0f) | fail)
      (first | (go_at_call 83; (with_reducible refine (hc1 _ hyd).mono ?_); rintro e w4 ⟨v4, rfl, hO4, hB4⟩; obtain ⟨ad4, n4, c4, rfl⟩ := hO4.isSl; have hB34 := hyd.trans (hB4.mono hyd.size); have y0e : w4.cell? ⟨w.heap.size, 0, none⟩ = some (.int .i64 num) := (hB34.cell (p := ⟨w.heap.size, 0, none⟩) hw3).trans y0b) | (go_at_call 83; (with_reducible refine (hc2 _ hB34).mono ?_); rintro e w5 ⟨v5, rfl, hO5, hB5⟩; obtain ⟨ad5, n5, c5, rfl⟩ := hO5.isSl; have hB35 := hB34.trans (hB5.mono hB34.size); have y0f : w5.cell? ⟨w.heap.size, 0, none⟩ = some (.int .i64 num) := (hB35.cell (p := ⟨w.heap.size, 0, none⟩) hw3).trans y0b; obtain ⟨hO3, hb3⟩ := hYa _ (hB03.trans (hB35.mono hB03.size)); obtain ⟨f1, f2⟩ := hO3.free; obtain ⟨k0, k1, k22, k3, k4, k5, l0, l1, l2, l3⟩ := hO3.cells) | fail)
    have hfin := hO3.put (by omega) ⟨3, num, [], ad4, n4, c4, ad5, n5, c5, none, 0, 0⟩ 0 0 0
    have hbf := below10 hb3 (g1 := w.heap.size + 1) (g2 := w.heap.size + 1 + 1) (by omega) (by omega)
    have hz4 : w.heap.size + 3 ≤ w4.heap.size := Nat.le_trans HSW.out hB34.size
    have hO6 := own10 hO5 (g1 := w.heap.size + 1) (g2 := w.heap.size + 1 + 1) (by omega) (by omega)
    have hO7 := own10 (hO4.below hB5 (Nat.le_refl _)) (g1 := w.heap.size + 1) (g2 := w.heap.size + 1 + 1) (by have := HSW.out; show _ < w3.heap.size; omega) (by have := HSW.out; show _ < w3.heap.size; omega)
    clear y0d y0e y0f far1 far2 k0 k1 k22 k3 k4 k5 l0 l1 l2 l3
    go_wp2
    refine bodyPost_ret (results_iw rfl _ _ hfin rfl rfl) rfl ?_
    rw [HE2.out]
    exact ⟨⟨_, rfl, rfl, rfl, rfl, (hO7 _ _ _ _ _ _ _ _ _ _).low (by have := HSW.out; show _ ≤ w3.heap.size; omega), (hO6 _ _ _ _ _ _ _ _ _ _).low (by omega), rfl, rfl, rfl, rfl⟩, hbf _ _ _ _ _ _ _ _ _ _⟩

end Go.Proofs.Ythpipbkbldlfjaa
