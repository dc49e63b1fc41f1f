/-
  WHAT THE DOCUMENT's Item DOES WITH AN include, AND WITH A LINE THAT IS NO ITEM.
-/
import Derived.Test.YthpipbkbldlfjaaRItM
namespace Go.Proofs.Ythpipbkbldlfjaa
open Go.RowKit

set_option maxRecDepth 100000 in
set_option maxHeartbeats 4000000 in
theorem itNone (num : Int) (ind : Bool) (ad : Option Addr) (c : Nat) (n : Nat) (u : Lx.V) (r : List Lx.V) (w : World) (B : Nat) (hW : WdR.Sl w B (.slice ad n c) (u :: r)) (hBw : B ≤ w.heap.size) (hnl : r.length + 1 = n) (hu : Rl.isW u Rl.sLet = false) (hi : Rl.isW u Rl.sIncl = false) (hr : Rl.isW u Rl.sRule = false) :
    Calls Try.prog 33 #[lnV num ind (.slice ad n c)] w fun e w' => ItEnd w.heap.size e w' (.bad (120, 0)) ∧ Below w.heap.size w w' := by
  have hb0 := fun W => bareW_any u ⟨#[108, 101, 116]⟩ W
  have e_hb0 : bs ⟨#[108, 101, 116]⟩ = Rl.sLet := rfl
  rw [e_hb0, hu] at hb0
  clear e_hb0
  unfold wdV at hb0
  have hbi := fun W => bareW_any u ⟨#[105, 110, 99, 108, 117, 100, 101]⟩ W
  have e_hbi : bs ⟨#[105, 110, 99, 108, 117, 100, 101]⟩ = Rl.sIncl := rfl
  rw [e_hbi, hi] at hbi
  clear e_hbi
  unfold wdV at hbi
  have hbr := fun W => bareW_any u ⟨#[114, 117, 108, 101]⟩ W
  have e_hbr : bs ⟨#[114, 117, 108, 101]⟩ = Rl.sRule := rfl
  rw [e_hbr, hr] at hbr
  clear e_hbr
  unfold wdV at hbr
  have n1 : (0 : Int) < (n : Int) := by omega
  clear hnl hu hi hr
  have hY := xw_is w num ind (.slice ad n c)
  unfold lnV
  go_enter Try.func33, Try.ntmps33
  go_upto_region 3 with fail
  generalize ((w.alloc (.cells #[.int .i64 num, .bool ind, .slice ad n c] 48)).alloc (.cells #[.int .i64 0, .int .i64 0, .string ⟨#[]⟩, .slice none 0 0, .slice none 0 0, .slice none 0 0] 33)).alloc (.cells #[.int .i64 0, .int .i64 num, .string ⟨#[]⟩, .slice none 0 0, .slice none 0 0, .slice none 0 0] 33) = Y at hY ⊢
  have HYB : Hid _ := hY.below
  have HYS : Hid _ := hY.size
  have hWY := hW.below hY.below hBw
  have hBY : B ≤ Y.heap.size := Nat.le_trans hBw hY.below.size
  have hx0 := hY.xb
  clear hY
  obtain ⟨b, o, c', e, hb, r0, r1, r2, r3, r4⟩ := WdR.at hWY 0 (by simp)
  simp only [Value.slice.injEq] at e
  obtain ⟨rfl, -, rfl⟩ := e
  replace r0 : Y.cell? ⟨b, o, none⟩ = some (.string (str u.text)) := r0
  replace r1 : Y.cell? ⟨b, o + 1, none⟩ = some (.int .i64 u.line) := r1
  replace r2 : Y.cell? ⟨b, o + 2, none⟩ = some (.int .i64 u.col) := r2
  replace r3 : Y.cell? ⟨b, o + 3, none⟩ = some (.bool u.quoted) := r3
  replace r4 : Y.cell? ⟨b, o + 4, none⟩ = some (.bool u.mark) := r4
  have hbw : b < w.heap.size := Nat.lt_of_lt_of_le hb hBw
  have hbY : b < Y.heap.size := Nat.lt_of_lt_of_le hb hBY
  go_wp2_with fail
  refine (hb0 _).mono ?_
  rintro e w1 ⟨rfl, hB1⟩
  have hx1 := hx0.below hB1 (by have := HYS.out; omega)
  have hb1 : Below w.heap.size w w1 := HYB.out.trans (hB1.mono HYB.out.size)
  have hz1 : w.heap.size + 3 ≤ w1.heap.size := by have := HYS.out; have := hB1.size; omega
  replace r0 := (hB1.cell (p := ⟨b, o, none⟩) hbY).trans r0
  replace r1 := (hB1.cell (p := ⟨b, o + 1, none⟩) hbY).trans r1
  replace r2 := (hB1.cell (p := ⟨b, o + 2, none⟩) hbY).trans r2
  replace r3 := (hB1.cell (p := ⟨b, o + 3, none⟩) hbY).trans r3
  replace r4 := (hB1.cell (p := ⟨b, o + 4, none⟩) hbY).trans r4
  clear hx0 hB1 hb0
  go_wp2_with fail
  refine (hbi _).mono ?_
  rintro e w2 ⟨rfl, hB2⟩
  have hx2 := hx1.below hB2 (by have := hz1; omega)
  have hb2 : Below w.heap.size w w2 := hb1.trans (hB2.mono hb1.size)
  have hz2 : w.heap.size + 3 ≤ w2.heap.size := by have := hB2.size; omega
  replace r0 := (hB2.cell (p := ⟨b, o, none⟩) (Nat.lt_of_lt_of_le hbw (by first | exact HYB.out.size | exact hb1.size))).trans r0
  replace r1 := (hB2.cell (p := ⟨b, o + 1, none⟩) (Nat.lt_of_lt_of_le hbw (by first | exact HYB.out.size | exact hb1.size))).trans r1
  replace r2 := (hB2.cell (p := ⟨b, o + 2, none⟩) (Nat.lt_of_lt_of_le hbw (by first | exact HYB.out.size | exact hb1.size))).trans r2
  replace r3 := (hB2.cell (p := ⟨b, o + 3, none⟩) (Nat.lt_of_lt_of_le hbw (by first | exact HYB.out.size | exact hb1.size))).trans r3
  replace r4 := (hB2.cell (p := ⟨b, o + 4, none⟩) (Nat.lt_of_lt_of_le hbw (by first | exact HYB.out.size | exact hb1.size))).trans r4
  clear hx1 hB2 hbi hb1 hz1
  go_wp2_with fail
  refine (hbr _).mono ?_
  rintro e w3 ⟨rfl, hB3⟩
  have hx3 := hx2.below hB3 (by have := hz2; omega)
  have hb3 : Below w.heap.size w w3 := hb2.trans (hB3.mono hb2.size)
  have hz3 : w.heap.size + 3 ≤ w3.heap.size := by have := hB3.size; omega
  replace r0 := (hB3.cell (p := ⟨b, o, none⟩) (Nat.lt_of_lt_of_le hbw (by first | exact HYB.out.size | exact hb2.size))).trans r0
  replace r1 := (hB3.cell (p := ⟨b, o + 1, none⟩) (Nat.lt_of_lt_of_le hbw (by first | exact HYB.out.size | exact hb2.size))).trans r1
  replace r2 := (hB3.cell (p := ⟨b, o + 2, none⟩) (Nat.lt_of_lt_of_le hbw (by first | exact HYB.out.size | exact hb2.size))).trans r2
  replace r3 := (hB3.cell (p := ⟨b, o + 3, none⟩) (Nat.lt_of_lt_of_le hbw (by first | exact HYB.out.size | exact hb2.size))).trans r3
  replace r4 := (hB3.cell (p := ⟨b, o + 4, none⟩) (Nat.lt_of_lt_of_le hbw (by first | exact HYB.out.size | exact hb2.size))).trans r4
  clear hx2 hB3 hbr hb2 hz2
  obtain ⟨k0, k1, k2, k3, k4, k5, kf⟩ := hx3.cells
  obtain ⟨m0, m1, m2, m3, m4, m5, mf⟩ := hx3.rcells
  have hfin := hx3.put
  go_wp2
  refine bodyPost_ret (results_css (ty := 33) rfl _ _ (w.heap.size + 1) _ (itCells ⟨0, num, [], none, 0, 0, none, 0, 0, none, 0, 0⟩) _ _ _ _ rfl rfl rfl hfin Try.underlying33 rfl (by kernel_rfl)) rfl ?_
  exact ⟨⟨_, rfl⟩, hb3.trans ((turn6 _ _ _ _ _ _ _ _).below' hb3.size (by intro x hx; rw [List.mem_singleton] at hx; omega))⟩
set_option maxRecDepth 100000 in
set_option maxHeartbeats 4000000 in
theorem itIncl0 (num : Int) (ind : Bool) (ad : Option Addr) (c : Nat) (u : Lx.V) (w : World) (B : Nat) (hW : WdR.Sl w B (.slice ad 1 c) [u]) (hBw : B ≤ w.heap.size) (hu : Rl.isW u Rl.sLet = false) (hi : Rl.isW u Rl.sIncl = true) :
    Calls Try.prog 33 #[lnV num ind (.slice ad 1 c)] w fun e w' => ItEnd w.heap.size e w' (.bad (120, 0)) ∧ Below w.heap.size w w' := by
  have hb0 := fun W => bareW_any u ⟨#[108, 101, 116]⟩ W
  have e_hb0 : bs ⟨#[108, 101, 116]⟩ = Rl.sLet := rfl
  rw [e_hb0, hu] at hb0
  clear e_hb0
  unfold wdV at hb0
  have hbi := fun W => bareW_any u ⟨#[105, 110, 99, 108, 117, 100, 101]⟩ W
  have e_hbi : bs ⟨#[105, 110, 99, 108, 117, 100, 101]⟩ = Rl.sIncl := rfl
  rw [e_hbi, hi] at hbi
  clear e_hbi
  unfold wdV at hbi
  clear hu hi
  have hY := xw_is w num ind (.slice ad 1 c)
  unfold lnV
  go_enter Try.func33, Try.ntmps33
  go_upto_region 3 with fail
  generalize ((w.alloc (.cells #[.int .i64 num, .bool ind, .slice ad 1 c] 48)).alloc (.cells #[.int .i64 0, .int .i64 0, .string ⟨#[]⟩, .slice none 0 0, .slice none 0 0, .slice none 0 0] 33)).alloc (.cells #[.int .i64 0, .int .i64 num, .string ⟨#[]⟩, .slice none 0 0, .slice none 0 0, .slice none 0 0] 33) = Y at hY ⊢
  have HYB : Hid _ := hY.below
  have HYS : Hid _ := hY.size
  have hWY := hW.below hY.below hBw
  have hBY : B ≤ Y.heap.size := Nat.le_trans hBw hY.below.size
  have hx0 := hY.xb
  clear hY
  obtain ⟨b, o, c', e, hb, r0, r1, r2, r3, r4⟩ := WdR.at hWY 0 (by simp)
  simp only [Value.slice.injEq] at e
  obtain ⟨rfl, -, rfl⟩ := e
  replace r0 : Y.cell? ⟨b, o, none⟩ = some (.string (str u.text)) := r0
  replace r1 : Y.cell? ⟨b, o + 1, none⟩ = some (.int .i64 u.line) := r1
  replace r2 : Y.cell? ⟨b, o + 2, none⟩ = some (.int .i64 u.col) := r2
  replace r3 : Y.cell? ⟨b, o + 3, none⟩ = some (.bool u.quoted) := r3
  replace r4 : Y.cell? ⟨b, o + 4, none⟩ = some (.bool u.mark) := r4
  have hbw : b < w.heap.size := Nat.lt_of_lt_of_le hb hBw
  have hbY : b < Y.heap.size := Nat.lt_of_lt_of_le hb hBY
  go_wp2_with fail
  refine (hb0 _).mono ?_
  rintro e w1 ⟨rfl, hB1⟩
  have hx1 := hx0.below hB1 (by have := HYS.out; omega)
  have hb1 : Below w.heap.size w w1 := HYB.out.trans (hB1.mono HYB.out.size)
  have hz1 : w.heap.size + 3 ≤ w1.heap.size := by have := HYS.out; have := hB1.size; omega
  replace r0 := (hB1.cell (p := ⟨b, o, none⟩) hbY).trans r0
  replace r1 := (hB1.cell (p := ⟨b, o + 1, none⟩) hbY).trans r1
  replace r2 := (hB1.cell (p := ⟨b, o + 2, none⟩) hbY).trans r2
  replace r3 := (hB1.cell (p := ⟨b, o + 3, none⟩) hbY).trans r3
  replace r4 := (hB1.cell (p := ⟨b, o + 4, none⟩) hbY).trans r4
  clear hx0 hB1 hb0
  go_wp2_with fail
  refine (hbi _).mono ?_
  rintro e w2 ⟨rfl, hB2⟩
  have hx2 := hx1.below hB2 (by have := hz1; omega)
  have hb2 : Below w.heap.size w w2 := hb1.trans (hB2.mono hb1.size)
  have hz2 : w.heap.size + 3 ≤ w2.heap.size := by have := hB2.size; omega
  replace r0 := (hB2.cell (p := ⟨b, o, none⟩) (Nat.lt_of_lt_of_le hbw (by first | exact HYB.out.size | exact hb1.size))).trans r0
  replace r1 := (hB2.cell (p := ⟨b, o + 1, none⟩) (Nat.lt_of_lt_of_le hbw (by first | exact HYB.out.size | exact hb1.size))).trans r1
  replace r2 := (hB2.cell (p := ⟨b, o + 2, none⟩) (Nat.lt_of_lt_of_le hbw (by first | exact HYB.out.size | exact hb1.size))).trans r2
  replace r3 := (hB2.cell (p := ⟨b, o + 3, none⟩) (Nat.lt_of_lt_of_le hbw (by first | exact HYB.out.size | exact hb1.size))).trans r3
  replace r4 := (hB2.cell (p := ⟨b, o + 4, none⟩) (Nat.lt_of_lt_of_le hbw (by first | exact HYB.out.size | exact hb1.size))).trans r4
  clear hx1 hB2 hbi hb1 hz1
  obtain ⟨k0, k1, k2, k3, k4, k5, kf⟩ := hx2.cells
  have hxk := hx2.setAt 0 (.int .i64 2) ⟨2, num, [], none, 0, 0, none, 0, 0, none, 0, 0⟩ rfl
  have hbk := hb2.setCell (p := ⟨w.heap.size + 1 + 1, 0, none⟩) (by show _ ≤ w.heap.size + 1 + 1; omega) (.int .i64 2)
  go_upto_region 24 with fail
  generalize w2.setCell ⟨w.heap.size + 1 + 1, 0, none⟩ (.int .i64 2) = X at *
  have hzX : w.heap.size + 3 ≤ X.heap.size := hxk.size3
  clear k0 k1 k2 k3 k4 k5 kf hx2 hb2 hz2 r0 r1 r2 r3 r4 hWY
  have hWX := hW.below hbk hBw
  obtain ⟨k0, k1, k2, k3, k4, k5, kf⟩ := hxk.cells
  obtain ⟨m0, m1, m2, m3, m4, m5, mf⟩ := hxk.rcells
  have hfin := hxk.put
  go_wp2
  refine bodyPost_ret (results_css (ty := 33) rfl _ _ (w.heap.size + 1) _ (itCells ⟨2, num, [], none, 0, 0, none, 0, 0, none, 0, 0⟩) _ _ _ _ rfl rfl rfl hfin Try.underlying33 rfl (by kernel_rfl)) rfl ?_
  exact ⟨⟨_, rfl⟩, hbk.trans ((turn6 _ _ _ _ _ _ _ _).below' hbk.size (by intro x hx; rw [List.mem_singleton] at hx; omega))⟩
set_option maxRecDepth 100000 in
set_option maxHeartbeats 4000000 in
theorem itIncl1 (num : Int) (ind : Bool) (ad : Option Addr) (c : Nat) (n : Nat) (u a : Lx.V) (r : List Lx.V) (w : World) (B : Nat) (hW : WdR.Sl w B (.slice ad n c) (u :: a :: r)) (hBw : B ≤ w.heap.size) (hnl : r.length + 2 = n) (hu : Rl.isW u Rl.sLet = false) (hi : Rl.isW u Rl.sIncl = true) :
    Calls Try.prog 33 #[lnV num ind (.slice ad n c)] w fun e w' => ItEnd w.heap.size e w' (Rl.inclOf num (a :: r)) ∧ Below w.heap.size w w' := by
  have hb0 := fun W => bareW_any u ⟨#[108, 101, 116]⟩ W
  have e_hb0 : bs ⟨#[108, 101, 116]⟩ = Rl.sLet := rfl
  rw [e_hb0, hu] at hb0
  clear e_hb0
  unfold wdV at hb0
  have hbi := fun W => bareW_any u ⟨#[105, 110, 99, 108, 117, 100, 101]⟩ W
  have e_hbi : bs ⟨#[105, 110, 99, 108, 117, 100, 101]⟩ = Rl.sIncl := rfl
  rw [e_hbi, hi] at hbi
  clear e_hbi
  unfold wdV at hbi
  have n1 : (1 : Int) < (n : Int) := by omega
  have n0 : (0 : Int) < (n : Int) := by omega
  have n4 : decide ((n : Int) < 2) = false := decide_eq_false (by omega)
  have HM : Hid (a.mark = true → Rl.inclOf num (a :: r) = .bad (120, 1)) := fun h => by cases r <;> simp [Rl.inclOf, h]
  have HN : Hid (a.mark = false → r ≠ [] → Rl.inclOf num (a :: r) = .bad (120, 2)) := fun h h2 => by
    cases r with
    | nil => exact absurd rfl h2
    | cons y r => simp [Rl.inclOf, h]
  have HO : Hid (a.mark = false → r = [] → Rl.inclOf num (a :: r) = .ok ⟨2, num, [], [], [a], []⟩) := fun h h2 => by
    subst h2; simp [Rl.inclOf, h]
  generalize Rl.inclOf num (a :: r) = R at *
  have HNL : Hid _ := hnl
  clear hu hi hnl
  have hY := xw_is w num ind (.slice ad n c)
  unfold lnV
  go_enter Try.func33, Try.ntmps33
  go_upto_region 3 with fail
  generalize ((w.alloc (.cells #[.int .i64 num, .bool ind, .slice ad n c] 48)).alloc (.cells #[.int .i64 0, .int .i64 0, .string ⟨#[]⟩, .slice none 0 0, .slice none 0 0, .slice none 0 0] 33)).alloc (.cells #[.int .i64 0, .int .i64 num, .string ⟨#[]⟩, .slice none 0 0, .slice none 0 0, .slice none 0 0] 33) = Y at hY ⊢
  have HYB : Hid _ := hY.below
  have HYS : Hid _ := hY.size
  have hWY := hW.below hY.below hBw
  have hBY : B ≤ Y.heap.size := Nat.le_trans hBw hY.below.size
  have hx0 := hY.xb
  clear hY
  obtain ⟨b, o, c', e, hb, r0, r1, r2, r3, r4⟩ := WdR.at hWY 0 (by simp)
  simp only [Value.slice.injEq] at e
  obtain ⟨rfl, -, rfl⟩ := e
  replace r0 : Y.cell? ⟨b, o, none⟩ = some (.string (str u.text)) := r0
  replace r1 : Y.cell? ⟨b, o + 1, none⟩ = some (.int .i64 u.line) := r1
  replace r2 : Y.cell? ⟨b, o + 2, none⟩ = some (.int .i64 u.col) := r2
  replace r3 : Y.cell? ⟨b, o + 3, none⟩ = some (.bool u.quoted) := r3
  replace r4 : Y.cell? ⟨b, o + 4, none⟩ = some (.bool u.mark) := r4
  have hbw : b < w.heap.size := Nat.lt_of_lt_of_le hb hBw
  have hbY : b < Y.heap.size := Nat.lt_of_lt_of_le hb hBY
  go_wp2_with fail
  refine (hb0 _).mono ?_
  rintro e w1 ⟨rfl, hB1⟩
  have hx1 := hx0.below hB1 (by have := HYS.out; omega)
  have hb1 : Below w.heap.size w w1 := HYB.out.trans (hB1.mono HYB.out.size)
  have hz1 : w.heap.size + 3 ≤ w1.heap.size := by have := HYS.out; have := hB1.size; omega
  replace r0 := (hB1.cell (p := ⟨b, o, none⟩) hbY).trans r0
  replace r1 := (hB1.cell (p := ⟨b, o + 1, none⟩) hbY).trans r1
  replace r2 := (hB1.cell (p := ⟨b, o + 2, none⟩) hbY).trans r2
  replace r3 := (hB1.cell (p := ⟨b, o + 3, none⟩) hbY).trans r3
  replace r4 := (hB1.cell (p := ⟨b, o + 4, none⟩) hbY).trans r4
  clear hx0 hB1 hb0
  go_wp2_with fail
  refine (hbi _).mono ?_
  rintro e w2 ⟨rfl, hB2⟩
  have hx2 := hx1.below hB2 (by have := hz1; omega)
  have hb2 : Below w.heap.size w w2 := hb1.trans (hB2.mono hb1.size)
  have hz2 : w.heap.size + 3 ≤ w2.heap.size := by have := hB2.size; omega
  replace r0 := (hB2.cell (p := ⟨b, o, none⟩) (Nat.lt_of_lt_of_le hbw (by first | exact HYB.out.size | exact hb1.size))).trans r0
  replace r1 := (hB2.cell (p := ⟨b, o + 1, none⟩) (Nat.lt_of_lt_of_le hbw (by first | exact HYB.out.size | exact hb1.size))).trans r1
  replace r2 := (hB2.cell (p := ⟨b, o + 2, none⟩) (Nat.lt_of_lt_of_le hbw (by first | exact HYB.out.size | exact hb1.size))).trans r2
  replace r3 := (hB2.cell (p := ⟨b, o + 3, none⟩) (Nat.lt_of_lt_of_le hbw (by first | exact HYB.out.size | exact hb1.size))).trans r3
  replace r4 := (hB2.cell (p := ⟨b, o + 4, none⟩) (Nat.lt_of_lt_of_le hbw (by first | exact HYB.out.size | exact hb1.size))).trans r4
  clear hx1 hB2 hbi hb1 hz1
  obtain ⟨k0, k1, k2, k3, k4, k5, kf⟩ := hx2.cells
  have hxk := hx2.setAt 0 (.int .i64 2) ⟨2, num, [], none, 0, 0, none, 0, 0, none, 0, 0⟩ rfl
  have hbk := hb2.setCell (p := ⟨w.heap.size + 1 + 1, 0, none⟩) (by show _ ≤ w.heap.size + 1 + 1; omega) (.int .i64 2)
  go_upto_region 24 with fail
  generalize w2.setCell ⟨w.heap.size + 1 + 1, 0, none⟩ (.int .i64 2) = X at *
  have hzX : w.heap.size + 3 ≤ X.heap.size := hxk.size3
  clear k0 k1 k2 k3 k4 k5 kf hx2 hb2 hz2 r0 r1 r2 r3 r4 hWY
  have hWX := hW.below hbk hBw
  obtain ⟨b', o', c', e, -, s0, s1, s2, s3, s4⟩ := WdR.at hWX 1 (by simp)
  simp only [Value.slice.injEq, Option.some.injEq, Addr.mk.injEq, and_true] at e
  obtain ⟨⟨rfl, rfl⟩, -, -⟩ := e
  replace s0 : X.cell? ⟨b, o + 5, none⟩ = some (.string (str a.text)) := s0
  replace s1 : X.cell? ⟨b, o + 5 + 1, none⟩ = some (.int .i64 a.line) := s1
  replace s2 : X.cell? ⟨b, o + 5 + 2, none⟩ = some (.int .i64 a.col) := s2
  replace s3 : X.cell? ⟨b, o + 5 + 3, none⟩ = some (.bool a.quoted) := s3
  replace s4 : X.cell? ⟨b, o + 5 + 4, none⟩ = some (.bool a.mark) := s4
  cases hm : a.mark with
  | true =>
    rw [hm] at s4
    have HE : Hid _ := HM.out hm
    clear hm HN HO HM
    obtain ⟨k0, k1, k2, k3, k4, k5, kf⟩ := hxk.cells
    obtain ⟨m0, m1, m2, m3, m4, m5, mf⟩ := hxk.rcells
    have hfin := hxk.put
    go_wp2
    refine bodyPost_ret (results_css (ty := 33) rfl _ _ (w.heap.size + 1) _ (itCells ⟨2, num, [], none, 0, 0, none, 0, 0, none, 0, 0⟩) _ _ _ _ rfl rfl rfl hfin Try.underlying33 rfl (by kernel_rfl)) rfl ?_
    rw [HE.out]
    exact ⟨⟨_, rfl⟩, hbk.trans ((turn6 _ _ _ _ _ _ _ _).below' hbk.size (by intro x hx; rw [List.mem_singleton] at hx; omega))⟩
  | false =>
  rw [hm] at s4
  by_cases hr : r = []
  rotate_left
  · have HE : Hid _ := HN.out hm hr
    have n5 : (2 : Int) < (n : Int) := by
      have := List.length_pos_iff.2 hr
      have := HNL.out
      omega
    clear hm hr HN HO HM
    obtain ⟨k0, k1, k2, k3, k4, k5, kf⟩ := hxk.cells
    obtain ⟨m0, m1, m2, m3, m4, m5, mf⟩ := hxk.rcells
    have hfin := hxk.put
    go_wp2
    refine bodyPost_ret (results_css (ty := 33) rfl _ _ (w.heap.size + 1) _ (itCells ⟨2, num, [], none, 0, 0, none, 0, 0, none, 0, 0⟩) _ _ _ _ rfl rfl rfl hfin Try.underlying33 rfl (by kernel_rfl)) rfl ?_
    rw [HE.out]
    exact ⟨⟨_, rfl⟩, hbk.trans ((turn6 _ _ _ _ _ _ _ _).below' hbk.size (by intro x hx; rw [List.mem_singleton] at hx; omega))⟩
  have HE : Hid _ := HO.out hm hr
  have n5 : decide ((2 : Int) < (n : Int)) = false := decide_eq_false (by have := HNL.out; rw [hr] at this; simp at this; omega)
  have n6 : ¬ (2 : Int) < (n : Int) := of_decide_eq_false n5
  have HXE : Hid ((⟨a.text, a.line, a.col, a.quoted, false⟩ : Lx.V) = a) := by show _ = _; rw [← hm]
  clear hm hr HN HO HM HNL
  obtain ⟨k0, k1, k2, k3, k4, k5, kf⟩ := hxk.cells
  have bb := below_box X (.cells #[.string (str a.text), .int .i64 a.line, .int .i64 a.col, .bool a.quoted, .bool false] 36)
  have hx7 := (hxk.below bb (by omega)).below ((Below.refl (X.alloc (.cells #[.string (str a.text), .int .i64 a.line, .int .i64 a.col, .bool a.quoted, .bool false] 36)).heap.size _).drew) (by have := bb.size; omega)
  have hO7 := (Rc.Own.nil (R := WdR) (X.alloc (.cells #[.string (str a.text), .int .i64 a.line, .int .i64 a.col, .bool a.quoted, .bool false] 36)).drew (w.heap.size + 3))
  have hL7 := (WdR.lit X ⟨a.text, a.line, a.col, a.quoted, false⟩ #[.string (str a.text), .int .i64 a.line, .int .i64 a.col, .bool a.quoted, .bool false] rfl).below ((Below.refl (X.heap.size + 1) _).drew) (Nat.le_refl _)
  have hb7 := ((hbk.alloc hbk.size (.cells #[.string (str a.text), .int .i64 a.line, .int .i64 a.col, .bool a.quoted, .bool false] 36)).drew)
  have hz7 : w.heap.size + 3 ≤ (X.alloc (.cells #[.string (str a.text), .int .i64 a.line, .int .i64 a.col, .bool a.quoted, .bool false] 36)).drew.heap.size := Nat.le_trans hzX bb.size
  have HRW : Hid (∀ kk, (Value.slice none 0 0).ownBlock = some kk → w.heap.size + 3 ≤ kk) := fun kk e => by cases e
  have HLn : Hid (([] : List Lx.V).length + [(⟨a.text, a.line, a.col, a.quoted, false⟩ : Lx.V)].length ≤ 1099511627) := by show _ ≤ _; simp
  have k4a := (hxk.below bb (by omega)).cells.2.2.2.2.1
  have k4b := hx7.cells.2.2.2.2.1
  go_wp2_with fail
  go_cut [] (fun W => ∃ g2 cap, XB W w.heap.size ⟨2, num, [], none, 0, 0, some ⟨g2, 0, none⟩, 1, cap, none, 0, 0⟩ ∧ WdR.Own W (w.heap.size + 3) (.slice (some ⟨g2, 0, none⟩) 1 cap) [a] ∧ Below w.heap.size w W)
  case first =>
    go_region_law (refine Rc.step_append WdR (by rfl) (.tmp 98) (.tmp 102) (by rfl) (w.heap.size + 3) (X.heap.size + 1) _ _ [] [⟨a.text, a.line, a.col, a.quoted, false⟩] (by rfl) hO7 (by rfl) hL7 (by simp) HLn hz7 ?_; intro g2 cap w7 hown7 hgrow7; have hx8 := hx7.grown hgrow7 HRW.out hz7; have k48 := hx8.cells.2.2.2.2.1; have kf8 := hx8.cells.2.2.2.2.2.2)
    all_goals have hx9 := hx8.setAt 4 (.slice (some ⟨g2, 0, none⟩) 1 cap) ⟨2, num, [], none, 0, 0, some ⟨g2, 0, none⟩, 1, cap, none, 0, 0⟩ rfl
    all_goals have hO9 := own_set4 (LK := []) (g := w.heap.size + 1 + 1) hown7 HXE.out (by omega) 4 (.slice (some ⟨g2, 0, none⟩) 1 cap)
    all_goals have hb8 := hb7.grown hgrow7 hb7.size (fun q e => by have := HRW.out q e; omega)
    all_goals have hb9 := hb8.setCell (p := ⟨w.heap.size + 1 + 1, 4, none⟩) (by show _ ≤ w.heap.size + 1 + 1; omega) (.slice (some ⟨g2, 0, none⟩) 1 cap)
    all_goals go_wp2
    all_goals go_meet
    all_goals exact ⟨g2, cap, hx9, hO9, hb9⟩
  case rest =>
  obtain ⟨g2, cap, hxc, hOr, hbc⟩ := hcut
  clear hx7 hO7 hL7 hb7 hz7 bb k0 k1 k2 k3 k4 k5 kf k4a k4b
  obtain ⟨k0, k1, k2, k3, k4, k5, kf⟩ := hxc.cells
  obtain ⟨m0, m1, m2, m3, m4, m5, mf⟩ := hxc.rcells
  have hfin := hxc.put
  have hOq := fun a0 a1 a2 a3 a4 a5 => Rc.Own.low (R := WdR) (B' := w.heap.size) (Row.turn hOr (S := [w.heap.size + 1]) (turn6 wc (w.heap.size + 1) a0 a1 a2 a3 a4 a5) fun q hq => by
    have := (World.ownsRow.lt hOr q hq).1
    rw [List.mem_singleton]
    omega) (by omega)
  go_wp2
  refine bodyPost_ret (results_css (ty := 33) rfl _ _ (w.heap.size + 1) _ (itCells ⟨2, num, [], none, 0, 0, some ⟨g2, 0, none⟩, 1, cap, none, 0, 0⟩) _ _ _ _ rfl rfl rfl hfin Try.underlying33 rfl (by kernel_rfl)) rfl ?_
  rw [HE.out]
  exact ⟨⟨_, rfl, rfl, rfl, rfl, Rc.Own.nil _ _, hOq _ _ _ _ _ _, rfl, rfl, rfl, rfl⟩, hbc.trans ((turn6 _ _ _ _ _ _ _ _).below' hbc.size (by intro x hx; rw [List.mem_singleton] at hx; omega))⟩

end Go.Proofs.Ythpipbkbldlfjaa
