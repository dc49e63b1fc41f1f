/-
  WHAT THE DOCUMENT's Item DOES WITH A let.
-/
import Derived.Test.YthpipbkbldlfjaaRItK
namespace Go.Proofs.Ythpipbkbldlfjaa
open Go.RowKit

set_option maxRecDepth 100000 in
set_option maxHeartbeats 4000000 in
theorem itLet0 (num : Int) (ind : Bool) (ad : Option Addr) (c : Nat) (u : Lx.V) (w : World) (B : Nat) (hW : WdR.Sl w B (.slice ad 1 c) [u]) (hBw : B ≤ w.heap.size) (hu : Rl.isW u Rl.sLet = true) :
    Calls Try.prog 33 #[lnV num ind (.slice ad 1 c)] w fun e w' => ItEnd w.heap.size e w' (.bad (120, 0)) ∧ Below w.heap.size w w' := by
  have hb0 := fun W => bareW_any u ⟨#[108, 101, 116]⟩ W
  have e0 : bs ⟨#[108, 101, 116]⟩ = Rl.sLet := rfl
  rw [e0, hu] at hb0
  unfold wdV at hb0
  have hY := xw_is w num ind (.slice ad 1 c)
  unfold lnV
  go_enter Try.func33, Try.ntmps33
  go_upto_region 3 with fail
  generalize ((w.alloc (.cells #[.int .i64 num, .bool ind, .slice ad 1 c] 48)).alloc (.cells #[.int .i64 0, .int .i64 0, .string ⟨#[]⟩, .slice none 0 0, .slice none 0 0, .slice none 0 0] 33)).alloc (.cells #[.int .i64 0, .int .i64 num, .string ⟨#[]⟩, .slice none 0 0, .slice none 0 0, .slice none 0 0] 33) = Y at hY ⊢
  have HYB : Hid _ := hY.below
  have HYS : Hid _ := hY.size
  have hWY := hW.below hY.below hBw
  have hBY : B ≤ Y.heap.size := Nat.le_trans hBw hY.below.size
  have hx0 := hY.xb
  clear hY
  obtain ⟨b, o, c', e, hb, r0, r1, r2, r3, r4⟩ := WdR.at hWY 0 (by simp)
  simp only [Value.slice.injEq] at e
  obtain ⟨rfl, -, rfl⟩ := e
  replace r0 : Y.cell? ⟨b, o, none⟩ = some (.string (str u.text)) := r0
  replace r1 : Y.cell? ⟨b, o + 1, none⟩ = some (.int .i64 u.line) := r1
  replace r2 : Y.cell? ⟨b, o + 2, none⟩ = some (.int .i64 u.col) := r2
  replace r3 : Y.cell? ⟨b, o + 3, none⟩ = some (.bool u.quoted) := r3
  replace r4 : Y.cell? ⟨b, o + 4, none⟩ = some (.bool u.mark) := r4
  go_wp2_with fail
  refine (hb0 _).mono ?_
  rintro e w1 ⟨rfl, hB1⟩
  have hx1 := hx0.below hB1 (by have := HYS.out; omega)
  have hb1 : Below w.heap.size w w1 := HYB.out.trans (hB1.mono HYB.out.size)
  have hbY : b < Y.heap.size := Nat.lt_of_lt_of_le hb hBY
  obtain ⟨k0, k1, k2, k3, k4, k5, kf⟩ := hx1.cells
  have hx2 := hx1.setAt 0 (.int .i64 1) ⟨1, num, [], none, 0, 0, none, 0, 0, none, 0, 0⟩ rfl
  have hb2 := hb1.setCell (p := ⟨w.heap.size + 1 + 1, 0, none⟩) (by show _ ≤ w.heap.size + 1 + 1; omega) (.int .i64 1)
  go_upto_region 6 with fail
  generalize w1.setCell ⟨w.heap.size + 1 + 1, 0, none⟩ (.int .i64 1) = X at *
  clear k0 k1 k2 k3 k4 k5 kf hx0 hx1 hb1
  obtain ⟨k0, k1, k2, k3, k4, k5, kf⟩ := hx2.cells
  obtain ⟨m0, m1, m2, m3, m4, m5, mf⟩ := hx2.rcells
  have hfin := hx2.put
  go_wp2
  refine bodyPost_ret (results_css (ty := 33) rfl _ _ (w.heap.size + 1) _ (itCells ⟨1, num, [], none, 0, 0, none, 0, 0, none, 0, 0⟩) _ _ _ _ rfl rfl rfl hfin Try.underlying33 rfl (by kernel_rfl)) rfl ?_
  exact ⟨⟨_, rfl⟩, hb2.trans ((turn6 _ _ _ _ _ _ _ _).below' hb2.size (by intro x hx; rw [List.mem_singleton] at hx; omega))⟩
set_option maxRecDepth 100000 in
set_option maxHeartbeats 4000000 in
theorem itLet1 (num : Int) (ind : Bool) (ad : Option Addr) (c : Nat) (u a : Lx.V) (w : World) (B : Nat) (hW : WdR.Sl w B (.slice ad 2 c) [u, a]) (hBw : B ≤ w.heap.size) (hu : Rl.isW u Rl.sLet = true) (hal : a.text.length ≤ 1099511627) :
    Calls Try.prog 33 #[lnV num ind (.slice ad 2 c)] w fun e w' => ItEnd w.heap.size e w' (Rl.letOf num [a]) ∧ Below w.heap.size w w' := by
  have hb0 := fun W => bareW_any u ⟨#[108, 101, 116]⟩ W
  have e0 : bs ⟨#[108, 101, 116]⟩ = Rl.sLet := rfl
  rw [e0, hu] at hb0
  unfold wdV at hb0
  have HQ : Hid (a.quoted = true → Rl.letOf num ([a]) = .bad (121, 1)) := fun h => by simp [Rl.letOf, h]
  have HM : Hid (a.mark = true → Rl.letOf num ([a]) = .bad (121, 1)) := fun h => by simp [Rl.letOf, h]
  have HN : Hid (Rl.name a.text = false → Rl.letOf num ([a]) = .bad (121, 1)) := fun h => by simp [Rl.letOf, h]
  have HO : Hid (a.quoted = false → a.mark = false → Rl.name a.text = true → Rl.letOf num ([a]) = .bad (120, 1)) := fun h1 h2 h3 => by
    simp [Rl.letOf, h1, h2, h3]
  generalize Rl.letOf num ([a]) = R at *
  have hY := xw_is w num ind (.slice ad 2 c)
  unfold lnV
  go_enter Try.func33, Try.ntmps33
  go_upto_region 3 with fail
  generalize ((w.alloc (.cells #[.int .i64 num, .bool ind, .slice ad 2 c] 48)).alloc (.cells #[.int .i64 0, .int .i64 0, .string ⟨#[]⟩, .slice none 0 0, .slice none 0 0, .slice none 0 0] 33)).alloc (.cells #[.int .i64 0, .int .i64 num, .string ⟨#[]⟩, .slice none 0 0, .slice none 0 0, .slice none 0 0] 33) = Y at hY ⊢
  have HYB : Hid _ := hY.below
  have HYS : Hid _ := hY.size
  have hWY := hW.below hY.below hBw
  have hBY : B ≤ Y.heap.size := Nat.le_trans hBw hY.below.size
  have hx0 := hY.xb
  clear hY
  obtain ⟨b, o, c', e, hb, r0, r1, r2, r3, r4⟩ := WdR.at hWY 0 (by simp)
  simp only [Value.slice.injEq] at e
  obtain ⟨rfl, -, rfl⟩ := e
  replace r0 : Y.cell? ⟨b, o, none⟩ = some (.string (str u.text)) := r0
  replace r1 : Y.cell? ⟨b, o + 1, none⟩ = some (.int .i64 u.line) := r1
  replace r2 : Y.cell? ⟨b, o + 2, none⟩ = some (.int .i64 u.col) := r2
  replace r3 : Y.cell? ⟨b, o + 3, none⟩ = some (.bool u.quoted) := r3
  replace r4 : Y.cell? ⟨b, o + 4, none⟩ = some (.bool u.mark) := r4
  go_wp2_with fail
  refine (hb0 _).mono ?_
  rintro e w1 ⟨rfl, hB1⟩
  have hx1 := hx0.below hB1 (by have := HYS.out; omega)
  have hb1 : Below w.heap.size w w1 := HYB.out.trans (hB1.mono HYB.out.size)
  have hbY : b < Y.heap.size := Nat.lt_of_lt_of_le hb hBY
  obtain ⟨k0, k1, k2, k3, k4, k5, kf⟩ := hx1.cells
  have hx2 := hx1.setAt 0 (.int .i64 1) ⟨1, num, [], none, 0, 0, none, 0, 0, none, 0, 0⟩ rfl
  have hb2 := hb1.setCell (p := ⟨w.heap.size + 1 + 1, 0, none⟩) (by show _ ≤ w.heap.size + 1 + 1; omega) (.int .i64 1)
  go_upto_region 6 with fail
  generalize w1.setCell ⟨w.heap.size + 1 + 1, 0, none⟩ (.int .i64 1) = X at *
  clear k0 k1 k2 k3 k4 k5 kf hx0 hx1 hb1
  have hWX := hW.below hb2 hBw
  have hbw : b < w.heap.size := Nat.lt_of_lt_of_le hb hBw
  obtain ⟨b', o', c', e, -, s0, s1, s2, s3, s4⟩ := WdR.at hWX 1 (by simp)
  simp only [Value.slice.injEq, Option.some.injEq, Addr.mk.injEq, and_true] at e
  obtain ⟨⟨rfl, rfl⟩, -, -⟩ := e
  replace s0 : X.cell? ⟨b, o + 5, none⟩ = some (.string (str a.text)) := s0
  replace s1 : X.cell? ⟨b, o + 5 + 1, none⟩ = some (.int .i64 a.line) := s1
  replace s2 : X.cell? ⟨b, o + 5 + 2, none⟩ = some (.int .i64 a.col) := s2
  replace s3 : X.cell? ⟨b, o + 5 + 3, none⟩ = some (.bool a.quoted) := s3
  replace s4 : X.cell? ⟨b, o + 5 + 4, none⟩ = some (.bool a.mark) := s4
  have hnm := fun W => NameT_any (str a.text) W (by rw [str_size]; exact hal)
  rw [bs_str] at hnm
  cases hq : a.quoted with
  | true =>
    rw [hq] at s3
    have HE : Hid _ := HQ.out hq
    clear hq
    obtain ⟨k0, k1, k2, k3, k4, k5, kf⟩ := hx2.cells
    obtain ⟨m0, m1, m2, m3, m4, m5, mf⟩ := hx2.rcells
    have hfin := hx2.put
    go_wp2
    refine bodyPost_ret (results_css (ty := 33) rfl _ _ (w.heap.size + 1) _ (itCells ⟨1, num, [], none, 0, 0, none, 0, 0, none, 0, 0⟩) _ _ _ _ rfl rfl rfl hfin Try.underlying33 rfl (by kernel_rfl)) rfl ?_
    rw [HE.out]
    exact ⟨⟨_, rfl⟩, hb2.trans ((turn6 _ _ _ _ _ _ _ _).below' hb2.size (by intro x hx; rw [List.mem_singleton] at hx; omega))⟩
  | false =>
  rw [hq] at s3
  have HQ0 : Hid (a.quoted = false) := hq
  clear hq
  cases hm : a.mark with
  | true =>
    rw [hm] at s4
    have HE : Hid _ := HM.out hm
    clear hm
    obtain ⟨k0, k1, k2, k3, k4, k5, kf⟩ := hx2.cells
    obtain ⟨m0, m1, m2, m3, m4, m5, mf⟩ := hx2.rcells
    have hfin := hx2.put
    go_wp2
    refine bodyPost_ret (results_css (ty := 33) rfl _ _ (w.heap.size + 1) _ (itCells ⟨1, num, [], none, 0, 0, none, 0, 0, none, 0, 0⟩) _ _ _ _ rfl rfl rfl hfin Try.underlying33 rfl (by kernel_rfl)) rfl ?_
    rw [HE.out]
    exact ⟨⟨_, rfl⟩, hb2.trans ((turn6 _ _ _ _ _ _ _ _).below' hb2.size (by intro x hx; rw [List.mem_singleton] at hx; omega))⟩
  | false =>
  rw [hm] at s4
  have HO2 : Hid _ := HO.out HQ0.out hm
  have HM0 : Hid (a.mark = false) := hm
  clear hm
  cases hn : Rl.name a.text with
  | false =>
    have HE : Hid _ := HN.out hn
    rw [hn] at hnm
    clear hn
    go_wp2_with fail
    refine (hnm _).mono ?_
    rintro e w4 ⟨rfl, hw4⟩
    have hw5 := hw4.symm
    clear hw4
    subst hw5
    obtain ⟨k0, k1, k2, k3, k4, k5, kf⟩ := hx2.cells
    obtain ⟨m0, m1, m2, m3, m4, m5, mf⟩ := hx2.rcells
    have hfin := hx2.put
    go_wp2
    refine bodyPost_ret (results_css (ty := 33) rfl _ _ (w.heap.size + 1) _ (itCells ⟨1, num, [], none, 0, 0, none, 0, 0, none, 0, 0⟩) _ _ _ _ rfl rfl rfl hfin Try.underlying33 rfl (by kernel_rfl)) rfl ?_
    rw [HE.out]
    exact ⟨⟨_, rfl⟩, hb2.trans ((turn6 _ _ _ _ _ _ _ _).below' hb2.size (by intro x hx; rw [List.mem_singleton] at hx; omega))⟩
  | true =>
  have HE : Hid _ := HO2.out hn
  have HN0 : Hid (Rl.name a.text = true) := hn
  rw [hn] at hnm
  clear hn HO HO2 HQ HM HN
  go_wp2_with fail
  refine (hnm _).mono ?_
  rintro e w4 ⟨rfl, hw4⟩
  have hw5 := hw4.symm
  clear hw4
  subst hw5
  obtain ⟨k0, k1, k2, k3, k4, k5, kf⟩ := hx2.cells
  obtain ⟨m0, m1, m2, m3, m4, m5, mf⟩ := hx2.rcells
  have hfin := hx2.put
  go_wp2
  refine bodyPost_ret (results_css (ty := 33) rfl _ _ (w.heap.size + 1) _ (itCells ⟨1, num, [], none, 0, 0, none, 0, 0, none, 0, 0⟩) _ _ _ _ rfl rfl rfl hfin Try.underlying33 rfl (by kernel_rfl)) rfl ?_
  rw [HE.out]
  exact ⟨⟨_, rfl⟩, hb2.trans ((turn6 _ _ _ _ _ _ _ _).below' hb2.size (by intro x hx; rw [List.mem_singleton] at hx; omega))⟩

end Go.Proofs.Ythpipbkbldlfjaa
