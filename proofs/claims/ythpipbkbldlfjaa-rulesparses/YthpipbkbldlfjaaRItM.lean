/-
  WHAT THE DOCUMENT's Item DOES WITH A let OF THREE WORDS AND MORE.
-/
import Derived.Test.YthpipbkbldlfjaaRItL
namespace Go.Proofs.Ythpipbkbldlfjaa
open Go.RowKit

theorem XB.grown {W W' : World} {g : Nat} {r : RawI} {row : Option Nat} (h : XB W g r) (hg : W.grownBy W' row) (hr : ∀ k, row = some k → g + 3 ≤ k) (hz : g + 3 ≤ W.heap.size) : XB W' g r :=
  ⟨(hg.block _ (by omega) (fun e => by have := hr _ e.symm; omega)).trans h.res, (hg.block _ (by omega) (fun e => by have := hr _ e.symm; omega)).trans h.it⟩
theorem XB.size3 {W : World} {g : Nat} {r : RawI} (h : XB W g r) : g + 3 ≤ W.heap.size := by
  have := (Array.getElem?_eq_some_iff.1 h.it).1
  omega
theorem own_set4 {w7 : World} {g2 cap base g : Nat} {LK : List Lx.V} {x x' : Lx.V} (h : WdR.Own w7 base (.slice (some ⟨g2, 0, none⟩) (LK.length + [x'].length) cap) (LK ++ [x'])) (he : x' = x) (hg : g < base) (j : Nat) (v : Value) : WdR.Own (w7.setCell ⟨g, j, none⟩ v) base (.slice (some ⟨g2, 0, none⟩) (LK.length + 1) cap) (LK ++ [x]) := by
  subst he
  exact Row.turn h (S := [g]) ((Turn.refl _ w7).set (p := ⟨g, j, none⟩) (by simp) _) fun q hq => by
    have := (World.ownsRow.lt h q hq).1
    rw [List.mem_singleton]
    omega
theorem take_drop_more {α : Type} (l : List α) (d : α) {k m : Nat} (hk : k < l.length) (hm : m ≤ k) : (l.take (k + 1)).drop m = (l.take k).drop m ++ [l.getD k d] := by
  rw [List.take_succ_eq_append_getElem hk, List.drop_append_of_le_length (by rw [List.length_take]; omega)]
  simp [List.getD, List.getElem?_eq_getElem hk]
theorem Rl.clean_step {l : List Lx.V} {k : Nat} (hk : k < l.length) (n : Nat) : Rl.clean n (l.drop k) = if (l.getD k Lx.noV).mark = true then some n else Rl.clean (n + 1) (l.drop (k + 1)) := by
  rw [List.drop_eq_getElem_cons hk, Rl.clean]
  simp [List.getD, List.getElem?_eq_getElem hk]

set_option maxRecDepth 100000 in
set_option maxHeartbeats 4000000 in
theorem itLet2a (num : Int) (ind : Bool) (ad : Option Addr) (c : Nat) (u a m : Lx.V) (r : List Lx.V) (w : World) (B : Nat) (hW : WdR.Sl w B (.slice ad (r.length + 3) c) (u :: a :: m :: r)) (hBw : B ≤ w.heap.size) (hu : Rl.isW u Rl.sLet = true) (hal : a.text.length ≤ 1099511627) (hl : r.length ≤ 131072) (hbad : a.quoted = true ∨ a.mark = true ∨ Rl.name a.text = false ∨ Rl.isM m [61] = false) :
    Calls Try.prog 33 #[lnV num ind (.slice ad (r.length + 3) c)] w fun e w' => ItEnd w.heap.size e w' (Rl.letOf num (a :: m :: r)) ∧ Below w.heap.size w w' := by
  have hb0 := fun W => bareW_any u ⟨#[108, 101, 116]⟩ W
  have e0 : bs ⟨#[108, 101, 116]⟩ = Rl.sLet := rfl
  rw [e0, hu] at hb0
  unfold wdV at hb0
  have HQ : Hid (a.quoted = true → Rl.letOf num (a :: m :: r) = .bad (121, 1)) := fun h => by simp [Rl.letOf, h]
  have HM : Hid (a.mark = true → Rl.letOf num (a :: m :: r) = .bad (121, 1)) := fun h => by simp [Rl.letOf, h]
  have HN : Hid (Rl.name a.text = false → Rl.letOf num (a :: m :: r) = .bad (121, 1)) := fun h => by simp [Rl.letOf, h]
  have HO : Hid (a.quoted = false → a.mark = false → Rl.name a.text = true → Rl.letOf num (a :: m :: r) = if Rl.isM m [61] = false then .bad (120, 2) else match Rl.clean 3 r with | some i => .bad (120, i) | none => .ok ⟨1, num, a.text, [], r, []⟩) := fun h1 h2 h3 => by
    simp [Rl.letOf, h1, h2, h3]
    rfl
  generalize Rl.letOf num (a :: m :: r) = R at *
  obtain ⟨n, hn0⟩ : ∃ n, r.length + 3 = n := ⟨_, rfl⟩
  rw [hn0] at hW ⊢
  have HNL : Hid _ := hn0
  have HBAD : Hid _ := hbad
  clear hbad
  have n1 : (1 : Int) < (n : Int) := by omega
  have n2 : (2 : Int) < (n : Int) := by omega
  have n4 : decide ((n : Int) < 2) = false := decide_eq_false (by omega)
  have HL : Hid _ := hl
  clear hn0 hl
  have hY := xw_is w num ind (.slice ad n c)
  unfold lnV
  go_enter Try.func33, Try.ntmps33
  go_upto_region 3 with fail
  generalize ((w.alloc (.cells #[.int .i64 num, .bool ind, .slice ad n c] 48)).alloc (.cells #[.int .i64 0, .int .i64 0, .string ⟨#[]⟩, .slice none 0 0, .slice none 0 0, .slice none 0 0] 33)).alloc (.cells #[.int .i64 0, .int .i64 num, .string ⟨#[]⟩, .slice none 0 0, .slice none 0 0, .slice none 0 0] 33) = Y at hY ⊢
  have HYB : Hid _ := hY.below
  have HYS : Hid _ := hY.size
  have hWY := hW.below hY.below hBw
  have hBY : B ≤ Y.heap.size := Nat.le_trans hBw hY.below.size
  have hx0 := hY.xb
  clear hY
  obtain ⟨b, o, c', e, hb, r0, r1, r2, r3, r4⟩ := WdR.at hWY 0 (by simp)
  simp only [Value.slice.injEq] at e
  obtain ⟨rfl, -, rfl⟩ := e
  replace r0 : Y.cell? ⟨b, o, none⟩ = some (.string (str u.text)) := r0
  replace r1 : Y.cell? ⟨b, o + 1, none⟩ = some (.int .i64 u.line) := r1
  replace r2 : Y.cell? ⟨b, o + 2, none⟩ = some (.int .i64 u.col) := r2
  replace r3 : Y.cell? ⟨b, o + 3, none⟩ = some (.bool u.quoted) := r3
  replace r4 : Y.cell? ⟨b, o + 4, none⟩ = some (.bool u.mark) := r4
  go_wp2_with fail
  refine (hb0 _).mono ?_
  rintro e w1 ⟨rfl, hB1⟩
  have hx1 := hx0.below hB1 (by have := HYS.out; omega)
  have hb1 : Below w.heap.size w w1 := HYB.out.trans (hB1.mono HYB.out.size)
  have hbY : b < Y.heap.size := Nat.lt_of_lt_of_le hb hBY
  obtain ⟨k0, k1, k2, k3, k4, k5, kf⟩ := hx1.cells
  have hx2 := hx1.setAt 0 (.int .i64 1) ⟨1, num, [], none, 0, 0, none, 0, 0, none, 0, 0⟩ rfl
  have hb2 := hb1.setCell (p := ⟨w.heap.size + 1 + 1, 0, none⟩) (by show _ ≤ w.heap.size + 1 + 1; omega) (.int .i64 1)
  go_upto_region 6 with fail
  generalize w1.setCell ⟨w.heap.size + 1 + 1, 0, none⟩ (.int .i64 1) = X at *
  clear k0 k1 k2 k3 k4 k5 kf hx0 hx1 hb1
  have hWX := hW.below hb2 hBw
  have hbw : b < w.heap.size := Nat.lt_of_lt_of_le hb hBw
  obtain ⟨b', o', c', e, -, s0, s1, s2, s3, s4⟩ := WdR.at hWX 1 (by simp)
  simp only [Value.slice.injEq, Option.some.injEq, Addr.mk.injEq, and_true] at e
  obtain ⟨⟨rfl, rfl⟩, -, -⟩ := e
  replace s0 : X.cell? ⟨b, o + 5, none⟩ = some (.string (str a.text)) := s0
  replace s1 : X.cell? ⟨b, o + 5 + 1, none⟩ = some (.int .i64 a.line) := s1
  replace s2 : X.cell? ⟨b, o + 5 + 2, none⟩ = some (.int .i64 a.col) := s2
  replace s3 : X.cell? ⟨b, o + 5 + 3, none⟩ = some (.bool a.quoted) := s3
  replace s4 : X.cell? ⟨b, o + 5 + 4, none⟩ = some (.bool a.mark) := s4
  have hnm := fun W => NameT_any (str a.text) W (by rw [str_size]; exact hal)
  rw [bs_str] at hnm
  cases hq : a.quoted with
  | true =>
    rw [hq] at s3
    have HE : Hid _ := HQ.out hq
    clear hq
    obtain ⟨k0, k1, k2, k3, k4, k5, kf⟩ := hx2.cells
    obtain ⟨m0, m1, m2, m3, m4, m5, mf⟩ := hx2.rcells
    have hfin := hx2.put
    go_wp2
    refine bodyPost_ret (results_css (ty := 33) rfl _ _ (w.heap.size + 1) _ (itCells ⟨1, num, [], none, 0, 0, none, 0, 0, none, 0, 0⟩) _ _ _ _ rfl rfl rfl hfin Try.underlying33 rfl (by kernel_rfl)) rfl ?_
    rw [HE.out]
    exact ⟨⟨_, rfl⟩, hb2.trans ((turn6 _ _ _ _ _ _ _ _).below' hb2.size (by intro x hx; rw [List.mem_singleton] at hx; omega))⟩
  | false =>
  rw [hq] at s3
  have HQ0 : Hid (a.quoted = false) := hq
  clear hq
  cases hm : a.mark with
  | true =>
    rw [hm] at s4
    have HE : Hid _ := HM.out hm
    clear hm
    obtain ⟨k0, k1, k2, k3, k4, k5, kf⟩ := hx2.cells
    obtain ⟨m0, m1, m2, m3, m4, m5, mf⟩ := hx2.rcells
    have hfin := hx2.put
    go_wp2
    refine bodyPost_ret (results_css (ty := 33) rfl _ _ (w.heap.size + 1) _ (itCells ⟨1, num, [], none, 0, 0, none, 0, 0, none, 0, 0⟩) _ _ _ _ rfl rfl rfl hfin Try.underlying33 rfl (by kernel_rfl)) rfl ?_
    rw [HE.out]
    exact ⟨⟨_, rfl⟩, hb2.trans ((turn6 _ _ _ _ _ _ _ _).below' hb2.size (by intro x hx; rw [List.mem_singleton] at hx; omega))⟩
  | false =>
  rw [hm] at s4
  have HO2 : Hid _ := HO.out HQ0.out hm
  have HM0 : Hid (a.mark = false) := hm
  clear hm
  cases hn : Rl.name a.text with
  | false =>
    have HE : Hid _ := HN.out hn
    rw [hn] at hnm
    clear hn
    go_wp2_with fail
    refine (hnm _).mono ?_
    rintro e w4 ⟨rfl, hw4⟩
    have hw5 := hw4.symm
    clear hw4
    subst hw5
    obtain ⟨k0, k1, k2, k3, k4, k5, kf⟩ := hx2.cells
    obtain ⟨m0, m1, m2, m3, m4, m5, mf⟩ := hx2.rcells
    have hfin := hx2.put
    go_wp2
    refine bodyPost_ret (results_css (ty := 33) rfl _ _ (w.heap.size + 1) _ (itCells ⟨1, num, [], none, 0, 0, none, 0, 0, none, 0, 0⟩) _ _ _ _ rfl rfl rfl hfin Try.underlying33 rfl (by kernel_rfl)) rfl ?_
    rw [HE.out]
    exact ⟨⟨_, rfl⟩, hb2.trans ((turn6 _ _ _ _ _ _ _ _).below' hb2.size (by intro x hx; rw [List.mem_singleton] at hx; omega))⟩
  | true =>
  have HE : Hid _ := HO2.out hn
  have HN0 : Hid (Rl.name a.text = true) := hn
  rw [hn] at hnm
  clear hn HO HO2 HQ HM HN
  go_wp2_with fail
  refine (hnm _).mono ?_
  rintro e w4 ⟨rfl, hw4⟩
  have hw5 := hw4.symm
  clear hw4
  subst hw5
  have n3 : decide ((n : Int) < 3) = false := decide_eq_false (by have := HNL.out; omega)
  obtain ⟨b', o', c', e, -, t0, t1, t2, t3, t4⟩ := WdR.at hWX 2 (by simp)
  simp only [Value.slice.injEq, Option.some.injEq, Addr.mk.injEq, and_true] at e
  obtain ⟨⟨rfl, rfl⟩, -, -⟩ := e
  replace t0 : X.cell? ⟨b, o + 10, none⟩ = some (.string (str m.text)) := t0
  replace t1 : X.cell? ⟨b, o + 10 + 1, none⟩ = some (.int .i64 m.line) := t1
  replace t2 : X.cell? ⟨b, o + 10 + 2, none⟩ = some (.int .i64 m.col) := t2
  replace t3 : X.cell? ⟨b, o + 10 + 3, none⟩ = some (.bool m.quoted) := t3
  replace t4 : X.cell? ⟨b, o + 10 + 4, none⟩ = some (.bool m.mark) := t4
  have hmk := fun W => markW_any m ⟨#[61]⟩ W
  rw [show bs ⟨#[61]⟩ = [61] from rfl] at hmk
  unfold wdV at hmk
  have hz3 : w.heap.size + 3 ≤ X.heap.size := by
    have := (Array.getElem?_eq_some_iff.1 hx2.it).1
    omega
  go_wp2_with fail
  refine (hmk _).mono ?_
  rintro e w5 ⟨rfl, hB5⟩
  have hb5 := hb2.trans (hB5.mono hb2.size)
  have hx5 := hx2.below hB5 (by omega)
  have hbX : b < X.heap.size := Nat.lt_of_lt_of_le hbw hb2.size
  cases hM : Rl.isM m [61] with
  | false =>
    have HE2 : Hid (R = .bad (120, 2)) := by show _ = _; rw [HE.out, if_pos hM]
    clear hM HE
    obtain ⟨k0, k1, k2, k3, k4, k5, kf⟩ := hx5.cells
    obtain ⟨m0, m1, m2, m3, m4, m5, mf⟩ := hx5.rcells
    have hfin := hx5.put
    go_wp2
    refine bodyPost_ret (results_css (ty := 33) rfl _ _ (w.heap.size + 1) _ (itCells ⟨1, num, [], none, 0, 0, none, 0, 0, none, 0, 0⟩) _ _ _ _ rfl rfl rfl hfin Try.underlying33 rfl (by kernel_rfl)) rfl ?_
    rw [HE2.out]
    exact ⟨⟨_, rfl⟩, hb5.trans ((turn6 _ _ _ _ _ _ _ _).below' hb5.size (by intro x hx; rw [List.mem_singleton] at hx; omega))⟩
  | true =>
    exfalso
    rcases HBAD.out with h | h | h | h
    · rw [HQ0.out] at h; cases h
    · rw [HM0.out] at h; cases h
    · rw [HN0.out] at h; cases h
    · rw [hM] at h; cases h
set_option maxRecDepth 100000 in
set_option maxHeartbeats 4000000 in
theorem itLet2b (num : Int) (ind : Bool) (ad : Option Addr) (c : Nat) (u a m : Lx.V) (r : List Lx.V) (w : World) (B : Nat) (hW : WdR.Sl w B (.slice ad (r.length + 3) c) (u :: a :: m :: r)) (hBw : B ≤ w.heap.size) (hu : Rl.isW u Rl.sLet = true) (hal : a.text.length ≤ 1099511627) (hl : r.length ≤ 131072) (hq : a.quoted = false) (hm : a.mark = false) (hn : Rl.name a.text = true) (hM : Rl.isM m [61] = true) :
    Calls Try.prog 33 #[lnV num ind (.slice ad (r.length + 3) c)] w fun e w' => ItEnd w.heap.size e w' (Rl.letOf num (a :: m :: r)) ∧ Below w.heap.size w w' := by
  have hb0 := fun W => bareW_any u ⟨#[108, 101, 116]⟩ W
  have e0 : bs ⟨#[108, 101, 116]⟩ = Rl.sLet := rfl
  rw [e0, hu] at hb0
  unfold wdV at hb0
  have HE2 : Hid (Rl.letOf num (a :: m :: r) = match Rl.clean 3 ((u :: a :: m :: r).drop 3) with | some i => .bad (120, i) | none => .ok ⟨1, num, a.text, [], r, []⟩) := by
    show _ = _
    simp [Rl.letOf, hq, hm, hn, hM]
    rfl
  generalize Rl.letOf num (a :: m :: r) = R at *
  obtain ⟨n, hn0⟩ : ∃ n, r.length + 3 = n := ⟨_, rfl⟩
  rw [hn0] at hW ⊢
  have HNL : Hid _ := hn0
  have n1 : (1 : Int) < (n : Int) := by omega
  have n2 : (2 : Int) < (n : Int) := by omega
  have n4 : decide ((n : Int) < 2) = false := decide_eq_false (by omega)
  have HL : Hid _ := hl
  clear hn0 hl
  have hY := xw_is w num ind (.slice ad n c)
  unfold lnV
  go_enter Try.func33, Try.ntmps33
  go_upto_region 3 with fail
  generalize ((w.alloc (.cells #[.int .i64 num, .bool ind, .slice ad n c] 48)).alloc (.cells #[.int .i64 0, .int .i64 0, .string ⟨#[]⟩, .slice none 0 0, .slice none 0 0, .slice none 0 0] 33)).alloc (.cells #[.int .i64 0, .int .i64 num, .string ⟨#[]⟩, .slice none 0 0, .slice none 0 0, .slice none 0 0] 33) = Y at hY ⊢
  have HYB : Hid _ := hY.below
  have HYS : Hid _ := hY.size
  have hWY := hW.below hY.below hBw
  have hBY : B ≤ Y.heap.size := Nat.le_trans hBw hY.below.size
  have hx0 := hY.xb
  clear hY
  obtain ⟨b, o, c', e, hb, r0, r1, r2, r3, r4⟩ := WdR.at hWY 0 (by simp)
  simp only [Value.slice.injEq] at e
  obtain ⟨rfl, -, rfl⟩ := e
  replace r0 : Y.cell? ⟨b, o, none⟩ = some (.string (str u.text)) := r0
  replace r1 : Y.cell? ⟨b, o + 1, none⟩ = some (.int .i64 u.line) := r1
  replace r2 : Y.cell? ⟨b, o + 2, none⟩ = some (.int .i64 u.col) := r2
  replace r3 : Y.cell? ⟨b, o + 3, none⟩ = some (.bool u.quoted) := r3
  replace r4 : Y.cell? ⟨b, o + 4, none⟩ = some (.bool u.mark) := r4
  go_wp2_with fail
  refine (hb0 _).mono ?_
  rintro e w1 ⟨rfl, hB1⟩
  have hx1 := hx0.below hB1 (by have := HYS.out; omega)
  have hb1 : Below w.heap.size w w1 := HYB.out.trans (hB1.mono HYB.out.size)
  have hbY : b < Y.heap.size := Nat.lt_of_lt_of_le hb hBY
  obtain ⟨k0, k1, k2, k3, k4, k5, kf⟩ := hx1.cells
  have hx2 := hx1.setAt 0 (.int .i64 1) ⟨1, num, [], none, 0, 0, none, 0, 0, none, 0, 0⟩ rfl
  have hb2 := hb1.setCell (p := ⟨w.heap.size + 1 + 1, 0, none⟩) (by show _ ≤ w.heap.size + 1 + 1; omega) (.int .i64 1)
  go_upto_region 6 with fail
  generalize w1.setCell ⟨w.heap.size + 1 + 1, 0, none⟩ (.int .i64 1) = X at *
  clear k0 k1 k2 k3 k4 k5 kf hx0 hx1 hb1
  have hWX := hW.below hb2 hBw
  have hbw : b < w.heap.size := Nat.lt_of_lt_of_le hb hBw
  obtain ⟨b', o', c', e, -, s0, s1, s2, s3, s4⟩ := WdR.at hWX 1 (by simp)
  simp only [Value.slice.injEq, Option.some.injEq, Addr.mk.injEq, and_true] at e
  obtain ⟨⟨rfl, rfl⟩, -, -⟩ := e
  replace s0 : X.cell? ⟨b, o + 5, none⟩ = some (.string (str a.text)) := s0
  replace s1 : X.cell? ⟨b, o + 5 + 1, none⟩ = some (.int .i64 a.line) := s1
  replace s2 : X.cell? ⟨b, o + 5 + 2, none⟩ = some (.int .i64 a.col) := s2
  replace s3 : X.cell? ⟨b, o + 5 + 3, none⟩ = some (.bool a.quoted) := s3
  replace s4 : X.cell? ⟨b, o + 5 + 4, none⟩ = some (.bool a.mark) := s4
  have hnm := fun W => NameT_any (str a.text) W (by rw [str_size]; exact hal)
  rw [bs_str, hn] at hnm
  rw [hq] at s3
  rw [hm] at s4
  clear hq hm hn
  go_wp2_with fail
  refine (hnm _).mono ?_
  rintro e w4 ⟨rfl, hw4⟩
  have hw5 := hw4.symm
  clear hw4
  subst hw5
  have n3 : decide ((n : Int) < 3) = false := decide_eq_false (by have := HNL.out; omega)
  obtain ⟨b', o', c', e, -, t0, t1, t2, t3, t4⟩ := WdR.at hWX 2 (by simp)
  simp only [Value.slice.injEq, Option.some.injEq, Addr.mk.injEq, and_true] at e
  obtain ⟨⟨rfl, rfl⟩, -, -⟩ := e
  replace t0 : X.cell? ⟨b, o + 10, none⟩ = some (.string (str m.text)) := t0
  replace t1 : X.cell? ⟨b, o + 10 + 1, none⟩ = some (.int .i64 m.line) := t1
  replace t2 : X.cell? ⟨b, o + 10 + 2, none⟩ = some (.int .i64 m.col) := t2
  replace t3 : X.cell? ⟨b, o + 10 + 3, none⟩ = some (.bool m.quoted) := t3
  replace t4 : X.cell? ⟨b, o + 10 + 4, none⟩ = some (.bool m.mark) := t4
  have hmk := fun W => markW_any m ⟨#[61]⟩ W
  rw [show bs ⟨#[61]⟩ = [61] from rfl] at hmk
  rw [hM] at hmk
  clear hM
  unfold wdV at hmk
  have hz3 : w.heap.size + 3 ≤ X.heap.size := by
    have := (Array.getElem?_eq_some_iff.1 hx2.it).1
    omega
  go_wp2_with fail
  refine (hmk _).mono ?_
  rintro e w5 ⟨rfl, hB5⟩
  have hb5 := hb2.trans (hB5.mono hb2.size)
  have hx5 := hx2.below hB5 (by omega)
  have hbX : b < X.heap.size := Nat.lt_of_lt_of_le hbw hb2.size
  have s0' := (hB5.cell (p := ⟨b, o + 5, none⟩) hbX).trans s0
  obtain ⟨k0, k1, k2, k3, k4, k5, kf⟩ := hx5.cells
  have hx6 := hx5.setAt 2 (.string (str a.text)) ⟨1, num, a.text, none, 0, 0, none, 0, 0, none, 0, 0⟩ rfl
  have hb6 := hb5.setCell (p := ⟨w.heap.size + 1 + 1, 2, none⟩) (by show _ ≤ w.heap.size + 1 + 1; omega) (.string (str a.text))
  go_upto_region 15 with fail
  generalize w5.setCell ⟨w.heap.size + 1 + 1, 2, none⟩ (.string (str a.text)) = X6 at *
  have hz6 : w.heap.size + 3 ≤ X6.heap.size := by
    have := (Array.getElem?_eq_some_iff.1 hx6.it).1
    omega
  clear k0 k1 k2 k3 k4 k5 kf s0' s0 s1 s2 s3 s4 t0 t1 t2 t3 t4 hWX hx2 hx5 hb2 hb5 hB5 hWY hnm hmk hb0
  obtain ⟨WS, hWS⟩ : ∃ WS, u :: a :: m :: r = WS := ⟨_, rfl⟩
  have hWl : WS.length = n := by rw [← hWS]; simp only [List.length_cons]; have := HNL.out; omega
  have HWD : Hid (WS.drop 3 = r) := by show _ = _; rw [← hWS]; rfl
  rw [hWS] at hW HE2
  clear hWS
  have HWL : Hid _ := hWl
  clear hWl
  go_wp2
  go_loopw [8] (fun i X => ∃ (k : Nat) (wa : Option Addr) (wn wc_ : Nat), 3 ≤ k ∧ k ≤ n ∧ i = .int .i64 (k : Int) ∧ XB X w.heap.size ⟨1, num, a.text, none, 0, 0, wa, wn, wc_, none, 0, 0⟩ ∧ WdR.Own X (w.heap.size + 3) (.slice wa wn wc_) ((WS.take k).drop 3) ∧ Hid (R = match Rl.clean k (WS.drop k) with | some i => .bad (120, i) | none => .ok ⟨1, num, a.text, [], r, []⟩) ∧ Below w.heap.size w X ∧ w.heap.size + 3 ≤ X.heap.size) (fun i _ => n - (intOf i).toNat)
  case atStart => exact ⟨3, none, 0, 0, Nat.le_refl _, by have := HNL.out; omega, rfl, hx6, by rw [List.drop_of_length_le (by rw [List.length_take]; omega)]; exact Rc.Own.nil _ _, HE2, hb6, hz6⟩
  case round =>
    obtain ⟨k, wa, wn, wc_, hk3, hkn, rfl, hxk, hOk, HRk, hbk, hzk⟩ := hrel
    by_cases hlt : k < n
    · have i1 : (k : Int) < (n : Int) := by omega
      have HLT : Hid (k + 1 ≤ n) := hlt
      have n7 : (k : Int) ≤ 131075 := by have := HNL.out; have := HL.out; omega
      have hkl : k < WS.length := by rw [HWL.out]; exact hlt
      obtain ⟨b', o', c', e, -, q0, q1, q2, q3, q4⟩ := WdR.at (hW.below hbk hBw) k hkl
      simp only [Value.slice.injEq, Option.some.injEq, Addr.mk.injEq, and_true] at e
      obtain ⟨⟨rfl, rfl⟩, -, -⟩ := e
      have HCS : Hid _ := Rl.clean_step hkl k
      have HTM : Hid _ := take_drop_more WS Lx.noV hkl hk3
      generalize WS.getD k Lx.noV = x at *
      cases hm : x.mark with
      | true =>
        rw [hm] at q4
        have HE3 : Hid (R = .bad (120, k)) := by
          show _ = _
          rw [HRk.out, HCS.out, hm]
          rfl
        clear hm HCS HTM HRk
        obtain ⟨k0, k1, k2, k3, k4, k5, kf⟩ := hxk.cells
        obtain ⟨m0, m1, m2, m3, m4, m5, mf⟩ := hxk.rcells
        have hfin := hxk.put
        go_wp2
        refine bodyPost_ret (results_css (ty := 33) rfl _ _ (w.heap.size + 1) _ (itCells ⟨1, num, a.text, none, 0, 0, wa, wn, wc_, none, 0, 0⟩) _ _ _ _ rfl rfl rfl hfin Try.underlying33 rfl (by kernel_rfl)) rfl ?_
        rw [HE3.out]
        exact ⟨⟨_, rfl⟩, hbk.trans ((turn6 _ _ _ _ _ _ _ _).below' hbk.size (by intro x hx; rw [List.mem_singleton] at hx; omega))⟩
      | false =>
        rw [hm] at q4
        have HE3 : Hid (R = match Rl.clean (k + 1) (WS.drop (k + 1)) with | some i => .bad (120, i) | none => .ok ⟨1, num, a.text, [], r, []⟩) := by
          show _ = _
          rw [HRk.out, HCS.out, hm]
          rfl
        obtain ⟨LK, hLK⟩ : ∃ LK, (WS.take k).drop 3 = LK := ⟨_, rfl⟩
        have hll : ((WS.take k).drop 3).length ≤ 131072 := by rw [List.length_drop, List.length_take]; have := HL.out; have := HWL.out; have := HNL.out; omega
        rw [hLK] at hll hOk HTM
        clear hLK
        have HLn : Hid (LK.length + [(⟨x.text, x.line, x.col, x.quoted, false⟩ : Lx.V)].length ≤ 1099511627) := by show _ ≤ _; simp only [List.length_cons, List.length_nil]; omega
        obtain ⟨k0, k1, k2, k3, k4, k5, kf⟩ := hxk.cells
        have bb := below_box wr (.cells #[.string (str x.text), .int .i64 x.line, .int .i64 x.col, .bool x.quoted, .bool false] 36)
        have hx7 := (hxk.below bb (by omega)).below ((Below.refl (wr.alloc (.cells #[.string (str x.text), .int .i64 x.line, .int .i64 x.col, .bool x.quoted, .bool false] 36)).heap.size _).drew) (by have := bb.size; omega)
        have hO7 := (hOk.alloc (.cells #[.string (str x.text), .int .i64 x.line, .int .i64 x.col, .bool x.quoted, .bool false] 36)).below ((Below.refl (wr.alloc (.cells #[.string (str x.text), .int .i64 x.line, .int .i64 x.col, .bool x.quoted, .bool false] 36)).heap.size _).drew) (Nat.le_refl _)
        have hL7 := (WdR.lit wr ⟨x.text, x.line, x.col, x.quoted, false⟩ #[.string (str x.text), .int .i64 x.line, .int .i64 x.col, .bool x.quoted, .bool false] rfl).below ((Below.refl (wr.heap.size + 1) _).drew) (Nat.le_refl _)
        have hb7 := ((hbk.alloc hbk.size (.cells #[.string (str x.text), .int .i64 x.line, .int .i64 x.col, .bool x.quoted, .bool false] 36)).drew)
        have HXE : Hid ((⟨x.text, x.line, x.col, x.quoted, false⟩ : Lx.V) = x) := by show _ = _; rw [← hm]
        have hz7 : w.heap.size + 3 ≤ (wr.alloc (.cells #[.string (str x.text), .int .i64 x.line, .int .i64 x.col, .bool x.quoted, .bool false] 36)).drew.heap.size := Nat.le_trans hzk bb.size
        have HRW : Hid (∀ kk, (Value.slice wa wn wc_).ownBlock = some kk → w.heap.size + 3 ≤ kk) := fun kk e => (hOk.lt kk e).1
        have k4a := (hxk.below bb (by omega)).cells.2.2.2.2.1
        have k4b := hx7.cells.2.2.2.2.1
        clear hm HCS HRk
        go_wp2_with fail
        go_region_law (refine Rc.step_append WdR (by rfl) (.tmp 72) (.tmp 77) (by rfl) (w.heap.size + 3) (wr.heap.size + 1) _ _ LK [⟨x.text, x.line, x.col, x.quoted, false⟩] (by rfl) hO7 (by rfl) hL7 (by simp) HLn hz7 ?_; intro g2 cap w7 hown7 hgrow7; have hx8 := hx7.grown hgrow7 HRW.out hz7; have k48 := hx8.cells.2.2.2.2.1; have kf8 := hx8.cells.2.2.2.2.2.2)
        all_goals have hx9 := hx8.setAt 4 (.slice (some ⟨g2, 0, none⟩) (LK.length + 1) cap) ⟨1, num, a.text, none, 0, 0, some ⟨g2, 0, none⟩, LK.length + 1, cap, none, 0, 0⟩ rfl
        all_goals have hO9 := own_set4 (g := w.heap.size + 1 + 1) hown7 HXE.out (by omega) 4 (.slice (some ⟨g2, 0, none⟩) (LK.length + 1) cap)
        all_goals have hb8 := hb7.grown hgrow7 hb7.size (fun q e => by have := HRW.out q e; omega)
        all_goals have hb9 := hb8.setCell (p := ⟨w.heap.size + 1 + 1, 4, none⟩) (by show _ ≤ w.heap.size + 1 + 1; omega) (.slice (some ⟨g2, 0, none⟩) (LK.length + 1) cap)
        all_goals have hz9 := hx9.size3
        all_goals rw [← HTM.out] at hO9
        all_goals clear hx8 k48 kf8 hown7 hgrow7 hb8
        all_goals go_wp2
        all_goals exact ⟨⟨k + 1, some ⟨g2, 0, none⟩, LK.length + 1, cap, by omega, HLT.out, by go_num, hx9, hO9, HE3, hb9, hz9⟩, by have := HLT.out; simp [intOf]; omega⟩
    · obtain rfl : k = n := by omega
      have i1 : ¬ (k : Int) < (k : Int) := by omega
      have HE3 : Hid (R = .ok ⟨1, num, a.text, [], r, []⟩) := by
        show _ = _
        rw [HRk.out, List.drop_of_length_le (by rw [HWL.out]; exact Nat.le_refl _)]
        rfl
      have hOr : WdR.Own wr (w.heap.size + 3) (.slice wa wn wc_) r := by
        have := hOk
        rwa [List.take_of_length_le (by rw [HWL.out]; exact Nat.le_refl _), HWD.out] at this
      obtain ⟨k0, k1, k2, k3, k4, k5, kf⟩ := hxk.cells
      obtain ⟨m0, m1, m2, m3, m4, m5, mf⟩ := hxk.rcells
      have hfin := hxk.put
      have hOq := fun a0 a1 a2 a3 a4 a5 => Rc.Own.low (R := WdR) (B' := w.heap.size) (Row.turn hOr (S := [w.heap.size + 1]) (turn6 wr (w.heap.size + 1) a0 a1 a2 a3 a4 a5) fun q hq => by
        have := (World.ownsRow.lt hOr q hq).1
        rw [List.mem_singleton]
        omega) (by omega)
      clear hOk HRk
      go_wp2
      refine bodyPost_ret (results_css (ty := 33) rfl _ _ (w.heap.size + 1) _ (itCells ⟨1, num, a.text, none, 0, 0, wa, wn, wc_, none, 0, 0⟩) _ _ _ _ rfl rfl rfl hfin Try.underlying33 rfl (by kernel_rfl)) rfl ?_
      rw [HE3.out]
      exact ⟨⟨_, rfl, rfl, rfl, rfl, Rc.Own.nil _ _, hOq _ _ _ _ _ _, rfl, rfl, rfl, rfl⟩, hbk.trans ((turn6 _ _ _ _ _ _ _ _).below' hbk.size (by intro x hx; rw [List.mem_singleton] at hx; omega))⟩

end Go.Proofs.Ythpipbkbldlfjaa
