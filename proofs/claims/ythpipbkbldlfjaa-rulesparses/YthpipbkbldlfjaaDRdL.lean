/-
  WHAT THE PROGRAM's readLet DOES.
-/
import Derived.Test.YthpipbkbldlfjaaDName
namespace Go.Proofs.Ythpipbkbldlfjaa
open Go.RowKit

theorem name_str (t : List UInt8) (w : World) : Calls Try.prog 16 #[.string (str t)] w fun e w' => e = .returned (.bool (Rl.name t)) ∧ w' = w := by
  have := Name_any (str t) w
  rwa [bs_str] at this
set_option maxRecDepth 100000 in
set_option maxHeartbeats 1000000 in
theorem let0 (num : Int) (ind : Bool) (ad : Option Addr) (c : Nat) (u : Lx.V) (w : World) (B : Nat) (hW : WdR.Sl w B (.slice ad 1 c) [u]) (hBw : B ≤ w.heap.size) :
    Calls Try.prog 53 #[lnV num ind (.slice ad 1 c)] w fun e w' => RdEnd [u] w.heap.size e w' (.bad (120, 0)) ∧ Below w.heap.size w w' := by
  have hY : RdW w (((w.alloc (.cells #[.int .i64 num, .bool ind, .slice ad 1 c] 48)).alloc (.cells #[.int .i64 0, .int .i64 0, .string ⟨#[]⟩, .slice none 0 0, .slice none 0 0, .slice none 0 0] 33)).alloc (.cells #[.int .i64 0, .string ⟨#[]⟩, .int .i64 0, .int .i64 0] 26)) num ind (.slice ad 1 c) := rdW_is w num ind (.slice ad 1 c)
  unfold lnV
  go_enter Try.func53, Try.ntmps53
  go_upto_region 1 with fail
  generalize ((w.alloc (.cells #[.int .i64 num, .bool ind, .slice ad 1 c] 48)).alloc (.cells #[.int .i64 0, .int .i64 0, .string ⟨#[]⟩, .slice none 0 0, .slice none 0 0, .slice none 0 0] 33)).alloc (.cells #[.int .i64 0, .string ⟨#[]⟩, .int .i64 0, .int .i64 0] 26) = Y at hY ⊢
  have y0 := hY.num
  have y1 := hY.ind
  have y2 := hY.words
  have hWY := hW.below hY.below hBw
  obtain ⟨b, o, c', e, hb, r0, r1, r2, r3, r4⟩ := WdR.at hWY 0 (by simp)
  simp only [Value.slice.injEq] at e
  obtain ⟨rfl, -, rfl⟩ := e
  replace r0 : Y.cell? ⟨b, o, none⟩ = some (.string (str u.text)) := r0
  replace r1 : Y.cell? ⟨b, o + 1, none⟩ = some (.int .i64 u.line) := r1
  replace r2 : Y.cell? ⟨b, o + 2, none⟩ = some (.int .i64 u.col) := r2
  replace r3 : Y.cell? ⟨b, o + 3, none⟩ = some (.bool u.quoted) := r3
  replace r4 : Y.cell? ⟨b, o + 4, none⟩ = some (.bool u.mark) := r4
  have hwr := fun W => rwrong_any 120 u W
  unfold wdV at hwr
  go_wp2_with fail
  refine (hwr _).mono ?_
  rintro e w1 ⟨rfl, hB1⟩
  obtain ⟨hO1, hb1⟩ := hY.after hB1
  obtain ⟨f1, f2⟩ := hO1.free
  obtain ⟨k0, k1, k2, k3, k4, k5, l0, l1, l2, l3⟩ := hO1.cells
  have hfin := hO1.put (by omega) noRaw 120 u.line u.col
  have hbf := below10 hb1 (g1 := w.heap.size + 1) (g2 := w.heap.size + 1 + 1) (by omega) (by omega)
  unfold itV itCells whCs noRaw
  go_wp2
  refine bodyPost_ret (results_iw rfl _ _ hfin rfl rfl) rfl ?_
  exact ⟨rfl, hbf _ _ _ _ _ _ _ _ _ _⟩
set_option maxRecDepth 100000 in
set_option maxHeartbeats 1000000 in
theorem let1 (num : Int) (ind : Bool) (ad : Option Addr) (c : Nat) (u a : Lx.V) (w : World) (B : Nat) (hW : WdR.Sl w B (.slice ad 2 c) [u, a]) (hBw : B ≤ w.heap.size) (hma : a.mark = true → a.text = [58] ∨ a.text = [61]) :
    Calls Try.prog 53 #[lnV num ind (.slice ad 2 c)] w fun e w' => RdEnd [u, a] w.heap.size e w' (Rl.letOf num [a]) ∧ Below w.heap.size w w' := by
  have HQ : Hid (a.quoted = true → Rl.letOf num ([a]) = .bad (121, 1)) := fun h => by simp [Rl.letOf, h]
  have HN : Hid (Rl.name a.text = false → Rl.letOf num ([a]) = .bad (121, 1)) := fun h => by simp [Rl.letOf, h]
  have HO : Hid (a.quoted = false → Rl.name a.text = true → Rl.letOf num ([a]) = .bad (120, 1)) := fun h1 h2 => by
    have h3 : a.mark = false := by
      cases hm : a.mark with
      | false => rfl
      | true => rw [Rl.name_mark (hma hm)] at h2; cases h2
    simp [Rl.letOf, h1, h2, h3]
  generalize Rl.letOf num ([a]) = R at *
  clear hma
  have hY : RdW w (((w.alloc (.cells #[.int .i64 num, .bool ind, .slice ad 2 c] 48)).alloc (.cells #[.int .i64 0, .int .i64 0, .string ⟨#[]⟩, .slice none 0 0, .slice none 0 0, .slice none 0 0] 33)).alloc (.cells #[.int .i64 0, .string ⟨#[]⟩, .int .i64 0, .int .i64 0] 26)) num ind (.slice ad 2 c) := rdW_is w num ind (.slice ad 2 c)
  unfold lnV
  go_enter Try.func53, Try.ntmps53
  go_upto_region 1 with fail
  generalize ((w.alloc (.cells #[.int .i64 num, .bool ind, .slice ad 2 c] 48)).alloc (.cells #[.int .i64 0, .int .i64 0, .string ⟨#[]⟩, .slice none 0 0, .slice none 0 0, .slice none 0 0] 33)).alloc (.cells #[.int .i64 0, .string ⟨#[]⟩, .int .i64 0, .int .i64 0] 26) = Y at hY ⊢
  have y0 := hY.num
  have y1 := hY.ind
  have y2 := hY.words
  have hWY := hW.below hY.below hBw
  obtain ⟨b, o, c', e, hb, s0, s1, s2, s3, s4⟩ := WdR.at hWY 1 (by simp)
  simp only [Value.slice.injEq] at e
  obtain ⟨rfl, -, rfl⟩ := e
  replace s0 : Y.cell? ⟨b, o + 5, none⟩ = some (.string (str a.text)) := s0
  replace s1 : Y.cell? ⟨b, o + 5 + 1, none⟩ = some (.int .i64 a.line) := s1
  replace s2 : Y.cell? ⟨b, o + 5 + 2, none⟩ = some (.int .i64 a.col) := s2
  replace s3 : Y.cell? ⟨b, o + 5 + 3, none⟩ = some (.bool a.quoted) := s3
  replace s4 : Y.cell? ⟨b, o + 5 + 4, none⟩ = some (.bool a.mark) := s4
  cases hq : a.quoted with
  | true =>
    have HE : Hid _ := HQ.out hq
    rw [hq] at s3
    have hwr := fun W => rwrong_any 121 a W
    unfold wdV at hwr
    simp only [hq] at hwr; clear hq
    go_wp2_with fail
    refine (hwr _).mono ?_
    rintro e w1 ⟨rfl, hB1⟩
    obtain ⟨hO1, hb1⟩ := hY.after hB1
    obtain ⟨f1, f2⟩ := hO1.free
    obtain ⟨k0, k1, k2, k3, k4, k5, l0, l1, l2, l3⟩ := hO1.cells
    have hfin := hO1.put (by omega) noRaw 121 a.line a.col
    have hbf := below10 hb1 (g1 := w.heap.size + 1) (g2 := w.heap.size + 1 + 1) (by omega) (by omega)
    unfold itV itCells whCs noRaw
    go_wp2
    refine bodyPost_ret (results_iw rfl _ _ hfin rfl rfl) rfl ?_
    rw [HE.out]
    exact ⟨rfl, hbf _ _ _ _ _ _ _ _ _ _⟩
  | false =>
    have HO2 : Hid _ := HO.out hq
    cases hn : Rl.name a.text with
    | false =>
      have HE : Hid _ := HN.out hn
      have hwr := fun W => rwrong_any 121 a W
      unfold wdV at hwr
      simp only [hq] at hwr
      rw [hq] at s3
      clear hq
      go_wp2_with fail
      refine (name_str _ _).mono ?_
      rintro e w4 ⟨rfl, hw4⟩
      have hw5 := hw4.symm
      clear hw4
      subst hw5
      rw [hn]
      clear hn
      go_wp2_with fail
      refine (hwr _).mono ?_
      rintro e w1 ⟨rfl, hB1⟩
      obtain ⟨hO1, hb1⟩ := hY.after hB1
      obtain ⟨f1, f2⟩ := hO1.free
      obtain ⟨k0, k1, k2, k3, k4, k5, l0, l1, l2, l3⟩ := hO1.cells
      have hfin := hO1.put (by omega) noRaw 121 a.line a.col
      have hbf := below10 hb1 (g1 := w.heap.size + 1) (g2 := w.heap.size + 1 + 1) (by omega) (by omega)
      unfold itV itCells whCs noRaw
      go_wp2
      refine bodyPost_ret (results_iw rfl _ _ hfin rfl rfl) rfl ?_
      rw [HE.out]
      exact ⟨rfl, hbf _ _ _ _ _ _ _ _ _ _⟩
    | true =>
      have HE : Hid _ := HO2.out hn
      have hwr := fun W => rwrong_any 120 a W
      unfold wdV at hwr
      simp only [hq] at hwr
      rw [hq] at s3
      clear hq
      go_wp2_with fail
      refine (name_str _ _).mono ?_
      rintro e w4 ⟨rfl, hw4⟩
      have hw5 := hw4.symm
      clear hw4
      subst hw5
      rw [hn]
      clear hn
      go_wp2_with fail
      refine (hwr _).mono ?_
      rintro e w1 ⟨rfl, hB1⟩
      obtain ⟨hO1, hb1⟩ := hY.after hB1
      obtain ⟨f1, f2⟩ := hO1.free
      obtain ⟨k0, k1, k2, k3, k4, k5, l0, l1, l2, l3⟩ := hO1.cells
      have hfin := hO1.put (by omega) noRaw 120 a.line a.col
      have hbf := below10 hb1 (g1 := w.heap.size + 1) (g2 := w.heap.size + 1 + 1) (by omega) (by omega)
      unfold itV itCells whCs noRaw
      go_wp2
      refine bodyPost_ret (results_iw rfl _ _ hfin rfl rfl) rfl ?_
      rw [HE.out]
      exact ⟨rfl, hbf _ _ _ _ _ _ _ _ _ _⟩
set_option maxRecDepth 100000 in
set_option maxHeartbeats 1000000 in
theorem let2 (num : Int) (ind : Bool) (ad : Option Addr) (c : Nat) (u a m : Lx.V) (r : List Lx.V) (w : World) (B : Nat) (hW : WdR.Sl w B (.slice ad (r.length + 3) c) (u :: a :: m :: r)) (hBw : B ≤ w.heap.size) (hma : a.mark = true → a.text = [58] ∨ a.text = [61]) (hl : r.length ≤ 131072) :
    Calls Try.prog 53 #[lnV num ind (.slice ad (r.length + 3) c)] w fun e w' => RdEnd (u :: a :: m :: r) w.heap.size e w' (Rl.letOf num (a :: m :: r)) ∧ Below w.heap.size w w' := by
  have HQ : Hid (a.quoted = true → Rl.letOf num (a :: m :: r) = .bad (121, 1)) := fun h => by simp [Rl.letOf, h]
  have HN : Hid (Rl.name a.text = false → Rl.letOf num (a :: m :: r) = .bad (121, 1)) := fun h => by simp [Rl.letOf, h]
  have HO : Hid (a.quoted = false → Rl.name a.text = true → Rl.letOf num (a :: m :: r) = if Rl.isM m [61] = false then .bad (120, 2) else match Rl.clean 3 r with | some i => .bad (120, i) | none => .ok ⟨1, num, a.text, [], r, []⟩) := fun h1 h2 => by
    have h3 : a.mark = false := by
      cases hm : a.mark with
      | false => rfl
      | true => rw [Rl.name_mark (hma hm)] at h2; cases h2
    simp [Rl.letOf, h1, h2, h3]
    rfl
  generalize Rl.letOf num (a :: m :: r) = R at *
  clear hma
  obtain ⟨n, hn0⟩ : ∃ n, r.length + 3 = n := ⟨_, rfl⟩
  rw [hn0] at hW ⊢
  have HNL : Hid _ := hn0
  have n1 : (1 : Int) < (n : Int) := by omega
  have n2 : (2 : Int) < (n : Int) := by omega
  have n3 : ¬ (n : Int) < 3 := by omega
  have HL : Hid _ := hl
  clear hn0 hl
  have hY : RdW w (((w.alloc (.cells #[.int .i64 num, .bool ind, .slice ad n c] 48)).alloc (.cells #[.int .i64 0, .int .i64 0, .string ⟨#[]⟩, .slice none 0 0, .slice none 0 0, .slice none 0 0] 33)).alloc (.cells #[.int .i64 0, .string ⟨#[]⟩, .int .i64 0, .int .i64 0] 26)) num ind (.slice ad n c) := rdW_is w num ind (.slice ad n c)
  unfold lnV
  go_enter Try.func53, Try.ntmps53
  go_upto_region 1 with fail
  generalize ((w.alloc (.cells #[.int .i64 num, .bool ind, .slice ad n c] 48)).alloc (.cells #[.int .i64 0, .int .i64 0, .string ⟨#[]⟩, .slice none 0 0, .slice none 0 0, .slice none 0 0] 33)).alloc (.cells #[.int .i64 0, .string ⟨#[]⟩, .int .i64 0, .int .i64 0] 26) = Y at hY ⊢
  have y0 := hY.num
  have y1 := hY.ind
  have y2 := hY.words
  have hWY := hW.below hY.below hBw
  obtain ⟨b, o, c', e, hb, s0, s1, s2, s3, s4⟩ := WdR.at hWY 1 (by simp)
  simp only [Value.slice.injEq] at e
  obtain ⟨rfl, -, rfl⟩ := e
  replace s0 : Y.cell? ⟨b, o + 5, none⟩ = some (.string (str a.text)) := s0
  replace s1 : Y.cell? ⟨b, o + 5 + 1, none⟩ = some (.int .i64 a.line) := s1
  replace s2 : Y.cell? ⟨b, o + 5 + 2, none⟩ = some (.int .i64 a.col) := s2
  replace s3 : Y.cell? ⟨b, o + 5 + 3, none⟩ = some (.bool a.quoted) := s3
  replace s4 : Y.cell? ⟨b, o + 5 + 4, none⟩ = some (.bool a.mark) := s4
  obtain ⟨b', o', c', e, -, t0, t1, t2, t3, t4⟩ := WdR.at hWY 2 (by simp)
  simp only [Value.slice.injEq, Option.some.injEq, Addr.mk.injEq, and_true] at e
  obtain ⟨⟨rfl, rfl⟩, -, -⟩ := e
  replace t0 : Y.cell? ⟨b, o + 10, none⟩ = some (.string (str m.text)) := t0
  replace t1 : Y.cell? ⟨b, o + 10 + 1, none⟩ = some (.int .i64 m.line) := t1
  replace t2 : Y.cell? ⟨b, o + 10 + 2, none⟩ = some (.int .i64 m.col) := t2
  replace t3 : Y.cell? ⟨b, o + 10 + 3, none⟩ = some (.bool m.quoted) := t3
  replace t4 : Y.cell? ⟨b, o + 10 + 4, none⟩ = some (.bool m.mark) := t4
  cases hq : a.quoted with
  | true =>
    have HE : Hid _ := HQ.out hq
    rw [hq] at s3
    have hwr := fun W => rwrong_any 121 a W
    unfold wdV at hwr
    simp only [hq] at hwr; clear hq
    go_wp2_with fail
    refine (hwr _).mono ?_
    rintro e w1 ⟨rfl, hB1⟩
    obtain ⟨hO1, hb1⟩ := hY.after hB1
    obtain ⟨f1, f2⟩ := hO1.free
    obtain ⟨k0, k1, k2, k3, k4, k5, l0, l1, l2, l3⟩ := hO1.cells
    have hfin := hO1.put (by omega) noRaw 121 a.line a.col
    have hbf := below10 hb1 (g1 := w.heap.size + 1) (g2 := w.heap.size + 1 + 1) (by omega) (by omega)
    unfold itV itCells whCs noRaw
    go_wp2
    refine bodyPost_ret (results_iw rfl _ _ hfin rfl rfl) rfl ?_
    rw [HE.out]
    exact ⟨rfl, hbf _ _ _ _ _ _ _ _ _ _⟩
  | false =>
    have HO2 : Hid _ := HO.out hq
    cases hn : Rl.name a.text with
    | false =>
      have HE : Hid _ := HN.out hn
      have hwr := fun W => rwrong_any 121 a W
      unfold wdV at hwr
      simp only [hq] at hwr
      rw [hq] at s3
      clear hq
      go_wp2_with fail
      refine (name_str _ _).mono ?_
      rintro e w4 ⟨rfl, hw4⟩
      have hw5 := hw4.symm
      clear hw4
      subst hw5
      rw [hn]
      clear hn
      go_wp2_with fail
      refine (hwr _).mono ?_
      rintro e w1 ⟨rfl, hB1⟩
      obtain ⟨hO1, hb1⟩ := hY.after hB1
      obtain ⟨f1, f2⟩ := hO1.free
      obtain ⟨k0, k1, k2, k3, k4, k5, l0, l1, l2, l3⟩ := hO1.cells
      have hfin := hO1.put (by omega) noRaw 121 a.line a.col
      have hbf := below10 hb1 (g1 := w.heap.size + 1) (g2 := w.heap.size + 1 + 1) (by omega) (by omega)
      unfold itV itCells whCs noRaw
      go_wp2
      refine bodyPost_ret (results_iw rfl _ _ hfin rfl rfl) rfl ?_
      rw [HE.out]
      exact ⟨rfl, hbf _ _ _ _ _ _ _ _ _ _⟩
    | true =>
      have HE : Hid _ := HO2.out hn
      rw [hq] at s3
      clear hq
      go_wp2_with fail
      refine (name_str _ _).mono ?_
      rintro e w4 ⟨rfl, hw4⟩
      have hw5 := hw4.symm
      clear hw4
      subst hw5
      rw [hn]
      clear hn
      cases hm : m.mark with
      | false =>
        have HE2 : Hid (R = .bad (120, 2)) := by
          show _ = _
          rw [HE.out, if_pos]
          simp [Rl.isM, hm]
        rw [hm] at t4
        have hwr := fun W => rwrong_any 120 m W
        unfold wdV at hwr
        simp only [hm] at hwr; clear hm
        go_wp2_with fail
        refine (hwr _).mono ?_
        rintro e w1 ⟨rfl, hB1⟩
        obtain ⟨hO1, hb1⟩ := hY.after hB1
        obtain ⟨f1, f2⟩ := hO1.free
        obtain ⟨k0, k1, k2, k3, k4, k5, l0, l1, l2, l3⟩ := hO1.cells
        have hfin := hO1.put (by omega) noRaw 120 m.line m.col
        have hbf := below10 hb1 (g1 := w.heap.size + 1) (g2 := w.heap.size + 1 + 1) (by omega) (by omega)
        unfold itV itCells whCs noRaw
        go_wp2
        refine bodyPost_ret (results_iw rfl _ _ hfin rfl rfl) rfl ?_
        rw [HE2.out]
        exact ⟨rfl, hbf _ _ _ _ _ _ _ _ _ _⟩
      | true =>
        by_cases ht : m.text = [61]
        rotate_left
        · have HE2 : Hid (R = .bad (120, 2)) := by
            show _ = _
            rw [HE.out, if_pos]
            simp [Rl.isM, hm, ht]
          rw [hm] at t4
          have e1 : ¬ (str m.text).toList = [61] := by rw [str_list]; exact ht
          have e2 : ((str m.text).toList == [61]) = false := by rw [beq_eq_false_iff_ne]; exact e1
          clear ht
          have hwr := fun W => rwrong_any 120 m W
          unfold wdV at hwr
          simp only [hm] at hwr; clear hm
          go_wp2_with fail
          refine (hwr _).mono ?_
          rintro e w1 ⟨rfl, hB1⟩
          obtain ⟨hO1, hb1⟩ := hY.after hB1
          obtain ⟨f1, f2⟩ := hO1.free
          obtain ⟨k0, k1, k2, k3, k4, k5, l0, l1, l2, l3⟩ := hO1.cells
          have hfin := hO1.put (by omega) noRaw 120 m.line m.col
          have hbf := below10 hb1 (g1 := w.heap.size + 1) (g2 := w.heap.size + 1 + 1) (by omega) (by omega)
          unfold itV itCells whCs noRaw
          go_wp2
          refine bodyPost_ret (results_iw rfl _ _ hfin rfl rfl) rfl ?_
          rw [HE2.out]
          exact ⟨rfl, hbf _ _ _ _ _ _ _ _ _ _⟩
        have HE2 : Hid (R = if Rl.fm r < r.length then .bad (120, 3 + Rl.fm r) else .ok ⟨1, num, a.text, [], r, []⟩) := by
          show _ = _
          rw [HE.out, if_neg (by simp [Rl.isM, hm, ht]), Rl.clean_fm]
          by_cases h : Rl.fm r < r.length
          · rw [if_pos h, if_pos h]
          · rw [if_neg h, if_neg h]
        rw [hm] at t4
        have e2 : ((str m.text).toList == [61]) = true := by rw [beq_iff_eq, str_list]; exact ht
        clear hm ht HE HO2 HQ HN HO
        obtain ⟨A, hsl, hT⟩ := Rc.slice_tail hWY 3 (by simp)
        have hT' : WdR.Sl Y B (.slice A r.length (c - 3)) r := by
          have : n - 3 = r.length := by have := HNL.out; omega
          rw [← this]; exact hT
        have hsl' : ∀ W : World, (Instr.slice 30 (.slice (some ⟨b, o, none⟩) n c) (some (.int .i64 3)) none none).run Try.prog W = .ok (.slice A r.length (c - 3)) W := by
          have : n - 3 = r.length := by have := HNL.out; omega
          rw [← this]; exact hsl
        have HZ : Hid _ := hY.size
        have hBY : B ≤ Y.heap.size := by have := HZ.out; omega
        have hfm := firstMark_any _ r Y B hT' hBY (by have := HL.out; omega)
        have hfl := Rl.fm_le r
        obtain ⟨k, hk⟩ : ∃ k, Rl.fm r = k := ⟨_, rfl⟩
        rw [hk] at hfm hfl HE2
        have HK : Hid _ := hk
        obtain ⟨mk, hmk⟩ : ∃ mk : Nat, (3 : Int) + (k : Int) = (mk : Int) := ⟨3 + k, by omega⟩
        have hkl : (k : Int) ≤ 131072 := by have := HL.out; omega
        have hmk2 : (mk : Int) ≤ 131075 := by omega
        clear hk hsl
        by_cases hlt : k < r.length
        · have HE3 : Hid (R = .bad (120, mk)) := by
            show _ = _
            rw [HE2.out, if_pos hlt, show 3 + k = mk by omega]
          have i1 : (mk : Int) < (n : Int) := by have := HNL.out; omega
          have HMK : Hid (mk < (u :: a :: m :: r).length) := by
            show _ < _
            simp only [List.length_cons]
            omega
          clear hfl HE2 hlt
          go_wp2_with fail
          refine hfm.mono ?_
          rintro e w2 ⟨rfl, hB2⟩
          obtain ⟨b', o', c', e, -, q0, q1, q2, q3, q4⟩ := WdR.at (hWY.below hB2 hBY) mk HMK.out
          simp only [Value.slice.injEq, Option.some.injEq, Addr.mk.injEq, and_true] at e
          obtain ⟨⟨rfl, rfl⟩, -, -⟩ := e
          obtain ⟨x, hx⟩ : ∃ x, (u :: a :: m :: r).getD mk Lx.noV = x := ⟨_, rfl⟩
          have HX : Hid _ := hx
          rw [hx] at q0 q1 q2 q3 q4
          clear hx
          have hwr := fun W => rwrong_any 120 x W
          unfold wdV at hwr
          go_wp2_with fail
          refine (hwr _).mono ?_
          rintro e w1 ⟨rfl, hB1⟩
          obtain ⟨hO1, hb1⟩ := hY.after (hB2.trans (hB1.mono hB2.size))
          obtain ⟨f1, f2⟩ := hO1.free
          obtain ⟨k0, k1, k2, k3, k4, k5, l0, l1, l2, l3⟩ := hO1.cells
          have hfin := hO1.put (by omega) noRaw 120 x.line x.col
          have hbf := below10 hb1 (g1 := w.heap.size + 1) (g2 := w.heap.size + 1 + 1) (by omega) (by omega)
          unfold itV itCells whCs noRaw
          go_wp2
          refine bodyPost_ret (results_iw rfl _ _ hfin rfl rfl) rfl ?_
          rw [HE3.out]
          refine ⟨?_, hbf _ _ _ _ _ _ _ _ _ _⟩
          show Ending.returned _ = Ending.returned (.tuple #[itV noRaw, .agg (whCs 120 ((u :: a :: m :: r).getD mk Lx.noV).line ((u :: a :: m :: r).getD mk Lx.noV).col)])
          rw [HX.out]
        · have HE3 : Hid (R = .ok ⟨1, num, a.text, [], r, []⟩) := by
            show _ = _
            rw [HE2.out, if_neg hlt]
          have i1 : ¬ (mk : Int) < (n : Int) := by have := HNL.out; omega
          clear hfl HE2 hlt
          go_wp2_with fail
          refine hfm.mono ?_
          rintro e w2 ⟨rfl, hB2⟩
          have hbs : b < Y.heap.size := Nat.lt_of_lt_of_le hb hBY
          have hwl : w.heap.size < Y.heap.size := by have := HZ.out; omega
          have y0a := (hB2.cell (p := ⟨w.heap.size, 0, none⟩) hwl).trans y0
          have s0a := (hB2.cell (p := ⟨b, o + 5, none⟩) hbs).trans s0
          have hcl := fun (W : World) (h : Below Y.heap.size Y W) => CloneW_any r (.slice A r.length (c - 3)) B W (hT'.below h hBY) (Nat.le_trans hBY h.size) (by have := HL.out; omega)
          have hYa := fun (W : World) (h : Below Y.heap.size Y W) => hY.after h
          have far1 : ∀ (W : World) (j : Nat) (v : Value), (W.setCell ⟨w.heap.size + 1, j, none⟩ v).cell? ⟨w.heap.size, 0, none⟩ = W.cell? ⟨w.heap.size, 0, none⟩ := fun W j v => World.cell?_setCell_far _ _ _ _ (by simp)
          have far2 : ∀ (W : World) (j : Nat) (v : Value), (W.setCell ⟨w.heap.size + 1 + 1, j, none⟩ v).cell? ⟨w.heap.size, 0, none⟩ = W.cell? ⟨w.heap.size, 0, none⟩ := fun W j v => World.cell?_setCell_far _ _ _ _ (by show w.heap.size + 1 + 1 ≠ w.heap.size; omega)
          have far3 : ∀ (W : World) (j : Nat) (v : Value), (W.setCell ⟨w.heap.size + 1, j, none⟩ v).cell? ⟨b, o + 5, none⟩ = W.cell? ⟨b, o + 5, none⟩ := fun W j v => World.cell?_setCell_far _ _ _ _ (by show w.heap.size + 1 ≠ b; omega)
          have far4 : ∀ (W : World) (j : Nat) (v : Value), (W.setCell ⟨w.heap.size + 1 + 1, j, none⟩ v).cell? ⟨b, o + 5, none⟩ = W.cell? ⟨b, o + 5, none⟩ := fun W j v => World.cell?_setCell_far _ _ _ _ (by show w.heap.size + 1 + 1 ≠ b; omega)
          have y0d : w2.drew.cell? ⟨w.heap.size, 0, none⟩ = some (.int .i64 num) := y0a
          have s0d : w2.drew.cell? ⟨b, o + 5, none⟩ = some (.string (str a.text)) := s0a
          have hyd : Below Y.heap.size Y w2.drew := hB2.drew
          have HSW : Hid (Y.heap.size ≤ w2.heap.size) := hB2.size
          clear hfm hW hT' hWY y0 y1 y2 s0 s1 s2 s3 s4 t0 t1 t2 t3 t4
          go_wp2_with fail
          go_region_held3 (fun X : World => X.cell? ⟨w.heap.size, 0, none⟩ = some (.int .i64 num) ∧ X.cell? ⟨b, o + 5, none⟩ = some (.string (str a.text))) (first | with_reducible exact ⟨y0d, s0d⟩ | with_reducible exact ⟨y0b, s0b⟩ | (simp only [far1, far2, far3, far4]; with_reducible exact ⟨y0b, s0b⟩) | fail)
            (first | (go_at_call 83; refine (hcl _ hyd).mono ?_; rintro e w3 ⟨v2, rfl, hO2, hB3⟩; obtain ⟨ad2, n4, c2, rfl⟩ := hO2.isSl; have hB4 := hyd.trans (hB3.mono hyd.size); obtain ⟨hO3, hb3⟩ := hYa _ hB4; obtain ⟨f1, f2⟩ := hO3.free; obtain ⟨k0, k1, k2, k3, k4, k5, l0, l1, l2, l3⟩ := hO3.cells; have y0b : w3.cell? ⟨w.heap.size, 0, none⟩ = some (.int .i64 num) := (hB3.cell (p := ⟨w.heap.size, 0, none⟩) (Nat.lt_of_lt_of_le hwl hyd.size)).trans y0d; have s0b : w3.cell? ⟨b, o + 5, none⟩ = some (.string (str a.text)) := (hB3.cell (p := ⟨b, o + 5, none⟩) (Nat.lt_of_lt_of_le hbs hyd.size)).trans s0d) | fail)
          have hfin := hO3.put (by omega) ⟨1, num, a.text, none, 0, 0, ad2, n4, c2, none, 0, 0⟩ 0 0 0
          have hbf := below10 hb3 (g1 := w.heap.size + 1) (g2 := w.heap.size + 1 + 1) (by omega) (by omega)
          have hbl : w.heap.size + 3 ≤ w2.drew.heap.size := by have := HZ.out; have := HSW.out; show _ ≤ w2.heap.size; omega
          have hO5 := own10 hO2 (g1 := w.heap.size + 1) (g2 := w.heap.size + 1 + 1) (by omega) (by omega)
          clear y0d s0d y0b s0b far1 far2 far3 far4 k0 k1 k2 k3 k4 k5 l0 l1 l2 l3
          go_wp2
          refine bodyPost_ret (results_iw rfl _ _ hfin rfl rfl) rfl ?_
          rw [HE3.out]
          exact ⟨⟨_, rfl, rfl, rfl, rfl, Rc.Own.nil _ _, (hO5 _ _ _ _ _ _ _ _ _ _).low (by omega), rfl, rfl, rfl, rfl⟩, hbf _ _ _ _ _ _ _ _ _ _⟩
set_option maxRecDepth 100000 in
set_option maxHeartbeats 1000000 in
theorem readLet_any (num : Int) (ind : Bool) (ad : Option Addr) (c : Nat) (u : Lx.V) (r : List Lx.V) (w : World) (B : Nat) (hW : WdR.Sl w B (.slice ad (r.length + 1) c) (u :: r)) (hBw : B ≤ w.heap.size) (hm : ∀ x ∈ r, x.mark = true → x.text = [58] ∨ x.text = [61]) (hl : r.length ≤ 131072) :
    Calls Try.prog 53 #[lnV num ind (.slice ad (r.length + 1) c)] w fun e w' => RdEnd (u :: r) w.heap.size e w' (Rl.letOf num r) ∧ Below w.heap.size w w' := by
  match r, hW, hl, hm with
  | [], hW, _, _ => exact let0 num ind ad c u w B hW hBw
  | [a], hW, _, hm => exact let1 num ind ad c u a w B hW hBw (hm a (by simp))
  | a :: b2 :: r, hW, hl, hm => exact let2 num ind ad c u a b2 r w B hW hBw (hm a (by simp)) (by simp at hl; omega)

end Go.Proofs.Ythpipbkbldlfjaa
