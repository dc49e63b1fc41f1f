/-
  WHAT THE PROGRAM's read DOES.
-/
import Derived.Test.YthpipbkbldlfjaaDRdL
import Derived.Test.YthpipbkbldlfjaaDRdR
namespace Go.Proofs.Ythpipbkbldlfjaa
open Go.RowKit

set_option maxRecDepth 100000 in
set_option maxHeartbeats 4000000 in
theorem read_any (num : Int) (ind : Bool) (ad : Option Addr) (c : Nat) (u : Lx.V) (r : List Lx.V) (w : World) (B : Nat) (hW : WdR.Sl w B (.slice ad (r.length + 1) c) (u :: r)) (hBw : B ≤ w.heap.size) (hm : ∀ x ∈ u :: r, x.mark = true → x.text = [58] ∨ x.text = [61]) (hl : r.length ≤ 131072) :
    Calls Try.prog 28 #[lnV num ind (.slice ad (r.length + 1) c)] w fun e w' => RdEnd (u :: r) w.heap.size e w' (Rl.readR ⟨num, ind, u :: r⟩) ∧ Below w.heap.size w w' := by
  have HR : Hid _ := Rl.readR_by (l := ⟨num, ind, u :: r⟩) (w := u) (r := r) rfl (hm u (by simp))
  simp only at HR
  generalize Rl.readR ⟨num, ind, u :: r⟩ = R at *
  have hrl := fun (Y : World) (h : WdR.Sl Y B (.slice ad (r.length + 1) c) (u :: r)) (hB : B ≤ Y.heap.size) => readLet_any num false ad c u r Y B h hB (fun x hx => hm x (List.mem_cons_of_mem _ hx)) hl
  have hri := fun (Y : World) (h : WdR.Sl Y B (.slice ad (r.length + 1) c) (u :: r)) (hB : B ≤ Y.heap.size) => readInclude_any num false ad c u r Y B h hB hl
  have hrr := fun (Y : World) (h : WdR.Sl Y B (.slice ad (r.length + 1) c) (u :: r)) (hB : B ≤ Y.heap.size) => readRule_any num false ad c u r Y B h hB hl
  obtain ⟨n, hn0⟩ : ∃ n, r.length + 1 = n := ⟨_, rfl⟩
  rw [hn0] at hW hrl hri hrr ⊢
  have n1 : (0 : Int) < (n : Int) := by omega
  unfold lnV at hrl hri hrr
  clear hn0 hl hm
  have hY : RdW w (((w.alloc (.cells #[.int .i64 num, .bool ind, .slice ad n c] 48)).alloc (.cells #[.int .i64 0, .int .i64 0, .string ⟨#[]⟩, .slice none 0 0, .slice none 0 0, .slice none 0 0] 33)).alloc (.cells #[.int .i64 0, .string ⟨#[]⟩, .int .i64 0, .int .i64 0] 26)) num ind (.slice ad n c) := rdW_is w num ind (.slice ad n c)
  unfold lnV
  go_enter Try.func28, Try.ntmps28
  go_upto_region 1 with fail
  generalize ((w.alloc (.cells #[.int .i64 num, .bool ind, .slice ad n c] 48)).alloc (.cells #[.int .i64 0, .int .i64 0, .string ⟨#[]⟩, .slice none 0 0, .slice none 0 0, .slice none 0 0] 33)).alloc (.cells #[.int .i64 0, .string ⟨#[]⟩, .int .i64 0, .int .i64 0] 26) = Y at hY ⊢
  have y0 := hY.num
  have y1 := hY.ind
  have y2 := hY.words
  have hWY := hW.below hY.below hBw
  obtain ⟨b, o, c', e, hb, s0, s1, s2, s3, s4⟩ := WdR.at hWY 0 (by simp)
  simp only [Value.slice.injEq] at e
  obtain ⟨rfl, -, rfl⟩ := e
  replace s0 : Y.cell? ⟨b, o, none⟩ = some (.string (str u.text)) := s0
  replace s1 : Y.cell? ⟨b, o + 1, none⟩ = some (.int .i64 u.line) := s1
  replace s2 : Y.cell? ⟨b, o + 2, none⟩ = some (.int .i64 u.col) := s2
  replace s3 : Y.cell? ⟨b, o + 3, none⟩ = some (.bool u.quoted) := s3
  replace s4 : Y.cell? ⟨b, o + 4, none⟩ = some (.bool u.mark) := s4
  have HZ : Hid _ := hY.size
  have hBY : B ≤ Y.heap.size := by have := HZ.out; omega
  have hb2 := below_box Y (.cells #[.string (str u.text), .int .i64 u.line, .int .i64 u.col, .bool u.quoted, .bool u.mark] 36)
  have hnew := heap_alloc_new Y (.cells #[.string (str u.text), .int .i64 u.line, .int .i64 u.col, .bool u.quoted, .bool u.mark] 36)
  go_upto_region 2 with fail
  generalize Y.alloc (.cells #[.string (str u.text), .int .i64 u.line, .int .i64 u.col, .bool u.quoted, .bool u.mark] 36) = Z at *
  have hwl : w.heap.size < Y.heap.size := by have := HZ.out; omega
  have z0 := (hb2.cell (p := ⟨w.heap.size, 0, none⟩) hwl).trans y0
  have z1 := (hb2.cell (p := ⟨w.heap.size, 1, none⟩) hwl).trans y1
  have z2 := (hb2.cell (p := ⟨w.heap.size, 2, none⟩) hwl).trans y2
  have x0 : Z.cell? ⟨Y.heap.size, 0, none⟩ = some (.string (str u.text)) := by rw [cell_of_row Z _ 0 _ _ _ hnew]; rfl
  have x1 : Z.cell? ⟨Y.heap.size, 1, none⟩ = some (.int .i64 u.line) := by rw [cell_of_row Z _ 1 _ _ _ hnew]; rfl
  have x2 : Z.cell? ⟨Y.heap.size, 2, none⟩ = some (.int .i64 u.col) := by rw [cell_of_row Z _ 2 _ _ _ hnew]; rfl
  have x3 : Z.cell? ⟨Y.heap.size, 3, none⟩ = some (.bool u.quoted) := by rw [cell_of_row Z _ 3 _ _ _ hnew]; rfl
  have x4 : Z.cell? ⟨Y.heap.size, 4, none⟩ = some (.bool u.mark) := by rw [cell_of_row Z _ 4 _ _ _ hnew]; rfl
  have hWZ := hWY.below hb2 hBY
  have hBZ : B ≤ Z.heap.size := Nat.le_trans hBY hb2.size
  have HSZ : Hid (w.heap.size + 3 ≤ Z.heap.size) := by show _ ≤ _; have := HZ.out; have := hb2.size; omega
  clear hnew hW hWY y0 y1 y2 s0 s1 s2 s3 s4
  have hYa := fun (W : World) (h : Below Z.heap.size Z W) => hY.after (hb2.trans (h.mono hb2.size))
  clear hY
  cases ind with
  | true =>
    have HE : Hid (R = .bad (120, 0)) := by show _ = _; rw [HR.out, if_pos (.inl rfl)]
    clear hrl hri hrr
    have hwr := fun W => rwrong_any 120 u W
    unfold wdV at hwr
    go_wp2_with fail
    refine (hwr _).mono ?_
    rintro e w1 ⟨rfl, hB1⟩
    obtain ⟨hO1, hb1⟩ := hYa _ hB1
    obtain ⟨f1, f2⟩ := hO1.free
    obtain ⟨k0, k1, k2, k3, k4, k5, l0, l1, l2, l3⟩ := hO1.cells
    have hfin := hO1.put (by omega) noRaw 120 u.line u.col
    have hbf := below10 hb1 (g1 := w.heap.size + 1) (g2 := w.heap.size + 1 + 1) (by omega) (by omega)
    unfold itV itCells whCs noRaw
    go_wp2
    refine bodyPost_ret (results_iw rfl _ _ hfin rfl rfl) rfl ?_
    rw [HE.out]
    exact ⟨rfl, hbf _ _ _ _ _ _ _ _ _ _⟩
  | false =>
    cases hq : u.quoted with
    | true =>
      have HE : Hid (R = .bad (120, 0)) := by show _ = _; rw [HR.out, if_pos (.inr hq)]
      rw [hq] at x3
      clear hrl hri hrr
      have hwr := fun W => rwrong_any 120 u W
      unfold wdV at hwr
      simp only [hq] at hwr; clear hq
      go_wp2_with fail
      refine (hwr _).mono ?_
      rintro e w1 ⟨rfl, hB1⟩
      obtain ⟨hO1, hb1⟩ := hYa _ hB1
      obtain ⟨f1, f2⟩ := hO1.free
      obtain ⟨k0, k1, k2, k3, k4, k5, l0, l1, l2, l3⟩ := hO1.cells
      have hfin := hO1.put (by omega) noRaw 120 u.line u.col
      have hbf := below10 hb1 (g1 := w.heap.size + 1) (g2 := w.heap.size + 1 + 1) (by omega) (by omega)
      unfold itV itCells whCs noRaw
      go_wp2
      refine bodyPost_ret (results_iw rfl _ _ hfin rfl rfl) rfl ?_
      rw [HE.out]
      exact ⟨rfl, hbf _ _ _ _ _ _ _ _ _ _⟩
    | false =>
      have HR2 : Hid _ := HR.out.trans (if_neg (by rintro (h | h); cases h; rw [hq] at h; cases h))
      rw [hq] at x3
      by_cases h1 : u.text = Rl.sLet
      · have HE : Hid (R = Rl.letOf num r) := by show _ = _; rw [HR2.out, if_pos h1]
        have e1 : ((str u.text).toList == [108, 101, 116]) = true := by rw [beq_iff_eq, str_list]; exact h1
        have hcall := hrl Z hWZ hBZ
        clear h1 hrl hri hrr hq
        go_wp2_with fail
        refine hcall.mono ?_
        rintro e w1 ⟨hE, hB1⟩
        rw [← HE.out] at hE
        clear hcall HE HR HR2
        obtain ⟨hO1, hb1⟩ := hYa _ hB1
        obtain ⟨f1, f2⟩ := hO1.free
        obtain ⟨k0, k1, k2, k3, k4, k5, l0, l1, l2, l3⟩ := hO1.cells
        have hbf := below10 hb1 (g1 := w.heap.size + 1) (g2 := w.heap.size + 1 + 1) (by omega) (by omega)
        have hcs : (∃ x, R = .bad x) ∨ ∃ x, R = .ok x := by
          cases R with
          | bad x => exact .inl ⟨x, rfl⟩
          | ok x => exact .inr ⟨x, rfl⟩
        rcases hcs with ⟨x, hx⟩ | ⟨x, hx⟩
        · rw [hx] at hE
          have HX : Hid _ := hx
          clear hx
          simp only [RdEnd] at hE
          subst hE
          have hfin := hO1.put (by omega) noRaw x.1 ((u :: r).getD x.2 Lx.noV).line ((u :: r).getD x.2 Lx.noV).col
          generalize hxx : (u :: r).getD x.2 Lx.noV = xx at *
          unfold itV itCells whCs noRaw
          go_wp2
          refine bodyPost_ret (results_iw rfl _ _ hfin rfl rfl) rfl ?_
          refine ⟨?_, hbf _ _ _ _ _ _ _ _ _ _⟩
          rw [HX.out]
          simp only [RdEnd]
          rw [hxx]
        · rw [hx] at hE
          have HX : Hid _ := hx
          clear hx
          obtain ⟨r0, rfl, hN⟩ := hE
          have hfin := hO1.put (by omega) r0 0 0 0
          unfold itV itCells whCs
          go_wp2
          refine bodyPost_ret (results_iw rfl _ _ hfin rfl rfl) rfl ?_
          have hsz := HSZ.out
          rw [HX.out]
          exact ⟨⟨r0, rfl, hN.kind, hN.line, hN.name, (own10 hN.targets (by omega) (by omega) _ _ _ _ _ _ _ _ _ _).low (by omega), (own10 hN.words (by omega) (by omega) _ _ _ _ _ _ _ _ _ _).low (by omega), hN.code⟩, hbf _ _ _ _ _ _ _ _ _ _⟩
      have e1 : ((str u.text).toList == [108, 101, 116]) = false := by rw [beq_eq_false_iff_ne, str_list]; exact h1
      by_cases h2 : u.text = Rl.sIncl
      · have HE : Hid (R = Rl.inclOf num r) := by show _ = _; rw [HR2.out, if_neg h1, if_pos h2]
        have e2 : ((str u.text).toList == [105, 110, 99, 108, 117, 100, 101]) = true := by rw [beq_iff_eq, str_list]; exact h2
        have hcall := hri Z hWZ hBZ
        clear h1 h2 hrl hri hrr hq
        go_wp2_with fail
        refine hcall.mono ?_
        rintro e w1 ⟨hE, hB1⟩
        rw [← HE.out] at hE
        clear hcall HE HR HR2
        obtain ⟨hO1, hb1⟩ := hYa _ hB1
        obtain ⟨f1, f2⟩ := hO1.free
        obtain ⟨k0, k1, k2, k3, k4, k5, l0, l1, l2, l3⟩ := hO1.cells
        have hbf := below10 hb1 (g1 := w.heap.size + 1) (g2 := w.heap.size + 1 + 1) (by omega) (by omega)
        have hcs : (∃ x, R = .bad x) ∨ ∃ x, R = .ok x := by
          cases R with
          | bad x => exact .inl ⟨x, rfl⟩
          | ok x => exact .inr ⟨x, rfl⟩
        rcases hcs with ⟨x, hx⟩ | ⟨x, hx⟩
        · rw [hx] at hE
          have HX : Hid _ := hx
          clear hx
          simp only [RdEnd] at hE
          subst hE
          have hfin := hO1.put (by omega) noRaw x.1 ((u :: r).getD x.2 Lx.noV).line ((u :: r).getD x.2 Lx.noV).col
          generalize hxx : (u :: r).getD x.2 Lx.noV = xx at *
          unfold itV itCells whCs noRaw
          go_wp2
          refine bodyPost_ret (results_iw rfl _ _ hfin rfl rfl) rfl ?_
          refine ⟨?_, hbf _ _ _ _ _ _ _ _ _ _⟩
          rw [HX.out]
          simp only [RdEnd]
          rw [hxx]
        · rw [hx] at hE
          have HX : Hid _ := hx
          clear hx
          obtain ⟨r0, rfl, hN⟩ := hE
          have hfin := hO1.put (by omega) r0 0 0 0
          unfold itV itCells whCs
          go_wp2
          refine bodyPost_ret (results_iw rfl _ _ hfin rfl rfl) rfl ?_
          have hsz := HSZ.out
          rw [HX.out]
          exact ⟨⟨r0, rfl, hN.kind, hN.line, hN.name, (own10 hN.targets (by omega) (by omega) _ _ _ _ _ _ _ _ _ _).low (by omega), (own10 hN.words (by omega) (by omega) _ _ _ _ _ _ _ _ _ _).low (by omega), hN.code⟩, hbf _ _ _ _ _ _ _ _ _ _⟩
      have e2 : ((str u.text).toList == [105, 110, 99, 108, 117, 100, 101]) = false := by rw [beq_eq_false_iff_ne, str_list]; exact h2
      by_cases h3 : u.text = Rl.sRule
      · have HE : Hid (R = Rl.ruleOf num [] 1 r) := by show _ = _; rw [HR2.out, if_neg h1, if_neg h2, if_pos h3]
        have e3 : ((str u.text).toList == [114, 117, 108, 101]) = true := by rw [beq_iff_eq, str_list]; exact h3
        have hcall := hrr Z hWZ hBZ
        clear h1 h2 h3 hrl hri hrr hq
        go_wp2_with fail
        refine hcall.mono ?_
        rintro e w1 ⟨hE, hB1⟩
        rw [← HE.out] at hE
        clear hcall HE HR HR2
        obtain ⟨hO1, hb1⟩ := hYa _ hB1
        obtain ⟨f1, f2⟩ := hO1.free
        obtain ⟨k0, k1, k2, k3, k4, k5, l0, l1, l2, l3⟩ := hO1.cells
        have hbf := below10 hb1 (g1 := w.heap.size + 1) (g2 := w.heap.size + 1 + 1) (by omega) (by omega)
        have hcs : (∃ x, R = .bad x) ∨ ∃ x, R = .ok x := by
          cases R with
          | bad x => exact .inl ⟨x, rfl⟩
          | ok x => exact .inr ⟨x, rfl⟩
        rcases hcs with ⟨x, hx⟩ | ⟨x, hx⟩
        · rw [hx] at hE
          have HX : Hid _ := hx
          clear hx
          simp only [RdEnd] at hE
          subst hE
          have hfin := hO1.put (by omega) noRaw x.1 ((u :: r).getD x.2 Lx.noV).line ((u :: r).getD x.2 Lx.noV).col
          generalize hxx : (u :: r).getD x.2 Lx.noV = xx at *
          unfold itV itCells whCs noRaw
          go_wp2
          refine bodyPost_ret (results_iw rfl _ _ hfin rfl rfl) rfl ?_
          refine ⟨?_, hbf _ _ _ _ _ _ _ _ _ _⟩
          rw [HX.out]
          simp only [RdEnd]
          rw [hxx]
        · rw [hx] at hE
          have HX : Hid _ := hx
          clear hx
          obtain ⟨r0, rfl, hN⟩ := hE
          have hfin := hO1.put (by omega) r0 0 0 0
          unfold itV itCells whCs
          go_wp2
          refine bodyPost_ret (results_iw rfl _ _ hfin rfl rfl) rfl ?_
          have hsz := HSZ.out
          rw [HX.out]
          exact ⟨⟨r0, rfl, hN.kind, hN.line, hN.name, (own10 hN.targets (by omega) (by omega) _ _ _ _ _ _ _ _ _ _).low (by omega), (own10 hN.words (by omega) (by omega) _ _ _ _ _ _ _ _ _ _).low (by omega), hN.code⟩, hbf _ _ _ _ _ _ _ _ _ _⟩
      have e3 : ((str u.text).toList == [114, 117, 108, 101]) = false := by rw [beq_eq_false_iff_ne, str_list]; exact h3
      have HE : Hid (R = .bad (120, 0)) := by show _ = _; rw [HR2.out, if_neg h1, if_neg h2, if_neg h3]
      clear h1 h2 h3 hrl hri hrr
      have hwr := fun W => rwrong_any 120 u W
      unfold wdV at hwr
      simp only [hq] at hwr; clear hq
      go_wp2_with fail
      refine (hwr _).mono ?_
      rintro e w1 ⟨rfl, hB1⟩
      obtain ⟨hO1, hb1⟩ := hYa _ hB1
      obtain ⟨f1, f2⟩ := hO1.free
      obtain ⟨k0, k1, k2, k3, k4, k5, l0, l1, l2, l3⟩ := hO1.cells
      have hfin := hO1.put (by omega) noRaw 120 u.line u.col
      have hbf := below10 hb1 (g1 := w.heap.size + 1) (g2 := w.heap.size + 1 + 1) (by omega) (by omega)
      unfold itV itCells whCs noRaw
      go_wp2
      refine bodyPost_ret (results_iw rfl _ _ hfin rfl rfl) rfl ?_
      rw [HE.out]
      exact ⟨rfl, hbf _ _ _ _ _ _ _ _ _ _⟩

end Go.Proofs.Ythpipbkbldlfjaa
