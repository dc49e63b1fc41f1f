/-
  answers: Read.
-/
import Derived.Test.YtccfoafcfnhejaaAnsK
namespace Go.Proofs.Ytccfoafcfnhejaa
open Go.RowKit

set_option maxRecDepth 100000 in
set_option maxHeartbeats 4000000 in
theorem ans_read_err (w : World) (x : Pl) (y : RPl) (N : Nat) (d : Dk.Dev) (hx : Has w x N d) (hy : RHas w y d) (hN : N ≤ 100000) (who after e torn short : Int) (b : UInt8) (vk : Value) (i : Nat) (hi : i < d.st.length) (he : d.err ≠ 0) :
    Calls Try.prog 24 #[ptr x.p, ptr y.p, .agg (calV 0 who (i : Int) after e torn short b vk)] w fun r w' => r = .returned (.bool true) ∧ Ans w x y N d.st.length w' := by
  obtain ⟨c0, -⟩ := hy.m.cells
  have hplt : y.p < w.heap.size := lt_of_heap hy.m.hp
  have hop : (d.op : Int) ≤ 1000000000 := by have := hx.hop; omega
  have HX : Hid (Has w x N d) := hx
  have HY : Hid (RHas w y d) := hy
  clear hx hy
  unfold ptr calV
  go_enter Try.func24, Try.ntmps24
  go_upto_region 1 with fail
  have h0 : (0 : Int) ≤ (i : Int) := by omega
  have h1 : (i : Int) < (d.st.length : Int) := by omega
  have hd : decide ((0 : Int) ≤ (i : Int)) = true := decide_eq_true h0
  go_cut [7] (fun t7 w' => t7 = .bool true ∧ Below w.heap.size w w' ∧ w'.heap[w.heap.size]? = some (.cells (calV 0 who (i : Int) after e torn short b vk) 48 (0, 0)))
  case first =>
    go_quiet (fail)
    go_wp2
    go_meet
    exact ⟨rfl, cal_start w _ _⟩
  case rest =>
    obtain ⟨rfl, hb, hcal⟩ := hcut
    obtain ⟨k0, k2, k3, k4, k5, k6, k7, k8⟩ := cal_cells hcal
    have hx1 := HX.out.below hb
    have hy1 := HY.out.below hb
    clear c0 hplt hd
    have hA := Read_err wc x N d hx1 (by omega) i hi he
    have hB0 := fun W h => RRead_no2 W y d h hop i he
    generalize d.err = er at *
    unfold ptr at hA hB0
    go_wp2_with fail
    refine hA.mono ?_
    rintro r w2 ⟨rfl, hx2, ht2⟩
    have hy2 := hy1.turnX hx1 ht2
    obtain ⟨c0, -⟩ := hy2.m.cells
    obtain ⟨vb, hvb, hcb⟩ := hy2.m.hb.cell (i := i) hi
    obtain ⟨gb, cb, rfl⟩ := hcb.some_slice
    have hcal2 := cal_turnX hcal hx1 ht2
    obtain ⟨p0, p2, p3, p4, p5, p6, p7, p8⟩ := cal_cells hcal2
    have hB := fun q : Nat => hB0 (w2.drewN q) (hy2.drewN q)
    have HX2 : Hid (Has w2 x (N + 1) d.begun) := hx2
    have HY2 : Hid (RHas w2 y d) := hy2
    have HT2 : Hid (Turn x.bl wc w2) := ht2
    have HB1 : Hid (Below w.heap.size w wc) := hb
    clear hA hB0 hx1 hy1 hcb hx2 hy2 ht2 hb
    go_wp2_with fail
    go_quiet (fail)
    go_wp2_with fail
    refine (hB _).mono ?_
    rintro r w3 ⟨rfl, hy3, ht3⟩
    have hx3 : Has w3 x (N + 1) d.begun := (HX2.out.drewN nq).turnY (HY2.out.drewN nq) (turnP ht3)
    have hfin := Ans.mk HB1.out (HT2.out.drewN nq) (turnP ht3) (hx3.mono (N' := N + 2) (by omega)) hy3 (RNext.same _) rfl
    have hE := fun W => Equal_any (.slice none 0 0) (.slice none 0 0) [] [] 0 0 W (Byts.nil _ _) (Byts.nil _ _)
    have hEd : decide (([] : List UInt8) = []) = true := decide_eq_true rfl
    rw [hEd] at hE
    have hclr := clear_none
    clear hB hy3 hx3
    go_wp2_with fail
    refine (hE _).mono ?_
    rintro r w4 ⟨rfl, hw4⟩
    rw [hw4]
    go_wp2
    go_ret
    exact ⟨rfl, hfin⟩

set_option maxRecDepth 100000 in
set_option maxHeartbeats 4000000 in
theorem ans_read_ok (w : World) (x : Pl) (y : RPl) (N : Nat) (d : Dk.Dev) (hx : Has w x N d) (hy : RHas w y d) (hN : N ≤ 100000) (who after e torn short : Int) (b : UInt8) (vk : Value) (i : Nat) (hi : i < d.st.length) (he : d.err = 0) :
    Calls Try.prog 24 #[ptr x.p, ptr y.p, .agg (calV 0 who (i : Int) after e torn short b vk)] w fun r w' => r = .returned (.bool true) ∧ Ans w x y N d.st.length w' := by
  obtain ⟨c0, -⟩ := hy.m.cells
  have hplt : y.p < w.heap.size := lt_of_heap hy.m.hp
  have hop : (d.op : Int) ≤ 1000000000 := by have := hx.hop; omega
  have HX : Hid (Has w x N d) := hx
  have HY : Hid (RHas w y d) := hy
  clear hx hy
  unfold ptr calV
  go_enter Try.func24, Try.ntmps24
  go_upto_region 1 with fail
  have h0 : (0 : Int) ≤ (i : Int) := by omega
  have h1 : (i : Int) < (d.st.length : Int) := by omega
  have hd : decide ((0 : Int) ≤ (i : Int)) = true := decide_eq_true h0
  go_cut [7] (fun t7 w' => t7 = .bool true ∧ Below w.heap.size w w' ∧ w'.heap[w.heap.size]? = some (.cells (calV 0 who (i : Int) after e torn short b vk) 48 (0, 0)))
  case first =>
    go_quiet (fail)
    go_wp2
    go_meet
    exact ⟨rfl, cal_start w _ _⟩
  case rest =>
    obtain ⟨rfl, hb, hcal⟩ := hcut
    obtain ⟨k0, k2, k3, k4, k5, k6, k7, k8⟩ := cal_cells hcal
    have hx1 := HX.out.below hb
    have hy1 := HY.out.below hb
    clear c0 hplt hd
    have hA := Read_ok wc x N d hx1 (by omega) i hi he
    have HL : Hid (List.length (d.cont i) = 256) := Dk.cont_len HX.out.ok hi
    unfold ptr at hA
    go_wp2_with fail
    refine hA.mono ?_
    rintro r w2 ⟨v, rfl, hv, hx2, ht2⟩
    obtain ⟨g, c, rfl, hgb, hRg⟩ : ∃ g c, v = .slice (some ⟨g, 0, none⟩) 256 c ∧ wc.heap.size ≤ g ∧ RB w2 g c (d.cont i) := by
      rcases hv.2 with ⟨_, h00⟩ | ⟨g, cap, cur, rfl, hb, hg, q1, q2, q3, q4⟩
      · rw [HL.out] at h00; omega
      · rw [HL.out] at q1 q4
        exact ⟨g, cap, by rw [HL.out], hb, cur, hg, q4, HL.out, q1⟩
    have hy2 := hy1.turnX hx1 ht2
    obtain ⟨c0, -⟩ := hy2.m.cells
    obtain ⟨vb, hvb, hcb⟩ := hy2.m.hb.cell (i := i) hi
    obtain ⟨gb, cb, rfl⟩ := hcb.some_slice
    have hcal2 := cal_turnX hcal hx1 ht2
    obtain ⟨p0, p2, p3, p4, p5, p6, p7, p8⟩ := cal_cells hcal2
    have hB := fun q : Nat => RRead_ok2 (w2.drewN q) y d (hy2.drewN q) hop i hi he
    unfold ptr at hB
    have HNQ : Hid (NoQ w2 y d.st.length g) := NoQ.start hy1.m (ht2.block _ hy1.m.hb.lt (hy1.not_inX hx1 (by simp [RPl.bl]))) (ht2.block _ hy1.m.hc.lt (hy1.not_inX hx1 (by simp [RPl.bl]))) hgb
    have HX2 : Hid (Has w2 x (N + 1) d.begun) := hx2
    have HY2 : Hid (RHas w2 y d) := hy2
    have HT2 : Hid (Turn x.bl wc w2) := ht2
    have HB1 : Hid (Below w.heap.size w wc) := hb
    have HRG : Hid (RB w2 g c (d.cont i)) := hRg
    have HGB : Hid (wc.heap.size ≤ g ∧ (∀ k, k ∈ y.bl → k < wc.heap.size) ∧ (∀ k, k ∈ x.bl → k < wc.heap.size)) := ⟨hgb, hy1.m.lt, hx1.lt⟩
    clear hA hx1 hy1 hcb hx2 hy2 ht2 hb hv hRg
    go_wp2_with fail
    go_quiet (fail)
    go_wp2_with fail
    refine (hB _).mono ?_
    rintro r w3 ⟨v3, rfl, hv3, hy3, ht3⟩
    have hx3 : Has w3 x (N + 1) d.begun := (HX2.out.drewN nq).turnY (HY2.out.drewN nq) (turnP ht3)
    have hgp : g ∉ y.bl := fun h => by have := HGB.out.2.1 g h; have := HGB.out.1; omega
    have hRg3 : RB w3 g c (d.cont i) := by
      obtain ⟨cur, e1, e2⟩ := HRG.out
      exact ⟨cur, (ht3.block g (lt_of_heap (w := w2) e1) (fun h => hgp (by simp only [List.mem_singleton] at h; rw [h]; simp [RPl.bl]))).trans e1, e2⟩
    have hn3 : NoQ w3 y d.st.length g := NoQ.turnP (w := w2.drewN nq) HNQ.out (HY2.out.drewN nq).m ht3
    have hE := Equal_any (.slice (some ⟨g, 0, none⟩) 256 c) v3 _ _ _ _ w3 hRg3.byts hv3.byts
    have hEd : decide (d.cont i = d.cont i) = true := decide_eq_true rfl
    rw [hEd] at hE
    obtain ⟨w5, hclr, hg5⟩ := clear_any w3 g 256 c (fun j hj => by rw [Nat.zero_add]; exact Option.isSome_iff_exists.2 ⟨_, hRg3.cell hj⟩) (fun j _ => hRg3.free _)
    have hfin : Ans w x y N d.st.length w5 := by
      have hy5 : RHas w5 y d.begun := hy3.other hn3 hgp (fun k hk hne => hg5.block k hk (fun e => hne (by cases e; rfl)))
      have hx5 : Has w5 x (N + 1) d.begun := hx3.turn (Turn.of_grown hg5) (fun k hk hm => by simp only [Option.toList_some, List.mem_singleton] at hm; have := HGB.out.2.2 k hk; have := HGB.out.1; omega)
      refine ⟨y, d.begun, hx5.mono (by omega), hy5, RNext.same _, rfl, ?_⟩
      have h1 : Turn (x.bl ++ y.bl) w w3 := ((Turn.of_below HB1.out).mono (S' := x.bl ++ y.bl) (by simp)).trans (((HT2.out.drewN nq).mono (S' := x.bl ++ y.bl) (fun _ h _ => List.mem_append_left _ h)).trans ((turnP ht3).mono (S' := x.bl ++ y.bl) (fun _ h _ => List.mem_append_right _ h)) (fun _ h _ => h)) (fun _ h _ => h)
      exact h1.grow hg5 (fun q hq hlt => by cases hq; have := HB1.out.size; have := HGB.out.1; omega)
    obtain ⟨g3, c3, rfl⟩ := hv3.some_slice
    clear hB hy3 hx3 hRg3 hn3 hv3 ht3
    go_wp2_with fail
    refine hE.mono ?_
    rintro r w4 ⟨rfl, hw4⟩
    rw [hw4]
    go_wp2
    go_ret
    exact ⟨rfl, hfin⟩
end Go.Proofs.Ytccfoafcfnhejaa
