/-
  answers: Write, of as many bytes as it must be.
-/
import Derived.Test.YtccfoafcfnhejaaAnsK
namespace Go.Proofs.Ytccfoafcfnhejaa
open Go.RowKit

set_option maxRecDepth 100000 in
set_option maxHeartbeats 4000000 in
theorem ans_write_err (w : World) (x : Pl) (y : RPl) (N : Nat) (d : Dk.Dev) (hx : Has w x N d) (hy : RHas w y d) (hN : N ≤ 100000) (who after e torn short : Int) (b : UInt8) (vk : Value) (i : Nat) (hi : i < d.st.length) (hs : min (max short 0) 256 = (0 : Int)) (he : d.err ≠ 0) :
    Calls Try.prog 24 #[ptr x.p, ptr y.p, .agg (calV 1 who (i : Int) after e torn short b vk)] w fun r w' => r = .returned (.bool true) ∧ Ans w x y N d.st.length w' := by
  obtain ⟨c0, -⟩ := hy.m.cells
  have hplt : y.p < w.heap.size := lt_of_heap hy.m.hp
  have hop : (d.op : Int) ≤ 1000000000 := by have := hx.hop; omega
  have HX : Hid (Has w x N d) := hx
  have HY : Hid (RHas w y d) := hy
  clear hx hy
  unfold ptr calV
  go_enter Try.func24, Try.ntmps24
  go_upto_region 1 with fail
  have h0 : (0 : Int) ≤ (i : Int) := by omega
  have h1 : (i : Int) < (d.st.length : Int) := by omega
  have hd : decide ((0 : Int) ≤ (i : Int)) = true := decide_eq_true h0
  go_cut [7] (fun t7 w' => t7 = .bool true ∧ Below w.heap.size w w' ∧ w'.heap[w.heap.size]? = some (.cells (calV 1 who (i : Int) after e torn short b vk) 48 (0, 0)))
  case first =>
    go_quiet (fail)
    go_wp2
    go_meet
    exact ⟨rfl, cal_start w _ _⟩
  case rest =>
    obtain ⟨rfl, hb, hcal⟩ := hcut
    obtain ⟨k0, k2, k3, k4, k5, k6, k7, k8⟩ := cal_cells hcal
    have hx1 := HX.out.below hb
    have hy1 := HY.out.below hb
    clear c0 hplt hd
    have hF := filled_any b wc
    go_wp2_with fail
    refine hF.mono ?_
    rintro r w2 ⟨q, rfl, hq, hblk, hb2⟩
    have hcal2 : w2.heap[w.heap.size]? = _ := (hb2.block _ (lt_of_heap hcal)).trans hcal
    obtain ⟨p0, p2, p3, p4, p5, p6, p7, p8⟩ := cal_cells hcal2
    have hx2 := hx1.below hb2
    have hRq : RB w2 q 256 (filledB b) := RB.blk hblk (filledB_len b) (Nat.le_refl _)
    have HB2 : Hid (Below w.heap.size w w2) := hb.trans (hb2.mono hb.size)
    have HQ : Hid (w.heap.size ≤ q) := Nat.le_trans hb.size hq
    clear hF hblk
    generalize wc = w1 at *
    go_upto_region 19 with fail
    go_cut [14] (fun t14 w' => t14 = .slice (some ⟨q, 0, none⟩) 256 256 ∧ w' = w2)
    case first =>
      go_wp2
      go_meet
      exact ⟨rfl, rfl⟩
    case rest =>
      obtain ⟨rfl, hww⟩ := hcut
      rw [hww]
      clear hww
      have hA := Write_err w2 x N d hx2 (by omega) i hi (some ⟨q, 0, none⟩) 256 he
      have hy2 := hy1.below hb2
      have hB0 := fun W h => RWrite_no2 W y d h hop i (.slice (some ⟨q, 0, none⟩) 256 256) he
      unfold ptr at hA hB0
      generalize d.err = er at *
      have HNQ : Hid (NoQ w2 y d.st.length q) := NoQ.start hy1.m (hb2.block _ hy1.m.hb.lt) (hb2.block _ hy1.m.hc.lt) hq
      have HGB : Hid (w1.heap.size ≤ q ∧ (∀ k, k ∈ y.bl → k < w1.heap.size) ∧ (∀ k, k ∈ x.bl → k < w1.heap.size)) := ⟨hq, hy1.m.lt, hx1.lt⟩
      clear hx1 hy1 hb2
      go_wp2_with fail
      refine hA.mono ?_
      rintro r w3 ⟨rfl, hx3, ht3⟩
      have hy3 := hy2.turnX hx2 ht3
      have hcal3 := cal_turnX hcal2 hx2 ht3
      obtain ⟨s0, s2, -, -, -, -, -, -⟩ := cal_cells hcal3
      have hB := hB0 w3 hy3
      have hqx : q ∉ x.bl := fun h => by have := HGB.out.2.2 q h; have := HGB.out.1; omega
      have hqy : q ∉ y.bl := fun h => by have := HGB.out.2.1 q h; have := HGB.out.1; omega
      have hqlt : q < w2.heap.size := hRq.lt
      have hRq3 : RB w3 q 256 (filledB b) := by
        obtain ⟨cur, e1, e2⟩ := hRq
        exact ⟨cur, (ht3.block q hqlt hqx).trans e1, e2⟩
      have hn3 : NoQ w3 y d.st.length q := HNQ.out.same (ht3.block _ hy2.m.hb.lt (hy2.not_inX hx2 (by simp [RPl.bl]))) (ht3.block _ hy2.m.hc.lt (hy2.not_inX hx2 (by simp [RPl.bl])))
      clear hA hB0 hRq
      go_wp2_with fail
      refine hB.mono ?_
      rintro r w4 ⟨rfl, hy4, ht4⟩
      have hx4 := hx3.turnY hy3 (turnP ht4)
      have hRq4 : RB w4 q 256 (filledB b) := by
        have hl := hRq3.lt
        obtain ⟨cur, e1, e2⟩ := hRq3
        exact ⟨cur, ((turnP ht4).block q hl hqy).trans e1, e2⟩
      have hn4 : NoQ w4 y d.st.length q := hn3.turnP hy3.m ht4
      obtain ⟨w5, hclr, hg5⟩ := clear_any w4 q 256 256 (fun j hj => by rw [Nat.zero_add]; exact Option.isSome_iff_exists.2 ⟨_, hRq4.cell (by omega)⟩) (fun j _ => hRq4.free _)
      have hfin : Ans w x y N d.st.length w5 := by
        have hy5 : RHas w5 y d.begun := hy4.other hn4 hqy (fun k hk hne => hg5.block k hk (fun e => hne (by cases e; rfl)))
        have hx5 : Has w5 x (N + 1) d.begun := hx4.turn (Turn.of_grown hg5) (fun k hk hm => by simp only [Option.toList_some, List.mem_singleton] at hm; exact hqx (hm ▸ hk))
        refine ⟨y, d.begun, hx5.mono (by omega), hy5, RNext.same _, rfl, ?_⟩
        have h1 : Turn (x.bl ++ y.bl) w w4 := ((Turn.of_below HB2.out).mono (S' := x.bl ++ y.bl) (by simp)).trans ((ht3.mono (S' := x.bl ++ y.bl) (fun _ h _ => List.mem_append_left _ h)).trans ((turnP ht4).mono (S' := x.bl ++ y.bl) (fun _ h _ => List.mem_append_right _ h)) (fun _ h _ => h)) (fun _ h _ => h)
        exact h1.grow hg5 (fun q hq hlt => by cases hq; have := HQ.out; omega)
      clear hB hx3 hx4 hy3 hy4 hRq3 hRq4 hn3 hn4 hg5
      go_wp2
      go_ret
      exact ⟨rfl, hfin⟩

set_option maxRecDepth 100000 in
set_option maxHeartbeats 4000000 in
theorem ans_write_ok (w : World) (x : Pl) (y : RPl) (N : Nat) (d : Dk.Dev) (hx : Has w x N d) (hy : RHas w y d) (hN : N ≤ 100000) (who after e torn short : Int) (b : UInt8) (vk : Value) (i : Nat) (hi : i < d.st.length) (hs : min (max short 0) 256 = (0 : Int)) (he : d.err = 0) :
    Calls Try.prog 24 #[ptr x.p, ptr y.p, .agg (calV 1 who (i : Int) after e torn short b vk)] w fun r w' => r = .returned (.bool true) ∧ Ans w x y N d.st.length w' := by
  obtain ⟨c0, -⟩ := hy.m.cells
  have hplt : y.p < w.heap.size := lt_of_heap hy.m.hp
  have hop : (d.op : Int) ≤ 1000000000 := by have := hx.hop; omega
  have HX : Hid (Has w x N d) := hx
  have HY : Hid (RHas w y d) := hy
  clear hx hy
  unfold ptr calV
  go_enter Try.func24, Try.ntmps24
  go_upto_region 1 with fail
  have h0 : (0 : Int) ≤ (i : Int) := by omega
  have h1 : (i : Int) < (d.st.length : Int) := by omega
  have hd : decide ((0 : Int) ≤ (i : Int)) = true := decide_eq_true h0
  go_cut [7] (fun t7 w' => t7 = .bool true ∧ Below w.heap.size w w' ∧ w'.heap[w.heap.size]? = some (.cells (calV 1 who (i : Int) after e torn short b vk) 48 (0, 0)))
  case first =>
    go_quiet (fail)
    go_wp2
    go_meet
    exact ⟨rfl, cal_start w _ _⟩
  case rest =>
    obtain ⟨rfl, hb, hcal⟩ := hcut
    obtain ⟨k0, k2, k3, k4, k5, k6, k7, k8⟩ := cal_cells hcal
    have hx1 := HX.out.below hb
    have hy1 := HY.out.below hb
    clear c0 hplt hd
    have hF := filled_any b wc
    go_wp2_with fail
    refine hF.mono ?_
    rintro r w2 ⟨q, rfl, hq, hblk, hb2⟩
    have hcal2 : w2.heap[w.heap.size]? = _ := (hb2.block _ (lt_of_heap hcal)).trans hcal
    obtain ⟨p0, p2, p3, p4, p5, p6, p7, p8⟩ := cal_cells hcal2
    have hx2 := hx1.below hb2
    have hRq : RB w2 q 256 (filledB b) := RB.blk hblk (filledB_len b) (Nat.le_refl _)
    have HB2 : Hid (Below w.heap.size w w2) := hb.trans (hb2.mono hb.size)
    have HQ : Hid (w.heap.size ≤ q) := Nat.le_trans hb.size hq
    clear hF hblk
    generalize wc = w1 at *
    go_upto_region 19 with fail
    go_cut [14] (fun t14 w' => t14 = .slice (some ⟨q, 0, none⟩) 256 256 ∧ w' = w2)
    case first =>
      go_wp2
      go_meet
      exact ⟨rfl, rfl⟩
    case rest =>
      obtain ⟨rfl, hww⟩ := hcut
      rw [hww]
      clear hww
      have hby := hRq.byts
      have HGB : Hid (w1.heap.size ≤ q ∧ (∀ k, k ∈ y.bl → k < w1.heap.size) ∧ (∀ k, k ∈ x.bl → k < w1.heap.size)) := ⟨hq, hy1.m.lt, hx1.lt⟩
      have hqx : q ∉ x.bl := fun h => by have := HGB.out.2.2 q h; have := HGB.out.1; omega
      have hqy : q ∉ y.bl := fun h => by have := HGB.out.2.1 q h; have := HGB.out.1; omega
      have hA := Write_ok w2 x N d hx2 (by omega) i hi (.slice (some ⟨q, 0, none⟩) 256 256) (filledB b) w2.heap.size hby (Nat.le_refl _) (filledB_len b) (fun k e hm => by cases e; exact hqx hm) he
      have hy2 := hy1.below hb2
      unfold ptr at hA
      have HNQ : Hid (NoQ w2 y d.st.length q) := NoQ.start hy1.m (hb2.block _ hy1.m.hb.lt) (hb2.block _ hy1.m.hc.lt) hq
      have hqlt : q < w2.heap.size := hRq.lt
      clear hx1 hy1 hb2 hby
      go_wp2_with fail
      refine hA.mono ?_
      rintro r w3 ⟨rfl, hx3, ht3⟩
      have hy3 := hy2.turnX hx2 ht3
      have hcal3 := cal_turnX hcal2 hx2 ht3
      obtain ⟨s0, s2, -, -, -, -, -, -⟩ := cal_cells hcal3
      have hRq3 : RB w3 q 256 (filledB b) := by
        obtain ⟨cur, e1, e2⟩ := hRq
        exact ⟨cur, (ht3.block q hqlt hqx).trans e1, e2⟩
      have hn3 : NoQ w3 y d.st.length q := HNQ.out.same (ht3.block _ hy2.m.hb.lt (hy2.not_inX hx2 (by simp [RPl.bl]))) (ht3.block _ hy2.m.hc.lt (hy2.not_inX hx2 (by simp [RPl.bl])))
      have hB := RWrite_ok2 w3 y d hy3 hop i hi (.slice (some ⟨q, 0, none⟩) 256 256) (filledB b) w3.heap.size (Nat.le_refl _) hRq3.byts (fun k e hm => by cases e; exact hqy hm) (filledB_len b) he
      unfold ptr at hB
      clear hA hRq
      go_wp2_with fail
      refine hB.mono ?_
      rintro r w4 ⟨rfl, hy4, ht4, hnq4⟩
      have hx4 := hx3.turnY hy3 ht4
      have hRq4 : RB w4 q 256 (filledB b) := by
        have hl := hRq3.lt
        obtain ⟨cur, e1, e2⟩ := hRq3
        exact ⟨cur, (ht4.block q hl hqy).trans e1, e2⟩
      have hn4 : NoQ w4 y d.st.length q := hnq4 q hRq3.lt hn3
      obtain ⟨w5, hclr, hg5⟩ := clear_any w4 q 256 256 (fun j hj => by rw [Nat.zero_add]; exact Option.isSome_iff_exists.2 ⟨_, hRq4.cell (by omega)⟩) (fun j _ => hRq4.free _)
      have hfin : Ans w x y N d.st.length w5 := by
        have hy5 : RHas w5 { y with last := (i : Int) } (d.begun.wr i (filledB b)) := hy4.other hn4 hqy (fun k hk hne => hg5.block k hk (fun e => hne (by cases e; rfl)))
        have hx5 : Has w5 x (N + 2) (d.begun.wr i (filledB b)) := hx4.turn (Turn.of_grown hg5) (fun k hk hm => by simp only [Option.toList_some, List.mem_singleton] at hm; exact hqx (hm ▸ hk))
        refine ⟨_, _, hx5, hy5, RNext.last _ _, rfl, ?_⟩
        have h1 : Turn (x.bl ++ y.bl) w w4 := ((Turn.of_below HB2.out).mono (S' := x.bl ++ y.bl) (by simp)).trans ((ht3.mono (S' := x.bl ++ y.bl) (fun _ h _ => List.mem_append_left _ h)).trans (ht4.mono (S' := x.bl ++ y.bl) (fun _ h _ => List.mem_append_right _ h)) (fun _ h _ => h)) (fun _ h _ => h)
        exact h1.grow hg5 (fun q hq hlt => by cases hq; have := HQ.out; omega)
      clear hB hx3 hx4 hy3 hy4 hRq3 hRq4 hn3 hn4 hg5
      go_wp2
      go_ret
      exact ⟨rfl, hfin⟩

end Go.Proofs.Ytccfoafcfnhejaa
