/-
  answers: Write.
-/
import Derived.Test.YtccfoafcfnhejaaAnsK
namespace Go.Proofs.Ytccfoafcfnhejaa
open Go.RowKit

set_option maxRecDepth 100000 in
set_option maxHeartbeats 4000000 in
theorem ans_write_no (w : World) (x : Pl) (y : RPl) (N : Nat) (d : Dk.Dev) (hx : Has w x N d) (hy : RHas w y d) (hN : N ≤ 100000) (who after e torn short : Int) (b : UInt8) (vk : Value) (i : Int) (hi : i < 0 ∨ (d.st.length : Int) ≤ i) (s : Nat) (hs : min (max short 0) 256 = (s : Int)) :
    Calls Try.prog 24 #[ptr x.p, ptr y.p, .agg (calV 1 who i after e torn short b vk)] w fun r w' => r = .returned (.bool true) ∧ Ans w x y N d.st.length w' := by
  obtain ⟨c0, -⟩ := hy.m.cells
  have hplt : y.p < w.heap.size := lt_of_heap hy.m.hp
  have hop : (d.op : Int) ≤ 1000000000 := by have := hx.hop; omega
  have HX : Hid (Has w x N d) := hx
  have HY : Hid (RHas w y d) := hy
  clear hx hy
  unfold ptr calV
  go_enter Try.func24, Try.ntmps24
  go_upto_region 1 with fail
  go_cut [7] (fun t7 w' => t7 = .bool false ∧ Below w.heap.size w w' ∧ w'.heap[w.heap.size]? = some (.cells (calV 1 who i after e torn short b vk) 48 (0, 0)))
  case first =>
    by_cases h0 : 0 ≤ i
    · have hd : decide (0 ≤ i) = true := decide_eq_true h0
      have h1 : decide (i < (d.st.length : Int)) = false := decide_eq_false (by omega)
      go_quiet (fail)
      go_wp2
      go_meet
      exact ⟨rfl, cal_start w _ _⟩
    · have hd : decide (0 ≤ i) = false := decide_eq_false h0
      go_quiet (fail)
      go_wp2
      go_meet
      exact ⟨rfl, cal_start w _ _⟩
  case rest =>
    obtain ⟨rfl, hb, hcal⟩ := hcut
    obtain ⟨k0, k2, k3, k4, k5, k6, k7, k8⟩ := cal_cells hcal
    have hx1 := HX.out.below hb
    have hy1 := HY.out.below hb
    clear c0 hplt
    have hF := filled_any b wc
    have HI : Hid (i < 0 ∨ (d.st.length : Int) ≤ i) := hi
    clear hi
    have hs256 : s ≤ 256 := by omega
    have hcut1 : (0 : Int) ≤ 256 - (s : Int) := by omega
    have hcut2 : 256 - (s : Int) ≤ 256 := by omega
    go_wp2_with fail
    refine hF.mono ?_
    rintro r w2 ⟨q, rfl, hq, hblk, hb2⟩
    have hcal2 : w2.heap[w.heap.size]? = _ := (hb2.block _ (lt_of_heap hcal)).trans hcal
    obtain ⟨p0, p2, p3, p4, p5, p6, p7, p8⟩ := cal_cells hcal2
    have hx2 := hx1.below hb2
    have hRq : RB w2 q 256 (filledB b) := RB.blk hblk (filledB_len b) (Nat.le_refl _)
    have HB2 : Hid (Below w.heap.size w w2) := hb.trans (hb2.mono hb.size)
    have HQ : Hid (w.heap.size ≤ q) := Nat.le_trans hb.size hq
    clear hF hblk
    go_upto_region 19 with fail
    go_cut [14] (fun t14 w' => t14 = .slice (some ⟨q, 0, none⟩) (256 - s) 256 ∧ w' = w2)
    case first =>
      go_wp2
      go_meet
      exact ⟨rfl, rfl⟩
    case rest =>
      obtain ⟨rfl, hww⟩ := hcut
      rw [hww]
      clear hww
      have hA := Write_no w2 x N d hx2 i (.slice (some ⟨q, 0, none⟩) (256 - s) 256) HI.out
      unfold ptr at hA
      obtain ⟨w5, hclr, hg5⟩ := clear_any w2 q (256 - s) 256 (fun j hj => by rw [Nat.zero_add]; exact Option.isSome_iff_exists.2 ⟨_, hRq.cell (by omega)⟩) (fun j _ => hRq.free _)
      have hfin : Ans w x y N d.st.length w5 := Ans.same HX.out HY.out (HB2.out.grown hg5 HB2.out.size (fun k hk => by cases hk; exact HQ.out))
      clear hx1 hy1 hx2 hRq hb2 hg5
      go_wp2_with fail
      refine hA.mono ?_
      rintro r w3 ⟨rfl, hw3⟩
      rw [hw3]
      clear hw3 hA
      go_wp2
      go_ret
      exact ⟨rfl, hfin⟩

set_option maxRecDepth 100000 in
set_option maxHeartbeats 4000000 in
theorem ans_write_arg (w : World) (x : Pl) (y : RPl) (N : Nat) (d : Dk.Dev) (hx : Has w x N d) (hy : RHas w y d) (hN : N ≤ 100000) (who after e torn short : Int) (b : UInt8) (vk : Value) (i : Nat) (hi : i < d.st.length) (s : Nat) (hs : min (max short 0) 256 = (s : Int)) (h0s : 0 < s) :
    Calls Try.prog 24 #[ptr x.p, ptr y.p, .agg (calV 1 who (i : Int) after e torn short b vk)] w fun r w' => r = .returned (.bool true) ∧ Ans w x y N d.st.length w' := by
  obtain ⟨c0, -⟩ := hy.m.cells
  have hplt : y.p < w.heap.size := lt_of_heap hy.m.hp
  have hop : (d.op : Int) ≤ 1000000000 := by have := hx.hop; omega
  have HX : Hid (Has w x N d) := hx
  have HY : Hid (RHas w y d) := hy
  clear hx hy
  unfold ptr calV
  go_enter Try.func24, Try.ntmps24
  go_upto_region 1 with fail
  have h0 : (0 : Int) ≤ (i : Int) := by omega
  have h1 : (i : Int) < (d.st.length : Int) := by omega
  have hd : decide ((0 : Int) ≤ (i : Int)) = true := decide_eq_true h0
  go_cut [7] (fun t7 w' => t7 = .bool true ∧ Below w.heap.size w w' ∧ w'.heap[w.heap.size]? = some (.cells (calV 1 who (i : Int) after e torn short b vk) 48 (0, 0)))
  case first =>
    go_quiet (fail)
    go_wp2
    go_meet
    exact ⟨rfl, cal_start w _ _⟩
  case rest =>
    obtain ⟨rfl, hb, hcal⟩ := hcut
    obtain ⟨k0, k2, k3, k4, k5, k6, k7, k8⟩ := cal_cells hcal
    have hx1 := HX.out.below hb
    have hy1 := HY.out.below hb
    clear c0 hplt hd
    have hF := filled_any b wc
    have hs256 : s ≤ 256 := by omega
    have hcut1 : (0 : Int) ≤ 256 - (s : Int) := by omega
    have hcut2 : 256 - (s : Int) ≤ 256 := by omega
    go_wp2_with fail
    refine hF.mono ?_
    rintro r w2 ⟨q, rfl, hq, hblk, hb2⟩
    have hcal2 : w2.heap[w.heap.size]? = _ := (hb2.block _ (lt_of_heap hcal)).trans hcal
    obtain ⟨p0, p2, p3, p4, p5, p6, p7, p8⟩ := cal_cells hcal2
    have hx2 := hx1.below hb2
    have hRq : RB w2 q 256 (filledB b) := RB.blk hblk (filledB_len b) (Nat.le_refl _)
    have HB2 : Hid (Below w.heap.size w w2) := hb.trans (hb2.mono hb.size)
    have HQ : Hid (w.heap.size ≤ q) := Nat.le_trans hb.size hq
    clear hF hblk
    go_upto_region 19 with fail
    go_cut [14] (fun t14 w' => t14 = .slice (some ⟨q, 0, none⟩) (256 - s) 256 ∧ w' = w2)
    case first =>
      go_wp2
      go_meet
      exact ⟨rfl, rfl⟩
    case rest =>
      obtain ⟨rfl, hww⟩ := hcut
      rw [hww]
      clear hww
      have hne : ((256 - s : Nat) : Int) ≠ 256 := by omega
      have hA := Write_arg w2 x N d hx2 i hi (some ⟨q, 0, none⟩) (256 - s) 256 hne
      unfold ptr at hA
      obtain ⟨w5, hclr, hg5⟩ := clear_any w2 q (256 - s) 256 (fun j hj => by rw [Nat.zero_add]; exact Option.isSome_iff_exists.2 ⟨_, hRq.cell (by omega)⟩) (fun j _ => hRq.free _)
      have hfin : Ans w x y N d.st.length w5 := Ans.same HX.out HY.out (HB2.out.grown hg5 HB2.out.size (fun k hk => by cases hk; exact HQ.out))
      clear hx1 hy1 hx2 hRq hb2 hg5
      go_wp2_with fail
      refine hA.mono ?_
      rintro r w3 ⟨rfl, hw3⟩
      rw [hw3]
      clear hw3 hA
      go_wp2
      go_ret
      exact ⟨rfl, hfin⟩

end Go.Proofs.Ytccfoafcfnhejaa
