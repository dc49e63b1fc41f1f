/-
  answers: Flush; no call.
-/
import Derived.Test.YtccfoafcfnhejaaAnsK
namespace Go.Proofs.Ytccfoafcfnhejaa
open Go.RowKit

set_option maxRecDepth 100000 in
set_option maxHeartbeats 4000000 in
theorem ans_flush (w : World) (x : Pl) (y : RPl) (N : Nat) (d : Dk.Dev) (hx : Has w x N d) (hy : RHas w y d) (hN : N ≤ 100000) (who i after e torn short : Int) (b : UInt8) (vk : Value) :
    Calls Try.prog 24 #[ptr x.p, ptr y.p, .agg (calV 2 who i after e torn short b vk)] w fun r w' => r = .returned (.bool true) ∧ Ans w x y N d.st.length w' := by
  obtain ⟨c0, -⟩ := hy.m.cells
  have hplt : y.p < w.heap.size := lt_of_heap hy.m.hp
  have hop : (d.op : Int) ≤ 1000000000 := by have := hx.hop; omega
  have HX : Hid (Has w x N d) := hx
  have HY : Hid (RHas w y d) := hy
  clear hx hy
  unfold ptr calV
  go_enter Try.func24, Try.ntmps24
  go_upto_region 1 with fail
  go_cut [7] (fun _ w' => Below w.heap.size w w' ∧ w'.heap[w.heap.size]? = some (.cells (calV 2 who i after e torn short b vk) 48 (0, 0)))
  case first =>
    by_cases h0 : 0 ≤ i
    · have hd : decide (0 ≤ i) = true := decide_eq_true h0
      go_quiet (fail)
      go_wp2
      go_meet
      exact cal_start w _ _
    · have hd : decide (0 ≤ i) = false := decide_eq_false h0
      go_quiet (fail)
      go_wp2
      go_meet
      exact cal_start w _ _
  case rest =>
    obtain ⟨hb, hcal⟩ := hcut
    obtain ⟨k0, k2, k3, k4, k5, k6, k7, k8⟩ := cal_cells hcal
    have hx1 := HX.out.below hb
    have hy1 := HY.out.below hb
    clear c0 hplt
    by_cases he : d.err = 0
    · have hA := Flush_ok wc x N d hx1 (by omega) he
      unfold ptr at hA
      go_wp2_with fail
      refine hA.mono ?_
      rintro r w2 ⟨rfl, hx2, ht2⟩
      have hy2 := hy1.turnX hx1 ht2
      have hB := RFlush_ok w2 y d hy2 hop he
      unfold ptr at hB
      clear hA hx1 hy1
      go_wp2_with fail
      refine hB.mono ?_
      rintro r w3 ⟨rfl, hy3, ht3⟩
      have hfin := Ans.mk hb ht2 ht3 ((hx2.turnY hy2 ht3).mono (N' := N + 2) (by omega)) hy3 (RNext.last _ _) (fl_st _)
      clear hB hx2 hy2 hy3
      go_wp2
      go_ret
      exact ⟨rfl, hfin⟩
    · have hA := Flush_err wc x N d hx1 (by omega) he
      have hB0 := fun W h => RFlush_no W y d h hop he
      generalize d.err = er at *
      unfold ptr at hA hB0
      go_wp2_with fail
      refine hA.mono ?_
      rintro r w2 ⟨rfl, hx2, ht2⟩
      have hy2 := hy1.turnX hx1 ht2
      have hB := hB0 w2 hy2
      clear hA hB0 hx1 hy1
      go_wp2_with fail
      refine hB.mono ?_
      rintro r w3 ⟨rfl, hy3, ht3⟩
      have hfin := Ans.mk hb ht2 ht3 ((hx2.turnY hy2 ht3).mono (N' := N + 2) (by omega)) hy3 (RNext.same _) rfl
      clear hB hx2 hy2 hy3
      go_wp2
      go_ret
      exact ⟨rfl, hfin⟩

set_option maxRecDepth 100000 in
set_option maxHeartbeats 4000000 in
theorem ans_other (w : World) (x : Pl) (y : RPl) (N : Nat) (d : Dk.Dev) (hx : Has w x N d) (hy : RHas w y d) (hN : N ≤ 100000) (who i after e torn short : Int) (b : UInt8) (vk : Value) (kind : Int) (hk : kind < 0 ∨ 6 < kind) :
    Calls Try.prog 24 #[ptr x.p, ptr y.p, .agg (calV kind who i after e torn short b vk)] w fun r w' => r = .returned (.bool true) ∧ Ans w x y N d.st.length w' := by
  obtain ⟨c0, -⟩ := hy.m.cells
  have hplt : y.p < w.heap.size := lt_of_heap hy.m.hp
  have hop : (d.op : Int) ≤ 1000000000 := by have := hx.hop; omega
  have HX : Hid (Has w x N d) := hx
  have HY : Hid (RHas w y d) := hy
  clear hx hy
  unfold ptr calV
  go_enter Try.func24, Try.ntmps24
  go_upto_region 1 with fail
  go_cut [7] (fun _ w' => Below w.heap.size w w' ∧ w'.heap[w.heap.size]? = some (.cells (calV kind who i after e torn short b vk) 48 (0, 0)))
  case first =>
    by_cases h0 : 0 ≤ i
    · have hd : decide (0 ≤ i) = true := decide_eq_true h0
      go_quiet (fail)
      go_wp2
      go_meet
      exact cal_start w _ _
    · have hd : decide (0 ≤ i) = false := decide_eq_false h0
      go_quiet (fail)
      go_wp2
      go_meet
      exact cal_start w _ _
  case rest =>
    obtain ⟨hb, hcal⟩ := hcut
    obtain ⟨k0, k2, k3, k4, k5, k6, k7, k8⟩ := cal_cells hcal
    have hx1 := HX.out.below hb
    have hy1 := HY.out.below hb
    clear c0 hplt
    have hfin := Ans.same HX.out HY.out hb
    clear hx1 hy1
    rcases hk with hk | hk
    · have n0 : kind ≠ 0 := by omega
      have n1 : kind ≠ 1 := by omega
      have n2 : kind ≠ 2 := by omega
      have n3 : kind ≠ 3 := by omega
      have n4 : kind ≠ 4 := by omega
      have n5 : kind ≠ 5 := by omega
      have n6 : kind ≠ 6 := by omega
      go_wp2
      go_ret
      exact ⟨rfl, hfin⟩
    · have n0 : kind ≠ 0 := by omega
      have n1 : kind ≠ 1 := by omega
      have n2 : kind ≠ 2 := by omega
      have n3 : kind ≠ 3 := by omega
      have n4 : kind ≠ 4 := by omega
      have n5 : kind ≠ 5 := by omega
      have n6 : kind ≠ 6 := by omega
      go_wp2
      go_ret
      exact ⟨rfl, hfin⟩
end Go.Proofs.Ytccfoafcfnhejaa
