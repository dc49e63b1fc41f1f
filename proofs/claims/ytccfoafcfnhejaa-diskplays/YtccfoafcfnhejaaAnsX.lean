/-
  answers: Fail, Cut.
-/
import Derived.Test.YtccfoafcfnhejaaAnsK
namespace Go.Proofs.Ytccfoafcfnhejaa
open Go.RowKit

set_option maxRecDepth 100000 in
set_option maxHeartbeats 4000000 in
theorem ans_fail (w : World) (x : Pl) (y : RPl) (N : Nat) (d : Dk.Dev) (hx : Has w x N d) (hy : RHas w y d) (hN : N ≤ 100000) (who i after e torn short : Int) (b : UInt8) (vk : Value) (hfl : y.fl.length ≤ 1000000) :
    Calls Try.prog 24 #[ptr x.p, ptr y.p, .agg (calV 3 who i after e torn short b vk)] w fun r w' => r = .returned (.bool true) ∧ Ans w x y N d.st.length w' := by
  obtain ⟨c0, -⟩ := hy.m.cells
  have hplt : y.p < w.heap.size := lt_of_heap hy.m.hp
  have hop : (d.op : Int) ≤ 1000000000 := by have := hx.hop; omega
  have HX : Hid (Has w x N d) := hx
  have HY : Hid (RHas w y d) := hy
  clear hx hy
  unfold ptr calV
  go_enter Try.func24, Try.ntmps24
  go_upto_region 1 with fail
  go_cut [7] (fun _ w' => Below w.heap.size w w' ∧ w'.heap[w.heap.size]? = some (.cells (calV 3 who i after e torn short b vk) 48 (0, 0)))
  case first =>
    by_cases h0 : 0 ≤ i
    · have hd : decide (0 ≤ i) = true := decide_eq_true h0
      go_quiet (fail)
      go_wp2
      go_meet
      exact cal_start w _ _
    · have hd : decide (0 ≤ i) = false := decide_eq_false h0
      go_quiet (fail)
      go_wp2
      go_meet
      exact cal_start w _ _
  case rest =>
    obtain ⟨hb, hcal⟩ := hcut
    obtain ⟨k0, k2, k3, k4, k5, k6, k7, k8⟩ := cal_cells hcal
    have hx1 := HX.out.below hb
    have hy1 := HY.out.below hb
    have hxd := hx1.drew
    have hyd := hy1.drew
    have hcd : wc.drew.heap[w.heap.size]? = _ := hcal
    have hbd := hb.drew
    clear c0 hplt
    by_cases hc : (0 ≤ after ∧ after ≤ 1073741824) ∧ (e = 8 ∨ e = 9)
    · have hA := Fail_ok wc.drew x N d hxd (by omega) after e hc.1.1 hc.1.2 hc.2
      have hB0 := fun W h => RFail_ok W y d h hop hfl after e hc.1.1 hc.1.2 hc.2
      unfold ptr at hA hB0
      go_wp2_with fail
      go_region_held3 (fun w' => w'.cell? ⟨w.heap.size, 3, none⟩ = some (.int .i64 after) ∧ w'.cell? ⟨w.heap.size, 4, none⟩ = some (.int .i64 e)) (first | exact ⟨k3, k4⟩ | exact ⟨p3, p4⟩ | exact ⟨q3, q4⟩)
        (first
          | (go_at_call 14; refine hA.mono ?_; rintro r w2 ⟨rfl, hx2, ht2⟩; have hy2 := hyd.turnX hxd ht2; have hcal2 := cal_turnX hcd hxd ht2; obtain ⟨p0, p2, p3, p4, p5, p6, p7, p8⟩ := cal_cells hcal2; have hB := hB0 w2 hy2)
          | (go_at_call 44; refine hB.mono ?_; rintro r w3 ⟨rfl, ⟨y3, hy3, hn3⟩, ht3⟩; have hcal3 := cal_turnY hcal2 hy2 ht3; obtain ⟨q0, q2, q3, q4, q5, q6, q7, q8⟩ := cal_cells hcal3; have hfin := Ans.mk hbd ht2 ht3 ((hx2.turnY hy2 ht3).mono (N' := N + 2) (by omega)) hy3 hn3 rfl))
      go_wp2
      go_ret
      exact ⟨rfl, hfin⟩
    · have hA := Fail_arg wc.drew x after e (by omega)
      have hB := fun W => RFail_arg W y after e (by omega)
      unfold ptr at hA hB
      have hfin := fun W (e : W = wc ∨ W = wc.drew) => (Ans.same HX.out HY.out (show Below w.heap.size w W by rcases e with rfl | rfl; exact hb; exact hb.drew))
      go_wp2_with fail
      go_region_held3 (fun w' => w'.cell? ⟨w.heap.size, 3, none⟩ = some (.int .i64 after) ∧ w'.cell? ⟨w.heap.size, 4, none⟩ = some (.int .i64 e)) (first | exact ⟨k3, k4⟩)
        (first
          | (go_at_call 14; refine hA.mono ?_; rintro r w2 ⟨rfl, hw2⟩; rw [hw2])
          | (go_at_call 44; refine (hB _).mono ?_; rintro r w3 ⟨rfl, hw3⟩; rw [hw3]))
      go_wp2
      go_ret
      exact ⟨rfl, hfin _ (by first | exact .inl rfl | exact .inr rfl)⟩

set_option maxRecDepth 100000 in
set_option maxHeartbeats 4000000 in
theorem ans_cut (w : World) (x : Pl) (y : RPl) (N : Nat) (d : Dk.Dev) (hx : Has w x N d) (hy : RHas w y d) (hN : N ≤ 100000) (who i after e torn short : Int) (b : UInt8) (vk : Value) :
    Calls Try.prog 24 #[ptr x.p, ptr y.p, .agg (calV 4 who i after e torn short b vk)] w fun r w' => r = .returned (.bool true) ∧ Ans w x y N d.st.length w' := by
  obtain ⟨c0, -⟩ := hy.m.cells
  have hplt : y.p < w.heap.size := lt_of_heap hy.m.hp
  have hop : (d.op : Int) ≤ 1000000000 := by have := hx.hop; omega
  have HX : Hid (Has w x N d) := hx
  have HY : Hid (RHas w y d) := hy
  clear hx hy
  unfold ptr calV
  go_enter Try.func24, Try.ntmps24
  go_upto_region 1 with fail
  go_cut [7] (fun _ w' => Below w.heap.size w w' ∧ w'.heap[w.heap.size]? = some (.cells (calV 4 who i after e torn short b vk) 48 (0, 0)))
  case first =>
    by_cases h0 : 0 ≤ i
    · have hd : decide (0 ≤ i) = true := decide_eq_true h0
      go_quiet (fail)
      go_wp2
      go_meet
      exact cal_start w _ _
    · have hd : decide (0 ≤ i) = false := decide_eq_false h0
      go_quiet (fail)
      go_wp2
      go_meet
      exact cal_start w _ _
  case rest =>
    obtain ⟨hb, hcal⟩ := hcut
    obtain ⟨k0, k2, k3, k4, k5, k6, k7, k8⟩ := cal_cells hcal
    have hx1 := HX.out.below hb
    have hy1 := HY.out.below hb
    have hxd := hx1.drew
    have hyd := hy1.drew
    have hcd : wc.drew.heap[w.heap.size]? = _ := hcal
    have hbd := hb.drew
    clear c0 hplt
    by_cases hc : 0 ≤ after ∧ after ≤ 1073741824
    · have hA := Cut_ok wc.drew x N d hxd (by omega) after hc.1 hc.2
      have hB0 := fun W h => RCut_ok W y d h hop after hc.1 hc.2
      unfold ptr at hA hB0
      go_wp2_with fail
      go_region_held3 (fun w' => w'.cell? ⟨w.heap.size, 3, none⟩ = some (.int .i64 after)) (first | exact k3 | exact p3 | exact q3)
        (first
          | (go_at_call 17; refine hA.mono ?_; rintro r w2 ⟨rfl, hx2, ht2⟩; have hy2 := hyd.turnX hxd ht2; have hcal2 := cal_turnX hcd hxd ht2; obtain ⟨p0, p2, p3, p4, p5, p6, p7, p8⟩ := cal_cells hcal2; have hB := hB0 w2 hy2)
          | (go_at_call 45; refine hB.mono ?_; rintro r w3 ⟨rfl, ⟨z3, hy3⟩, ht3⟩; have hcal3 := cal_turnY hcal2 hy2 ht3; obtain ⟨q0, q2, q3, q4, q5, q6, q7, q8⟩ := cal_cells hcal3; have hfin := Ans.mk hbd ht2 ht3 ((hx2.turnY hy2 ht3).mono (N' := N + 2) (by omega)) hy3 (RNext.cut _ _) rfl))
      go_wp2
      go_ret
      exact ⟨rfl, hfin⟩
    · have hA := Cut_arg wc.drew x after (by omega)
      have hB := fun W => RCut_arg W y after (by omega)
      unfold ptr at hA hB
      have hfin := fun W (e : W = wc ∨ W = wc.drew) => (Ans.same HX.out HY.out (show Below w.heap.size w W by rcases e with rfl | rfl; exact hb; exact hb.drew))
      go_wp2_with fail
      go_region_held3 (fun w' => w'.cell? ⟨w.heap.size, 3, none⟩ = some (.int .i64 after)) (first | exact k3)
        (first
          | (go_at_call 17; refine hA.mono ?_; rintro r w2 ⟨rfl, hw2⟩; rw [hw2])
          | (go_at_call 45; refine (hB _).mono ?_; rintro r w3 ⟨rfl, hw3⟩; rw [hw3]))
      go_wp2
      go_ret
      exact ⟨rfl, hfin _ (by first | exact .inl rfl | exact .inr rfl)⟩

end Go.Proofs.Ytccfoafcfnhejaa
