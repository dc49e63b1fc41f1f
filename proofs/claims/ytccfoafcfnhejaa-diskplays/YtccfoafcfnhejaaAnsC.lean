/-
  answers: Crash.
-/
import Derived.Test.YtccfoafcfnhejaaAnsK
namespace Go.Proofs.Ytccfoafcfnhejaa
open Go.RowKit

set_option maxRecDepth 100000 in
set_option maxHeartbeats 4000000 in
theorem ans_crash (w : World) (x : Pl) (y : RPl) (N : Nat) (d : Dk.Dev) (hx : Has w x N d) (hy : RHas w y d) (hN : N ≤ 100000) (who i after e torn short : Int) (b : UInt8) (vk : Value) (kl : List Bool) (t : Nat) (ht : min (max torn 0) 256 = (t : Int)) (hv : Bols w w.heap.size vk kl) (hkl : kl.length ≤ 140737488355328) (_hapx : kl ≠ [] → ∀ k, vk.ownBlock = some k → k ∉ x.bl) (hapy : kl ≠ [] → ∀ k, vk.ownBlock = some k → k ∉ y.bl) :
    Calls Try.prog 24 #[ptr x.p, ptr y.p, .agg (calV 5 who i after e torn short b vk)] w fun r w' => r = .returned (.bool true) ∧ Ans w x y N d.st.length w' := by
  obtain ⟨c0, -⟩ := hy.m.cells
  have hplt : y.p < w.heap.size := lt_of_heap hy.m.hp
  have hop : (d.op : Int) ≤ 1000000000 := by have := hx.hop; omega
  have HX : Hid (Has w x N d) := hx
  have HY : Hid (RHas w y d) := hy
  clear hx hy
  unfold ptr calV
  go_enter Try.func24, Try.ntmps24
  go_upto_region 1 with fail
  go_cut [7] (fun _ w' => Below w.heap.size w w' ∧ w'.heap[w.heap.size]? = some (.cells (calV 5 who i after e torn short b vk) 48 (0, 0)))
  case first =>
    by_cases h0 : 0 ≤ i
    · have hd : decide (0 ≤ i) = true := decide_eq_true h0
      go_quiet (fail)
      go_wp2
      go_meet
      exact cal_start w _ _
    · have hd : decide (0 ≤ i) = false := decide_eq_false h0
      go_quiet (fail)
      go_wp2
      go_meet
      exact cal_start w _ _
  case rest =>
    obtain ⟨hb, hcal⟩ := hcut
    obtain ⟨k0, k2, k3, k4, k5, k6, k7, k8⟩ := cal_cells hcal
    have hx1 := HX.out.below hb
    have hy1 := HY.out.below hb
    clear c0 hplt
    have hv1 : Bols wc w.heap.size vk kl := hv.turn (Nat.le_refl _) (Turn.of_below hb) (by simp)
    have hA := RCrash_any wc y d hy1 vk kl w.heap.size hv1 hb.size hapy torn t ht
    unfold ptr at hA
    go_wp2_with fail
    refine hA.mono ?_
    rintro r w2 ⟨rfl, ⟨y2, hy2, hn2⟩, ht2⟩
    have hx2 := hx1.turnY hy1 ht2
    have hcal2 := cal_turnY hcal hy1 ht2
    obtain ⟨p0, p2, p3, p4, p5, p6, p7, p8⟩ := cal_cells hcal2
    have hs2 : w.heap.size ≤ w2.heap.size := Nat.le_trans hb.size ht2.size
    have hv2 : Bols w2 w.heap.size vk kl := hv1.turn hb.size ht2 hapy
    have hCl := fun W (hW : W = w2 ∨ W = w2.drew) => CloneBo_any kl vk w.heap.size W (by rcases hW with rfl | rfl; exact hv2; exact hv2) (by rcases hW with rfl | rfl; exact hs2; exact hs2) hkl
    clear hA hv hv1 hx1 hy1
    go_wp2_with fail
    go_region_held3 (fun w' => w'.cell? ⟨w.heap.size, 8, none⟩ = some vk ∧ w'.cell? ⟨w.heap.size, 5, none⟩ = some (.int .i64 torn)) (first | exact ⟨p8, p5⟩ | exact ⟨q8, q5⟩ | exact ⟨s8, s5⟩)
      (first
        | (go_at_call 47; refine (hCl _ (by first | exact .inl rfl | exact .inr rfl)).mono ?_; rintro r w3 ⟨v3, rfl, hv3, hnew3, hb3⟩; have hb3' : Below w2.heap.size w2 w3 := ⟨hb3.os, hb3.tape, hb3.output, hb3.size, hb3.block⟩; have hnew3' : ∀ k, v3.ownBlock = some k → w2.heap.size ≤ k := hnew3; have hx3 := hx2.below hb3'; have hy3 := hy2.below hb3'; have hcal3 : w3.heap[w.heap.size]? = _ := (hb3'.block _ (lt_of_heap hcal2)).trans hcal2; obtain ⟨q0, q2, q3, q4, q5, q6, q7, q8⟩ := cal_cells hcal3; have hK := Crash_any w3 x N d hx3 (by omega) v3 kl w3.heap.size hv3 (Nat.le_refl _) (fun _ k hk hm => by have := hx2.lt k hm; have := hnew3' k hk; omega) torn t ht; unfold ptr at hK)
        | (go_at_call 11; refine hK.mono ?_; rintro r w4 ⟨rfl, hx4, ht4⟩; have hy4 := hy3.turnX hx3 ht4; have hcal4 := cal_turnX hcal3 hx3 ht4; obtain ⟨s0, s2, s3, s4, s5, s6, s7, s8⟩ := cal_cells hcal4))
    have hfin : Ans w x y N d.st.length w4 := ⟨y2, d.cr kl t, hx4.mono (by omega), hy4, hn2.down hb.size, cr_st d kl t, ((Turn.of_below hb).mono (S' := x.bl ++ y.bl) (by simp)).trans (((ht2.mono (S' := x.bl ++ y.bl) (fun _ h _ => List.mem_append_right _ h)).belowTrans hb3').trans (ht4.mono (S' := x.bl ++ y.bl) (fun _ h _ => List.mem_append_left _ h)) (fun _ h _ => h)) (fun _ h _ => h)⟩
    go_wp2
    go_ret
    exact ⟨rfl, hfin⟩
end Go.Proofs.Ytccfoafcfnhejaa
