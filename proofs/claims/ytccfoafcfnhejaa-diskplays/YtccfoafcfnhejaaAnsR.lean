/-
  answers: Read, Stable.
-/
import Derived.Test.YtccfoafcfnhejaaAnsK
namespace Go.Proofs.Ytccfoafcfnhejaa
open Go.RowKit

set_option maxRecDepth 100000 in
set_option maxHeartbeats 4000000 in
theorem ans_read_no (w : World) (x : Pl) (y : RPl) (N : Nat) (d : Dk.Dev) (hx : Has w x N d) (hy : RHas w y d) (hN : N ≤ 100000) (who after e torn short : Int) (b : UInt8) (vk : Value) (i : Int) (hi : i < 0 ∨ (d.st.length : Int) ≤ i) :
    Calls Try.prog 24 #[ptr x.p, ptr y.p, .agg (calV 0 who i after e torn short b vk)] w fun r w' => r = .returned (.bool true) ∧ Ans w x y N d.st.length w' := by
  obtain ⟨c0, -⟩ := hy.m.cells
  have hplt : y.p < w.heap.size := lt_of_heap hy.m.hp
  have hop : (d.op : Int) ≤ 1000000000 := by have := hx.hop; omega
  have HX : Hid (Has w x N d) := hx
  have HY : Hid (RHas w y d) := hy
  clear hx hy
  unfold ptr calV
  go_enter Try.func24, Try.ntmps24
  go_upto_region 1 with fail
  go_cut [7] (fun t7 w' => t7 = .bool false ∧ Below w.heap.size w w' ∧ w'.heap[w.heap.size]? = some (.cells (calV 0 who i after e torn short b vk) 48 (0, 0)))
  case first =>
    by_cases h0 : 0 ≤ i
    · have hd : decide (0 ≤ i) = true := decide_eq_true h0
      have h1 : decide (i < (d.st.length : Int)) = false := decide_eq_false (by omega)
      go_quiet (fail)
      go_wp2
      go_meet
      exact ⟨rfl, cal_start w _ _⟩
    · have hd : decide (0 ≤ i) = false := decide_eq_false h0
      go_quiet (fail)
      go_wp2
      go_meet
      exact ⟨rfl, cal_start w _ _⟩
  case rest =>
    obtain ⟨rfl, hb, hcal⟩ := hcut
    obtain ⟨k0, k2, k3, k4, k5, k6, k7, k8⟩ := cal_cells hcal
    have hx1 := HX.out.below hb
    have hfin := Ans.same HX.out HY.out hb
    clear c0 hplt
    have hA := Read_no wc x N d hx1 i hi
    unfold ptr at hA
    clear hx1 hi
    go_wp2_with fail
    refine hA.mono ?_
    rintro r w2 ⟨rfl, hw2⟩
    rw [hw2]
    go_wp2
    go_ret
    exact ⟨rfl, hfin⟩

set_option maxRecDepth 100000 in
set_option maxHeartbeats 4000000 in
theorem ans_stab_no (w : World) (x : Pl) (y : RPl) (N : Nat) (d : Dk.Dev) (hx : Has w x N d) (hy : RHas w y d) (hN : N ≤ 100000) (who after e torn short : Int) (b : UInt8) (vk : Value) (i : Int) (hi : i < 0 ∨ (d.st.length : Int) ≤ i) :
    Calls Try.prog 24 #[ptr x.p, ptr y.p, .agg (calV 6 who i after e torn short b vk)] w fun r w' => r = .returned (.bool true) ∧ Ans w x y N d.st.length w' := by
  obtain ⟨c0, -⟩ := hy.m.cells
  have hplt : y.p < w.heap.size := lt_of_heap hy.m.hp
  have hop : (d.op : Int) ≤ 1000000000 := by have := hx.hop; omega
  have HX : Hid (Has w x N d) := hx
  have HY : Hid (RHas w y d) := hy
  clear hx hy
  unfold ptr calV
  go_enter Try.func24, Try.ntmps24
  go_upto_region 1 with fail
  go_cut [7] (fun t7 w' => t7 = .bool false ∧ Below w.heap.size w w' ∧ w'.heap[w.heap.size]? = some (.cells (calV 6 who i after e torn short b vk) 48 (0, 0)))
  case first =>
    by_cases h0 : 0 ≤ i
    · have hd : decide (0 ≤ i) = true := decide_eq_true h0
      have h1 : decide (i < (d.st.length : Int)) = false := decide_eq_false (by omega)
      go_quiet (fail)
      go_wp2
      go_meet
      exact ⟨rfl, cal_start w _ _⟩
    · have hd : decide (0 ≤ i) = false := decide_eq_false h0
      go_quiet (fail)
      go_wp2
      go_meet
      exact ⟨rfl, cal_start w _ _⟩
  case rest =>
    obtain ⟨rfl, hb, hcal⟩ := hcut
    obtain ⟨k0, k2, k3, k4, k5, k6, k7, k8⟩ := cal_cells hcal
    have hx1 := HX.out.below hb
    have hfin := Ans.same HX.out HY.out hb
    clear c0 hplt
    have hA := Stable_no wc x N d hx1 i hi
    unfold ptr at hA
    clear hx1 hi
    go_wp2_with fail
    refine hA.mono ?_
    rintro r w2 ⟨rfl, hw2⟩
    rw [hw2]
    go_wp2
    go_ret
    exact ⟨rfl, hfin⟩

set_option maxRecDepth 100000 in
set_option maxHeartbeats 4000000 in
theorem ans_stab_ok (w : World) (x : Pl) (y : RPl) (N : Nat) (d : Dk.Dev) (hx : Has w x N d) (hy : RHas w y d) (hN : N ≤ 100000) (who after e torn short : Int) (b : UInt8) (vk : Value) (i : Nat) (hi : i < d.st.length) :
    Calls Try.prog 24 #[ptr x.p, ptr y.p, .agg (calV 6 who (i : Int) after e torn short b vk)] w fun r w' => r = .returned (.bool true) ∧ Ans w x y N d.st.length w' := by
  obtain ⟨c0, -⟩ := hy.m.cells
  have hplt : y.p < w.heap.size := lt_of_heap hy.m.hp
  have hop : (d.op : Int) ≤ 1000000000 := by have := hx.hop; omega
  have HX : Hid (Has w x N d) := hx
  have HY : Hid (RHas w y d) := hy
  clear hx hy
  unfold ptr calV
  go_enter Try.func24, Try.ntmps24
  go_upto_region 1 with fail
  have h0 : (0 : Int) ≤ (i : Int) := by omega
  have h1 : (i : Int) < (d.st.length : Int) := by omega
  have hd : decide ((0 : Int) ≤ (i : Int)) = true := decide_eq_true h0
  go_cut [7] (fun t7 w' => t7 = .bool true ∧ Below w.heap.size w w' ∧ w'.heap[w.heap.size]? = some (.cells (calV 6 who (i : Int) after e torn short b vk) 48 (0, 0)))
  case first =>
    go_quiet (fail)
    go_wp2
    go_meet
    exact ⟨rfl, cal_start w _ _⟩
  case rest =>
    obtain ⟨rfl, hb, hcal⟩ := hcut
    obtain ⟨k0, k2, k3, k4, k5, k6, k7, k8⟩ := cal_cells hcal
    have hx1 := HX.out.below hb
    have hy1 := HY.out.below hb
    clear c0 hplt hd
    have hA := Stable_ok wc x N d hx1 i hi
    have HL : Hid (List.length (d.stab i) = 256) := HX.out.ok.len i hi
    unfold ptr at hA
    go_wp2_with fail
    refine hA.mono ?_
    rintro r w2 ⟨v, rfl, hv, hb2⟩
    obtain ⟨g, c, rfl, hgb, hRg⟩ : ∃ g c, v = .slice (some ⟨g, 0, none⟩) 256 c ∧ wc.heap.size ≤ g ∧ RB w2 g c (d.stab i) := by
      rcases hv.2 with ⟨_, h00⟩ | ⟨g, cap, cur, rfl, hb, hg, q1, q2, q3, q4⟩
      · rw [HL.out] at h00; omega
      · rw [HL.out] at q1 q4
        exact ⟨g, cap, by rw [HL.out], hb, cur, hg, q4, HL.out, q1⟩
    have hby := hRg.byts
    have hy2 := hy1.below hb2
    obtain ⟨c0, -⟩ := hy2.m.cells
    obtain ⟨vb, hvb, hcb⟩ := hy2.m.hb.cell (i := i) hi
    have hbb := hcb.byts
    obtain ⟨gb, cb, rfl⟩ := hcb.some_slice
    have hcal2 : w2.heap[w.heap.size]? = _ := (hb2.block _ (lt_of_heap hcal)).trans hcal
    obtain ⟨p0, p2, p3, p4, p5, p6, p7, p8⟩ := cal_cells hcal2
    have HB2 : Hid (Below w.heap.size w w2) := hb.trans (hb2.mono hb.size)
    have HE := fun q : Nat => Equal_any (.slice (some ⟨g, 0, none⟩) 256 c) (.slice (some ⟨gb, 0, none⟩) 256 cb) _ _ _ _ (w2.drewN q) hby hbb
    have hEd : decide (d.stab i = d.stab i) = true := decide_eq_true rfl
    rw [hEd] at HE
    have HCL : Hid (∀ q, ∃ w', (∀ ty, (Builtin.clear_ #[27] ty #[.slice (some ⟨g, 0, none⟩) 256 c]).run Try.prog (w2.drewN q) = .ok (.tuple #[]) w') ∧ (w2.drewN q).grownBy w' (some g)) := fun q => clear_any (w2.drewN q) g 256 c (fun j hj => by rw [Nat.zero_add]; exact Option.isSome_iff_exists.2 ⟨_, hRg.cell hj⟩) (fun j _ => hRg.free _)
    have HGB : Hid (w.heap.size ≤ g) := Nat.le_trans hb.size hgb
    clear hA hx1 hy1 hy2 hcb hv hb2 hby hbb hRg
    go_wp2_with fail
    go_quiet (fail)
    go_wp2_with fail
    refine (HE _).mono ?_
    rintro r w3 ⟨rfl, hw3⟩
    rw [hw3]
    clear hw3
    obtain ⟨w5, hclr, hg5⟩ := HCL.out nq
    have hfin : Ans w x y N d.st.length w5 := Ans.same HX.out HY.out (Below.grown (show Below w.heap.size w (w2.drewN nq) from ⟨HB2.out.os, HB2.out.tape, HB2.out.output, HB2.out.size, HB2.out.block⟩) hg5 HB2.out.size (fun k hk => by cases hk; exact HGB.out))
    go_wp2
    go_ret
    exact ⟨rfl, hfin⟩

end Go.Proofs.Ytccfoafcfnhejaa
