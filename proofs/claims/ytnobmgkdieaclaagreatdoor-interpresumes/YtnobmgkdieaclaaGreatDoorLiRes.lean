/-
  InterpResumes' walk (by gen_res.py).
-/
import Derived.Test.YtnobmgkdieaclaaGreatDoorIpAskJ
import Derived.Test.YtnobmgkdieaclaaGreatDoorIpRan
import Derived.Test.YtnobmgkdieaclaaGreatDoorIpPool
namespace Go.Proofs.YtnobmgkdieaclaaGreatDoor
open Go.RowKit

/-- where the row of runs lies, n in it, m in all; the place of one of them -/
def AtS (X : Nat → RP × Ip.St) (i p : Nat) (s : Ip.St) : Prop := (X i).1.p = p ∧ (X i).2 = s
theorem gt_zero_of {n : Nat} (h : ¬ n = 0) : ∃ k, n = k + 1 := ⟨n - 1, by omega⟩
set_option maxRecDepth 100000 in
set_option maxHeartbeats 8000000 in
theorem resumes_walk (va : Option Addr) (vn vc : Nat) (ta : Option Addr) (tn tc : Nat) (fu : Int) (f : Ac.Fo) (ts : List (List UInt8)) (v1 : Value) (l : List (Ip.B × Ip.B)) (v2 : Value) (bl : List Bool) (w : World) (hL : Laid w) (hj : JobS w w.heap.size va vn vc ta tn tc f ts) (h1 : -9223372036854775808 ≤ fu) (h2 : fu ≤ 9223372036854775807)
    (hl1 : FiR.Sl w w.heap.size v1 l) (hn1 : l.length ≤ 140737488351232) (hz1 : ∀ a ∈ l, a.2.length ≤ 140737488351232) (hbl : BlR.Sl w w.heap.size v2 bl) (hnb : bl.length ≤ 140737488351232) :
    Calls Tryz.prog 7 #[jobV va vn vc ta tn tc fu, v1, v2] w fun e w' => e = .returned (.bool true) ∧ Below w.heap.size w w' := by
  obtain ⟨a1, c1, rfl, -⟩ := hl1.shape
  obtain ⟨a2, c2, rfl, -⟩ := hbl.shape
  have lb : (l.length : Int) ≤ 140737488351232 := by omega
  have bb : (bl.length : Int) ≤ 140737488351232 := by omega
  have hsf := shortF_in h1 h2
  have r0 := Rw.new w #[.slice va vn vc, .slice ta tn tc, .int .i64 fu] 25
  have hbY := (Below.refl w.heap.size w).alloc (Nat.le_refl _) (.cells #[.slice va vn vc, .slice ta tn tc, .int .i64 fu] 25)
  unfold jobV
  go_enter Tryz.func7, Tryz.ntmps7
  go_upto_region 1 with fail
  generalize w.alloc (.cells #[.slice va vn vc, .slice ta tn tc, .int .i64 fu] 25) = Y at *
  have hW := works_any Y (hL.below hbY hL.size)
  have hSh := short_any va vn vc ta tn tc fu
  unfold jobV at hSh
  generalize shortF fu = F at *
  go_upto_region 4 with (first
    | (go_at_call 12; refine hW.mono ?_; rintro e w1 ⟨rfl, hb1⟩; have q0 := r0.below hb1 r0.lt; have k0 := q0.cell 0; have k1 := q0.cell 1; have k2 := q0.cell 2)
    | (go_at_call 22; refine (hSh _).mono ?_; rintro e w2 ⟨rfl, hb2⟩; have q3 := q0.below hb2 q0.lt; have m0 := q3.cell 0; have m1 := q3.cell 1; have m2 := q3.cell 2; have f0 := q3.free 0; have f1 := q3.free 1; have f2 := q3.free 2)
    | fail)
  have q4 := q3.put3 (.slice va vn vc) (.slice ta tn tc) (.int .i64 F)
  have hT4 := Turn.put3 w2 w.heap.size (.slice va vn vc) (.slice ta tn tc) (.int .i64 F)
  have hb2w : Below w.heap.size w w2 := (hbY.trans (hb1.mono hbY.size)).trans (hb2.mono (by have := hb1.size; have := hbY.size; omega))
  have hbV := hT4.bel hb2w (by simp)
  clear m0 m1 m2 k0 k1 k2 f0 f1 f2 q0 q3 hT4 hb2w hb1 hb2 hW hSh r0
  generalize ((w2.setCell ⟨w.heap.size, 0, none⟩ (.slice va vn vc)).setCell ⟨w.heap.size, 1, none⟩ (.slice ta tn tc)).setCell ⟨w.heap.size, 2, none⟩ (.int .i64 F) = V at *
  have hjV := hj.below hbV
  have hLV := hL.below hbV hL.size
  have hG : ∀ W, Below V.heap.size V W → _ := fun W hb => great_any F (hjV.below hb)
  unfold jobV at hG
  have k0 := q4.cell 0
  have k1 := q4.cell 1
  have k2 := q4.cell 2
  by_cases hmy : Ip.mayNew f ts F = true
  case neg =>
    have hB := begun_no F V hjV hLV hsf.1 hsf.2 (by simpa using hmy)
    unfold jobV at hB
    clear hmy
    by_cases hl200 : 200 < l.length
    · have i1 : (200 : Int) < (l.length : Int) := by omega
      go_wp2_with (first
        | (go_at_call 23; refine hB.mono ?_; rintro e w3 ⟨rfl, hb3⟩; have q5 := q4.below hb3 q4.lt; have s0 := q5.cell 0; have s1 := q5.cell 1; have s2 := q5.cell 2)
        | (go_at_call 13; refine (hG _ hb3).mono ?_; rintro e w4 ⟨he, hb4⟩; rcases he with rfl | ⟨rfl, hwg⟩)
        | fail)
      all_goals (go_ret; exact ⟨rfl, hbV.trans ((hb3.mono hbV.size).trans (hb4.mono (by have := hb3.size; have := hbV.size; omega)))⟩)
    · have i1 : ¬ (200 : Int) < (l.length : Int) := by omega
      go_wp2_with (first
        | (go_at_call 23; refine hB.mono ?_; rintro e w3 ⟨rfl, hb3⟩; have q5 := q4.below hb3 q4.lt; have s0 := q5.cell 0; have s1 := q5.cell 1; have s2 := q5.cell 2)
        | (go_at_call 13; refine (hG _ hb3).mono ?_; rintro e w4 ⟨he, hb4⟩; rcases he with rfl | ⟨rfl, hwg⟩)
        | fail)
      all_goals (go_ret; exact ⟨rfl, hbV.trans ((hb3.mono hbV.size).trans (hb4.mono (by have := hb3.size; have := hbV.size; omega)))⟩)
  case pos =>
  have hB := begun_yes F V [] hjV hLV hsf.1 hsf.2 hmy (by simp)
  unfold jobV at hB
  by_cases hl200 : 200 < l.length
  · have i1 : (200 : Int) < (l.length : Int) := by omega
    go_wp2_with (first
      | (go_at_call 23; refine hB.mono ?_; rintro e w3 ⟨x, rfl, R1, hx1, hb3⟩; have q5 := q4.below hb3 q4.lt; have s0 := q5.cell 0; have s1 := q5.cell 1; have s2 := q5.cell 2)
      | (go_at_call 13; refine (hG _ hb3).mono ?_; rintro e w4 ⟨he, hb4⟩; rcases he with rfl | ⟨rfl, hwg⟩)
      | fail)
    all_goals (go_ret; exact ⟨rfl, hbV.trans ((hb3.mono hbV.size).trans (hb4.mono (by have := hb3.size; have := hbV.size; omega)))⟩)
  have i1 : ¬ (200 : Int) < (l.length : Int) := by omega
  go_upto_region 7 with (first
    | (go_at_call 23; refine hB.mono ?_; rintro e w3 ⟨x, rfl, R1, hx1, hb3⟩; have q5 := q4.below hb3 q4.lt; have s0 := q5.cell 0; have s1 := q5.cell 1; have s2 := q5.cell 2)
    | (go_at_call 13; refine (hG _ hb3).mono ?_; rintro e w4 ⟨he, hb4⟩; rcases he with rfl | ⟨rfl, hwg⟩)
    | fail)
  · go_ret
    exact ⟨rfl, hbV.trans ((hb3.mono hbV.size).trans (hb4.mono (by have := hb3.size; have := hbV.size; omega)))⟩
  have R2 := R1.below hb4
  rw [List.append_nil] at R2
  have hx4 : ∀ b ∈ x.own, w.heap.size ≤ b ∧ b < w4.heap.size := fun b hb => ⟨Nat.le_trans hbV.size (hx1 b hb), R2.lt b hb⟩
  have hb34 : Below V.heap.size V w4 := hb3.trans (hb4.mono hb3.size)
  have hbW := hbV.trans (hb34.mono hbV.size)
  have q6 := q5.below hb4 q5.lt
  have hjW := hj.below hbW
  have hLW := hL.below hbW hL.size
  have hzW := hbW.size
  have hlW := (hl1.below hbW (Nat.le_refl _)).mono hzW
  obtain ⟨R, hR⟩ : ∃ R, wholeR (Ip.whole f ts F (Ip.find l)) = R := ⟨_, rfl⟩
  obtain ⟨K, hK⟩ : ∃ K : Int, (R.ev.kind : Int) = K := ⟨_, rfl⟩
  obtain ⟨P, hP⟩ : ∃ P, str R.ev.path = P := ⟨_, rfl⟩
  obtain ⟨X2, hX⟩ : ∃ X, str R.ev.text = X := ⟨_, rfl⟩
  obtain ⟨Z, hZ⟩ : ∃ Z : Int, (R.ev.why : Int) = Z := ⟨_, rfl⟩
  obtain ⟨U, hU⟩ : ∃ U : Int, (R.used : Int) = U := ⟨_, rfl⟩
  have hV : Hid ((R.ev.kind : Int) = K ∧ str R.ev.path = P ∧ str R.ev.text = X2 ∧ (R.ev.why : Int) = Z ∧ (R.used : Int) = U) := ⟨hK, hP, hX, hZ, hU⟩
  obtain ⟨e0, e1, e2, -, -, e5⟩ := whole_yes (Ip.find l) hmy hwg
  rw [hR] at e1 e2 e5
  have hRn : Hid (R.needs.length ≤ 8 ∧ R.outs.length ≤ 4) := ⟨e2, e5⟩
  have hWell : Ip.St.Well (Ip.find l) R (Ip.new f ts F.toNat) := ⟨Ip.new_ok hmy hwg, e1.symm⟩
  have HD1 := Do_let hjW hLW F hsf.1 hsf.2 hwg a1 c1 l hlW hn1 hz1 R 0 hR e0 hV.out
  clear hK hP hX hZ hU hR e0 e1 e2 e5 k0 k1 k2 s0 s1 s2 hG hl200 hB hb3 hb4 hb34 R1 hx1 q5 q4 hjV hLV
  have HS1 : Hid (∀ W, Below w4.heap.size w4 W → W.cell? ⟨w.heap.size, 0, none⟩ = some (.slice va vn vc) ∧ W.cell? ⟨w.heap.size, 1, none⟩ = some (.slice ta tn tc) ∧ W.cell? ⟨w.heap.size, 2, none⟩ = some (.int .i64 F)) := fun W hb => ⟨(q6.below hb q6.lt).cell 0, (q6.below hb q6.lt).cell 1, (q6.below hb q6.lt).cell 2⟩
  have HP1 : Hid (∀ (W : World) (gz : Nat) (b0 b1 b2 b3 b4 b5 b6 : Value), Below w4.heap.size w4 W → w4.heap.size ≤ gz → (((((((W.setCell ⟨gz, 0, none⟩ b0).setCell ⟨gz, 1, none⟩ b1).setCell ⟨gz, 2, none⟩ b2).setCell ⟨gz, 3, none⟩ b3).setCell ⟨gz, 4, none⟩ b4).setCell ⟨gz, 5, none⟩ b5).setCell ⟨gz, 6, none⟩ b6).cell? ⟨w.heap.size, 0, none⟩ = some (.slice va vn vc) ∧ (((((((W.setCell ⟨gz, 0, none⟩ b0).setCell ⟨gz, 1, none⟩ b1).setCell ⟨gz, 2, none⟩ b2).setCell ⟨gz, 3, none⟩ b3).setCell ⟨gz, 4, none⟩ b4).setCell ⟨gz, 5, none⟩ b5).setCell ⟨gz, 6, none⟩ b6).cell? ⟨w.heap.size, 1, none⟩ = some (.slice ta tn tc) ∧ (((((((W.setCell ⟨gz, 0, none⟩ b0).setCell ⟨gz, 1, none⟩ b1).setCell ⟨gz, 2, none⟩ b2).setCell ⟨gz, 3, none⟩ b3).setCell ⟨gz, 4, none⟩ b4).setCell ⟨gz, 5, none⟩ b5).setCell ⟨gz, 6, none⟩ b6).cell? ⟨w.heap.size, 2, none⟩ = some (.int .i64 F)) := fun W gz b0 b1 b2 b3 b4 b5 b6 hb hg => HS1.out _ ((Turn.put7 W gz b0 b1 b2 b3 b4 b5 b6).bel hb (by simpa using hg))
  have hb0 : Below w4.heap.size w4 w4.drew := (Below.refl _ w4).drew
  have hbA : Below w4.heap.size w4 (w4.alloc (.cells #[.int .i64 0, .string ⟨#[]⟩, .int .i64 0, .string ⟨#[]⟩, .slice none 0 0, .slice none 0 0, .int .i64 0] 35)).drew := ((Below.refl _ w4).alloc (Nat.le_refl _) _).drew
  go_cut [9, 10] from 38 (fun s7 s8 V2 => ∃ ga oa on oc na nn nc, s7 = .pointer (some ⟨ga, 0, none⟩) ∧ s8 = .int .i64 0 ∧ Rw V2 ga #[.int .i64 K, .string P, .int .i64 Z, .string X2, .slice oa on oc, .slice na nn nc, .int .i64 U] 35 ∧ w4.heap.size ≤ ga ∧ TxR.Own V2 w4.heap.size (.slice oa on oc) R.outs ∧ TxR.Own V2 w4.heap.size (.slice na nn nc) R.needs ∧ Below w4.heap.size w4 V2)
  case first =>
    go_region_held3 (fun X : World => X.cell? ⟨w.heap.size, 0, none⟩ = some (.slice va vn vc) ∧ X.cell? ⟨w.heap.size, 1, none⟩ = some (.slice ta tn tc) ∧ X.cell? ⟨w.heap.size, 2, none⟩ = some (.int .i64 F)) (first | with_reducible exact HS1.out _ hb0 | with_reducible exact HS1.out _ hbf | with_reducible exact HS1.out _ hbd | with_reducible exact HS1.out _ (hbd.alloc hbd.size _) | with_reducible exact HS1.out _ (hb0.alloc hb0.size _) | with_reducible exact HS1.out _ (hbf.alloc hbf.size _) | with_reducible exact HP1.out _ _ _ _ _ _ _ _ _ (hbd.alloc hbd.size _) (by have := hbd.size; omega) | with_reducible exact HS1.out _ hbg | with_reducible exact HS1.out _ hbA | with_reducible exact HP1.out _ _ _ _ _ _ _ _ _ hbd (by have := hbf.size; omega) | with_reducible exact HP1.out _ _ _ _ _ _ _ _ _ hbd (Nat.le_refl _) | fail) (first
      | (go_at_call 28; first
          | (refine (files_any a1 l.length c1 w4.drew).mono ?_; rintro e wf ⟨rfl, hwf⟩; have hbf : Below w4.heap.size w4 wf := (by rw [hwf]; exact hb0.alloc hb0.size _); have rf : Rw wf w4.heap.size #[.slice a1 l.length c1] 54 := (by rw [hwf]; exact Rw.new _ _ _); clear hwf)
          | (refine (files_any a1 l.length c1 (w4.alloc (.cells #[.int .i64 0, .string ⟨#[]⟩, .int .i64 0, .string ⟨#[]⟩, .slice none 0 0, .slice none 0 0, .int .i64 0] 35)).drew).mono ?_; rintro e wg ⟨rfl, hwg2⟩; have hbg : Below w4.heap.size w4 wg := (by rw [hwg2]; exact hbA.alloc hbA.size _); have rg : Rw wg (w4.heap.size + 1) #[.slice a1 l.length c1] 54 := (by rw [hwg2]; have hr := Rw.new (w4.alloc (.cells #[.int .i64 0, .string ⟨#[]⟩, .int .i64 0, .string ⟨#[]⟩, .slice none 0 0, .slice none 0 0, .int .i64 0] 35)).drew #[.slice a1 l.length c1] 54; have hz : (w4.alloc (.cells #[.int .i64 0, .string ⟨#[]⟩, .int .i64 0, .string ⟨#[]⟩, .slice none 0 0, .slice none 0 0, .int .i64 0] 35)).drew.heap.size = w4.heap.size + 1 := size_alloc w4 _; rw [hz] at hr; exact hr); have rgn : Rw wg w4.heap.size ran0 35 := (by rw [hwg2]; exact Rw.alloc (show Rw (w4.alloc (.cells ran0 35)).drew w4.heap.size ran0 35 from Rw.new w4 _ _) _); clear hwg2))
      | (go_at_call 15; first
          | (refine (HD1.out wf _ hbf rf).mono ?_; rintro e wd ⟨oa, on, oc, na, nn, nc, rfl, p1, p2, hbd0⟩; have hbd := hbf.trans (hbd0.mono hbf.size); clear hbd0)
          | (refine (HD1.out (wf.alloc (.cells #[.int .i64 0, .string ⟨#[]⟩, .int .i64 0, .string ⟨#[]⟩, .slice none 0 0, .slice none 0 0, .int .i64 0] 35)) _ (hbf.alloc hbf.size _) (rf.alloc _)).mono ?_; rintro e wd ⟨oa, on, oc, na, nn, nc, rfl, p1, p2, hbd0⟩; have hbd := (hbf.alloc hbf.size _).trans (hbd0.mono (hbf.alloc hbf.size _).size); have rn := (Rw.new wf ran0 35).below hbd0 (Rw.new wf ran0 35).lt; have x0 : wd.cell? ⟨wf.heap.size, 0, none⟩ = some (.int .i64 0) := rn.cell 0; have y0 : wd.frozen? ⟨wf.heap.size, 0, none⟩ = false := rn.free 0; have x1 : wd.cell? ⟨wf.heap.size, 1, none⟩ = some (.string ⟨#[]⟩) := rn.cell 1; have y1 : wd.frozen? ⟨wf.heap.size, 1, none⟩ = false := rn.free 1; have x2 : wd.cell? ⟨wf.heap.size, 2, none⟩ = some (.int .i64 0) := rn.cell 2; have y2 : wd.frozen? ⟨wf.heap.size, 2, none⟩ = false := rn.free 2; have x3 : wd.cell? ⟨wf.heap.size, 3, none⟩ = some (.string ⟨#[]⟩) := rn.cell 3; have y3 : wd.frozen? ⟨wf.heap.size, 3, none⟩ = false := rn.free 3; have x4 : wd.cell? ⟨wf.heap.size, 4, none⟩ = some (.slice none 0 0) := rn.cell 4; have y4 : wd.frozen? ⟨wf.heap.size, 4, none⟩ = false := rn.free 4; have x5 : wd.cell? ⟨wf.heap.size, 5, none⟩ = some (.slice none 0 0) := rn.cell 5; have y5 : wd.frozen? ⟨wf.heap.size, 5, none⟩ = false := rn.free 5; have x6 : wd.cell? ⟨wf.heap.size, 6, none⟩ = some (.int .i64 0) := rn.cell 6; have y6 : wd.frozen? ⟨wf.heap.size, 6, none⟩ = false := rn.free 6; clear hbd0)
          | (refine (HD1.out wg _ hbg rg).mono ?_; rintro e wd ⟨oa, on, oc, na, nn, nc, rfl, p1, p2, hbd0⟩; have hbd := hbg.trans (hbd0.mono hbg.size); have rn2 := rgn.below hbd0 rgn.lt; have x0 : wd.cell? ⟨w4.heap.size, 0, none⟩ = some (.int .i64 0) := rn2.cell 0; have y0 : wd.frozen? ⟨w4.heap.size, 0, none⟩ = false := rn2.free 0; have x1 : wd.cell? ⟨w4.heap.size, 1, none⟩ = some (.string ⟨#[]⟩) := rn2.cell 1; have y1 : wd.frozen? ⟨w4.heap.size, 1, none⟩ = false := rn2.free 1; have x2 : wd.cell? ⟨w4.heap.size, 2, none⟩ = some (.int .i64 0) := rn2.cell 2; have y2 : wd.frozen? ⟨w4.heap.size, 2, none⟩ = false := rn2.free 2; have x3 : wd.cell? ⟨w4.heap.size, 3, none⟩ = some (.string ⟨#[]⟩) := rn2.cell 3; have y3 : wd.frozen? ⟨w4.heap.size, 3, none⟩ = false := rn2.free 3; have x4 : wd.cell? ⟨w4.heap.size, 4, none⟩ = some (.slice none 0 0) := rn2.cell 4; have y4 : wd.frozen? ⟨w4.heap.size, 4, none⟩ = false := rn2.free 4; have x5 : wd.cell? ⟨w4.heap.size, 5, none⟩ = some (.slice none 0 0) := rn2.cell 5; have y5 : wd.frozen? ⟨w4.heap.size, 5, none⟩ = false := rn2.free 5; have x6 : wd.cell? ⟨w4.heap.size, 6, none⟩ = some (.int .i64 0) := rn2.cell 6; have y6 : wd.frozen? ⟨w4.heap.size, 6, none⟩ = false := rn2.free 6; clear hbd0))
      | fail)
    · have bA := hbd.alloc hbd.size (.cells #[.int .i64 K, .string P, .int .i64 Z, .string X2, .slice oa on oc, .slice na nn nc, .int .i64 U] 35)
      have rN := Rw.new wd #[.int .i64 K, .string P, .int .i64 Z, .string X2, .slice oa on oc, .slice na nn nc, .int .i64 U] 35
      have pA := (p1.alloc (.cells #[.int .i64 K, .string P, .int .i64 Z, .string X2, .slice oa on oc, .slice na nn nc, .int .i64 U] 35)).low hbf.size
      have pB := (p2.alloc (.cells #[.int .i64 K, .string P, .int .i64 Z, .string X2, .slice oa on oc, .slice na nn nc, .int .i64 U] 35)).low hbf.size
      go_wp2_with fail
      go_meet
      case rel => exact ⟨_, oa, on, oc, na, nn, nc, rfl, rfl, rN, hbd.size, pA, pB, bA⟩
    · have hT7 := Turn.put7 wd wf.heap.size (.int .i64 K) (.string P) (.int .i64 Z) (.string X2) (.slice oa on oc) (.slice na nn nc) (.int .i64 U)
      have rN := Rw.put7 (x0 := .int .i64 0) (x1 := .string ⟨#[]⟩) (x2 := .int .i64 0) (x3 := .string ⟨#[]⟩) (x4 := .slice none 0 0) (x5 := .slice none 0 0) (x6 := .int .i64 0) rn (.int .i64 K) (.string P) (.int .i64 Z) (.string X2) (.slice oa on oc) (.slice na nn nc) (.int .i64 U)
      have pA := (p1.turnP hT7 (fun g hg => by have := (p1.lt g hg).1; rw [size_alloc] at this; simp; omega)).low (B' := w4.heap.size) (by rw [size_alloc]; have := hbf.size; omega)
      have pB := (p2.turnP hT7 (fun g hg => by have := (p2.lt g hg).1; rw [size_alloc] at this; simp; omega)).low (B' := w4.heap.size) (by rw [size_alloc]; have := hbf.size; omega)
      have bA := hT7.bel hbd (by simp; exact hbf.size)
      have hga := hbf.size
      go_wp2_with fail
      go_meet
      case rel => exact ⟨_, oa, on, oc, na, nn, nc, rfl, rfl, rN, hga, pA, pB, bA⟩
    · have hT7 := Turn.put7 wd w4.heap.size (.int .i64 K) (.string P) (.int .i64 Z) (.string X2) (.slice oa on oc) (.slice na nn nc) (.int .i64 U)
      have rN := Rw.put7 (x0 := .int .i64 0) (x1 := .string ⟨#[]⟩) (x2 := .int .i64 0) (x3 := .string ⟨#[]⟩) (x4 := .slice none 0 0) (x5 := .slice none 0 0) (x6 := .int .i64 0) rn2 (.int .i64 K) (.string P) (.int .i64 Z) (.string X2) (.slice oa on oc) (.slice na nn nc) (.int .i64 U)
      have hlg := rgn.lt
      have pA := (p1.turnP hT7 (fun g hg => by have := (p1.lt g hg).1; simp; omega)).low (B' := w4.heap.size) (by omega)
      have pB := (p2.turnP hT7 (fun g hg => by have := (p2.lt g hg).1; simp; omega)).low (B' := w4.heap.size) (by omega)
      have bA := hT7.bel hbd (by simp)
      go_wp2_with fail
      go_meet
      case rel => exact ⟨_, oa, on, oc, na, nn, nc, rfl, rfl, rN, Nat.le_refl _, pA, pB, bA⟩
  case rest =>
  obtain ⟨ga, oa, on, oc, na, nn, nc, rfl, rfl, rA, hga, pA, pB, bA⟩ := hcut
  clear HS1 HP1 hb0 hbA HD1
  rename World => C
  have hbC := hbW.trans (bA.mono hzW)
  have hLC := hL.below hbC hL.size
  have R3 : RunS C x.own x (Ip.new f ts F.toNat) := R2.below bA
  have hzC := bA.size
  have hx7 := R2.low
  have hlC : FiR.Sl C w.heap.size (.slice a1 l.length c1) l := hl1.below hbC (Nat.le_refl _)
  have hbB : BlR.Sl C w.heap.size (.slice a2 bl.length c2) bl := hbl.below hbC (Nat.le_refl _)
  have hlow : Hid (∀ V', Turn x.own C V' → Below w.heap.size w V') := fun V' hT => hbC.trans (hT.below' hbC.size (fun b hb => (hx4 b hb).1))
  have hwant : Hid (∀ V', Turn x.own C V' → Rw V' ga #[.int .i64 K, .string P, .int .i64 Z, .string X2, .slice oa on oc, .slice na nn nc, .int .i64 U] 35 ∧ RnV V' (.agg #[.int .i64 K, .string P, .int .i64 Z, .string X2, .slice oa on oc, .slice na nn nc, .int .i64 U]) R) := fun V' hT =>
    ⟨rA.turn hT (fun hx => by have := (hx4 _ hx).2; omega), ran_v hV.out (pA.turnP hT (fun g hg hx => by have := (hx4 _ hx).2; have := (pA.lt g hg).1; omega)).sl (pB.turnP hT (fun g hg hx => by have := (hx4 _ hx).2; have := (pB.lt g hg).1; omega)).sl⟩
  have hLs : Hid (∀ V', Turn x.own C V' → Laid V') := fun V' hT => hLC.turn hT hx7
  have hfiles : Hid (∀ V', Turn x.own C V' → FiR.Sl V' w.heap.size (.slice a1 l.length c1) l ∧ BlR.Sl V' w.heap.size (.slice a2 bl.length c2) bl ∧ w.heap.size ≤ V'.heap.size) := fun V' hT => by
    have hb : Below w.heap.size C V' := hT.below' hbC.size (fun b hb => (hx4 b hb).1)
    exact ⟨hlC.below hb (Nat.le_refl _), hbB.below hb (Nat.le_refl _), Nat.le_trans hbC.size hb.size⟩
  have hSt : Hid (LeftS (Ip.find l) R C x.own C 0 1 x.own (fun _ => (x, Ip.new f ts F.toNat)) (.slice none 0 0)) := ⟨⟨fun i hi => R3, fun i j hi hj hij => by omega⟩, fun i hi => hWell, Rc.Own.nil _ _, fun g hg => by simp [Value.ownBlock] at hg, R3.lim, fun b hb _ => hb, Turn.refl _ _, by omega⟩
  clear R2 R3 rA pA pB bA hlC hbB hlW hWell
  go_upto_block 0 with fail
  go_cut [7, 11, 12, 13, 14] from 52 (fun s7 s11 s12 s13 s14 V => ∃ (n p : Nat) (O : List Nat) (X : Nat → RP × Ip.St) (la : Option Addr) (ln lc : Nat), s7 = .pointer (some ⟨p, 0, none⟩) ∧ s11 = .slice la ln lc ∧ n ≤ 9 ∧ Hid ((X n).1.p = p ∧ LeftS (Ip.find l) R C x.own V n (n + 1) O X (.slice la ln lc)))
  case first =>
    go_wp2
    go_loopw [7, 11, 12, 13, 14] (fun s7 s11 s12 s13 s14 wr => ∃ (n p : Nat) (O : List Nat) (X : Nat → RP × Ip.St) (la : Option Addr) (ln lc : Nat), s7 = .pointer (some ⟨p, 0, none⟩) ∧ s11 = .slice la ln lc ∧ s12 = .int .i64 (n : Int) ∧ n ≤ 9 ∧ Hid ((X n).1.p = p ∧ LeftS (Ip.find l) R C x.own wr n (n + 1) O X (.slice la ln lc))) (fun _ _ s12 _ _ _ => 9 - (intOf s12).toNat)
    case atStart => exact ⟨0, x.p, x.own, _, none, 0, 0, rfl, rfl, rfl, by omega, rfl, hSt.out⟩
    case round =>
      obtain ⟨n, p, O, X, la, ln, lc, rfl, rfl, rfl, hn9, HX⟩ := hrel
      obtain ⟨hp, hLf⟩ := HX.out
      by_cases hn8 : n ≤ 8
      · have j1 : (n : Int) ≤ 8 := by omega
        have hstep := Step_any wr O (X n).1 (X n).2 (hLf.pool.each n (by omega)) (hLf.fine n (by omega)).inv (hLs.out _ hLf.turn)
        have hti := Ip.St.step_inv (hLf.fine n (by omega)).inv
        have htw := (hLf.fine n (by omega)).step
        rw [hp] at hstep
        obtain ⟨t, ht⟩ : ∃ t, (X n).2.step = t := ⟨_, rfl⟩
        rw [ht] at hstep hti htw
        unfold evV at hstep
        have HW5 : Hid (∀ w5, Went wr O (X n).1 t w5 → ∃ x' O', x'.p = p ∧ LeftS (Ip.find l) R C x.own w5 n (n + 1) O' (putX X n (x', t)) (.slice la ln lc)) := fun w5 hw => by
          obtain ⟨x', O', g1, g2, -, -⟩ := hLf.went (by omega) hw htw
          exact ⟨x', O', g1.trans hp, g2⟩
        have HT : Hid (t.Inv ∧ t.ev.kind ≠ 0 ∧ Ip.St.Well (Ip.find l) R t) := ⟨hti.1, hti.2, htw⟩
        clear hLf HX hti htw ht hp
        obtain ⟨K1, hK1⟩ : ∃ K1 : Int, (t.ev.kind : Int) = K1 := ⟨_, rfl⟩
        obtain ⟨P1, hP1⟩ : ∃ P1, str t.ev.path = P1 := ⟨_, rfl⟩
        obtain ⟨Z1, hZ1⟩ : ∃ Z1 : Int, (t.ev.why : Int) = Z1 := ⟨_, rfl⟩
        obtain ⟨T1, hT1⟩ : ∃ T1, str t.ev.text = T1 := ⟨_, rfl⟩
        have HE : Hid ((t.ev.kind : Int) = K1 ∧ str t.ev.path = P1 ∧ (t.ev.why : Int) = Z1 ∧ str t.ev.text = T1) := ⟨hK1, hP1, hZ1, hT1⟩
        rw [hK1, hP1, hZ1, hT1] at hstep
        clear hK1 hP1 hZ1 hT1
        go_upto_region 15 with (first | (go_at_call 25; refine hstep.mono ?_; rintro e w5 ⟨rfl, hw5⟩) | fail)
        obtain ⟨x1, O1, hp1, hL5⟩ := HW5.out _ hw5
        have r6 := Rw.new w5 #[.int .i64 K1, .string P1, .int .i64 Z1, .string T1] 33
        have hL6 := hL5.below ((Below.refl w5.heap.size w5).alloc (Nat.le_refl _) (.cells #[.int .i64 K1, .string P1, .int .i64 Z1, .string T1] 33))
        have hgx : w5.heap.size ∉ O1 := fun hx => Nat.lt_irrefl _ (hL5.lim _ hx)
        clear hL5 hw5 HW5 hstep
        generalize w5.alloc (.cells #[.int .i64 K1, .string P1, .int .i64 Z1, .string T1] 33) = W6 at *
        generalize w5.heap.size = gx at *
        have b0 := r6.cell 0
        by_cases hk1 : K1 = 1
        · have ht1 : t.ev.kind = 1 := by have := HE.out.1; omega
          subst hk1
          have hLc := hL6
          have hX1 : putX X n (x1, t) n = (x1, t) := putX_at _ _ _
          have hRun : RunS W6 O1 x1 t := by have := hL6.pool.each n (by omega); rw [hX1] at this; exact this
          have hC := Copy_any W6 O1 x1 t hRun HT.out.1 (hLs.out _ hL6.turn)
          rw [hp1] at hC
          have HC7 : Hid (∀ W x2, RunS W (x2.own ++ O1) x2 t → (∀ b ∈ x2.own, W6.heap.size ≤ b) → Below W6.heap.size W6 W → LeftS (Ip.find l) R C x.own W n (n + 1 + 1) (x2.own ++ O1) (putX (putX X n (x1, t)) (n + 1) (x2, t)) (.slice la ln lc)) := fun W x2 c1 c2 c3 => hL6.more c3 c1 c2 HT.out.2.2
          clear hRun hX1 hL6 hLc
          go_upto_region 17 with (first | (go_at_call 30; refine hC.mono ?_; rintro e w7 ⟨x2, rfl, c1, c2, c3⟩) | fail)
          have hL7 := HC7.out w7 x2 c1 c2 c3
          have r7 := r6.below c3 r6.lt
          have hgx7 : gx ∉ x2.own ++ O1 := fun hx => by
            rcases List.mem_append.1 hx with hx | hx
            · have := c2 _ hx; have := r6.lt; omega
            · exact hgx hx
          have hA7 : AtS (putX (putX X n (x1, t)) (n + 1) (x2, t)) n p t := by
            refine ⟨?_, ?_⟩ <;> rw [putX_ne (by omega), putX_at]
            exact hp1
          have hB7 : (putX (putX X n (x1, t)) (n + 1) (x2, t)) (n + 1) = (x2, t) := putX_at _ _ _
          obtain ⟨p2, hp2⟩ : ∃ p2, x2.p = p2 := ⟨_, rfl⟩
          obtain ⟨O2, hO2⟩ : ∃ O2, x2.own ++ O1 = O2 := ⟨_, rfl⟩
          rw [hO2] at hL7 hgx7
          rw [hp2]
          generalize putX (putX X n (x1, t)) (n + 1) (x2, t) = X7 at *
          have HS7 : Hid (∀ W, Below w7.heap.size w7 W → Calls Tryz.prog 25 #[.pointer (some ⟨p2, 0, none⟩)] W fun e w' => e = .returned (.agg #[.int .i64 1, .string P1, .int .i64 Z1, .string T1]) ∧ ∃ O3 X3, LeftS (Ip.find l) R C x.own w' n (n + 1 + 1) O3 X3 (.slice la ln lc) ∧ AtS X3 n p t ∧ AtS X3 (n + 1) p2 t ∧ gx ∉ O3 ∧ Rw w' gx #[.int .i64 1, .string P1, .int .i64 Z1, .string T1] 33) := fun W hb => by
            have hLW := hL7.below hb
            have hs := Step_any W O2 (X7 (n + 1)).1 (X7 (n + 1)).2 (hLW.pool.each (n + 1) (by omega)) (hLW.fine (n + 1) (by omega)).inv (hLs.out _ hLW.turn)
            rw [hB7, show t.step = t from Ip.St.step_end HT.out.2.1] at hs
            unfold evV at hs
            rw [HE.out.1, HE.out.2.1, HE.out.2.2.1, HE.out.2.2.2, hp2] at hs
            refine hs.mono ?_
            rintro e w' ⟨rfl, hw⟩
            rw [← hB7] at hw
            obtain ⟨x', O', g1, g2, g3, g4⟩ := hLW.went (by omega) hw HT.out.2.2
            have rW := r7.below hb r7.lt
            refine ⟨rfl, O', _, g2, ⟨?_, ?_⟩, ⟨?_, ?_⟩, fun hx => ?_, rW.turn g4 (fun hx => hgx7 ((hLW.pool.each (n + 1) (by omega)).sub _ hx))⟩
            · rw [putX_ne (by omega)]; exact hA7.1
            · rw [putX_ne (by omega)]; exact hA7.2
            · rw [putX_at]; exact g1.trans (by rw [hB7]; exact hp2)
            · rw [putX_at]
            · rcases g3 _ hx with hx | hx
              · exact hgx7 hx
              · have := rW.lt; omega
          have HQ : Hid (∀ W O3 X3, LeftS (Ip.find l) R C x.own W n (n + 1 + 1) O3 X3 (.slice la ln lc) → AtS X3 n p t → AtS X3 (n + 1) p2 t → ∀ q, (q = p ∨ q = p2) → ∀ W', Below W.heap.size W W' → (Calls Tryz.prog 19 #[.pointer (some ⟨q, 0, none⟩)] W' fun e w' => e = .returned (.int .i64 (t.used : Int)) ∧ w' = W') ∧ (Calls Tryz.prog 17 #[.pointer (some ⟨q, 0, none⟩)] W' fun e w' => ∃ a n c, e = .returned (.slice a n c) ∧ TxR.Own w' W'.heap.size (.slice a n c) t.needs ∧ Below W'.heap.size W' w')) := fun W O3 X3 h3 d1 d2 q hq W' hb => by
            rcases hq with rfl | rfl
            · have hr := (h3.pool.each n (by omega)).below hb
              have hu := Used_any W' _ _ _ hr (h3.fine n (by omega)).inv.some
              have hn := Needs_any W' _ _ _ hr (h3.fine n (by omega)).inv.some (h3.fine n (by omega)).inv.len
              rw [d1.1, d1.2] at hu hn
              exact ⟨hu, hn⟩
            · have hr := (h3.pool.each (n + 1) (by omega)).below hb
              have hu := Used_any W' _ _ _ hr (h3.fine (n + 1) (by omega)).inv.some
              have hn := Needs_any W' _ _ _ hr (h3.fine (n + 1) (by omega)).inv.some (h3.fine (n + 1) (by omega)).inv.len
              rw [d2.1, d2.2] at hu hn
              exact ⟨hu, hn⟩
          have hnl : t.needs.length ≤ 8 := HT.out.1.len
          have HNL : Hid (t.needs.length ≤ 8) := hnl
          obtain ⟨U1, hU1⟩ : ∃ U1 : Int, (t.used : Int) = U1 := ⟨_, rfl⟩
          rw [hU1] at HQ
          have hne : ∀ W, (Go.binOp .neq 33 (.agg #[.int .i64 1, .string P1, .int .i64 Z1, .string T1]) (.agg #[.int .i64 1, .string P1, .int .i64 Z1, .string T1])).run Tryz.prog W = .ok (.bool false) W := fun W => by
            have := neq_ev W t.ev t.ev
            unfold evA at this
            rw [HE.out.1, HE.out.2.1, HE.out.2.2.1, HE.out.2.2.2, decide_eq_true rfl] at this
            exact this
          have hgd := fun W x y => guard_ev W .neq x y #[.int .i64 1, .string P1, .int .i64 Z1, .string T1] #[.int .i64 1, .string P1, .int .i64 Z1, .string T1]
          have hb0 : Below w7.heap.size w7 w7.drew := (Below.refl _ w7).drew
          have HSx : Hid (∀ W, Below w7.heap.size w7 W → W.cell? ⟨gx, 0, none⟩ = some (.int .i64 1) ∧ W.cell? ⟨gx, 1, none⟩ = some (.string P1) ∧ W.cell? ⟨gx, 2, none⟩ = some (.int .i64 Z1) ∧ W.cell? ⟨gx, 3, none⟩ = some (.string T1)) := fun W hb => ⟨(r7.below hb r7.lt).cell 0, (r7.below hb r7.lt).cell 1, (r7.below hb r7.lt).cell 2, (r7.below hb r7.lt).cell 3⟩
          clear hU1 hnl hA7 hB7 hp2 hO2 HC7 c1 c2 c3 hL7 hC hp1 hgx b0 r6 ht1
          go_cut [85] from 52 to 106 (fun s V => s = .bool false ∧ ∃ O3 X3, Hid (LeftS (Ip.find l) R C x.own V n (n + 1 + 1) O3 X3 (.slice la ln lc) ∧ AtS X3 n p t ∧ AtS X3 (n + 1) p2 t ∧ gx ∉ O3 ∧ Rw V gx #[.int .i64 1, .string P1, .int .i64 Z1, .string T1] 33))
          case first =>
            refine wp_region_held_drew (S := fun X : World => X.cell? ⟨gx, 0, none⟩ = some (.int .i64 1) ∧ X.cell? ⟨gx, 1, none⟩ = some (.string P1) ∧ X.cell? ⟨gx, 2, none⟩ = some (.int .i64 Z1) ∧ X.cell? ⟨gx, 3, none⟩ = some (.string T1)) (by kernel_rfl) (HSx.out _ hb0) (fun hHeld => ?_)
            refine wpAnyH_take (i := 0) (v := ?_) rfl (by kernel_rfl) (by kernel_rfl) (by kernel_rfl) (fun _ _ _ h => h) (Or.inl ⟨(by simp [Region.wanted]), ?_⟩) (hHeld) ?_
            rotate_left
            · (intro w hSw; (try dsimp only at hSw); ((go_simp) <;> (with_reducible rfl)))
            try simp only [Act.put, List.setIfInBounds_toArray]
            refine wpAnyH_take (i := 1) (v := ?_) rfl (by kernel_rfl) (by kernel_rfl) (by kernel_rfl) (fun _ _ _ h => h) (Or.inl ⟨(by simp [Region.wanted]), ?_⟩) (hHeld) ?_
            rotate_left
            · (intro w hSw; (try dsimp only at hSw); ((go_simp) <;> (with_reducible rfl)))
            try simp only [Act.put]
            refine wpAnyH_take (i := 2) (v := ?_) rfl (by kernel_rfl) (by kernel_rfl) (by kernel_rfl) (fun _ _ _ h => h) (Or.inl ⟨(by simp [Region.wanted]), ?_⟩) (hHeld) ?_
            rotate_left
            · (intro w hSw; (try dsimp only at hSw); ((go_simp) <;> (with_reducible rfl)))
            try simp only [Act.put]
            refine wpAnyH_take (i := 3) (v := ?_) rfl (by kernel_rfl) (by kernel_rfl) (by kernel_rfl) (fun _ _ _ h => h) (Or.inl ⟨(by simp [Region.wanted, yielded]), ?_⟩) (hHeld) ?_
            rotate_left
            · (intro w hSw; (try dsimp only at hSw); ((go_simp) <;> (with_reducible rfl)))
            try simp only [Act.put]
            refine wpAnyH_take (i := 5) (v := ?_) rfl (by kernel_rfl) (by kernel_rfl) (by kernel_rfl) (fun _ _ _ h => h) (Or.inl ⟨(by simp [Region.wanted, yielded]), ?_⟩) (hHeld) ?_
            rotate_left
            · (intro w hSw; (try dsimp only at hSw); ((go_simp) <;> (with_reducible rfl)))
            try simp only [Act.put]
            refine wpAnyH_ready (rs := [4]) (by kernel_rfl) (by simp) ?_
            refine AllReadyH.cons rfl (fun K hK => ?_) AllReadyH.nil
            go_simp
            refine (HS7.out _ hb0).mono ?_
            rintro e w8 ⟨rfl, O3, X3, hL8, hA8, hB8, hg8, r8⟩
            have hb8 := Below.refl w8.heap.size w8
            have HSy : Hid (∀ W, Below w8.heap.size w8 W → W.cell? ⟨gx, 0, none⟩ = some (.int .i64 1) ∧ W.cell? ⟨gx, 1, none⟩ = some (.string P1) ∧ W.cell? ⟨gx, 2, none⟩ = some (.int .i64 Z1) ∧ W.cell? ⟨gx, 3, none⟩ = some (.string T1)) := fun W hb => ⟨(r8.below hb r8.lt).cell 0, (r8.below hb r8.lt).cell 1, (r8.below hb r8.lt).cell 2, (r8.below hb r8.lt).cell 3⟩
            refine hK.out _ _ (HSy.out _ hb8) (fun hHeld => ?_)
            clear hK K
            try simp only [Act.put, List.setIfInBounds_toArray, List.set_cons_zero, List.set_cons_succ]
            refine wpAnyH_take (i := 6) (v := ?_) rfl (by kernel_rfl) (by kernel_rfl) (by kernel_rfl) (fun _ _ _ h => h) (Or.inl ⟨(by simp [Region.wanted, yielded]), ?_⟩) (hHeld) ?_
            rotate_left
            · (intro w hSw; (try dsimp only at hSw); ((go_simp) <;> (with_reducible rfl)))
            try simp only [Act.put, List.setIfInBounds_toArray]
            refine wpAnyH_take (i := 7) (v := ?_) rfl (by kernel_rfl) (by kernel_rfl) (by kernel_rfl) (fun _ _ _ h => h) (Or.inl ⟨(by simp [Region.wanted]), ?_⟩) (hHeld) ?_
            rotate_left
            · (intro w hSw; (try dsimp only at hSw); ((go_simp) <;> (with_reducible rfl)))
            try simp only [Act.put]
            refine wpAnyH_take (i := 8) (v := ?_) rfl (by kernel_rfl) (by kernel_rfl) (by kernel_rfl) (fun _ _ _ h => h) (Or.inl ⟨(by simp [Region.wanted]), ?_⟩) (hHeld) ?_
            rotate_left
            · (intro w hSw; (try dsimp only at hSw); ((go_simp) <;> (with_reducible rfl)))
            try simp only [Act.put]
            refine wpAnyH_take (i := 9) (v := ?_) rfl (by kernel_rfl) (by kernel_rfl) (by kernel_rfl) (fun _ _ _ h => h) (Or.inl ⟨(by simp [Region.wanted, yielded]), ?_⟩) (hHeld) ?_
            rotate_left
            · (intro w hSw; (try dsimp only at hSw); ((go_simp) <;> (with_reducible rfl)))
            try simp only [Act.put]
            refine wpAnyH_take (i := 11) (v := ?_) rfl (by kernel_rfl) (by kernel_rfl) (by kernel_rfl) (fun _ _ _ h => h) (Or.inl ⟨(by simp [Region.wanted, yielded]), ?_⟩) (hHeld) ?_
            rotate_left
            · (intro w hSw; (try dsimp only at hSw); ((go_simp) <;> (with_reducible rfl)))
            try simp only [Act.put]
            refine wpAnyH_ready (rs := [10]) (by kernel_rfl) (by simp) ?_
            refine AllReadyH.cons rfl (fun K hK => ?_) AllReadyH.nil
            go_simp
            refine ((HQ.out _ _ _ hL8 hA8 hB8 p2 (.inr rfl) _ hb8).1).mono ?_
            rintro e w9 ⟨rfl, hw9⟩
            rw [hw9]
            clear hw9
            refine hK.out _ _ (HSy.out _ hb8) (fun hHeld => ?_)
            clear hK K
            try simp only [Act.put, List.setIfInBounds_toArray, List.set_cons_zero, List.set_cons_succ]
            refine wpAnyH_ready (rs := [12]) (by kernel_rfl) (by simp) ?_
            refine AllReadyH.cons rfl (fun K hK => ?_) AllReadyH.nil
            go_simp
            refine ((HQ.out _ _ _ hL8 hA8 hB8 p (.inl rfl) _ hb8).1).mono ?_
            rintro e w9 ⟨rfl, hw9⟩
            rw [hw9]
            clear hw9
            refine hK.out _ _ (HSy.out _ hb8) (fun hHeld => ?_)
            clear hK K
            try simp only [Act.put, List.setIfInBounds_toArray, List.set_cons_zero, List.set_cons_succ]
            refine wpAnyH_take (i := 13) (v := ?_) rfl (by kernel_rfl) (by kernel_rfl) (by kernel_rfl) (fun _ _ _ h => h) (Or.inl ⟨(by simp [Region.wanted, yielded]), ?_⟩) (hHeld) ?_
            rotate_left
            · (intro w hSw; (try dsimp only at hSw); ((go_simp) <;> (with_reducible rfl)))
            try simp only [Act.put, List.setIfInBounds_toArray]
            refine wpAnyH_take (i := 14) (v := ?_) rfl (by kernel_rfl) (by kernel_rfl) (by kernel_rfl) (fun _ _ _ h => h) (Or.inl ⟨(by simp [Region.wanted]), ?_⟩) (hHeld) ?_
            rotate_left
            · (intro w hSw; (try dsimp only at hSw); ((go_simp) <;> (with_reducible rfl)))
            try simp only [Act.put]
            refine wpAnyH_take (i := 15) (v := ?_) rfl (by kernel_rfl) (by kernel_rfl) (by kernel_rfl) (fun _ _ _ h => h) (Or.inl ⟨(by simp [Region.wanted]), ?_⟩) (hHeld) ?_
            rotate_left
            · (intro w hSw; (try dsimp only at hSw); ((go_simp) <;> (with_reducible rfl)))
            try simp only [Act.put]
            refine wpAnyH_take (i := 16) (v := ?_) rfl (by kernel_rfl) (by kernel_rfl) (by kernel_rfl) (fun _ _ _ h => h) (Or.inl ⟨(by simp [Region.wanted, yielded]), ?_⟩) (hHeld) ?_
            rotate_left
            · (intro w hSw; (try dsimp only at hSw); ((go_simp) <;> (with_reducible rfl)))
            try simp only [Act.put]
            refine wpAnyH_take (i := 18) (v := ?_) rfl (by kernel_rfl) (by kernel_rfl) (by kernel_rfl) (fun _ _ _ h => h) (Or.inl ⟨(by simp [Region.wanted, yielded]), ?_⟩) (hHeld) ?_
            rotate_left
            · (intro w hSw; (try dsimp only at hSw); ((go_simp) <;> (with_reducible rfl)))
            try simp only [Act.put]
            refine wpAnyH_ready (rs := [17]) (by kernel_rfl) (by simp) ?_
            refine AllReadyH.cons rfl (fun K hK => ?_) AllReadyH.nil
            go_simp
            refine ((HQ.out _ _ _ hL8 hA8 hB8 p2 (.inr rfl) _ hb8).2).mono ?_
            rintro e w9 ⟨na2, nm2, nd2, rfl, pa, hb9⟩
            refine hK.out _ _ (HSy.out _ hb9) (fun hHeld => ?_)
            clear hK K
            try simp only [Act.put, List.setIfInBounds_toArray, List.set_cons_zero, List.set_cons_succ]
            refine wpAnyH_ready (rs := [19]) (by kernel_rfl) (by simp) ?_
            refine AllReadyH.cons rfl (fun K hK => ?_) AllReadyH.nil
            go_simp
            refine ((HQ.out _ _ _ hL8 hA8 hB8 p (.inl rfl) _ hb9).2).mono ?_
            rintro e w10 ⟨nb, nm, nd, rfl, pb, hb10'⟩
            have hb10 := hb9.trans (hb10'.mono hb9.size)
            refine hK.out _ _ (HSy.out _ hb10) (fun hHeld => ?_)
            clear hK K
            try simp only [Act.put, List.setIfInBounds_toArray, List.set_cons_zero, List.set_cons_succ]
            refine wpAnyH_ready (rs := [20]) (by kernel_rfl) (by simp) ?_
            refine AllReadyH.cons rfl (fun K hK => ?_) AllReadyH.nil
            go_simp
            refine (Texts_any w10 w10.heap.size _ _ t.needs t.needs ((pa.sl.below hb10' (Nat.le_refl _)).mono hb10'.size) pb.sl (by have := HNL.out; omega)).mono ?_
            rw [decide_eq_true rfl]
            rintro e w11 ⟨rfl, hb11'⟩
            have hb11 := hb10.trans (hb11'.mono hb10.size)
            refine hK.out _ _ (HSy.out _ hb11) (fun hHeld => ?_)
            clear hK K
            try simp only [Act.put, List.setIfInBounds_toArray, List.set_cons_zero, List.set_cons_succ]
            refine wpAnyH_take (i := 21) (v := ?_) rfl (by kernel_rfl) (by kernel_rfl) (by kernel_rfl) (fun _ _ _ h => h) (Or.inl ⟨(by simp [Region.wanted, yielded]), ?_⟩) (hHeld) ?_
            rotate_left
            · (intro w hSw; (try dsimp only at hSw); ((go_simp) <;> (with_reducible rfl)))
            try simp only [Act.put, List.setIfInBounds_toArray]
            refine wpAnyH_ready (rs := [22]) (by kernel_rfl) (by simp) ?_
            refine AllReadyH.cons rfl (fun K hK => ?_) AllReadyH.nil
            go_simp
            refine hK.out _ _ (HSy.out _ hb11) (fun hHeld => ?_)
            clear hK K
            try simp only [Act.put, List.setIfInBounds_toArray, List.set_cons_zero, List.set_cons_succ]
            refine wpAnyH_done (by kernel_rfl) ?_ _
            go_wp2_with fail
            go_meet
            case rel => exact ⟨rfl, O3, X3, hL8.below hb11, hA8, hB8, hg8, r8.below hb11 r8.lt⟩
          case rest =>
          obtain ⟨rfl, O3, X3, HX3⟩ := hcut
          clear HS7 HQ HSx hb0 hne hgd hgx7 r7
          rename World => D8
          go_upto_region 19 with fail
          go_cut [95] from 52 to 106 (fun s V => ∃ q : Nat, s = .bool (decide (q = 1)) ∧ V = D8)
          case first =>
            have hbR := (hfiles.out _ HX3.out.1.turn).2.1
            by_cases hlt : n < bl.length
            · have i2 : (n : Int) < (bl.length : Int) := by omega
              obtain ⟨gb, ob, cb, e1, hgb, q1⟩ := BlR.at hbR hlt
              simp only [Value.slice.injEq] at e1
              obtain ⟨rfl, -, rfl⟩ := e1
              cases hv : bl[n] with
              | true =>
                rw [hv] at q1
                clear hv hbR hgb
                go_wp2_with fail
                go_meet
                case rel => exact ⟨1, rfl, rfl⟩
              | false =>
                rw [hv] at q1
                clear hv hbR hgb
                go_wp2_with fail
                go_meet
                case rel => exact ⟨0, rfl, rfl⟩
            · have i2 : ¬ (n : Int) < (bl.length : Int) := by omega
              clear hbR
              go_wp2_with fail
              go_meet
              case rel => exact ⟨0, rfl, rfl⟩
          case rest =>
          obtain ⟨q, rfl, hcw⟩ := hcut
          subst hcw
          rename World => D8
          go_upto_if 95 with fail
          go_cut [7, 14] from 52 to 106 (fun s7 s14 V => ∃ (pr pc : Nat) (X4 : Nat → RP × Ip.St), s7 = .pointer (some ⟨pr, 0, none⟩) ∧ s14 = .pointer (some ⟨pc, 0, none⟩) ∧ V = D8 ∧ Hid (LeftS (Ip.find l) R C x.own D8 n (n + 1 + 1) O3 X4 (.slice la ln lc) ∧ AtS X4 (n + 1) pr t ∧ AtS X4 n pc t))
          case first =>
            have HY1 : Hid (LeftS (Ip.find l) R C x.own D8 n (n + 1 + 1) O3 X3 (.slice la ln lc) ∧ AtS X3 (n + 1) p2 t ∧ AtS X3 n p t) := ⟨HX3.out.1, HX3.out.2.2.1, HX3.out.2.1⟩
            have HY2 : Hid (LeftS (Ip.find l) R C x.own D8 n (n + 1 + 1) O3 (swapX X3 n (n + 1)) (.slice la ln lc) ∧ AtS (swapX X3 n (n + 1)) (n + 1) p t ∧ AtS (swapX X3 n (n + 1)) n p2 t) := by
              refine ⟨HX3.out.1.swap (by omega) (by omega) (by omega) (by omega), ?_, ?_⟩
              · unfold AtS; rw [swapX_2 _ (by omega)]; exact HX3.out.2.1
              · unfold AtS; rw [swapX_1]; exact HX3.out.2.2.1
            by_cases hq : q = 1
            · subst hq
              go_wp2_with fail
              go_meet
              case rel => exact ⟨p2, p, X3, rfl, rfl, rfl, HY1⟩
            · have hqd : decide (q = 1) = false := decide_eq_false hq
              go_wp2_with fail
              go_meet
              case rel => exact ⟨p, p2, _, rfl, rfl, rfl, HY2⟩
          case rest =>
          obtain ⟨pr, pc, X4, rfl, rfl, hcw, HX4⟩ := hcut
          subst hcw
          rename World => D8
          have r8 := HX3.out.2.2.2.2
          have hg8 := HX3.out.2.2.2.1
          have hL8 := HX4.out.1
          have hLA := hL8.below ((Below.refl D8.heap.size D8).alloc (Nat.le_refl _) (.cells #[.pointer (some ⟨pc, 0, none⟩)] 28))
          obtain ⟨ps, hps⟩ : ∃ ps, ((List.range n).map fun i => (X4 i).1.p) = ps := ⟨_, rfl⟩
          have HPS : Hid (((List.range n).map fun i => (X4 i).1.p) = ps) := hps
          have hpl : ps.length = n := by rw [← hps]; simp
          have hOw := hLA.row
          rw [hps] at hOw
          have hLit := PtR.lit D8 pc #[.pointer (some ⟨pc, 0, none⟩)] rfl
          have HLn : Hid (ps.length + [pc].length ≤ 1099511627) := by show _ ≤ _; rw [hpl]; simp; omega
          have h7 : 7 ≤ D8.heap.size := (hLs.out _ hL8.turn).size
          have hlen : ps.length + [pc].length = n + 1 := by rw [hpl]; rfl
          have HLE : Hid (ps.length + [pc].length = n + 1 ∧ ps.length = n) := ⟨hlen, hpl⟩
          clear hps hpl hlen
          go_upto_region 22 with (first | (at_builtin; go_must (refine PtR.append_at rfl _ _ rfl 7 (D8.heap.size + 1) _ _ ps [pc] rfl hOw rfl hLit (by simp) HLn (by rw [size_alloc]; omega) ?_)) | fail)
          intro g cap w9 hO9 hg9 hw9 hlt9
          rw [HLE.out.2]
          rw [HLE.out.2] at hO9
          have hL9 : LeftS (Ip.find l) R C x.own w9 (n + 1) (n + 1 + 1) (g :: O3) X4 (.slice (some ⟨g, 0, none⟩) (n + 1) cap) := hLA.push (by omega) (by rw [HPS.out, HX4.out.2.2.1]; exact hO9) hg9 (hw9.imp id (fun e => by rw [e, size_alloc]; exact Nat.le_refl _)) hlt9
          have r9 : Rw w9 gx #[.int .i64 1, .string P1, .int .i64 Z1, .string T1] 33 := (r8.alloc _).turn (Turn.of_grown hg9) (fun hx => hg8 (hLA.mine gx (by simpa using hx)).1)
          clear hO9 hg9 hw9 hlt9 hLA hOw hLit HLn r8
          have b1 := r9.cell 1
          have ht1 : t.ev.kind = 1 := by have := HE.out.1; omega
          have hfl := hfiles.out _ hL9.turn
          have hTell := tell_any l _ w9 (g :: O3) (X4 (n + 1)).1 (X4 (n + 1)).2 (hL9.pool.each (n + 1) (by omega)) (hL9.fine (n + 1) (by omega)).inv (by rw [HX4.out.2.1.2]; exact ht1) hfl.1 hfl.2.2 hn1 hz1
          rw [HX4.out.2.1.1, HX4.out.2.1.2, HE.out.2.1] at hTell
          have HEnd : Hid (∀ W, RunS W (g :: O3) (X4 (n + 1)).1 (t.answer (Ip.find l t.ev.path)) → Turn [(X4 (n + 1)).1.p, (X4 (n + 1)).1.mt] w9 W → ∃ O5 X5, (X5 (n + 1)).1.p = pr ∧ LeftS (Ip.find l) R C x.own W (n + 1) (n + 1 + 1) O5 X5 (.slice (some ⟨g, 0, none⟩) (n + 1) cap)) := fun W k1 k2 => by
            have hW := Went.same (w := w9) (O := g :: O3) k1 (k2.mono (S' := (X4 (n + 1)).1.own) (fun b hb _ => by
              simp only [List.mem_cons, List.not_mem_nil, or_false] at hb
              rcases hb with rfl | rfl
              · exact RP.p_own _
              · exact RP.mt_own _))
            obtain ⟨x', O', g1, g2, -, -⟩ := hL9.went (by omega) hW (HT.out.2.2.tell ht1)
            exact ⟨O', _, by rw [putX_at]; exact g1.trans HX4.out.2.1.1, g2⟩
          obtain ⟨PR, hPR⟩ : ∃ PR, (X4 (n + 1)).1.p = PR := ⟨_, rfl⟩
          rw [hPR] at HEnd
          have hPe : pr = PR := HX4.out.2.1.1.symm.trans hPR
          rw [← hPe] at HEnd
          clear hPR hPe hL9 hfl r9 hL8 hg8
          go_wp2_with (first | (go_at_call 32; refine hTell.mono ?_; rintro e w10 ⟨rfl, k1, k2⟩) | fail)
          obtain ⟨O5, X5, z1, z2⟩ := HEnd.out _ k1 k2
          exact ⟨⟨n + 1, pr, O5, X5, some ⟨g, 0, none⟩, _, cap, rfl, rfl, by go_num, by omega, z1, z2⟩, by simp [intOf]; omega⟩
        · have b1 : ¬ K1 = 1 := hk1
          go_wp2
          go_meet
          case rel => exact ⟨n, p, O1, _, la, ln, lc, rfl, rfl, hn9, by rw [putX_at]; exact hp1, hL6⟩
      · have j1 : ¬ (n : Int) ≤ 8 := by omega
        go_wp2
        go_meet
        case rel => exact ⟨n, p, O, X, la, ln, lc, rfl, rfl, hn9, HX.out⟩
  case rest =>
  obtain ⟨n, p, O, X, la, ln, lc, rfl, rfl, hn9, HX⟩ := hcut
  rename World => D
  have hLA := HX.out.2.below ((Below.refl D.heap.size D).alloc (Nat.le_refl _) (.cells #[.pointer (some ⟨p, 0, none⟩)] 28))
  obtain ⟨ps, hps⟩ : ∃ ps, ((List.range n).map fun i => (X i).1.p) = ps := ⟨_, rfl⟩
  have HPS : Hid (((List.range n).map fun i => (X i).1.p) = ps) := hps
  have hpl : ps.length = n := by rw [← hps]; simp
  have hOw := hLA.row
  rw [hps] at hOw
  have hLit := PtR.lit D p #[.pointer (some ⟨p, 0, none⟩)] rfl
  have HLn : Hid (ps.length + [p].length ≤ 1099511627) := by show _ ≤ _; rw [hpl]; simp; omega
  have h7 : 7 ≤ D.heap.size := (hLs.out _ HX.out.2.turn).size
  have HLE : Hid (ps.length = n) := hpl
  clear hps hpl
  go_upto_region 24 with (first | (at_builtin; go_must (refine PtR.append_at rfl _ _ rfl 7 (D.heap.size + 1) _ _ ps [p] rfl hOw rfl hLit (by simp) HLn (by rw [size_alloc]; omega) ?_)) | fail)
  intro g cap w9 hO9 hg9 hw9 hlt9
  rw [HLE.out]
  rw [HLE.out] at hO9
  have hL9 : LeftS (Ip.find l) R C x.own w9 (n + 1) (n + 1) (g :: O) X (.slice (some ⟨g, 0, none⟩) (n + 1) cap) := hLA.push (by omega) (by rw [HPS.out, HX.out.1]; exact hO9) hg9 (hw9.imp id (fun e => by rw [e, size_alloc]; exact Nat.le_refl _)) hlt9
  obtain ⟨N, hN⟩ : ∃ N, n + 1 = N := ⟨_, rfl⟩
  have wr1 : IntKind.i64.wrap ((N : Int) - 1) = (n : Int) := by rw [IntKind.wrap_i64]; omega
  have hN1 : N ≤ 10 ∧ n < N := by omega
  rw [hN] at hL9 ⊢
  have HL9 : Hid (LeftS (Ip.find l) R C x.own w9 N N (g :: O) X (.slice (some ⟨g, 0, none⟩) N cap)) := hL9
  have HNn : Hid (n + 1 = N) := hN
  clear hO9 hg9 hw9 hlt9 hLA hOw hLit HLn hL9 hN
  obtain ⟨hN10, hnN⟩ := hN1
  go_wp2
  go_loopw [15, 16, 17] (fun s15 s16 s17 wr => ∃ (k : Nat) (O : List Nat) (X : Nat → RP × Ip.St) (z : Int), k ≤ N ∧ z = (k : Int) - 1 ∧ s15 = .int .i64 z ∧ Hid (LeftS (Ip.find l) R C x.own wr N N O X (.slice (some ⟨g, 0, none⟩) N cap))) (fun s15 _ _ _ => (intOf s15 + 1).toNat)
  case atStart => exact ⟨N, g :: O, X, (n : Int), Nat.le_refl _, by have := HNn.out; omega, rfl, HL9⟩
  case round =>
    obtain ⟨k, O', X', z, hk, hz, rfl, HX'⟩ := hrel
    by_cases hk0 : k = 0
    · have j1 : ¬ (0 : Int) ≤ z := by omega
      clear hz
      go_wp2
      go_ret
      exact ⟨rfl, hlow.out _ HX'.out.turn⟩
    · obtain ⟨q, rfl⟩ := gt_zero_of hk0
      obtain rfl : z = (q : Int) := by omega
      clear hz hk0
      have j1 : (0 : Int) ≤ (q : Int) := by omega
      have j2 : (q : Int) < (N : Int) := by omega
      have hqN : q < N := by omega
      have hLq := HX'.out
      obtain ⟨pq, hpq⟩ : ∃ pq, (X' q).1.p = pq := ⟨_, rfl⟩
      have c0 := hLq.cell hqN
      have hstep := Step_any wr O' (X' q).1 (X' q).2 (hLq.pool.each q hqN) (hLq.fine q hqN).inv (hLs.out _ hLq.turn)
      have hti := Ip.St.step_inv (hLq.fine q hqN).inv
      have htw := (hLq.fine q hqN).step
      rw [hpq] at hstep c0
      obtain ⟨t, ht⟩ : ∃ t, (X' q).2.step = t := ⟨_, rfl⟩
      rw [ht] at hstep hti htw
      unfold evV at hstep
      obtain ⟨K1, hK1⟩ : ∃ K1 : Int, (t.ev.kind : Int) = K1 := ⟨_, rfl⟩
      obtain ⟨P1, hP1⟩ : ∃ P1, str t.ev.path = P1 := ⟨_, rfl⟩
      obtain ⟨Z1, hZ1⟩ : ∃ Z1 : Int, (t.ev.why : Int) = Z1 := ⟨_, rfl⟩
      obtain ⟨T1, hT1⟩ : ∃ T1, str t.ev.text = T1 := ⟨_, rfl⟩
      have HE : Hid (evL t.ev K1 P1 Z1 T1) := ⟨hK1, hP1, hZ1, hT1⟩
      have HT : Hid (t.Inv ∧ t.ev.kind ≠ 0 ∧ Ip.St.Well (Ip.find l) R t) := ⟨hti.1, hti.2, htw⟩
      rw [hK1, hP1, hZ1, hT1] at hstep
      have HW5 : Hid (∀ w5, Went wr O' (X' q).1 t w5 → ∃ O1 X1, InB (Ip.find l) R C x.own (w5.alloc (.cells #[.int .i64 K1, .string P1, .int .i64 Z1, .string T1] 33)) N q w5.heap.size O1 X1 (.slice (some ⟨g, 0, none⟩) N cap) pq #[.int .i64 K1, .string P1, .int .i64 Z1, .string T1] ∧ (X1 q).2 = t) := fun w5 hw => by
        obtain ⟨x', O1, g1, g2, -, -, -, -⟩ := hLq.went2 hqN hw htw
        exact ⟨_, _, InB.of g2 hqN (by rw [putX_at]; exact g1.trans hpq) _, by rw [putX_at]⟩
      clear hLq hti htw ht hpq hK1 hP1 hZ1 hT1
      go_upto_region 28 with (first | (go_at_call 25; refine hstep.mono ?_; rintro e w5 ⟨rfl, hw5⟩) | fail)
      obtain ⟨O1, X1, hI1, hs1⟩ := HW5.out _ hw5
      clear hw5 HW5 hstep c0
      generalize w5.alloc (.cells #[.int .i64 K1, .string P1, .int .i64 Z1, .string T1] 33) = W6 at *
      generalize w5.heap.size = gb at *
      have HI1 : Hid (InB (Ip.find l) R C x.own W6 N q gb O1 X1 (.slice (some ⟨g, 0, none⟩) N cap) pq #[.int .i64 K1, .string P1, .int .i64 Z1, .string T1] ∧ (X1 q).2 = t) := ⟨hI1, hs1⟩
      clear hI1 hs1
      go_upto_block 4 with fail
      go_cut [17] from 114 to 153 (fun s17 V => ∃ (O : List Nat) (X : Nat → RP × Ip.St) (K1 : Int) (P1 : ByteArray) (Z1 : Int) (T1 : ByteArray), Hid (¬ K1 = 1 ∧ InB (Ip.find l) R C x.own V N q gb O X (.slice (some ⟨g, 0, none⟩) N cap) pq #[.int .i64 K1, .string P1, .int .i64 Z1, .string T1] ∧ (X q).2.ev.kind ≠ 0 ∧ evL (X q).2.ev K1 P1 Z1 T1))
      case first =>
        go_wp2
        go_loopw [17] (fun s17 wr => ∃ (k : Nat) (O : List Nat) (X : Nat → RP × Ip.St) (K1 : Int) (P1 : ByteArray) (Z1 : Int) (T1 : ByteArray), k ≤ 9 ∧ s17 = .int .i64 (k : Int) ∧ Hid (InB (Ip.find l) R C x.own wr N q gb O X (.slice (some ⟨g, 0, none⟩) N cap) pq #[.int .i64 K1, .string P1, .int .i64 Z1, .string T1] ∧ (X q).2.ev.kind ≠ 0 ∧ evL (X q).2.ev K1 P1 Z1 T1 ∧ (K1 = 1 → k + 1 ≤ (X q).2.needs.length))) (fun s17 _ => 9 - (intOf s17).toNat)
        case atStart =>
          refine ⟨0, O1, X1, K1, P1, Z1, T1, by omega, rfl, HI1.out.1, ?_, ?_, fun h => ?_⟩
          · rw [HI1.out.2]; exact HT.out.2.1
          · rw [HI1.out.2]; exact HE.out
          · rw [HI1.out.2]
            exact HT.out.1.asks (by have := HE.out.1; omega)
        case round =>
          clear HE HT HI1
          obtain ⟨k, O2, X2', K1, P1, Z1, T1, hk9, rfl, HI⟩ := hrel
          have b0 := HI.out.1.box.cell 0
          by_cases hk1 : K1 = 1
          · by_cases hk8 : k ≤ 8
            · have j3 : (k : Int) ≤ 8 := by omega
              subst hk1
              obtain ⟨s, hs⟩ : ∃ s, (X2' q).2 = s := ⟨_, rfl⟩
              have hev := HI.out.2.2.1
              rw [hs] at hev
              have hk1 : s.ev.kind = 1 := by have := hev.1; omega
              have hwell : Ip.St.Well (Ip.find l) R s := by rw [← hs]; exact HI.out.1.left.fine q hqN
              have hnd : k + 1 ≤ s.needs.length := by rw [← hs]; exact HI.out.2.2.2 rfl
              have HTell : Hid (∀ W, Below wr.heap.size wr W → Calls Tryz.prog 32 #[.pointer (some ⟨pq, 0, none⟩), .slice a1 l.length c1, .string P1] W fun e w' => e = .returned (.tuple #[]) ∧ ∃ O3 X3, InB (Ip.find l) R C x.own w' N q gb O3 X3 (.slice (some ⟨g, 0, none⟩) N cap) pq #[.int .i64 1, .string P1, .int .i64 Z1, .string T1] ∧ (X3 q).2 = s.answer (Ip.find l s.ev.path)) := fun W hb => by
                have hI := HI.out.1.below hb
                have hfl := hfiles.out _ hI.left.turn
                have h := tell_any l _ W O2 (X2' q).1 (X2' q).2 (hI.left.pool.each q hqN) (hI.left.fine q hqN).inv (by rw [hs]; exact hk1) hfl.1 hfl.2.2 hn1 hz1
                rw [hI.at_, hs, hev.2.1] at h
                refine h.mono ?_
                rintro e w' ⟨rfl, z1, z2⟩
                rw [← hI.at_] at z2
                obtain ⟨O3, X3, y1, y2⟩ := hI.told z1 z2 (hwell.tell hk1)
                exact ⟨rfl, O3, X3, y1, y2⟩
              have HNx : Hid (∀ W O3 X3, InB (Ip.find l) R C x.own W N q gb O3 X3 (.slice (some ⟨g, 0, none⟩) N cap) pq #[.int .i64 1, .string P1, .int .i64 Z1, .string T1] → (X3 q).2 = s.answer (Ip.find l s.ev.path) → ∃ K2 P2 Z2 T2, (Calls Tryz.prog 25 #[.pointer (some ⟨pq, 0, none⟩)] W fun e w' => e = .returned (.agg #[.int .i64 K2, .string P2, .int .i64 Z2, .string T2]) ∧ ∃ O4 X4, InB (Ip.find l) R C x.own w' N q gb O4 X4 (.slice (some ⟨g, 0, none⟩) N cap) pq #[.int .i64 1, .string P1, .int .i64 Z1, .string T1] ∧ (X4 q).2.ev.kind ≠ 0 ∧ evL (X4 q).2.ev K2 P2 Z2 T2 ∧ (K2 = 1 → k + 1 + 1 ≤ (X4 q).2.needs.length))) := fun W O3 X3 hI ha => by
                have h := Step_any W O3 (X3 q).1 (X3 q).2 (hI.left.pool.each q hqN) (hI.left.fine q hqN).inv (hLs.out _ hI.left.turn)
                have hw := (hI.left.fine q hqN).step
                have hnx := Ip.St.next_inv (f := Ip.find l) hwell.inv hk1
                rw [hI.at_, ha] at h
                rw [ha] at hw
                change Calls _ _ _ _ fun e w' => e = .returned (evV (s.next (Ip.find l)).ev) ∧ Went W O3 (X3 q).1 (s.next (Ip.find l)) w' at h
                refine ⟨((s.next (Ip.find l)).ev.kind : Int), str (s.next (Ip.find l)).ev.path, ((s.next (Ip.find l)).ev.why : Int), str (s.next (Ip.find l)).ev.text, h.mono ?_⟩
                rintro e w' ⟨rfl, hg⟩
                obtain ⟨O4, X4, y1, y2⟩ := hI.went hg hw
                refine ⟨rfl, O4, X4, y1, ?_, ?_, fun e2 => ?_⟩
                · rw [y2]; exact hnx.2.1
                · rw [y2]; exact ⟨rfl, rfl, rfl, rfl⟩
                · rw [y2]
                  have := hnx.2.2.2 (by omega)
                  omega
              have hb0 : Below wr.heap.size wr wr.drew := (Below.refl _ wr).drew
              have HS0 : Hid (∀ W, Below wr.heap.size wr W → W.cell? ⟨g, q, none⟩ = some (.pointer (some ⟨pq, 0, none⟩)) ∧ W.cell? ⟨gb, 1, none⟩ = some (.string P1)) := fun W hb => by
                have hI := HI.out.1.below hb
                have := hI.left.cell hqN
                rw [hI.at_] at this
                exact ⟨this, hI.box.cell 1⟩
              clear hev hs hwell hnd
              go_upto_region 31 with fail
              refine wp_region_held_drew (S := fun X : World => X.cell? ⟨g, q, none⟩ = some (.pointer (some ⟨pq, 0, none⟩)) ∧ X.cell? ⟨gb, 1, none⟩ = some (.string P1)) (by kernel_rfl) (HS0.out _ hb0) (fun hHeld => ?_)
              refine wpAnyH_take (i := 0) (v := ?_) rfl (by kernel_rfl) (by kernel_rfl) (by kernel_rfl) (fun _ _ _ h => h) (Or.inl ⟨(by simp [Region.wanted]), ?_⟩) (hHeld) ?_
              rotate_left
              · (intro w hSw; (try dsimp only at hSw); ((go_simp) <;> (with_reducible rfl)))
              try simp only [Act.put, List.setIfInBounds_toArray]
              refine wpAnyH_take (i := 1) (v := ?_) rfl (by kernel_rfl) (by kernel_rfl) (by kernel_rfl) (fun _ _ _ h => h) (Or.inl ⟨(by simp [Region.wanted]), ?_⟩) (hHeld) ?_
              rotate_left
              · (intro w hSw; (try dsimp only at hSw); ((go_simp) <;> (with_reducible rfl)))
              try simp only [Act.put]
              refine wpAnyH_take (i := 2) (v := ?_) rfl (by kernel_rfl) (by kernel_rfl) (by kernel_rfl) (fun _ _ _ h => h) (Or.inl ⟨(by simp [Region.wanted]), ?_⟩) (hHeld) ?_
              rotate_left
              · (intro w hSw; (try dsimp only at hSw); ((go_simp) <;> (with_reducible rfl)))
              try simp only [Act.put]
              refine wpAnyH_take (i := 3) (v := ?_) rfl (by kernel_rfl) (by kernel_rfl) (by kernel_rfl) (fun _ _ _ h => h) (Or.inl ⟨(by simp [Region.wanted]), ?_⟩) (hHeld) ?_
              rotate_left
              · (intro w hSw; (try dsimp only at hSw); ((go_simp) <;> (with_reducible rfl)))
              try simp only [Act.put]
              refine wpAnyH_take (i := 4) (v := ?_) rfl (by kernel_rfl) (by kernel_rfl) (by kernel_rfl) (fun _ _ _ h => h) (Or.inl ⟨(by simp [Region.wanted]), ?_⟩) (hHeld) ?_
              rotate_left
              · (intro w hSw; (try dsimp only at hSw); ((go_simp) <;> (with_reducible rfl)))
              try simp only [Act.put]
              refine wpAnyH_take (i := 5) (v := ?_) rfl (by kernel_rfl) (by kernel_rfl) (by kernel_rfl) (fun _ _ _ h => h) (Or.inl ⟨(by simp [Region.wanted]), ?_⟩) (hHeld) ?_
              rotate_left
              · (intro w hSw; (try dsimp only at hSw); ((go_simp) <;> (with_reducible rfl)))
              try simp only [Act.put]
              refine wpAnyH_take (i := 6) (v := ?_) rfl (by kernel_rfl) (by kernel_rfl) (by kernel_rfl) (fun _ _ _ h => h) (Or.inl ⟨(by simp [Region.wanted]), ?_⟩) (hHeld) ?_
              rotate_left
              · (intro w hSw; (try dsimp only at hSw); ((go_simp) <;> (with_reducible rfl)))
              try simp only [Act.put]
              refine wpAnyH_ready (rs := [7]) (by kernel_rfl) (by simp) ?_
              refine AllReadyH.cons rfl (fun K hK => ?_) AllReadyH.nil
              go_simp
              refine (HTell.out _ hb0).mono ?_
              rintro e w8 ⟨rfl, O3, X3, hI3, hs3⟩
              have c8 := hI3.left.cell hqN
              rw [hI3.at_] at c8
              refine hK.out _ _ (⟨c8, hI3.box.cell 1⟩) (fun hHeld => ?_)
              clear hK K
              try simp only [Act.put, List.setIfInBounds_toArray, List.set_cons_zero, List.set_cons_succ]
              refine wpAnyH_done (by kernel_rfl) ?_ _
              obtain ⟨K2, P2, Z2, T2, hst⟩ := HNx.out _ _ _ hI3 hs3
              clear HNx HTell HS0 hb0 HI b0
              go_upto_region 30 with (first | (go_at_call 25; refine hst.mono ?_; rintro e w10 ⟨rfl, O4, X4, hI4, hq4⟩; have r10 := hI4.box; have f0 := r10.free 0; have f1 := r10.free 1; have f2 := r10.free 2; have f3 := r10.free 3; have d0 := r10.cell 0; have d1 := r10.cell 1; have d2 := r10.cell 2; have d3 := r10.cell 3) | fail)
              have r11 := r10.put4 (.int .i64 K2) (.string P2) (.int .i64 Z2) (.string T2)
              have hT11 := Turn.put4 w10 gb (.int .i64 K2) (.string P2) (.int .i64 Z2) (.string T2)
              have hI5 := hI4.poke hT11 r11
              clear f0 f1 f2 f3 d0 d1 d2 d3 r10 r11 hT11
              go_wp2
              exact ⟨⟨k + 1, O4, X4, K2, P2, Z2, T2, by omega, by go_num, hI5, hq4⟩, by simp [intOf]; omega⟩
            · have j3 : ¬ (k : Int) ≤ 8 := by omega
              exfalso
              have h1 := HI.out.2.2.2 hk1
              have h2 := (HI.out.1.left.fine q hqN).inv.len
              omega
          · have b1 : ¬ K1 = 1 := hk1
            by_cases hk8 : k ≤ 8
            · have j3 : (k : Int) ≤ 8 := by omega
              go_wp2
              go_meet
              case rel => exact ⟨O2, X2', K1, P1, Z1, T1, hk1, HI.out.1, HI.out.2.1, HI.out.2.2.1⟩
            · have j3 : ¬ (k : Int) ≤ 8 := by omega
              go_wp2
              go_meet
              case rel => exact ⟨O2, X2', K1, P1, Z1, T1, hk1, HI.out.1, HI.out.2.1, HI.out.2.2.1⟩
      case rest =>
      clear HE HT HI1 K1 P1 Z1 T1
      obtain ⟨O3, X3, K1, P1, Z1, T1, HI⟩ := hcut
      rename World => E
      obtain ⟨s, hs⟩ : ∃ s, (X3 q).2 = s := ⟨_, rfl⟩
      have hev := HI.out.2.2.2
      have hkz := HI.out.2.2.1
      rw [hs] at hev hkz
      have hsR : s.rn = R := by
        have hw := HI.out.2.1.left.fine q hqN
        rw [hs] at hw
        exact hw.over hkz (fun h => HI.out.1 (by have := hev.1; omega))
      have HRan : Hid (∀ W, Below E.heap.size E W → Calls Tryz.prog 27 #[.pointer (some ⟨pq, 0, none⟩), .agg #[.int .i64 K1, .string P1, .int .i64 Z1, .string T1]] W fun e w' => ∃ v, e = .returned v ∧ RnV w' v R ∧ Below W.heap.size W w') := fun W hb => by
        have hI := HI.out.2.1.below hb
        have h := ran_any W O3 (X3 q).1 (X3 q).2 (hI.left.pool.each q hqN) (hI.left.fine q hqN).inv
        rw [hI.at_, hs] at h
        unfold evV at h
        rw [hev.1, hev.2.1, hev.2.2.1, hev.2.2.2] at h
        refine h.mono ?_
        rintro e w' ⟨ob, om, od, nb, nm, nd, rfl, p1, p2, p3⟩
        exact ⟨_, rfl, by rw [← hsR]; exact ⟨ob, om, od, nb, nm, nd, rfl, p1.sl, p2.sl⟩, p3⟩
      have HSame : Hid (∀ W v, Below E.heap.size E W → RnV W v R → Calls Tryz.prog 26 #[v, .agg #[.int .i64 K, .string P, .int .i64 Z, .string X2, .slice oa on oc, .slice na nn nc, .int .i64 U]] W fun e w' => e = .returned (.bool true) ∧ Below W.heap.size W w') := fun W v hb hv => by
        have hI := HI.out.2.1.below hb
        have h := Same_any W v _ R R hv (hwant.out _ hI.left.turn).2 (by have := hRn.out.2; omega) (by have := hRn.out.1; omega)
        rw [decide_eq_true rfl] at h
        exact h
      have HS0 : Hid (∀ W, Below E.heap.size E W → W.cell? ⟨g, q, none⟩ = some (.pointer (some ⟨pq, 0, none⟩)) ∧ W.cell? ⟨gb, 0, none⟩ = some (.int .i64 K1) ∧ W.cell? ⟨gb, 1, none⟩ = some (.string P1) ∧ W.cell? ⟨gb, 2, none⟩ = some (.int .i64 Z1) ∧ W.cell? ⟨gb, 3, none⟩ = some (.string T1) ∧ W.cell? ⟨ga, 0, none⟩ = some (.int .i64 K) ∧ W.cell? ⟨ga, 1, none⟩ = some (.string P) ∧ W.cell? ⟨ga, 2, none⟩ = some (.int .i64 Z) ∧ W.cell? ⟨ga, 3, none⟩ = some (.string X2) ∧ W.cell? ⟨ga, 4, none⟩ = some (.slice oa on oc) ∧ W.cell? ⟨ga, 5, none⟩ = some (.slice na nn nc) ∧ W.cell? ⟨ga, 6, none⟩ = some (.int .i64 U)) := fun W hb => by
        have hI := HI.out.2.1.below hb
        have hc := hI.left.cell hqN
        rw [hI.at_] at hc
        have hw := (hwant.out _ hI.left.turn).1
        exact ⟨hc, hI.box.cell 0, hI.box.cell 1, hI.box.cell 2, hI.box.cell 3, hw.cell 0, hw.cell 1, hw.cell 2, hw.cell 3, hw.cell 4, hw.cell 5, hw.cell 6⟩
      have hb0 : Below E.heap.size E E.drew := (Below.refl _ E).drew
      have HFin : Hid (∀ W, Below E.heap.size E W → LeftS (Ip.find l) R C x.own W N N O3 X3 (.slice (some ⟨g, 0, none⟩) N cap)) := fun W hb => (HI.out.2.1.below hb).left
      clear hev hkz hs hsR HI
      go_upto_region 33 with fail
      refine wp_region_held_drew (S := fun X : World => X.cell? ⟨g, q, none⟩ = some (.pointer (some ⟨pq, 0, none⟩)) ∧ X.cell? ⟨gb, 0, none⟩ = some (.int .i64 K1) ∧ X.cell? ⟨gb, 1, none⟩ = some (.string P1) ∧ X.cell? ⟨gb, 2, none⟩ = some (.int .i64 Z1) ∧ X.cell? ⟨gb, 3, none⟩ = some (.string T1) ∧ X.cell? ⟨ga, 0, none⟩ = some (.int .i64 K) ∧ X.cell? ⟨ga, 1, none⟩ = some (.string P) ∧ X.cell? ⟨ga, 2, none⟩ = some (.int .i64 Z) ∧ X.cell? ⟨ga, 3, none⟩ = some (.string X2) ∧ X.cell? ⟨ga, 4, none⟩ = some (.slice oa on oc) ∧ X.cell? ⟨ga, 5, none⟩ = some (.slice na nn nc) ∧ X.cell? ⟨ga, 6, none⟩ = some (.int .i64 U)) (by kernel_rfl) (HS0.out _ hb0) (fun hHeld => ?_)
      refine wpAnyH_take (i := 0) (v := ?_) rfl (by kernel_rfl) (by kernel_rfl) (by kernel_rfl) (fun _ _ _ h => h) (Or.inl ⟨(by simp [Region.wanted]), ?_⟩) (hHeld) ?_
      rotate_left
      · (intro w hSw; (try dsimp only at hSw); ((go_simp) <;> (with_reducible rfl)))
      try simp only [Act.put, List.setIfInBounds_toArray]
      refine wpAnyH_take (i := 1) (v := ?_) rfl (by kernel_rfl) (by kernel_rfl) (by kernel_rfl) (fun _ _ _ h => h) (Or.inl ⟨(by simp [Region.wanted]), ?_⟩) (hHeld) ?_
      rotate_left
      · (intro w hSw; (try dsimp only at hSw); ((go_simp) <;> (with_reducible rfl)))
      try simp only [Act.put]
      refine wpAnyH_take (i := 2) (v := ?_) rfl (by kernel_rfl) (by kernel_rfl) (by kernel_rfl) (fun _ _ _ h => h) (Or.inl ⟨(by simp [Region.wanted]), ?_⟩) (hHeld) ?_
      rotate_left
      · (intro w hSw; (try dsimp only at hSw); ((go_simp) <;> (with_reducible rfl)))
      try simp only [Act.put]
      refine wpAnyH_take (i := 3) (v := ?_) rfl (by kernel_rfl) (by kernel_rfl) (by kernel_rfl) (fun _ _ _ h => h) (Or.inl ⟨(by simp [Region.wanted]), ?_⟩) (hHeld) ?_
      rotate_left
      · (intro w hSw; (try dsimp only at hSw); ((go_simp) <;> (with_reducible rfl)))
      try simp only [Act.put]
      refine wpAnyH_take (i := 4) (v := ?_) rfl (by kernel_rfl) (by kernel_rfl) (by kernel_rfl) (fun _ _ _ h => h) (Or.inl ⟨(by simp [Region.wanted]), ?_⟩) (hHeld) ?_
      rotate_left
      · (intro w hSw; (try dsimp only at hSw); ((go_simp) <;> (with_reducible rfl)))
      try simp only [Act.put]
      refine wpAnyH_take (i := 6) (v := ?_) rfl (by kernel_rfl) (by kernel_rfl) (by kernel_rfl) (fun _ _ _ h => h) (Or.inl ⟨(by simp [Region.wanted]), ?_⟩) (hHeld) ?_
      rotate_left
      · (intro w hSw; (try dsimp only at hSw); ((go_simp) <;> (with_reducible rfl)))
      try simp only [Act.put]
      refine wpAnyH_ready (rs := [5]) (by kernel_rfl) (by simp) ?_
      refine AllReadyH.cons rfl (fun K hK => ?_) AllReadyH.nil
      go_simp
      refine (HRan.out _ hb0).mono ?_
      rintro e w8 ⟨vr, rfl, hv8, hb8'⟩
      have hb8 : Below E.heap.size E w8 := hb0.trans (hb8'.mono hb0.size)
      refine hK.out _ _ (HS0.out _ hb8) (fun hHeld => ?_)
      clear hK K
      try simp only [Act.put, List.setIfInBounds_toArray, List.set_cons_zero, List.set_cons_succ]
      refine wpAnyH_ready (rs := [7]) (by kernel_rfl) (by simp) ?_
      refine AllReadyH.cons rfl (fun K hK => ?_) AllReadyH.nil
      go_simp
      refine (HSame.out _ _ hb8 hv8).mono ?_
      rintro e w9 ⟨rfl, hb9'⟩
      have hb9 : Below E.heap.size E w9 := hb8.trans (hb9'.mono hb8.size)
      refine hK.out _ _ (HS0.out _ hb9) (fun hHeld => ?_)
      clear hK K
      try simp only [Act.put, List.setIfInBounds_toArray, List.set_cons_zero, List.set_cons_succ]
      refine wpAnyH_ready (rs := [8]) (by kernel_rfl) (by simp) ?_
      refine AllReadyH.cons rfl (fun K hK => ?_) AllReadyH.nil
      go_simp
      refine hK.out _ _ (HS0.out _ hb9) (fun hHeld => ?_)
      clear hK K
      try simp only [Act.put, List.setIfInBounds_toArray, List.set_cons_zero, List.set_cons_succ]
      refine wpAnyH_done (by kernel_rfl) ?_ _
      go_wp2
      exact ⟨⟨q, O3, X3, (q : Int) - 1, by omega, rfl, rfl, HFin.out _ hb9⟩, by simp [intOf] <;> omega⟩
end Go.Proofs.YtnobmgkdieaclaaGreatDoor
