/-
  InterpFuel's walk (by gen_fuel.py).
-/
import Derived.Test.YtnobmgkdieaclaaGreatDoorIpAskJ
namespace Go.Proofs.YtnobmgkdieaclaaGreatDoor
open Go.RowKit

theorem below_drewI {B : Nat} {a w : World} (h : Below B a w) (n : Nat) : Below B a (w.drewN n) := ⟨h.os, h.tape, h.output, h.size, h.block⟩
set_option maxRecDepth 100000 in
set_option maxHeartbeats 8000000 in
theorem fuel_walk (va : Option Addr) (vn vc : Nat) (ta : Option Addr) (tn tc : Nat) (fu : Int) (f : Ac.Fo) (ts : List (List UInt8)) (v1 : Value) (l : List (Ip.B × Ip.B)) (n : Int) (w : World) (hL : Laid w) (hj : JobS w w.heap.size va vn vc ta tn tc f ts) (h1 : -9223372036854775808 ≤ fu) (h2 : fu ≤ 9223372036854775807)
    (hl1 : FiR.Sl w w.heap.size v1 l) (hn1 : l.length ≤ 140737488351232) (hz1 : ∀ a ∈ l, a.2.length ≤ 140737488351232) (_ : -9223372036854775808 ≤ n) (_ : n ≤ 9223372036854775807) :
    Calls Tryz.prog 9 #[jobV va vn vc ta tn tc fu, v1, .int .i64 n] w fun e w' => e = .returned (.bool true) ∧ Below w.heap.size w w' := by
  obtain ⟨a1, c1, rfl, -⟩ := hl1.shape
  have lb : (l.length : Int) ≤ 140737488351232 := by omega
  have hsf := shortF_in h1 h2
  have htop : Hid (shortF fu ≤ 65536 → shortF fu ≤ 20000) := shortF_top
  have r0 := Rw.new w #[.slice va vn vc, .slice ta tn tc, .int .i64 fu] 25
  have hbY := (Below.refl w.heap.size w).alloc (Nat.le_refl _) (.cells #[.slice va vn vc, .slice ta tn tc, .int .i64 fu] 25)
  unfold jobV
  go_enter Tryz.func9, Tryz.ntmps9
  go_upto_region 1 with fail
  generalize w.alloc (.cells #[.slice va vn vc, .slice ta tn tc, .int .i64 fu] 25) = Y at *
  have hW := works_any Y (hL.below hbY hL.size)
  have hSh := short_any va vn vc ta tn tc fu
  unfold jobV at hSh
  generalize shortF fu = F at *
  go_upto_region 4 with (first
    | (go_at_call 12; refine hW.mono ?_; rintro e w1 ⟨rfl, hb1⟩; have q0 := r0.below hb1 r0.lt; have k0 := q0.cell 0; have k1 := q0.cell 1; have k2 := q0.cell 2)
    | (go_at_call 22; refine (hSh _).mono ?_; rintro e w2 ⟨rfl, hb2⟩; have q3 := q0.below hb2 q0.lt; have m0 := q3.cell 0; have m1 := q3.cell 1; have m2 := q3.cell 2; have f0 := q3.free 0; have f1 := q3.free 1; have f2 := q3.free 2)
    | fail)
  have q4 := q3.put3 (.slice va vn vc) (.slice ta tn tc) (.int .i64 F)
  have hT4 := Turn.put3 w2 w.heap.size (.slice va vn vc) (.slice ta tn tc) (.int .i64 F)
  have hb2w : Below w.heap.size w w2 := (hbY.trans (hb1.mono hbY.size)).trans (hb2.mono (by have := hb1.size; have := hbY.size; omega))
  have hbV := hT4.bel hb2w (by simp)
  clear m0 m1 m2 k0 k1 k2 f0 f1 f2 q0 q3 hT4 hb2w hb1 hb2 hW hSh r0
  generalize ((w2.setCell ⟨w.heap.size, 0, none⟩ (.slice va vn vc)).setCell ⟨w.heap.size, 1, none⟩ (.slice ta tn tc)).setCell ⟨w.heap.size, 2, none⟩ (.int .i64 F) = V at *
  have hjV := hj.below hbV
  have hG := great_any F hjV
  unfold jobV at hG
  have k0 := q4.cell 0
  have k1 := q4.cell 1
  have k2 := q4.cell 2
  by_cases hl200 : 200 < l.length
  · have i1 : (200 : Int) < (l.length : Int) := by omega
    go_wp2_with (first
      | (go_at_call 13; refine hG.mono ?_; rintro e w3 ⟨he, hb3⟩; rcases he with rfl | ⟨rfl, hwg⟩)
      | fail)
    all_goals (go_ret; exact ⟨rfl, hbV.trans (hb3.mono hbV.size)⟩)
  have i1 : ¬ (200 : Int) < (l.length : Int) := by omega
  go_upto_region 6 with (first
    | (go_at_call 13; refine hG.mono ?_; rintro e w3 ⟨he, hb3⟩; rcases he with rfl | ⟨rfl, hwg⟩)
    | fail)
  · go_ret
    exact ⟨rfl, hbV.trans (hb3.mono hbV.size)⟩
  have hbW := hbV.trans (hb3.mono hbV.size)
  have q5 := q4.below hb3 q4.lt
  have hjW := hj.below hbW
  have hLW := hL.below hbW hL.size
  have hzW := hbW.size
  have hlW := (hl1.below hbW (Nat.le_refl _)).mono hzW
  obtain ⟨R, hR⟩ : ∃ R, wholeR (Ip.whole f ts F (Ip.find l)) = R := ⟨_, rfl⟩
  obtain ⟨E, hE⟩ : ∃ E, wholeE (Ip.whole f ts F (Ip.find l)) = E := ⟨_, rfl⟩
  obtain ⟨K, hK⟩ : ∃ K : Int, (R.ev.kind : Int) = K := ⟨_, rfl⟩
  obtain ⟨P, hP⟩ : ∃ P, str R.ev.path = P := ⟨_, rfl⟩
  obtain ⟨X2, hX⟩ : ∃ X, str R.ev.text = X := ⟨_, rfl⟩
  obtain ⟨Z, hZ⟩ : ∃ Z : Int, (R.ev.why : Int) = Z := ⟨_, rfl⟩
  obtain ⟨U, hU⟩ : ∃ U : Int, (R.used : Int) = U := ⟨_, rfl⟩
  have hV : Hid ((R.ev.kind : Int) = K ∧ str R.ev.path = P ∧ str R.ev.text = X2 ∧ (R.ev.why : Int) = Z ∧ (R.used : Int) = U) := ⟨hK, hP, hX, hZ, hU⟩
  have hRE : Hid (wholeR (Ip.whole f ts F (Ip.find l)) = R ∧ wholeE (Ip.whole f ts F (Ip.find l)) = E) := ⟨hR, hE⟩
  have HD1 := Do_let hjW hLW F hsf.1 hsf.2 hwg a1 c1 l hlW hn1 hz1 R E hR hE hV.out
  clear hK hP hX hZ hU hR hE k0 k1 k2 hG hl200
  have HS1 : Hid (∀ W, Below w3.heap.size w3 W → W.cell? ⟨w.heap.size, 0, none⟩ = some (.slice va vn vc) ∧ W.cell? ⟨w.heap.size, 1, none⟩ = some (.slice ta tn tc) ∧ W.cell? ⟨w.heap.size, 2, none⟩ = some (.int .i64 F)) := fun W hb => ⟨(q5.below hb q5.lt).cell 0, (q5.below hb q5.lt).cell 1, (q5.below hb q5.lt).cell 2⟩
  have HP1 : Hid (∀ (W : World) (gz : Nat) (b0 b1 b2 b3 b4 b5 b6 : Value), Below w3.heap.size w3 W → w3.heap.size ≤ gz → (((((((W.setCell ⟨gz, 0, none⟩ b0).setCell ⟨gz, 1, none⟩ b1).setCell ⟨gz, 2, none⟩ b2).setCell ⟨gz, 3, none⟩ b3).setCell ⟨gz, 4, none⟩ b4).setCell ⟨gz, 5, none⟩ b5).setCell ⟨gz, 6, none⟩ b6).cell? ⟨w.heap.size, 0, none⟩ = some (.slice va vn vc) ∧ (((((((W.setCell ⟨gz, 0, none⟩ b0).setCell ⟨gz, 1, none⟩ b1).setCell ⟨gz, 2, none⟩ b2).setCell ⟨gz, 3, none⟩ b3).setCell ⟨gz, 4, none⟩ b4).setCell ⟨gz, 5, none⟩ b5).setCell ⟨gz, 6, none⟩ b6).cell? ⟨w.heap.size, 1, none⟩ = some (.slice ta tn tc) ∧ (((((((W.setCell ⟨gz, 0, none⟩ b0).setCell ⟨gz, 1, none⟩ b1).setCell ⟨gz, 2, none⟩ b2).setCell ⟨gz, 3, none⟩ b3).setCell ⟨gz, 4, none⟩ b4).setCell ⟨gz, 5, none⟩ b5).setCell ⟨gz, 6, none⟩ b6).cell? ⟨w.heap.size, 2, none⟩ = some (.int .i64 F)) := fun W gz b0 b1 b2 b3 b4 b5 b6 hb hg => HS1.out _ ((Turn.put7 W gz b0 b1 b2 b3 b4 b5 b6).bel hb (by simpa using hg))
  have hb0 : Below w3.heap.size w3 w3.drew := (Below.refl _ w3).drew
  have hbA : Below w3.heap.size w3 (w3.alloc (.cells #[.int .i64 0, .string ⟨#[]⟩, .int .i64 0, .string ⟨#[]⟩, .slice none 0 0, .slice none 0 0, .int .i64 0] 35)).drew := ((Below.refl _ w3).alloc (Nat.le_refl _) _).drew
  go_cut [7, 8] from 27 (fun s7 s8 V2 => ∃ ga oa on oc na nn nc, s7 = .pointer (some ⟨ga, 0, none⟩) ∧ s8 = .int .i64 E ∧ Rw V2 ga #[.int .i64 K, .string P, .int .i64 Z, .string X2, .slice oa on oc, .slice na nn nc, .int .i64 U] 35 ∧ w3.heap.size ≤ ga ∧ TxR.Own V2 w3.heap.size (.slice oa on oc) R.outs ∧ TxR.Own V2 w3.heap.size (.slice na nn nc) R.needs ∧ Below w3.heap.size w3 V2)
  case first =>
    go_region_held3 (fun X : World => X.cell? ⟨w.heap.size, 0, none⟩ = some (.slice va vn vc) ∧ X.cell? ⟨w.heap.size, 1, none⟩ = some (.slice ta tn tc) ∧ X.cell? ⟨w.heap.size, 2, none⟩ = some (.int .i64 F)) (first | with_reducible exact HS1.out _ hb0 | with_reducible exact HS1.out _ hbf | with_reducible exact HS1.out _ hbd | with_reducible exact HS1.out _ (hbd.alloc hbd.size _) | with_reducible exact HS1.out _ (hb0.alloc hb0.size _) | with_reducible exact HS1.out _ (hbf.alloc hbf.size _) | with_reducible exact HP1.out _ _ _ _ _ _ _ _ _ (hbd.alloc hbd.size _) (by have := hbd.size; omega) | with_reducible exact HS1.out _ hbg | with_reducible exact HS1.out _ hbA | with_reducible exact HP1.out _ _ _ _ _ _ _ _ _ hbd (by have := hbf.size; omega) | with_reducible exact HP1.out _ _ _ _ _ _ _ _ _ hbd (Nat.le_refl _) | fail) (first
      | (go_at_call 28; first
          | (refine (files_any a1 l.length c1 w3.drew).mono ?_; rintro e wf ⟨rfl, hwf⟩; have hbf : Below w3.heap.size w3 wf := (by rw [hwf]; exact hb0.alloc hb0.size _); have rf : Rw wf w3.heap.size #[.slice a1 l.length c1] 54 := (by rw [hwf]; exact Rw.new _ _ _); clear hwf)
          | (refine (files_any a1 l.length c1 (w3.alloc (.cells #[.int .i64 0, .string ⟨#[]⟩, .int .i64 0, .string ⟨#[]⟩, .slice none 0 0, .slice none 0 0, .int .i64 0] 35)).drew).mono ?_; rintro e wg ⟨rfl, hwg2⟩; have hbg : Below w3.heap.size w3 wg := (by rw [hwg2]; exact hbA.alloc hbA.size _); have rg : Rw wg (w3.heap.size + 1) #[.slice a1 l.length c1] 54 := (by rw [hwg2]; have hr := Rw.new (w3.alloc (.cells #[.int .i64 0, .string ⟨#[]⟩, .int .i64 0, .string ⟨#[]⟩, .slice none 0 0, .slice none 0 0, .int .i64 0] 35)).drew #[.slice a1 l.length c1] 54; have hz : (w3.alloc (.cells #[.int .i64 0, .string ⟨#[]⟩, .int .i64 0, .string ⟨#[]⟩, .slice none 0 0, .slice none 0 0, .int .i64 0] 35)).drew.heap.size = w3.heap.size + 1 := size_alloc w3 _; rw [hz] at hr; exact hr); have rgn : Rw wg w3.heap.size ran0 35 := (by rw [hwg2]; exact Rw.alloc (show Rw (w3.alloc (.cells ran0 35)).drew w3.heap.size ran0 35 from Rw.new w3 _ _) _); clear hwg2))
      | (go_at_call 15; first
          | (refine (HD1.out wf _ hbf rf).mono ?_; rintro e wd ⟨oa, on, oc, na, nn, nc, rfl, p1, p2, hbd0⟩; have hbd := hbf.trans (hbd0.mono hbf.size); clear hbd0)
          | (refine (HD1.out (wf.alloc (.cells #[.int .i64 0, .string ⟨#[]⟩, .int .i64 0, .string ⟨#[]⟩, .slice none 0 0, .slice none 0 0, .int .i64 0] 35)) _ (hbf.alloc hbf.size _) (rf.alloc _)).mono ?_; rintro e wd ⟨oa, on, oc, na, nn, nc, rfl, p1, p2, hbd0⟩; have hbd := (hbf.alloc hbf.size _).trans (hbd0.mono (hbf.alloc hbf.size _).size); have rn := (Rw.new wf ran0 35).below hbd0 (Rw.new wf ran0 35).lt; have x0 : wd.cell? ⟨wf.heap.size, 0, none⟩ = some (.int .i64 0) := rn.cell 0; have y0 : wd.frozen? ⟨wf.heap.size, 0, none⟩ = false := rn.free 0; have x1 : wd.cell? ⟨wf.heap.size, 1, none⟩ = some (.string ⟨#[]⟩) := rn.cell 1; have y1 : wd.frozen? ⟨wf.heap.size, 1, none⟩ = false := rn.free 1; have x2 : wd.cell? ⟨wf.heap.size, 2, none⟩ = some (.int .i64 0) := rn.cell 2; have y2 : wd.frozen? ⟨wf.heap.size, 2, none⟩ = false := rn.free 2; have x3 : wd.cell? ⟨wf.heap.size, 3, none⟩ = some (.string ⟨#[]⟩) := rn.cell 3; have y3 : wd.frozen? ⟨wf.heap.size, 3, none⟩ = false := rn.free 3; have x4 : wd.cell? ⟨wf.heap.size, 4, none⟩ = some (.slice none 0 0) := rn.cell 4; have y4 : wd.frozen? ⟨wf.heap.size, 4, none⟩ = false := rn.free 4; have x5 : wd.cell? ⟨wf.heap.size, 5, none⟩ = some (.slice none 0 0) := rn.cell 5; have y5 : wd.frozen? ⟨wf.heap.size, 5, none⟩ = false := rn.free 5; have x6 : wd.cell? ⟨wf.heap.size, 6, none⟩ = some (.int .i64 0) := rn.cell 6; have y6 : wd.frozen? ⟨wf.heap.size, 6, none⟩ = false := rn.free 6; clear hbd0)
          | (refine (HD1.out wg _ hbg rg).mono ?_; rintro e wd ⟨oa, on, oc, na, nn, nc, rfl, p1, p2, hbd0⟩; have hbd := hbg.trans (hbd0.mono hbg.size); have rn2 := rgn.below hbd0 rgn.lt; have x0 : wd.cell? ⟨w3.heap.size, 0, none⟩ = some (.int .i64 0) := rn2.cell 0; have y0 : wd.frozen? ⟨w3.heap.size, 0, none⟩ = false := rn2.free 0; have x1 : wd.cell? ⟨w3.heap.size, 1, none⟩ = some (.string ⟨#[]⟩) := rn2.cell 1; have y1 : wd.frozen? ⟨w3.heap.size, 1, none⟩ = false := rn2.free 1; have x2 : wd.cell? ⟨w3.heap.size, 2, none⟩ = some (.int .i64 0) := rn2.cell 2; have y2 : wd.frozen? ⟨w3.heap.size, 2, none⟩ = false := rn2.free 2; have x3 : wd.cell? ⟨w3.heap.size, 3, none⟩ = some (.string ⟨#[]⟩) := rn2.cell 3; have y3 : wd.frozen? ⟨w3.heap.size, 3, none⟩ = false := rn2.free 3; have x4 : wd.cell? ⟨w3.heap.size, 4, none⟩ = some (.slice none 0 0) := rn2.cell 4; have y4 : wd.frozen? ⟨w3.heap.size, 4, none⟩ = false := rn2.free 4; have x5 : wd.cell? ⟨w3.heap.size, 5, none⟩ = some (.slice none 0 0) := rn2.cell 5; have y5 : wd.frozen? ⟨w3.heap.size, 5, none⟩ = false := rn2.free 5; have x6 : wd.cell? ⟨w3.heap.size, 6, none⟩ = some (.int .i64 0) := rn2.cell 6; have y6 : wd.frozen? ⟨w3.heap.size, 6, none⟩ = false := rn2.free 6; clear hbd0))
      | fail)
    · have bA := hbd.alloc hbd.size (.cells #[.int .i64 K, .string P, .int .i64 Z, .string X2, .slice oa on oc, .slice na nn nc, .int .i64 U] 35)
      have rN := Rw.new wd #[.int .i64 K, .string P, .int .i64 Z, .string X2, .slice oa on oc, .slice na nn nc, .int .i64 U] 35
      have pA := (p1.alloc (.cells #[.int .i64 K, .string P, .int .i64 Z, .string X2, .slice oa on oc, .slice na nn nc, .int .i64 U] 35)).low hbf.size
      have pB := (p2.alloc (.cells #[.int .i64 K, .string P, .int .i64 Z, .string X2, .slice oa on oc, .slice na nn nc, .int .i64 U] 35)).low hbf.size
      go_wp2_with fail
      go_meet
      case rel => exact ⟨_, oa, on, oc, na, nn, nc, rfl, rfl, rN, hbd.size, pA, pB, bA⟩
    · have hT7 := Turn.put7 wd wf.heap.size (.int .i64 K) (.string P) (.int .i64 Z) (.string X2) (.slice oa on oc) (.slice na nn nc) (.int .i64 U)
      have rN := Rw.put7 (x0 := .int .i64 0) (x1 := .string ⟨#[]⟩) (x2 := .int .i64 0) (x3 := .string ⟨#[]⟩) (x4 := .slice none 0 0) (x5 := .slice none 0 0) (x6 := .int .i64 0) rn (.int .i64 K) (.string P) (.int .i64 Z) (.string X2) (.slice oa on oc) (.slice na nn nc) (.int .i64 U)
      have pA := (p1.turnP hT7 (fun g hg => by have := (p1.lt g hg).1; rw [size_alloc] at this; simp; omega)).low (B' := w3.heap.size) (by rw [size_alloc]; have := hbf.size; omega)
      have pB := (p2.turnP hT7 (fun g hg => by have := (p2.lt g hg).1; rw [size_alloc] at this; simp; omega)).low (B' := w3.heap.size) (by rw [size_alloc]; have := hbf.size; omega)
      have bA := hT7.bel hbd (by simp; exact hbf.size)
      have hga := hbf.size
      go_wp2_with fail
      go_meet
      case rel => exact ⟨_, oa, on, oc, na, nn, nc, rfl, rfl, rN, hga, pA, pB, bA⟩
    · have hT7 := Turn.put7 wd w3.heap.size (.int .i64 K) (.string P) (.int .i64 Z) (.string X2) (.slice oa on oc) (.slice na nn nc) (.int .i64 U)
      have rN := Rw.put7 (x0 := .int .i64 0) (x1 := .string ⟨#[]⟩) (x2 := .int .i64 0) (x3 := .string ⟨#[]⟩) (x4 := .slice none 0 0) (x5 := .slice none 0 0) (x6 := .int .i64 0) rn2 (.int .i64 K) (.string P) (.int .i64 Z) (.string X2) (.slice oa on oc) (.slice na nn nc) (.int .i64 U)
      have hlg := rgn.lt
      have pA := (p1.turnP hT7 (fun g hg => by have := (p1.lt g hg).1; simp; omega)).low (B' := w3.heap.size) (by omega)
      have pB := (p2.turnP hT7 (fun g hg => by have := (p2.lt g hg).1; simp; omega)).low (B' := w3.heap.size) (by omega)
      have bA := hT7.bel hbd (by simp)
      go_wp2_with fail
      go_meet
      case rel => exact ⟨_, oa, on, oc, na, nn, nc, rfl, rfl, rN, Nat.le_refl _, pA, pB, bA⟩
  case rest =>
    obtain ⟨ga, oa, on, oc, na, nn, nc, rfl, rfl, rA, hga, pA, pB, bA⟩ := hcut
    clear HS1 HP1 hb0 hbA HD1
    obtain ⟨na', nc', e1, hcs⟩ := pB.sl.shape
    simp only [Value.slice.injEq] at e1
    obtain ⟨rfl, rfl, rfl⟩ := e1
    have hbC := hbW.trans (bA.mono hzW)
    have q6 := q5.below bA q5.lt
    by_cases hmy : Ip.mayNew f ts F = true
    · obtain ⟨e0, -, e2, -, -, e5⟩ := whole_yes (Ip.find l) hmy hwg
      obtain ⟨u1, u2⟩ := fuel_here (Ip.find l) hmy hwg
      obtain ⟨t0, t1⟩ := mayNew_top hmy
      have t2 := htop.out t1
      rw [hRE.out.1] at e2 e5 u1 u2
      rw [hRE.out.2] at e0
      subst e0
      rw [hV.out.2.2.2.2] at u1 u2
      have hU0 : 0 ≤ U := by rw [← hV.out.2.2.2.2]; omega
      have hZ143 : Z = 143 → U = F := fun h => u2 (by have := hV.out.2.2.2.1; omega)
      clear u2
      have b1 : ¬ U < 0 := by omega
      have b2 : ¬ F < U := by omega
      have hb6 := rA.cell 6
      have hb2' := rA.cell 2
      have j0 := q6.cell 0
      have j1 := q6.cell 1
      have j2 := q6.cell 2
      obtain ⟨Q, hQ⟩ : ∃ Q, n.tmod 1000 = Q := ⟨_, rfl⟩
      have m1 : Q < 1000 := by rw [← hQ]; exact Int.tmod_lt_of_pos n (by omega)
      have m2 : -1000 < Q := by rw [← hQ]; exact Int.lt_tmod_of_pos n (by omega)
      have hUF : Hid (Z = 143 → U = F) := hZ143
      rename World => C1
      go_upto_region 9 with fail
      go_cut [63] from 41 (fun s V => s = .bool false ∧ V = C1)
      case first =>
        by_cases hz : Z = 143
        · have hu := hZ143 hz
          have b0 : ¬ F < 0 := by omega
          subst hz
          go_wp2_with fail
          go_meet
          case rel => exact ⟨by first | rfl | (rw [decide_eq_false (by omega)]), rfl⟩
        · go_wp2_with fail
          go_meet
          case rel => exact ⟨by first | rfl | (rw [decide_eq_false (by omega)]), rfl⟩
      case rest =>
      obtain ⟨rfl, hcw⟩ := hcut
      subst hcw
      rename World => C1
      obtain ⟨N, hN⟩ : ∃ N, (if Q < 0 then -Q else Q) = N := ⟨_, rfl⟩
      have n1 : 0 ≤ N := by rw [← hN]; split <;> omega
      have n2 : N < 1000 := by rw [← hN]; split <;> omega
      have hQN : Hid ((Q < 0 → -Q = N) ∧ (¬ Q < 0 → Q = N)) := ⟨fun h => by rw [← hN, if_pos h], fun h => by rw [← hN, if_neg h]⟩
      clear hN
      go_upto_if 67 with fail
      go_cut [2] from 66 (fun s V => s = .int .i64 N ∧ V = C1)
      case first =>
        by_cases hq : Q < 0
        · have hN := hQN.out.1 (by omega)
          go_wp2_with fail
          go_meet
          case rel => exact ⟨rfl, rfl⟩
        · have hN := hQN.out.2 (by omega)
          subst hN
          go_wp2_with fail
          go_meet
          case rel => exact ⟨rfl, rfl⟩
      case rest =>
      obtain ⟨rfl, hcw⟩ := hcut
      subst hcw
      rename World => C1
      clear hQN hQ m1 m2
      have hjC := hjW.below bA
      have hLC := hLW.below bA hLW.size
      have hlC := (hlW.below bA (Nat.le_refl _)).mono bA.size
      have lA := rA.lt
      have l6 := q6.lt
      go_upto_if 73 with fail
      go_cut [9, 10, 11, 12] from 70 (fun s1 s2 s3 s4 V => Below C1.heap.size C1 V)
      case first =>
        by_cases hz : Z = 143
        · subst hz
          go_wp2_with fail
          go_meet
          case rel => exact Below.refl _ _
        · have hnw : (wholeR (Ip.whole f ts F (Ip.find l))).ev.why ≠ 143 := by rw [hRE.out.1]; intro h; exact hz (by rw [← hV.out.2.2.2.1, h]; rfl)
          obtain ⟨e3, e4⟩ := fuel_more (G := F + N) (Ip.find l) hmy hwg (by omega) (by omega) hnw
          obtain ⟨e6, e7⟩ := fuel_used (Ip.find l) hmy hwg
          rw [hRE.out.1] at e3 e6 e7
          rw [hV.out.2.2.2.2] at e6 e7
          clear hnw
          have HD2 := Do_let hjC hLC (F + N) (by omega) (by omega) hwg a1 c1 l hlC hn1 hz1 R 0 e3 e4 hV.out
          have hwr : IntKind.i64.wrap (F + N) = F + N := by rw [IntKind.wrap_i64]; omega
          obtain ⟨G2, hG2⟩ : ∃ G2, F + N = G2 := ⟨_, rfl⟩
          rw [hG2] at HD2
          have hwr2 : IntKind.i64.wrap (F + N) = G2 := hwr.trans hG2
          clear hwr hG2
          clear e3 e4
          have HS2 : Hid (∀ W, Below C1.heap.size C1 W → W.cell? ⟨w.heap.size, 0, none⟩ = some (.slice va vn vc) ∧ W.cell? ⟨w.heap.size, 1, none⟩ = some (.slice ta tn tc) ∧ W.cell? ⟨w.heap.size, 2, none⟩ = some (.int .i64 F)) := fun W hb => ⟨(q6.below hb l6).cell 0, (q6.below hb l6).cell 1, (q6.below hb l6).cell 2⟩
          have HP2 : Hid (∀ (W : World) (gz : Nat) (b0 b1 b2 b3 b4 b5 b6 : Value), Below C1.heap.size C1 W → C1.heap.size ≤ gz → (((((((W.setCell ⟨gz, 0, none⟩ b0).setCell ⟨gz, 1, none⟩ b1).setCell ⟨gz, 2, none⟩ b2).setCell ⟨gz, 3, none⟩ b3).setCell ⟨gz, 4, none⟩ b4).setCell ⟨gz, 5, none⟩ b5).setCell ⟨gz, 6, none⟩ b6).cell? ⟨w.heap.size, 0, none⟩ = some (.slice va vn vc) ∧ (((((((W.setCell ⟨gz, 0, none⟩ b0).setCell ⟨gz, 1, none⟩ b1).setCell ⟨gz, 2, none⟩ b2).setCell ⟨gz, 3, none⟩ b3).setCell ⟨gz, 4, none⟩ b4).setCell ⟨gz, 5, none⟩ b5).setCell ⟨gz, 6, none⟩ b6).cell? ⟨w.heap.size, 1, none⟩ = some (.slice ta tn tc) ∧ (((((((W.setCell ⟨gz, 0, none⟩ b0).setCell ⟨gz, 1, none⟩ b1).setCell ⟨gz, 2, none⟩ b2).setCell ⟨gz, 3, none⟩ b3).setCell ⟨gz, 4, none⟩ b4).setCell ⟨gz, 5, none⟩ b5).setCell ⟨gz, 6, none⟩ b6).cell? ⟨w.heap.size, 2, none⟩ = some (.int .i64 F)) := fun W gz b0 b1 b2 b3 b4 b5 b6 hb hg => HS2.out _ ((Turn.put7 W gz b0 b1 b2 b3 b4 b5 b6).bel hb (by simpa using hg))

          have hzb : (Z != 143) = true := by simp [hz]
          go_upto_region 15 with fail
          clear hz
          generalize (Z != 143) = zb at *
          subst hzb
          have hb0 : Below C1.heap.size C1 C1.drew := (Below.refl _ C1).drew
          have hbA : Below C1.heap.size C1 (C1.alloc (.cells #[.int .i64 0, .string ⟨#[]⟩, .int .i64 0, .string ⟨#[]⟩, .slice none 0 0, .slice none 0 0, .int .i64 0] 35)).drew := ((Below.refl _ C1).alloc (Nat.le_refl _) _).drew
          go_cut [9, 10] from 74 (fun s7 s8 V2 => ∃ ga oa on oc na nn nc, s7 = .pointer (some ⟨ga, 0, none⟩) ∧ s8 = .int .i64 0 ∧ Rw V2 ga #[.int .i64 K, .string P, .int .i64 Z, .string X2, .slice oa on oc, .slice na nn nc, .int .i64 U] 35 ∧ C1.heap.size ≤ ga ∧ TxR.Own V2 C1.heap.size (.slice oa on oc) R.outs ∧ TxR.Own V2 C1.heap.size (.slice na nn nc) R.needs ∧ Below C1.heap.size C1 V2)
          case first =>
            go_region_held3 (fun X : World => X.cell? ⟨w.heap.size, 0, none⟩ = some (.slice va vn vc) ∧ X.cell? ⟨w.heap.size, 1, none⟩ = some (.slice ta tn tc) ∧ X.cell? ⟨w.heap.size, 2, none⟩ = some (.int .i64 F)) (first | with_reducible exact HS2.out _ hb0 | with_reducible exact HS2.out _ hbf | with_reducible exact HS2.out _ hbd | with_reducible exact HS2.out _ (hbd.alloc hbd.size _) | with_reducible exact HS2.out _ (hb0.alloc hb0.size _) | with_reducible exact HS2.out _ (hbf.alloc hbf.size _) | with_reducible exact HP2.out _ _ _ _ _ _ _ _ _ (hbd.alloc hbd.size _) (by have := hbd.size; omega) | with_reducible exact HS2.out _ hbg | with_reducible exact HS2.out _ hbA | with_reducible exact HP2.out _ _ _ _ _ _ _ _ _ hbd (by have := hbf.size; omega) | with_reducible exact HP2.out _ _ _ _ _ _ _ _ _ hbd (Nat.le_refl _) | fail) (first
              | (go_at_call 28; first
                  | (refine (files_any a1 l.length c1 C1.drew).mono ?_; rintro e wf ⟨rfl, hwf⟩; have hbf : Below C1.heap.size C1 wf := (by rw [hwf]; exact hb0.alloc hb0.size _); have rf : Rw wf C1.heap.size #[.slice a1 l.length c1] 54 := (by rw [hwf]; exact Rw.new _ _ _); clear hwf)
                  | (refine (files_any a1 l.length c1 (C1.alloc (.cells #[.int .i64 0, .string ⟨#[]⟩, .int .i64 0, .string ⟨#[]⟩, .slice none 0 0, .slice none 0 0, .int .i64 0] 35)).drew).mono ?_; rintro e wg ⟨rfl, hwg2⟩; have hbg : Below C1.heap.size C1 wg := (by rw [hwg2]; exact hbA.alloc hbA.size _); have rg : Rw wg (C1.heap.size + 1) #[.slice a1 l.length c1] 54 := (by rw [hwg2]; have hr := Rw.new (C1.alloc (.cells #[.int .i64 0, .string ⟨#[]⟩, .int .i64 0, .string ⟨#[]⟩, .slice none 0 0, .slice none 0 0, .int .i64 0] 35)).drew #[.slice a1 l.length c1] 54; have hz : (C1.alloc (.cells #[.int .i64 0, .string ⟨#[]⟩, .int .i64 0, .string ⟨#[]⟩, .slice none 0 0, .slice none 0 0, .int .i64 0] 35)).drew.heap.size = C1.heap.size + 1 := size_alloc C1 _; rw [hz] at hr; exact hr); have rgn : Rw wg C1.heap.size ran0 35 := (by rw [hwg2]; exact Rw.alloc (show Rw (C1.alloc (.cells ran0 35)).drew C1.heap.size ran0 35 from Rw.new C1 _ _) _); clear hwg2))
              | (go_at_call 15; first
                  | (refine (HD2.out wf _ hbf rf).mono ?_; rintro e wd ⟨oa, on, oc, na, nn, nc, rfl, p1, p2, hbd0⟩; have hbd := hbf.trans (hbd0.mono hbf.size); clear hbd0)
                  | (refine (HD2.out (wf.alloc (.cells #[.int .i64 0, .string ⟨#[]⟩, .int .i64 0, .string ⟨#[]⟩, .slice none 0 0, .slice none 0 0, .int .i64 0] 35)) _ (hbf.alloc hbf.size _) (rf.alloc _)).mono ?_; rintro e wd ⟨oa, on, oc, na, nn, nc, rfl, p1, p2, hbd0⟩; have hbd := (hbf.alloc hbf.size _).trans (hbd0.mono (hbf.alloc hbf.size _).size); have rn := (Rw.new wf ran0 35).below hbd0 (Rw.new wf ran0 35).lt; have x0 : wd.cell? ⟨wf.heap.size, 0, none⟩ = some (.int .i64 0) := rn.cell 0; have y0 : wd.frozen? ⟨wf.heap.size, 0, none⟩ = false := rn.free 0; have x1 : wd.cell? ⟨wf.heap.size, 1, none⟩ = some (.string ⟨#[]⟩) := rn.cell 1; have y1 : wd.frozen? ⟨wf.heap.size, 1, none⟩ = false := rn.free 1; have x2 : wd.cell? ⟨wf.heap.size, 2, none⟩ = some (.int .i64 0) := rn.cell 2; have y2 : wd.frozen? ⟨wf.heap.size, 2, none⟩ = false := rn.free 2; have x3 : wd.cell? ⟨wf.heap.size, 3, none⟩ = some (.string ⟨#[]⟩) := rn.cell 3; have y3 : wd.frozen? ⟨wf.heap.size, 3, none⟩ = false := rn.free 3; have x4 : wd.cell? ⟨wf.heap.size, 4, none⟩ = some (.slice none 0 0) := rn.cell 4; have y4 : wd.frozen? ⟨wf.heap.size, 4, none⟩ = false := rn.free 4; have x5 : wd.cell? ⟨wf.heap.size, 5, none⟩ = some (.slice none 0 0) := rn.cell 5; have y5 : wd.frozen? ⟨wf.heap.size, 5, none⟩ = false := rn.free 5; have x6 : wd.cell? ⟨wf.heap.size, 6, none⟩ = some (.int .i64 0) := rn.cell 6; have y6 : wd.frozen? ⟨wf.heap.size, 6, none⟩ = false := rn.free 6; clear hbd0)
                  | (refine (HD2.out wg _ hbg rg).mono ?_; rintro e wd ⟨oa, on, oc, na, nn, nc, rfl, p1, p2, hbd0⟩; have hbd := hbg.trans (hbd0.mono hbg.size); have rn2 := rgn.below hbd0 rgn.lt; have x0 : wd.cell? ⟨C1.heap.size, 0, none⟩ = some (.int .i64 0) := rn2.cell 0; have y0 : wd.frozen? ⟨C1.heap.size, 0, none⟩ = false := rn2.free 0; have x1 : wd.cell? ⟨C1.heap.size, 1, none⟩ = some (.string ⟨#[]⟩) := rn2.cell 1; have y1 : wd.frozen? ⟨C1.heap.size, 1, none⟩ = false := rn2.free 1; have x2 : wd.cell? ⟨C1.heap.size, 2, none⟩ = some (.int .i64 0) := rn2.cell 2; have y2 : wd.frozen? ⟨C1.heap.size, 2, none⟩ = false := rn2.free 2; have x3 : wd.cell? ⟨C1.heap.size, 3, none⟩ = some (.string ⟨#[]⟩) := rn2.cell 3; have y3 : wd.frozen? ⟨C1.heap.size, 3, none⟩ = false := rn2.free 3; have x4 : wd.cell? ⟨C1.heap.size, 4, none⟩ = some (.slice none 0 0) := rn2.cell 4; have y4 : wd.frozen? ⟨C1.heap.size, 4, none⟩ = false := rn2.free 4; have x5 : wd.cell? ⟨C1.heap.size, 5, none⟩ = some (.slice none 0 0) := rn2.cell 5; have y5 : wd.frozen? ⟨C1.heap.size, 5, none⟩ = false := rn2.free 5; have x6 : wd.cell? ⟨C1.heap.size, 6, none⟩ = some (.int .i64 0) := rn2.cell 6; have y6 : wd.frozen? ⟨C1.heap.size, 6, none⟩ = false := rn2.free 6; clear hbd0))
              | fail)
            · have bA := hbd.alloc hbd.size (.cells #[.int .i64 K, .string P, .int .i64 Z, .string X2, .slice oa on oc, .slice na nn nc, .int .i64 U] 35)
              have rN := Rw.new wd #[.int .i64 K, .string P, .int .i64 Z, .string X2, .slice oa on oc, .slice na nn nc, .int .i64 U] 35
              have pA := (p1.alloc (.cells #[.int .i64 K, .string P, .int .i64 Z, .string X2, .slice oa on oc, .slice na nn nc, .int .i64 U] 35)).low hbf.size
              have pB := (p2.alloc (.cells #[.int .i64 K, .string P, .int .i64 Z, .string X2, .slice oa on oc, .slice na nn nc, .int .i64 U] 35)).low hbf.size
              go_wp2_with fail
              go_meet
              case rel => exact ⟨_, oa, on, oc, na, nn, nc, rfl, rfl, rN, hbd.size, pA, pB, bA⟩
            · have hT7 := Turn.put7 wd wf.heap.size (.int .i64 K) (.string P) (.int .i64 Z) (.string X2) (.slice oa on oc) (.slice na nn nc) (.int .i64 U)
              have rN := Rw.put7 (x0 := .int .i64 0) (x1 := .string ⟨#[]⟩) (x2 := .int .i64 0) (x3 := .string ⟨#[]⟩) (x4 := .slice none 0 0) (x5 := .slice none 0 0) (x6 := .int .i64 0) rn (.int .i64 K) (.string P) (.int .i64 Z) (.string X2) (.slice oa on oc) (.slice na nn nc) (.int .i64 U)
              have pA := (p1.turnP hT7 (fun g hg => by have := (p1.lt g hg).1; rw [size_alloc] at this; simp; omega)).low (B' := C1.heap.size) (by rw [size_alloc]; have := hbf.size; omega)
              have pB := (p2.turnP hT7 (fun g hg => by have := (p2.lt g hg).1; rw [size_alloc] at this; simp; omega)).low (B' := C1.heap.size) (by rw [size_alloc]; have := hbf.size; omega)
              have bA := hT7.bel hbd (by simp; exact hbf.size)
              have hga := hbf.size
              go_wp2_with fail
              go_meet
              case rel => exact ⟨_, oa, on, oc, na, nn, nc, rfl, rfl, rN, hga, pA, pB, bA⟩
            · have hT7 := Turn.put7 wd C1.heap.size (.int .i64 K) (.string P) (.int .i64 Z) (.string X2) (.slice oa on oc) (.slice na nn nc) (.int .i64 U)
              have rN := Rw.put7 (x0 := .int .i64 0) (x1 := .string ⟨#[]⟩) (x2 := .int .i64 0) (x3 := .string ⟨#[]⟩) (x4 := .slice none 0 0) (x5 := .slice none 0 0) (x6 := .int .i64 0) rn2 (.int .i64 K) (.string P) (.int .i64 Z) (.string X2) (.slice oa on oc) (.slice na nn nc) (.int .i64 U)
              have hlg := rgn.lt
              have pA := (p1.turnP hT7 (fun g hg => by have := (p1.lt g hg).1; simp; omega)).low (B' := C1.heap.size) (by omega)
              have pB := (p2.turnP hT7 (fun g hg => by have := (p2.lt g hg).1; simp; omega)).low (B' := C1.heap.size) (by omega)
              have bA := hT7.bel hbd (by simp)
              go_wp2_with fail
              go_meet
              case rel => exact ⟨_, oa, on, oc, na, nn, nc, rfl, rfl, rN, Nat.le_refl _, pA, pB, bA⟩

          case rest =>
          obtain ⟨gb, oa2, on2, oc2, na2, nn2, nc2, rfl, rfl, rB, hgb, pA2, pB2, bB⟩ := hcut
          clear HS2 HP2 hb0 hbA HD2
          rename World => C2
          have q7 := q6.below bB q6.lt
          have rA2 := rA.below bB lA
          have HD3 := Do_let (hjC.below bB) (hLC.below bB hLC.size) U (by omega) (by omega) hwg a1 c1 l ((hlC.below bB (Nat.le_refl _)).mono bB.size) hn1 hz1 R 0 e6 e7 hV.out
          clear e6 e7
          have HS3 : Hid (∀ W, Below C2.heap.size C2 W → W.cell? ⟨w.heap.size, 0, none⟩ = some (.slice va vn vc) ∧ W.cell? ⟨w.heap.size, 1, none⟩ = some (.slice ta tn tc) ∧ W.cell? ⟨w.heap.size, 2, none⟩ = some (.int .i64 F) ∧ W.cell? ⟨ga, 6, none⟩ = some (.int .i64 U)) := fun W hb => ⟨(q7.below hb q7.lt).cell 0, (q7.below hb q7.lt).cell 1, (q7.below hb q7.lt).cell 2, (rA2.below hb rA2.lt).cell 6⟩
          have HP3 : Hid (∀ (W : World) (gz : Nat) (b0 b1 b2 b3 b4 b5 b6 : Value), Below C2.heap.size C2 W → C2.heap.size ≤ gz → (((((((W.setCell ⟨gz, 0, none⟩ b0).setCell ⟨gz, 1, none⟩ b1).setCell ⟨gz, 2, none⟩ b2).setCell ⟨gz, 3, none⟩ b3).setCell ⟨gz, 4, none⟩ b4).setCell ⟨gz, 5, none⟩ b5).setCell ⟨gz, 6, none⟩ b6).cell? ⟨w.heap.size, 0, none⟩ = some (.slice va vn vc) ∧ (((((((W.setCell ⟨gz, 0, none⟩ b0).setCell ⟨gz, 1, none⟩ b1).setCell ⟨gz, 2, none⟩ b2).setCell ⟨gz, 3, none⟩ b3).setCell ⟨gz, 4, none⟩ b4).setCell ⟨gz, 5, none⟩ b5).setCell ⟨gz, 6, none⟩ b6).cell? ⟨w.heap.size, 1, none⟩ = some (.slice ta tn tc) ∧ (((((((W.setCell ⟨gz, 0, none⟩ b0).setCell ⟨gz, 1, none⟩ b1).setCell ⟨gz, 2, none⟩ b2).setCell ⟨gz, 3, none⟩ b3).setCell ⟨gz, 4, none⟩ b4).setCell ⟨gz, 5, none⟩ b5).setCell ⟨gz, 6, none⟩ b6).cell? ⟨w.heap.size, 2, none⟩ = some (.int .i64 F) ∧ (((((((W.setCell ⟨gz, 0, none⟩ b0).setCell ⟨gz, 1, none⟩ b1).setCell ⟨gz, 2, none⟩ b2).setCell ⟨gz, 3, none⟩ b3).setCell ⟨gz, 4, none⟩ b4).setCell ⟨gz, 5, none⟩ b5).setCell ⟨gz, 6, none⟩ b6).cell? ⟨ga, 6, none⟩ = some (.int .i64 U)) := fun W gz b0 b1 b2 b3 b4 b5 b6 hb hg => HS3.out _ ((Turn.put7 W gz b0 b1 b2 b3 b4 b5 b6).bel hb (by simpa using hg))

          go_upto_region 16 with fail
          have hb0 : Below C2.heap.size C2 C2.drew := (Below.refl _ C2).drew
          have hbA : Below C2.heap.size C2 (C2.alloc (.cells #[.int .i64 0, .string ⟨#[]⟩, .int .i64 0, .string ⟨#[]⟩, .slice none 0 0, .slice none 0 0, .int .i64 0] 35)).drew := ((Below.refl _ C2).alloc (Nat.le_refl _) _).drew
          go_cut [11, 12] from 88 (fun s7 s8 V2 => ∃ ga oa on oc na nn nc, s7 = .pointer (some ⟨ga, 0, none⟩) ∧ s8 = .int .i64 0 ∧ Rw V2 ga #[.int .i64 K, .string P, .int .i64 Z, .string X2, .slice oa on oc, .slice na nn nc, .int .i64 U] 35 ∧ C2.heap.size ≤ ga ∧ TxR.Own V2 C2.heap.size (.slice oa on oc) R.outs ∧ TxR.Own V2 C2.heap.size (.slice na nn nc) R.needs ∧ Below C2.heap.size C2 V2)
          case first =>
            go_region_held3 (fun X : World => X.cell? ⟨w.heap.size, 0, none⟩ = some (.slice va vn vc) ∧ X.cell? ⟨w.heap.size, 1, none⟩ = some (.slice ta tn tc) ∧ X.cell? ⟨w.heap.size, 2, none⟩ = some (.int .i64 F) ∧ X.cell? ⟨ga, 6, none⟩ = some (.int .i64 U)) (first | with_reducible exact HS3.out _ hb0 | with_reducible exact HS3.out _ hbf | with_reducible exact HS3.out _ hbd | with_reducible exact HS3.out _ (hbd.alloc hbd.size _) | with_reducible exact HS3.out _ (hb0.alloc hb0.size _) | with_reducible exact HS3.out _ (hbf.alloc hbf.size _) | with_reducible exact HP3.out _ _ _ _ _ _ _ _ _ (hbd.alloc hbd.size _) (by have := hbd.size; omega) | with_reducible exact HS3.out _ hbg | with_reducible exact HS3.out _ hbA | with_reducible exact HP3.out _ _ _ _ _ _ _ _ _ hbd (by have := hbf.size; omega) | with_reducible exact HP3.out _ _ _ _ _ _ _ _ _ hbd (Nat.le_refl _) | fail) (first
              | (go_at_call 28; first
                  | (refine (files_any a1 l.length c1 C2.drew).mono ?_; rintro e wf ⟨rfl, hwf⟩; have hbf : Below C2.heap.size C2 wf := (by rw [hwf]; exact hb0.alloc hb0.size _); have rf : Rw wf C2.heap.size #[.slice a1 l.length c1] 54 := (by rw [hwf]; exact Rw.new _ _ _); clear hwf)
                  | (refine (files_any a1 l.length c1 (C2.alloc (.cells #[.int .i64 0, .string ⟨#[]⟩, .int .i64 0, .string ⟨#[]⟩, .slice none 0 0, .slice none 0 0, .int .i64 0] 35)).drew).mono ?_; rintro e wg ⟨rfl, hwg2⟩; have hbg : Below C2.heap.size C2 wg := (by rw [hwg2]; exact hbA.alloc hbA.size _); have rg : Rw wg (C2.heap.size + 1) #[.slice a1 l.length c1] 54 := (by rw [hwg2]; have hr := Rw.new (C2.alloc (.cells #[.int .i64 0, .string ⟨#[]⟩, .int .i64 0, .string ⟨#[]⟩, .slice none 0 0, .slice none 0 0, .int .i64 0] 35)).drew #[.slice a1 l.length c1] 54; have hz : (C2.alloc (.cells #[.int .i64 0, .string ⟨#[]⟩, .int .i64 0, .string ⟨#[]⟩, .slice none 0 0, .slice none 0 0, .int .i64 0] 35)).drew.heap.size = C2.heap.size + 1 := size_alloc C2 _; rw [hz] at hr; exact hr); have rgn : Rw wg C2.heap.size ran0 35 := (by rw [hwg2]; exact Rw.alloc (show Rw (C2.alloc (.cells ran0 35)).drew C2.heap.size ran0 35 from Rw.new C2 _ _) _); clear hwg2))
              | (go_at_call 15; first
                  | (refine (HD3.out wf _ hbf rf).mono ?_; rintro e wd ⟨oa, on, oc, na, nn, nc, rfl, p1, p2, hbd0⟩; have hbd := hbf.trans (hbd0.mono hbf.size); clear hbd0)
                  | (refine (HD3.out (wf.alloc (.cells #[.int .i64 0, .string ⟨#[]⟩, .int .i64 0, .string ⟨#[]⟩, .slice none 0 0, .slice none 0 0, .int .i64 0] 35)) _ (hbf.alloc hbf.size _) (rf.alloc _)).mono ?_; rintro e wd ⟨oa, on, oc, na, nn, nc, rfl, p1, p2, hbd0⟩; have hbd := (hbf.alloc hbf.size _).trans (hbd0.mono (hbf.alloc hbf.size _).size); have rn := (Rw.new wf ran0 35).below hbd0 (Rw.new wf ran0 35).lt; have x0 : wd.cell? ⟨wf.heap.size, 0, none⟩ = some (.int .i64 0) := rn.cell 0; have y0 : wd.frozen? ⟨wf.heap.size, 0, none⟩ = false := rn.free 0; have x1 : wd.cell? ⟨wf.heap.size, 1, none⟩ = some (.string ⟨#[]⟩) := rn.cell 1; have y1 : wd.frozen? ⟨wf.heap.size, 1, none⟩ = false := rn.free 1; have x2 : wd.cell? ⟨wf.heap.size, 2, none⟩ = some (.int .i64 0) := rn.cell 2; have y2 : wd.frozen? ⟨wf.heap.size, 2, none⟩ = false := rn.free 2; have x3 : wd.cell? ⟨wf.heap.size, 3, none⟩ = some (.string ⟨#[]⟩) := rn.cell 3; have y3 : wd.frozen? ⟨wf.heap.size, 3, none⟩ = false := rn.free 3; have x4 : wd.cell? ⟨wf.heap.size, 4, none⟩ = some (.slice none 0 0) := rn.cell 4; have y4 : wd.frozen? ⟨wf.heap.size, 4, none⟩ = false := rn.free 4; have x5 : wd.cell? ⟨wf.heap.size, 5, none⟩ = some (.slice none 0 0) := rn.cell 5; have y5 : wd.frozen? ⟨wf.heap.size, 5, none⟩ = false := rn.free 5; have x6 : wd.cell? ⟨wf.heap.size, 6, none⟩ = some (.int .i64 0) := rn.cell 6; have y6 : wd.frozen? ⟨wf.heap.size, 6, none⟩ = false := rn.free 6; clear hbd0)
                  | (refine (HD3.out wg _ hbg rg).mono ?_; rintro e wd ⟨oa, on, oc, na, nn, nc, rfl, p1, p2, hbd0⟩; have hbd := hbg.trans (hbd0.mono hbg.size); have rn2 := rgn.below hbd0 rgn.lt; have x0 : wd.cell? ⟨C2.heap.size, 0, none⟩ = some (.int .i64 0) := rn2.cell 0; have y0 : wd.frozen? ⟨C2.heap.size, 0, none⟩ = false := rn2.free 0; have x1 : wd.cell? ⟨C2.heap.size, 1, none⟩ = some (.string ⟨#[]⟩) := rn2.cell 1; have y1 : wd.frozen? ⟨C2.heap.size, 1, none⟩ = false := rn2.free 1; have x2 : wd.cell? ⟨C2.heap.size, 2, none⟩ = some (.int .i64 0) := rn2.cell 2; have y2 : wd.frozen? ⟨C2.heap.size, 2, none⟩ = false := rn2.free 2; have x3 : wd.cell? ⟨C2.heap.size, 3, none⟩ = some (.string ⟨#[]⟩) := rn2.cell 3; have y3 : wd.frozen? ⟨C2.heap.size, 3, none⟩ = false := rn2.free 3; have x4 : wd.cell? ⟨C2.heap.size, 4, none⟩ = some (.slice none 0 0) := rn2.cell 4; have y4 : wd.frozen? ⟨C2.heap.size, 4, none⟩ = false := rn2.free 4; have x5 : wd.cell? ⟨C2.heap.size, 5, none⟩ = some (.slice none 0 0) := rn2.cell 5; have y5 : wd.frozen? ⟨C2.heap.size, 5, none⟩ = false := rn2.free 5; have x6 : wd.cell? ⟨C2.heap.size, 6, none⟩ = some (.int .i64 0) := rn2.cell 6; have y6 : wd.frozen? ⟨C2.heap.size, 6, none⟩ = false := rn2.free 6; clear hbd0))
              | fail)
            · have bA := hbd.alloc hbd.size (.cells #[.int .i64 K, .string P, .int .i64 Z, .string X2, .slice oa on oc, .slice na nn nc, .int .i64 U] 35)
              have rN := Rw.new wd #[.int .i64 K, .string P, .int .i64 Z, .string X2, .slice oa on oc, .slice na nn nc, .int .i64 U] 35
              have pA := (p1.alloc (.cells #[.int .i64 K, .string P, .int .i64 Z, .string X2, .slice oa on oc, .slice na nn nc, .int .i64 U] 35)).low hbf.size
              have pB := (p2.alloc (.cells #[.int .i64 K, .string P, .int .i64 Z, .string X2, .slice oa on oc, .slice na nn nc, .int .i64 U] 35)).low hbf.size
              go_wp2_with fail
              go_meet
              case rel => exact ⟨_, oa, on, oc, na, nn, nc, rfl, rfl, rN, hbd.size, pA, pB, bA⟩
            · have hT7 := Turn.put7 wd wf.heap.size (.int .i64 K) (.string P) (.int .i64 Z) (.string X2) (.slice oa on oc) (.slice na nn nc) (.int .i64 U)
              have rN := Rw.put7 (x0 := .int .i64 0) (x1 := .string ⟨#[]⟩) (x2 := .int .i64 0) (x3 := .string ⟨#[]⟩) (x4 := .slice none 0 0) (x5 := .slice none 0 0) (x6 := .int .i64 0) rn (.int .i64 K) (.string P) (.int .i64 Z) (.string X2) (.slice oa on oc) (.slice na nn nc) (.int .i64 U)
              have pA := (p1.turnP hT7 (fun g hg => by have := (p1.lt g hg).1; rw [size_alloc] at this; simp; omega)).low (B' := C2.heap.size) (by rw [size_alloc]; have := hbf.size; omega)
              have pB := (p2.turnP hT7 (fun g hg => by have := (p2.lt g hg).1; rw [size_alloc] at this; simp; omega)).low (B' := C2.heap.size) (by rw [size_alloc]; have := hbf.size; omega)
              have bA := hT7.bel hbd (by simp; exact hbf.size)
              have hga := hbf.size
              go_wp2_with fail
              go_meet
              case rel => exact ⟨_, oa, on, oc, na, nn, nc, rfl, rfl, rN, hga, pA, pB, bA⟩
            · have hT7 := Turn.put7 wd C2.heap.size (.int .i64 K) (.string P) (.int .i64 Z) (.string X2) (.slice oa on oc) (.slice na nn nc) (.int .i64 U)
              have rN := Rw.put7 (x0 := .int .i64 0) (x1 := .string ⟨#[]⟩) (x2 := .int .i64 0) (x3 := .string ⟨#[]⟩) (x4 := .slice none 0 0) (x5 := .slice none 0 0) (x6 := .int .i64 0) rn2 (.int .i64 K) (.string P) (.int .i64 Z) (.string X2) (.slice oa on oc) (.slice na nn nc) (.int .i64 U)
              have hlg := rgn.lt
              have pA := (p1.turnP hT7 (fun g hg => by have := (p1.lt g hg).1; simp; omega)).low (B' := C2.heap.size) (by omega)
              have pB := (p2.turnP hT7 (fun g hg => by have := (p2.lt g hg).1; simp; omega)).low (B' := C2.heap.size) (by omega)
              have bA := hT7.bel hbd (by simp)
              go_wp2_with fail
              go_meet
              case rel => exact ⟨_, oa, on, oc, na, nn, nc, rfl, rfl, rN, Nat.le_refl _, pA, pB, bA⟩

          case rest =>
          obtain ⟨gc, oa3, on3, oc3, na3, nn3, nc3, rfl, rfl, rC, hgc, pA3, pB3, bC⟩ := hcut
          clear HS3 HP3 hb0 hbA HD3
          rename World => C3
          have hzB := bB.size
          have hzC := bC.size
          have rA3 := rA2.below bC (by omega)
          have rB3 := rB.below bC rB.lt
          have lB := rB.lt
          have lC := rC.lt
          have HA : Hid (∀ W, Below C3.heap.size C3 W → Calls Tryz.prog 26 #[.agg #[.int .i64 K, .string P, .int .i64 Z, .string X2, .slice oa on oc, .slice na R.needs.length nc, .int .i64 U], .agg #[.int .i64 K, .string P, .int .i64 Z, .string X2, .slice oa2 on2 oc2, .slice na2 nn2 nc2, .int .i64 U]] W fun e w' => e = .returned (.bool true) ∧ Below W.heap.size W w') := fun W hb => by
            have hw := hb.size
            have := Same_any W _ _ R R (ran_v hV.out (((((pA.sl.below bB (Nat.le_refl _)).mono hzB).below bC (Nat.le_refl _)).mono hzC |>.below hb (Nat.le_refl _)).mono hw) (((((pB.sl.below bB (Nat.le_refl _)).mono hzB).below bC (Nat.le_refl _)).mono hzC |>.below hb (Nat.le_refl _)).mono hw))
              (ran_v hV.out (((pA2.sl.below bC (Nat.le_refl _)).mono hzC |>.below hb (Nat.le_refl _)).mono hw) (((pB2.sl.below bC (Nat.le_refl _)).mono hzC |>.below hb (Nat.le_refl _)).mono hw)) (by omega) (by omega)
            rw [decide_eq_true rfl] at this
            exact this
          have HB : Hid (∀ W, Below C3.heap.size C3 W → Calls Tryz.prog 26 #[.agg #[.int .i64 K, .string P, .int .i64 Z, .string X2, .slice oa on oc, .slice na R.needs.length nc, .int .i64 U], .agg #[.int .i64 K, .string P, .int .i64 Z, .string X2, .slice oa3 on3 oc3, .slice na3 nn3 nc3, .int .i64 U]] W fun e w' => e = .returned (.bool true) ∧ Below W.heap.size W w') := fun W hb => by
            have hw := hb.size
            have := Same_any W _ _ R R (ran_v hV.out (((((pA.sl.below bB (Nat.le_refl _)).mono hzB).below bC (Nat.le_refl _)).mono hzC |>.below hb (Nat.le_refl _)).mono hw) (((((pB.sl.below bB (Nat.le_refl _)).mono hzB).below bC (Nat.le_refl _)).mono hzC |>.below hb (Nat.le_refl _)).mono hw))
              (ran_v hV.out ((pA3.sl.below hb (Nat.le_refl _)).mono hw) ((pB3.sl.below hb (Nat.le_refl _)).mono hw)) (by omega) (by omega)
            rw [decide_eq_true rfl] at this
            exact this
          clear pA2 pB2 pA3 pB3
          have ya0 := rA3.cell 0
          have ya1 := rA3.cell 1
          have ya2 := rA3.cell 2
          have ya3 := rA3.cell 3
          have ya4 := rA3.cell 4
          have ya5 := rA3.cell 5
          have ya6 := rA3.cell 6
          have yb0 := rB3.cell 0
          have yb1 := rB3.cell 1
          have yb2 := rB3.cell 2
          have yb3 := rB3.cell 3
          have yb4 := rB3.cell 4
          have yb5 := rB3.cell 5
          have yb6 := rB3.cell 6
          go_wp2_with (first
            | (go_at_call 26; first
                | (refine (HB.out w6 hb6).mono ?_; rintro e w7 ⟨rfl, hb7⟩)
                | (refine (HA.out C3 (Below.refl _ _)).mono ?_; rintro e w6 ⟨rfl, hb6⟩; have rA6 := rA3.below hb6 rA3.lt; have rC6 := rC.below hb6 rC.lt; have za0 := rA6.cell 0; have zc0 := rC6.cell 0; have za1 := rA6.cell 1; have zc1 := rC6.cell 1; have za2 := rA6.cell 2; have zc2 := rC6.cell 2; have za3 := rA6.cell 3; have zc3 := rC6.cell 3; have za4 := rA6.cell 4; have zc4 := rC6.cell 4; have za5 := rA6.cell 5; have zc5 := rC6.cell 5; have za6 := rA6.cell 6; have zc6 := rC6.cell 6))
            | fail)
          go_meet
          case rel => exact (bB.trans (bC.mono hzB)).trans ((hb6.mono (by omega)).trans (hb7.mono (by have := hb6.size; omega)))
      case rest =>
      rename World => D
      have hzD := hcut.size
      have rAD := rA.below hcut lA
      have qD := q6.below hcut l6
      have kU := rAD.cell 6
      have hbD := hbC.trans (hcut.mono hbC.size)
      by_cases hU00 : U = 0
      · subst hU00
        go_wp2
        go_ret
        exact ⟨rfl, hbD⟩
      have hU1 : 0 < U := by omega
      obtain ⟨T, hT⟩ : ∃ T, N.tmod U = T := ⟨_, rfl⟩
      have m1 : T < U := by rw [← hT]; exact Int.tmod_lt_of_pos N hU1
      have m2 : 0 ≤ T := by rw [← hT]; exact Int.tmod_nonneg U n1
      obtain ⟨G, hGT⟩ : ∃ G, U - 1 - T = G := ⟨_, rfl⟩
      have g3 : 0 ≤ G := by omega
      have g4 : G < U := by omega
      go_upto_region 21 with fail
      go_quiet (fail)
      have hCD : Below C1.heap.size C1 (D.drewN nq) := below_drewI hcut _
      have hzD' : C1.heap.size ≤ (D.drewN nq).heap.size := hzD
      have rAD' : Rw (D.drewN nq) _ _ _ := rAD
      have qD' : Rw (D.drewN nq) _ _ _ := qD
      have hbD' : Below w.heap.size w (D.drewN nq) := below_drewI hbD _
      clear kU hcut hzD rAD qD hbD
      generalize D.drewN nq = D2 at *
      have hcut := hCD
      have hzD := hzD'
      have rAD := rAD'
      have qD := qD'
      have hbD := hbD'
      clear hzD' rAD' qD' hbD'
      obtain ⟨x0, x1, x2, x3, x4⟩ := fuel_less (F := F) (G := G) (Ip.find l) hmy hwg g3 (by rw [hRE.out.1, hV.out.2.2.2.2]; exact g4)
      rw [hRE.out.1] at x4
      obtain ⟨R4, hR4⟩ : ∃ R4, wholeR (Ip.whole f ts G (Ip.find l)) = R4 := ⟨_, rfl⟩
      rw [hR4] at x1 x2 x3 x4
      have hV4 : Hid ((R4.ev.kind : Int) = 3 ∧ str R4.ev.path = ⟨#[]⟩ ∧ str R4.ev.text = ⟨#[]⟩ ∧ (R4.ev.why : Int) = 143 ∧ (R4.used : Int) = G) := by show _ ∧ _; rw [x1]; exact ⟨rfl, rfl, rfl, rfl, x2⟩
      have HD4 := Do_let (hjC.below hCD) (hLC.below hCD hLC.size) G (by omega) (by omega) hwg a1 c1 l ((hlC.below hCD (Nat.le_refl _)).mono hzD) hn1 hz1 R4 0 hR4 x0 hV4.out
      have HS4 : Hid (∀ W, Below D2.heap.size D2 W → W.cell? ⟨w.heap.size, 0, none⟩ = some (.slice va vn vc) ∧ W.cell? ⟨w.heap.size, 1, none⟩ = some (.slice ta tn tc) ∧ W.cell? ⟨w.heap.size, 2, none⟩ = some (.int .i64 F)) := fun W hb => ⟨(qD.below hb qD.lt).cell 0, (qD.below hb qD.lt).cell 1, (qD.below hb qD.lt).cell 2⟩
      have HP4 : Hid (∀ (W : World) (gz : Nat) (b0 b1 b2 b3 b4 b5 b6 : Value), Below D2.heap.size D2 W → D2.heap.size ≤ gz → (((((((W.setCell ⟨gz, 0, none⟩ b0).setCell ⟨gz, 1, none⟩ b1).setCell ⟨gz, 2, none⟩ b2).setCell ⟨gz, 3, none⟩ b3).setCell ⟨gz, 4, none⟩ b4).setCell ⟨gz, 5, none⟩ b5).setCell ⟨gz, 6, none⟩ b6).cell? ⟨w.heap.size, 0, none⟩ = some (.slice va vn vc) ∧ (((((((W.setCell ⟨gz, 0, none⟩ b0).setCell ⟨gz, 1, none⟩ b1).setCell ⟨gz, 2, none⟩ b2).setCell ⟨gz, 3, none⟩ b3).setCell ⟨gz, 4, none⟩ b4).setCell ⟨gz, 5, none⟩ b5).setCell ⟨gz, 6, none⟩ b6).cell? ⟨w.heap.size, 1, none⟩ = some (.slice ta tn tc) ∧ (((((((W.setCell ⟨gz, 0, none⟩ b0).setCell ⟨gz, 1, none⟩ b1).setCell ⟨gz, 2, none⟩ b2).setCell ⟨gz, 3, none⟩ b3).setCell ⟨gz, 4, none⟩ b4).setCell ⟨gz, 5, none⟩ b5).setCell ⟨gz, 6, none⟩ b6).cell? ⟨w.heap.size, 2, none⟩ = some (.int .i64 F)) := fun W gz b0 b1 b2 b3 b4 b5 b6 hb hg => HS4.out _ ((Turn.put7 W gz b0 b1 b2 b3 b4 b5 b6).bel hb (by simpa using hg))

      clear hR4 x0 x1 x2
      go_upto_region 22 with fail
      have hub : (U == 0) = false := by simp [hU00]
      clear hU00 hU1 m1 m2
      generalize (U == 0) = ub at *
      subst hub
      have hb0 : Below D2.heap.size D2 D2.drew := (Below.refl _ D2).drew
      have hbA : Below D2.heap.size D2 (D2.alloc (.cells #[.int .i64 0, .string ⟨#[]⟩, .int .i64 0, .string ⟨#[]⟩, .slice none 0 0, .slice none 0 0, .int .i64 0] 35)).drew := ((Below.refl _ D2).alloc (Nat.le_refl _) _).drew
      go_cut [14, 15] from 129 (fun s7 s8 V2 => ∃ ga oa on oc na nn nc, s7 = .pointer (some ⟨ga, 0, none⟩) ∧ s8 = .int .i64 0 ∧ Rw V2 ga #[.int .i64 3, .string ⟨#[]⟩, .int .i64 143, .string ⟨#[]⟩, .slice oa on oc, .slice na nn nc, .int .i64 G] 35 ∧ D2.heap.size ≤ ga ∧ TxR.Own V2 D2.heap.size (.slice oa on oc) R4.outs ∧ TxR.Own V2 D2.heap.size (.slice na nn nc) R4.needs ∧ Below D2.heap.size D2 V2)
      case first =>
        go_region_held3 (fun X : World => X.cell? ⟨w.heap.size, 0, none⟩ = some (.slice va vn vc) ∧ X.cell? ⟨w.heap.size, 1, none⟩ = some (.slice ta tn tc) ∧ X.cell? ⟨w.heap.size, 2, none⟩ = some (.int .i64 F)) (first | with_reducible exact HS4.out _ hb0 | with_reducible exact HS4.out _ hbf | with_reducible exact HS4.out _ hbd | with_reducible exact HS4.out _ (hbd.alloc hbd.size _) | with_reducible exact HS4.out _ (hb0.alloc hb0.size _) | with_reducible exact HS4.out _ (hbf.alloc hbf.size _) | with_reducible exact HP4.out _ _ _ _ _ _ _ _ _ (hbd.alloc hbd.size _) (by have := hbd.size; omega) | with_reducible exact HS4.out _ hbg | with_reducible exact HS4.out _ hbA | with_reducible exact HP4.out _ _ _ _ _ _ _ _ _ hbd (by have := hbf.size; omega) | with_reducible exact HP4.out _ _ _ _ _ _ _ _ _ hbd (Nat.le_refl _) | fail) (first
          | (go_at_call 28; first
              | (refine (files_any a1 l.length c1 D2.drew).mono ?_; rintro e wf ⟨rfl, hwf⟩; have hbf : Below D2.heap.size D2 wf := (by rw [hwf]; exact hb0.alloc hb0.size _); have rf : Rw wf D2.heap.size #[.slice a1 l.length c1] 54 := (by rw [hwf]; exact Rw.new _ _ _); clear hwf)
              | (refine (files_any a1 l.length c1 (D2.alloc (.cells #[.int .i64 0, .string ⟨#[]⟩, .int .i64 0, .string ⟨#[]⟩, .slice none 0 0, .slice none 0 0, .int .i64 0] 35)).drew).mono ?_; rintro e wg ⟨rfl, hwg2⟩; have hbg : Below D2.heap.size D2 wg := (by rw [hwg2]; exact hbA.alloc hbA.size _); have rg : Rw wg (D2.heap.size + 1) #[.slice a1 l.length c1] 54 := (by rw [hwg2]; have hr := Rw.new (D2.alloc (.cells #[.int .i64 0, .string ⟨#[]⟩, .int .i64 0, .string ⟨#[]⟩, .slice none 0 0, .slice none 0 0, .int .i64 0] 35)).drew #[.slice a1 l.length c1] 54; have hz : (D2.alloc (.cells #[.int .i64 0, .string ⟨#[]⟩, .int .i64 0, .string ⟨#[]⟩, .slice none 0 0, .slice none 0 0, .int .i64 0] 35)).drew.heap.size = D2.heap.size + 1 := size_alloc D2 _; rw [hz] at hr; exact hr); have rgn : Rw wg D2.heap.size ran0 35 := (by rw [hwg2]; exact Rw.alloc (show Rw (D2.alloc (.cells ran0 35)).drew D2.heap.size ran0 35 from Rw.new D2 _ _) _); clear hwg2))
          | (go_at_call 15; first
              | (refine (HD4.out wf _ hbf rf).mono ?_; rintro e wd ⟨oa, on, oc, na, nn, nc, rfl, p1, p2, hbd0⟩; have hbd := hbf.trans (hbd0.mono hbf.size); clear hbd0)
              | (refine (HD4.out (wf.alloc (.cells #[.int .i64 0, .string ⟨#[]⟩, .int .i64 0, .string ⟨#[]⟩, .slice none 0 0, .slice none 0 0, .int .i64 0] 35)) _ (hbf.alloc hbf.size _) (rf.alloc _)).mono ?_; rintro e wd ⟨oa, on, oc, na, nn, nc, rfl, p1, p2, hbd0⟩; have hbd := (hbf.alloc hbf.size _).trans (hbd0.mono (hbf.alloc hbf.size _).size); have rn := (Rw.new wf ran0 35).below hbd0 (Rw.new wf ran0 35).lt; have x0 : wd.cell? ⟨wf.heap.size, 0, none⟩ = some (.int .i64 0) := rn.cell 0; have y0 : wd.frozen? ⟨wf.heap.size, 0, none⟩ = false := rn.free 0; have x1 : wd.cell? ⟨wf.heap.size, 1, none⟩ = some (.string ⟨#[]⟩) := rn.cell 1; have y1 : wd.frozen? ⟨wf.heap.size, 1, none⟩ = false := rn.free 1; have x2 : wd.cell? ⟨wf.heap.size, 2, none⟩ = some (.int .i64 0) := rn.cell 2; have y2 : wd.frozen? ⟨wf.heap.size, 2, none⟩ = false := rn.free 2; have x3 : wd.cell? ⟨wf.heap.size, 3, none⟩ = some (.string ⟨#[]⟩) := rn.cell 3; have y3 : wd.frozen? ⟨wf.heap.size, 3, none⟩ = false := rn.free 3; have x4 : wd.cell? ⟨wf.heap.size, 4, none⟩ = some (.slice none 0 0) := rn.cell 4; have y4 : wd.frozen? ⟨wf.heap.size, 4, none⟩ = false := rn.free 4; have x5 : wd.cell? ⟨wf.heap.size, 5, none⟩ = some (.slice none 0 0) := rn.cell 5; have y5 : wd.frozen? ⟨wf.heap.size, 5, none⟩ = false := rn.free 5; have x6 : wd.cell? ⟨wf.heap.size, 6, none⟩ = some (.int .i64 0) := rn.cell 6; have y6 : wd.frozen? ⟨wf.heap.size, 6, none⟩ = false := rn.free 6; clear hbd0)
              | (refine (HD4.out wg _ hbg rg).mono ?_; rintro e wd ⟨oa, on, oc, na, nn, nc, rfl, p1, p2, hbd0⟩; have hbd := hbg.trans (hbd0.mono hbg.size); have rn2 := rgn.below hbd0 rgn.lt; have x0 : wd.cell? ⟨D2.heap.size, 0, none⟩ = some (.int .i64 0) := rn2.cell 0; have y0 : wd.frozen? ⟨D2.heap.size, 0, none⟩ = false := rn2.free 0; have x1 : wd.cell? ⟨D2.heap.size, 1, none⟩ = some (.string ⟨#[]⟩) := rn2.cell 1; have y1 : wd.frozen? ⟨D2.heap.size, 1, none⟩ = false := rn2.free 1; have x2 : wd.cell? ⟨D2.heap.size, 2, none⟩ = some (.int .i64 0) := rn2.cell 2; have y2 : wd.frozen? ⟨D2.heap.size, 2, none⟩ = false := rn2.free 2; have x3 : wd.cell? ⟨D2.heap.size, 3, none⟩ = some (.string ⟨#[]⟩) := rn2.cell 3; have y3 : wd.frozen? ⟨D2.heap.size, 3, none⟩ = false := rn2.free 3; have x4 : wd.cell? ⟨D2.heap.size, 4, none⟩ = some (.slice none 0 0) := rn2.cell 4; have y4 : wd.frozen? ⟨D2.heap.size, 4, none⟩ = false := rn2.free 4; have x5 : wd.cell? ⟨D2.heap.size, 5, none⟩ = some (.slice none 0 0) := rn2.cell 5; have y5 : wd.frozen? ⟨D2.heap.size, 5, none⟩ = false := rn2.free 5; have x6 : wd.cell? ⟨D2.heap.size, 6, none⟩ = some (.int .i64 0) := rn2.cell 6; have y6 : wd.frozen? ⟨D2.heap.size, 6, none⟩ = false := rn2.free 6; clear hbd0))
          | fail)
        · have bA := hbd.alloc hbd.size (.cells #[.int .i64 3, .string ⟨#[]⟩, .int .i64 143, .string ⟨#[]⟩, .slice oa on oc, .slice na nn nc, .int .i64 G] 35)
          have rN := Rw.new wd #[.int .i64 3, .string ⟨#[]⟩, .int .i64 143, .string ⟨#[]⟩, .slice oa on oc, .slice na nn nc, .int .i64 G] 35
          have pA := (p1.alloc (.cells #[.int .i64 3, .string ⟨#[]⟩, .int .i64 143, .string ⟨#[]⟩, .slice oa on oc, .slice na nn nc, .int .i64 G] 35)).low hbf.size
          have pB := (p2.alloc (.cells #[.int .i64 3, .string ⟨#[]⟩, .int .i64 143, .string ⟨#[]⟩, .slice oa on oc, .slice na nn nc, .int .i64 G] 35)).low hbf.size
          go_wp2_with fail
          go_meet
          case rel => exact ⟨_, oa, on, oc, na, nn, nc, rfl, rfl, rN, hbd.size, pA, pB, bA⟩
        · have hT7 := Turn.put7 wd wf.heap.size (.int .i64 3) (.string ⟨#[]⟩) (.int .i64 143) (.string ⟨#[]⟩) (.slice oa on oc) (.slice na nn nc) (.int .i64 G)
          have rN := Rw.put7 (x0 := .int .i64 0) (x1 := .string ⟨#[]⟩) (x2 := .int .i64 0) (x3 := .string ⟨#[]⟩) (x4 := .slice none 0 0) (x5 := .slice none 0 0) (x6 := .int .i64 0) rn (.int .i64 3) (.string ⟨#[]⟩) (.int .i64 143) (.string ⟨#[]⟩) (.slice oa on oc) (.slice na nn nc) (.int .i64 G)
          have pA := (p1.turnP hT7 (fun g hg => by have := (p1.lt g hg).1; rw [size_alloc] at this; simp; omega)).low (B' := D2.heap.size) (by rw [size_alloc]; have := hbf.size; omega)
          have pB := (p2.turnP hT7 (fun g hg => by have := (p2.lt g hg).1; rw [size_alloc] at this; simp; omega)).low (B' := D2.heap.size) (by rw [size_alloc]; have := hbf.size; omega)
          have bA := hT7.bel hbd (by simp; exact hbf.size)
          have hga := hbf.size
          go_wp2_with fail
          go_meet
          case rel => exact ⟨_, oa, on, oc, na, nn, nc, rfl, rfl, rN, hga, pA, pB, bA⟩
        · have hT7 := Turn.put7 wd D2.heap.size (.int .i64 3) (.string ⟨#[]⟩) (.int .i64 143) (.string ⟨#[]⟩) (.slice oa on oc) (.slice na nn nc) (.int .i64 G)
          have rN := Rw.put7 (x0 := .int .i64 0) (x1 := .string ⟨#[]⟩) (x2 := .int .i64 0) (x3 := .string ⟨#[]⟩) (x4 := .slice none 0 0) (x5 := .slice none 0 0) (x6 := .int .i64 0) rn2 (.int .i64 3) (.string ⟨#[]⟩) (.int .i64 143) (.string ⟨#[]⟩) (.slice oa on oc) (.slice na nn nc) (.int .i64 G)
          have hlg := rgn.lt
          have pA := (p1.turnP hT7 (fun g hg => by have := (p1.lt g hg).1; simp; omega)).low (B' := D2.heap.size) (by omega)
          have pB := (p2.turnP hT7 (fun g hg => by have := (p2.lt g hg).1; simp; omega)).low (B' := D2.heap.size) (by omega)
          have bA := hT7.bel hbd (by simp)
          go_wp2_with fail
          go_meet
          case rel => exact ⟨_, oa, on, oc, na, nn, nc, rfl, rfl, rN, Nat.le_refl _, pA, pB, bA⟩

      case rest =>
      obtain ⟨gd, oa4, on4, oc4, na4, nn4, nc4, rfl, rfl, rE, hgd, pA4, pB4, bE⟩ := hcut
      clear HS4 HP4 hb0 hbA HD4
      rename World => E5
      rw [x3] at pA4
      obtain ⟨oa4', oc4', e4', -⟩ := pA4.sl.shape
      simp only [Value.slice.injEq, List.length_nil] at e4'
      obtain ⟨rfl, rfl, rfl⟩ := e4'
      obtain ⟨na4', nc4', e5', -⟩ := pB4.sl.shape
      simp only [Value.slice.injEq] at e5'
      obtain ⟨rfl, rfl, rfl⟩ := e5'
      have hle := x4.length_le
      have hpre := List.prefix_iff_eq_take.1 x4
      have pT0 := (pB.headN R4.needs.length hle).sl
      rw [← hpre] at pT0
      clear hpre x4
      have hzE := bE.size
      have pT := ((((pT0.below hCD (Nat.le_refl _)).mono hzD).below bE (Nat.le_refl _)).mono hzE)
      have pE4 := pB4.sl
      have rAE := rAD.below bE rAD.lt
      have hbE := hbD.trans (bE.mono hbD.size)
      have s0 := rAE.cell 5
      have s1 := rE.cell 0
      have s2 := rE.cell 1
      have s3 := rE.cell 2
      have s4 := rE.cell 3
      have s5 := rE.cell 4
      have s6 := rE.cell 5
      have s7 := rE.cell 6
      have hev : ∀ W, (Go.binOp .eql 33 (.agg #[.int .i64 3, .string ⟨#[]⟩, .int .i64 143, .string ⟨#[]⟩]) (.agg #[.int .i64 3, .string ⟨#[]⟩, .int .i64 143, .string ⟨#[]⟩])).run Tryz.prog W = .ok (.bool true) W := fun W => (eql_ev W ⟨3, [], 143, []⟩ ⟨3, [], 143, []⟩).trans (by rw [decide_eq_true rfl])
      have hgd2 := fun W x y => guard_ev W .eql x y #[.int .i64 3, .string ⟨#[]⟩, .int .i64 143, .string ⟨#[]⟩] #[.int .i64 3, .string ⟨#[]⟩, .int .i64 143, .string ⟨#[]⟩]
      have i5 : (R4.needs.length : Int) ≤ (R.needs.length : Int) := by omega
      have i6 : (R4.needs.length : Int) ≤ 8 := by omega
      have hsl : ∀ W : World, (Instr.slice 23 (.slice na R.needs.length nc) none (some (.int .i64 (R4.needs.length : Int))) none).run Tryz.prog W = .ok (.slice na R4.needs.length nc) W := fun W => TxR.slice_head W na R.needs.length nc R4.needs.length (by omega)
      go_upto_region 23 with fail
      have hTq : ∀ q, Calls Tryz.prog 31 #[.slice na4 R4.needs.length nc4, .slice na R4.needs.length nc] (E5.drewN q) fun e w' => e = .returned (.bool true) ∧ ∃ m, w' = (E5.drewN q).drewN m := fun q => by
        have := Texts_quiet (E5.drewN q) E5.heap.size _ _ R4.needs R4.needs (pE4.below (below_drewI (Below.refl _ E5) q) (Nat.le_refl _)) (pT.below (below_drewI (Below.refl _ E5) q) (Nat.le_refl _)) (by omega)
        rw [decide_eq_true rfl] at this
        exact this
      go_quiet (first | (go_at_call 31; exact Calls.quiet_of (hTq _)) | fail)
      go_wp2
      go_ret
      exact ⟨rfl, below_drewI hbE _⟩
    · obtain ⟨e0, e1⟩ := whole_no (Ip.find l) (by simpa using hmy)
      rw [hRE.out.2] at e0
      subst e0
      go_wp2
      go_ret
      exact ⟨rfl, hbC⟩
end Go.Proofs.YtnobmgkdieaclaaGreatDoor
