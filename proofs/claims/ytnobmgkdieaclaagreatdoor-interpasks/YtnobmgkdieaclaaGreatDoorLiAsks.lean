/-
  InterpAsks' walk.
-/
import Derived.Test.YtnobmgkdieaclaaGreatDoorIpAskJ
namespace Go.Proofs.YtnobmgkdieaclaaGreatDoor
open Go.RowKit

theorem shortF_fit {fu : Int} (h1 : -9223372036854775808 ≤ fu) (h2 : fu ≤ 9223372036854775807) : -9223372036854775808 ≤ shortF fu ∧ shortF fu ≤ 9223372036854775807 := by
  unfold shortF
  split
  · rename_i h
    have k1 := Int.tmod_lt_of_pos fu (b := 20000) (by omega)
    have k2 := Int.tmod_nonneg 20000 (show 0 ≤ fu by omega)
    omega
  · exact ⟨h1, h2⟩
theorem ranL {R : Rn} {K : Int} {P : ByteArray} {X2 : ByteArray} {Z U : Int} (h : (R.ev.kind : Int) = K ∧ str R.ev.path = P ∧ str R.ev.text = X2 ∧ (R.ev.why : Int) = Z ∧ (R.used : Int) = U) (ov nv : Value) : ranV R.ev ov nv R.used = .agg #[.int .i64 K, .string P, .int .i64 Z, .string X2, ov, nv, .int .i64 U] := by
  obtain ⟨rfl, rfl, rfl, rfl, rfl⟩ := h
  rfl
set_option maxRecDepth 100000 in
set_option maxHeartbeats 4000000 in
theorem asks_walk (va : Option Addr) (vn vc : Nat) (ta : Option Addr) (tn tc : Nat) (fu : Int) (f : Ac.Fo) (ts : List (List UInt8)) (v1 : Value) (l : List (Ip.B × Ip.B)) (v2 : Value) (m : List (Ip.B × Ip.B)) (w : World) (hL : Laid w) (hj : JobS w w.heap.size va vn vc ta tn tc f ts) (h1 : -9223372036854775808 ≤ fu) (h2 : fu ≤ 9223372036854775807)
    (hl1 : FiR.Sl w w.heap.size v1 l) (hn1 : l.length ≤ 140737488351232) (hz1 : ∀ a ∈ l, a.2.length ≤ 140737488351232) (hl2 : FiR.Sl w w.heap.size v2 m) (hn2 : m.length ≤ 140737488351232) (hz2 : ∀ a ∈ m, a.2.length ≤ 140737488351232) :
    Calls Tryz.prog 8 #[jobV va vn vc ta tn tc fu, v1, v2] w fun e w' => e = .returned (.bool true) ∧ Below w.heap.size w w' := by
  obtain ⟨a1, c1, rfl, -⟩ := hl1.shape
  obtain ⟨a2, c2, rfl, -⟩ := hl2.shape
  obtain ⟨r0, r1, r2, hbY, hzY⟩ := Rw.three w #[.slice va vn vc, .slice ta tn tc, .int .i64 fu] #[.slice a1 l.length c1] #[.slice a2 m.length c2] 25 54 54
  have lb : (l.length : Int) ≤ 140737488351232 := by omega
  have mb : (m.length : Int) ≤ 140737488351232 := by omega
  have hsf := shortF_fit h1 h2
  unfold jobV
  go_enter Tryz.func8, Tryz.ntmps8
  go_upto_region 1 with fail
  generalize ((w.alloc (.cells #[.slice va vn vc, .slice ta tn tc, .int .i64 fu] 25)).alloc (.cells #[.slice a1 l.length c1] 54)).alloc (.cells #[.slice a2 m.length c2] 54) = Y at *
  have hW := works_any Y (hL.below hbY hL.size)
  have hSh := short_any va vn vc ta tn tc fu
  unfold jobV at hSh
  generalize shortF fu = F at *
  go_upto_region 4 with (first
    | (go_at_call 12; refine hW.mono ?_; rintro e w1 ⟨rfl, hb1⟩; have q0 := r0.below hb1 r0.lt; have k0 := q0.cell 0; have k1 := q0.cell 1; have k2 := q0.cell 2)
    | (go_at_call 22; refine (hSh _).mono ?_; rintro e w2 ⟨rfl, hb2⟩; have q3 := q0.below hb2 q0.lt; have m0 := q3.cell 0; have m1 := q3.cell 1; have m2 := q3.cell 2; have f0 := q3.free 0; have f1 := q3.free 1; have f2 := q3.free 2)
    | fail)
  have q4 := q3.put3 (.slice va vn vc) (.slice ta tn tc) (.int .i64 F)
  have hT4 := Turn.put3 w2 w.heap.size (.slice va vn vc) (.slice ta tn tc) (.int .i64 F)
  have hb2w : Below w.heap.size w w2 := (hbY.trans (hb1.mono (by omega))).trans (hb2.mono (by have := hb1.size; omega))
  have r1' := ((r1.below hb1 r1.lt).below hb2 (by have := hb1.size; have := r1.lt; omega)).turn hT4 (by simp)
  have r2' := ((r2.below hb1 r2.lt).below hb2 (by have := hb1.size; have := r2.lt; omega)).turn hT4 (by simp; omega)
  have hbV := hT4.bel hb2w (by simp)
  clear m0 m1 m2 k0 k1 k2 f0 f1 f2 q0 q3 hT4 hb2w hb1 hb2 hW hSh r0 r1 r2
  generalize ((w2.setCell ⟨w.heap.size, 0, none⟩ (.slice va vn vc)).setCell ⟨w.heap.size, 1, none⟩ (.slice ta tn tc)).setCell ⟨w.heap.size, 2, none⟩ (.int .i64 F) = V at *
  have hjV := hj.below hbV
  have hG := great_any F hjV
  unfold jobV at hG
  have k0 := q4.cell 0
  have k1 := q4.cell 1
  have k2 := q4.cell 2
  by_cases hl200 : 200 < l.length
  · have i1 : (200 : Int) < (l.length : Int) := by omega
    go_wp2_with (first
      | (go_at_call 13; refine hG.mono ?_; rintro e w3 ⟨he, hb3⟩; rcases he with rfl | ⟨rfl, hwg⟩ <;> (have s1 := (r1'.below hb3 r1'.lt).cell 0; have s2 := (r2'.below hb3 r2'.lt).cell 0))
      | fail)
    all_goals (go_ret; exact ⟨rfl, hbV.trans (hb3.mono hbV.size)⟩)
  by_cases hm200 : 200 < m.length
  · have i1 : ¬ (200 : Int) < (l.length : Int) := by omega
    have i2 : (200 : Int) < (m.length : Int) := by omega
    go_wp2_with (first
      | (go_at_call 13; refine hG.mono ?_; rintro e w3 ⟨he, hb3⟩; rcases he with rfl | ⟨rfl, hwg⟩ <;> (have s1 := (r1'.below hb3 r1'.lt).cell 0; have s2 := (r2'.below hb3 r2'.lt).cell 0))
      | fail)
    all_goals (go_ret; exact ⟨rfl, hbV.trans (hb3.mono hbV.size)⟩)
  have i1 : ¬ (200 : Int) < (l.length : Int) := by omega
  have i2 : ¬ (200 : Int) < (m.length : Int) := by omega
  go_upto_region 6 with (first
    | (go_at_call 13; refine hG.mono ?_; rintro e w3 ⟨he, hb3⟩; rcases he with rfl | ⟨rfl, hwg⟩ <;> (have s1 := (r1'.below hb3 r1'.lt).cell 0; have s2 := (r2'.below hb3 r2'.lt).cell 0))
    | fail)
  · go_ret
    exact ⟨rfl, hbV.trans (hb3.mono hbV.size)⟩
  have hbW := hbV.trans (hb3.mono hbV.size)
  have q5 := q4.below hb3 q4.lt
  have q6 := r1'.below hb3 r1'.lt
  have q7 := r2'.below hb3 r2'.lt
  have hjW := hj.below hbW
  have hLW := hL.below hbW hL.size
  have hzW := hbW.size
  have HD1 : Hid (∀ W bx, Below w3.heap.size w3 W → Rw W bx #[.slice a1 l.length c1] 54 → Calls Tryz.prog 15 #[.slice va vn vc, .slice ta tn tc, .int .i64 F, .func (.func 57) #[] #[.pointer (some ⟨bx, 0, none⟩)]] W fun e w' => ∃ oa on oc na nn nc, e = .returned (.tuple #[ranV (wholeR (Ip.whole f ts F (Ip.find l))).ev (.slice oa on oc) (.slice na nn nc) (wholeR (Ip.whole f ts F (Ip.find l))).used, .int .i64 (wholeE (Ip.whole f ts F (Ip.find l)))]) ∧ TxR.Own w' W.heap.size (.slice oa on oc) (wholeR (Ip.whole f ts F (Ip.find l))).outs ∧ TxR.Own w' W.heap.size (.slice na nn nc) (wholeR (Ip.whole f ts F (Ip.find l))).needs ∧ Below W.heap.size W w') := fun W bx hb hr => Do_files (hjW.below hb) (hLW.below hb hLW.size) F hsf.1 hsf.2 hwg bx _ l hr ((hl1.below (hbW.trans (hb.mono hbW.size)) (Nat.le_refl _)).mono (by have := hb.size; omega)) hn1 hz1
  unfold ranV at HD1
  obtain ⟨R, hR⟩ : ∃ R, wholeR (Ip.whole f ts F (Ip.find l)) = R := ⟨_, rfl⟩
  obtain ⟨E, hE⟩ : ∃ E, wholeE (Ip.whole f ts F (Ip.find l)) = E := ⟨_, rfl⟩
  rw [hR, hE] at HD1
  have HRE : Hid (wholeR (Ip.whole f ts F (Ip.find l)) = R ∧ wholeE (Ip.whole f ts F (Ip.find l)) = E) := ⟨hR, hE⟩
  obtain ⟨K, hK⟩ : ∃ K : Int, (R.ev.kind : Int) = K := ⟨_, rfl⟩
  obtain ⟨P, hP⟩ : ∃ P, str R.ev.path = P := ⟨_, rfl⟩
  obtain ⟨X2, hX⟩ : ∃ X, str R.ev.text = X := ⟨_, rfl⟩
  obtain ⟨Z, hZ⟩ : ∃ Z : Int, (R.ev.why : Int) = Z := ⟨_, rfl⟩
  obtain ⟨U, hU⟩ : ∃ U : Int, (R.used : Int) = U := ⟨_, rfl⟩
  rw [hK, hP, hX, hZ, hU] at HD1
  have HV : Hid ((R.ev.kind : Int) = K ∧ str R.ev.path = P ∧ str R.ev.text = X2 ∧ (R.ev.why : Int) = Z ∧ (R.used : Int) = U) := ⟨hK, hP, hX, hZ, hU⟩
  have HS : Hid (∀ W, Below w3.heap.size w3 W → W.cell? ⟨w.heap.size, 0, none⟩ = some (.slice va vn vc) ∧ W.cell? ⟨w.heap.size, 1, none⟩ = some (.slice ta tn tc) ∧ W.cell? ⟨w.heap.size, 2, none⟩ = some (.int .i64 F) ∧ W.cell? ⟨w.heap.size + 1, 0, none⟩ = some (.slice a1 l.length c1)) := fun W hb => ⟨(q5.below hb q5.lt).cell 0, (q5.below hb q5.lt).cell 1, (q5.below hb q5.lt).cell 2, (q6.below hb q6.lt).cell 0⟩
  have HS7 : Hid (∀ (W : World) (ga : Nat) (b0 b1 b2 b3 b4 b5 b6 : Value), Below w3.heap.size w3 W → w3.heap.size ≤ ga → (((((((W.setCell ⟨ga, 0, none⟩ b0).setCell ⟨ga, 1, none⟩ b1).setCell ⟨ga, 2, none⟩ b2).setCell ⟨ga, 3, none⟩ b3).setCell ⟨ga, 4, none⟩ b4).setCell ⟨ga, 5, none⟩ b5).setCell ⟨ga, 6, none⟩ b6).cell? ⟨w.heap.size, 0, none⟩ = some (.slice va vn vc) ∧ (((((((W.setCell ⟨ga, 0, none⟩ b0).setCell ⟨ga, 1, none⟩ b1).setCell ⟨ga, 2, none⟩ b2).setCell ⟨ga, 3, none⟩ b3).setCell ⟨ga, 4, none⟩ b4).setCell ⟨ga, 5, none⟩ b5).setCell ⟨ga, 6, none⟩ b6).cell? ⟨w.heap.size, 1, none⟩ = some (.slice ta tn tc) ∧ (((((((W.setCell ⟨ga, 0, none⟩ b0).setCell ⟨ga, 1, none⟩ b1).setCell ⟨ga, 2, none⟩ b2).setCell ⟨ga, 3, none⟩ b3).setCell ⟨ga, 4, none⟩ b4).setCell ⟨ga, 5, none⟩ b5).setCell ⟨ga, 6, none⟩ b6).cell? ⟨w.heap.size, 2, none⟩ = some (.int .i64 F) ∧ (((((((W.setCell ⟨ga, 0, none⟩ b0).setCell ⟨ga, 1, none⟩ b1).setCell ⟨ga, 2, none⟩ b2).setCell ⟨ga, 3, none⟩ b3).setCell ⟨ga, 4, none⟩ b4).setCell ⟨ga, 5, none⟩ b5).setCell ⟨ga, 6, none⟩ b6).cell? ⟨w.heap.size + 1, 0, none⟩ = some (.slice a1 l.length c1)) := fun W ga b0 b1 b2 b3 b4 b5 b6 hb hg => HS.out _ ((Turn.put7 W ga b0 b1 b2 b3 b4 b5 b6).bel hb (by simpa using hg))
  clear hK hP hX hZ hU hR hE s1 s2 k0 k1 k2 hG r1' r2' hl200 hm200
  have hb0 : Below w3.heap.size w3 w3.drew := (Below.refl _ w3).drew
  have hbA : Below w3.heap.size w3 (w3.alloc (.cells #[.int .i64 0, .string ⟨#[]⟩, .int .i64 0, .string ⟨#[]⟩, .slice none 0 0, .slice none 0 0, .int .i64 0] 35)).drew := ((Below.refl _ w3).alloc (Nat.le_refl _) _).drew
  go_cut [7, 8] from 31 (fun s7 s8 V2 => ∃ ga oa on oc na nn nc, s7 = .pointer (some ⟨ga, 0, none⟩) ∧ s8 = .int .i64 E ∧ Rw V2 ga #[.int .i64 K, .string P, .int .i64 Z, .string X2, .slice oa on oc, .slice na nn nc, .int .i64 U] 35 ∧ w3.heap.size ≤ ga ∧ TxR.Own V2 w3.heap.size (.slice oa on oc) R.outs ∧ TxR.Own V2 w3.heap.size (.slice na nn nc) R.needs ∧ Below w3.heap.size w3 V2)
  case first =>
    go_region_held3 (fun X : World => X.cell? ⟨w.heap.size, 0, none⟩ = some (.slice va vn vc) ∧ X.cell? ⟨w.heap.size, 1, none⟩ = some (.slice ta tn tc) ∧ X.cell? ⟨w.heap.size, 2, none⟩ = some (.int .i64 F) ∧ X.cell? ⟨w.heap.size + 1, 0, none⟩ = some (.slice a1 l.length c1)) (first | with_reducible exact HS.out _ hb0 | with_reducible exact HS.out _ hbf | with_reducible exact HS.out _ hbd | with_reducible exact HS.out _ (hbd.alloc hbd.size _) | with_reducible exact HS.out _ (hb0.alloc hb0.size _) | with_reducible exact HS.out _ (hbf.alloc hbf.size _) | with_reducible exact HS7.out _ _ _ _ _ _ _ _ _ (hbd.alloc hbd.size _) (by have := hbd.size; omega) | with_reducible exact HS.out _ hbg | with_reducible exact HS.out _ hbA | with_reducible exact HS7.out _ _ _ _ _ _ _ _ _ hbd (by have := hbf.size; omega) | with_reducible exact HS7.out _ _ _ _ _ _ _ _ _ hbd (Nat.le_refl _) | fail) (first
      | (go_at_call 28; first
          | (refine (files_any a1 l.length c1 w3.drew).mono ?_; rintro e wf ⟨rfl, hwf⟩; have hbf : Below w3.heap.size w3 wf := (by rw [hwf]; exact hb0.alloc hb0.size _); have rf : Rw wf w3.heap.size #[.slice a1 l.length c1] 54 := (by rw [hwf]; exact Rw.new _ _ _); clear hwf)
          | (refine (files_any a1 l.length c1 (w3.alloc (.cells #[.int .i64 0, .string ⟨#[]⟩, .int .i64 0, .string ⟨#[]⟩, .slice none 0 0, .slice none 0 0, .int .i64 0] 35)).drew).mono ?_; rintro e wg ⟨rfl, hwg2⟩; have hbg : Below w3.heap.size w3 wg := (by rw [hwg2]; exact hbA.alloc hbA.size _); have rg : Rw wg (w3.heap.size + 1) #[.slice a1 l.length c1] 54 := (by rw [hwg2]; have hr := Rw.new (w3.alloc (.cells #[.int .i64 0, .string ⟨#[]⟩, .int .i64 0, .string ⟨#[]⟩, .slice none 0 0, .slice none 0 0, .int .i64 0] 35)).drew #[.slice a1 l.length c1] 54; have hz : (w3.alloc (.cells #[.int .i64 0, .string ⟨#[]⟩, .int .i64 0, .string ⟨#[]⟩, .slice none 0 0, .slice none 0 0, .int .i64 0] 35)).drew.heap.size = w3.heap.size + 1 := size_alloc w3 _; rw [hz] at hr; exact hr); have rgn : Rw wg w3.heap.size ran0 35 := (by rw [hwg2]; exact Rw.alloc (show Rw (w3.alloc (.cells ran0 35)).drew w3.heap.size ran0 35 from Rw.new w3 _ _) _); clear hwg2))
      | (go_at_call 15; first
          | (refine (HD1.out wf _ hbf rf).mono ?_; rintro e wd ⟨oa, on, oc, na, nn, nc, rfl, p1, p2, hbd0⟩; have hbd := hbf.trans (hbd0.mono hbf.size); clear hbd0)
          | (refine (HD1.out (wf.alloc (.cells #[.int .i64 0, .string ⟨#[]⟩, .int .i64 0, .string ⟨#[]⟩, .slice none 0 0, .slice none 0 0, .int .i64 0] 35)) _ (hbf.alloc hbf.size _) (rf.alloc _)).mono ?_; rintro e wd ⟨oa, on, oc, na, nn, nc, rfl, p1, p2, hbd0⟩; have hbd := (hbf.alloc hbf.size _).trans (hbd0.mono (hbf.alloc hbf.size _).size); have rn := (Rw.new wf ran0 35).below hbd0 (Rw.new wf ran0 35).lt; have x0 : wd.cell? ⟨wf.heap.size, 0, none⟩ = some (.int .i64 0) := rn.cell 0; have y0 : wd.frozen? ⟨wf.heap.size, 0, none⟩ = false := rn.free 0; have x1 : wd.cell? ⟨wf.heap.size, 1, none⟩ = some (.string ⟨#[]⟩) := rn.cell 1; have y1 : wd.frozen? ⟨wf.heap.size, 1, none⟩ = false := rn.free 1; have x2 : wd.cell? ⟨wf.heap.size, 2, none⟩ = some (.int .i64 0) := rn.cell 2; have y2 : wd.frozen? ⟨wf.heap.size, 2, none⟩ = false := rn.free 2; have x3 : wd.cell? ⟨wf.heap.size, 3, none⟩ = some (.string ⟨#[]⟩) := rn.cell 3; have y3 : wd.frozen? ⟨wf.heap.size, 3, none⟩ = false := rn.free 3; have x4 : wd.cell? ⟨wf.heap.size, 4, none⟩ = some (.slice none 0 0) := rn.cell 4; have y4 : wd.frozen? ⟨wf.heap.size, 4, none⟩ = false := rn.free 4; have x5 : wd.cell? ⟨wf.heap.size, 5, none⟩ = some (.slice none 0 0) := rn.cell 5; have y5 : wd.frozen? ⟨wf.heap.size, 5, none⟩ = false := rn.free 5; have x6 : wd.cell? ⟨wf.heap.size, 6, none⟩ = some (.int .i64 0) := rn.cell 6; have y6 : wd.frozen? ⟨wf.heap.size, 6, none⟩ = false := rn.free 6; clear hbd0)
          | (refine (HD1.out wg _ hbg rg).mono ?_; rintro e wd ⟨oa, on, oc, na, nn, nc, rfl, p1, p2, hbd0⟩; have hbd := hbg.trans (hbd0.mono hbg.size); have rn2 := rgn.below hbd0 rgn.lt; have x0 : wd.cell? ⟨w3.heap.size, 0, none⟩ = some (.int .i64 0) := rn2.cell 0; have y0 : wd.frozen? ⟨w3.heap.size, 0, none⟩ = false := rn2.free 0; have x1 : wd.cell? ⟨w3.heap.size, 1, none⟩ = some (.string ⟨#[]⟩) := rn2.cell 1; have y1 : wd.frozen? ⟨w3.heap.size, 1, none⟩ = false := rn2.free 1; have x2 : wd.cell? ⟨w3.heap.size, 2, none⟩ = some (.int .i64 0) := rn2.cell 2; have y2 : wd.frozen? ⟨w3.heap.size, 2, none⟩ = false := rn2.free 2; have x3 : wd.cell? ⟨w3.heap.size, 3, none⟩ = some (.string ⟨#[]⟩) := rn2.cell 3; have y3 : wd.frozen? ⟨w3.heap.size, 3, none⟩ = false := rn2.free 3; have x4 : wd.cell? ⟨w3.heap.size, 4, none⟩ = some (.slice none 0 0) := rn2.cell 4; have y4 : wd.frozen? ⟨w3.heap.size, 4, none⟩ = false := rn2.free 4; have x5 : wd.cell? ⟨w3.heap.size, 5, none⟩ = some (.slice none 0 0) := rn2.cell 5; have y5 : wd.frozen? ⟨w3.heap.size, 5, none⟩ = false := rn2.free 5; have x6 : wd.cell? ⟨w3.heap.size, 6, none⟩ = some (.int .i64 0) := rn2.cell 6; have y6 : wd.frozen? ⟨w3.heap.size, 6, none⟩ = false := rn2.free 6; clear hbd0))
      | fail)
    · have bA := hbd.alloc hbd.size (.cells #[.int .i64 K, .string P, .int .i64 Z, .string X2, .slice oa on oc, .slice na nn nc, .int .i64 U] 35)
      have rN := Rw.new wd #[.int .i64 K, .string P, .int .i64 Z, .string X2, .slice oa on oc, .slice na nn nc, .int .i64 U] 35
      have pA := (p1.alloc (.cells #[.int .i64 K, .string P, .int .i64 Z, .string X2, .slice oa on oc, .slice na nn nc, .int .i64 U] 35)).low hbf.size
      have pB := (p2.alloc (.cells #[.int .i64 K, .string P, .int .i64 Z, .string X2, .slice oa on oc, .slice na nn nc, .int .i64 U] 35)).low hbf.size
      go_wp2_with fail
      go_meet
      case rel => exact ⟨_, oa, on, oc, na, nn, nc, rfl, rfl, rN, hbd.size, pA, pB, bA⟩
    · have hT7 := Turn.put7 wd wf.heap.size (.int .i64 K) (.string P) (.int .i64 Z) (.string X2) (.slice oa on oc) (.slice na nn nc) (.int .i64 U)
      have rN := Rw.put7 (x0 := .int .i64 0) (x1 := .string ⟨#[]⟩) (x2 := .int .i64 0) (x3 := .string ⟨#[]⟩) (x4 := .slice none 0 0) (x5 := .slice none 0 0) (x6 := .int .i64 0) rn (.int .i64 K) (.string P) (.int .i64 Z) (.string X2) (.slice oa on oc) (.slice na nn nc) (.int .i64 U)
      have pA := (p1.turnP hT7 (fun g hg => by have := (p1.lt g hg).1; rw [size_alloc] at this; simp; omega)).low (B' := w3.heap.size) (by rw [size_alloc]; have := hbf.size; omega)
      have pB := (p2.turnP hT7 (fun g hg => by have := (p2.lt g hg).1; rw [size_alloc] at this; simp; omega)).low (B' := w3.heap.size) (by rw [size_alloc]; have := hbf.size; omega)
      have bA := hT7.bel hbd (by simp; exact hbf.size)
      have hga := hbf.size
      go_wp2_with fail
      go_meet
      case rel => exact ⟨_, oa, on, oc, na, nn, nc, rfl, rfl, rN, hga, pA, pB, bA⟩
    · have hT7 := Turn.put7 wd w3.heap.size (.int .i64 K) (.string P) (.int .i64 Z) (.string X2) (.slice oa on oc) (.slice na nn nc) (.int .i64 U)
      have rN := Rw.put7 (x0 := .int .i64 0) (x1 := .string ⟨#[]⟩) (x2 := .int .i64 0) (x3 := .string ⟨#[]⟩) (x4 := .slice none 0 0) (x5 := .slice none 0 0) (x6 := .int .i64 0) rn2 (.int .i64 K) (.string P) (.int .i64 Z) (.string X2) (.slice oa on oc) (.slice na nn nc) (.int .i64 U)
      have hlg := rgn.lt
      have pA := (p1.turnP hT7 (fun g hg => by have := (p1.lt g hg).1; simp; omega)).low (B' := w3.heap.size) (by omega)
      have pB := (p2.turnP hT7 (fun g hg => by have := (p2.lt g hg).1; simp; omega)).low (B' := w3.heap.size) (by omega)
      have bA := hT7.bel hbd (by simp)
      go_wp2_with fail
      go_meet
      case rel => exact ⟨_, oa, on, oc, na, nn, nc, rfl, rfl, rN, Nat.le_refl _, pA, pB, bA⟩
  case rest =>
    obtain ⟨ga, oa, on, oc, na, nn, nc, rfl, rfl, rA, hga, pA, pB, bA⟩ := hcut
    clear HS7 HS hb0 hbA HD1
    obtain ⟨na', nc', e1, -⟩ := pB.sl.shape
    simp only [Value.slice.injEq] at e1
    obtain ⟨rfl, rfl, rfl⟩ := e1
    have k0 := rA.cell 0
    have k1 := rA.cell 1
    have k2 := rA.cell 2
    have k3 := rA.cell 3
    have k5 := rA.cell 5
    by_cases hmy : Ip.mayNew f ts F = true
    · obtain ⟨e0, -, e2, e3, e4, e5⟩ := whole_yes (Ip.find l) hmy hwg
      have hmix := whole_mix l m hmy hwg
      rw [HRE.out.1] at e2 e3 e4 e5 hmix
      rw [HRE.out.2] at e0
      subst e0
      have i8 : ¬ (8 : Int) < (R.needs.length : Int) := by omega
      have lnb : (R.needs.length : Int) ≤ 8 := by omega
      have lc := rA.lt
      have bq1 := (Below.refl wc.heap.size wc).alloc (Nat.le_refl _) (.cells #[.slice none 0 0] 23)
      have rq0 := Rw.new wc #[.slice none 0 0] 23
      have bq0 := bA.alloc bA.size (.cells #[.slice none 0 0] 23)
      have rA0 := rA.alloc (.cells #[.slice none 0 0] 23)
      have r50 := (q5.below bA q5.lt).alloc (.cells #[.slice none 0 0] 23)
      have r60 := (q6.below bA q6.lt).alloc (.cells #[.slice none 0 0] 23)
      have r70 := (q7.below bA q7.lt).alloc (.cells #[.slice none 0 0] 23)
      have pA1 := pA.sl.below bq1 (Nat.le_refl _)
      have pB1 := pB.sl.below bq1 (Nat.le_refl _)
      have hzq := size_alloc wc (.cells #[.slice none 0 0] 23)
      go_upto_region 12 with fail
      generalize wc.alloc (.cells #[.slice none 0 0] 23) = Q at *
      have l6 := q6.lt
      have l7 := q7.lt
      have hbs := bA.size
      have f1 := (hl1.below (hbW.trans (bq0.mono hzW)) (Nat.le_refl _)).mono (B' := wc.heap.size) (by omega)
      have f2 := (hl2.below (hbW.trans (bq0.mono hzW)) (Nat.le_refl _)).mono (B' := wc.heap.size) (by omega)
      have HD2 : Hid (Calls Tryz.prog 15 #[.slice va vn vc, .slice ta tn tc, .int .i64 F, .func (.func 33) #[] #[.pointer (some ⟨wc.heap.size, 0, none⟩), .pointer (some ⟨ga, 0, none⟩), .pointer (some ⟨w.heap.size + 1, 0, none⟩), .pointer (some ⟨w.heap.size + 1 + 1, 0, none⟩)]] Q fun e w' => ∃ oa2 on2 oc2 na2 nn2 nc2, e = .returned (.tuple #[.agg #[.int .i64 K, .string P, .int .i64 Z, .string X2, .slice oa2 on2 oc2, .slice na2 nn2 nc2, .int .i64 U], .int .i64 0]) ∧ TxR.Own w' Q.heap.size (.slice oa2 on2 oc2) R.outs ∧ TxR.Own w' Q.heap.size (.slice na2 nn2 nc2) R.needs ∧
          (∃ D', AskJ wc.heap.size ga (w.heap.size + 1) (w.heap.size + 1 + 1) #[.int .i64 K, .string P, .int .i64 Z, .string X2, .slice oa on oc, .slice na R.needs.length nc, .int .i64 U] (.slice a1 l.length c1) (.slice a2 m.length c2) na nc R.needs l m R.needs D' w') ∧ Turn [wc.heap.size] Q w') := by
        have hA := ask_ask wc.heap.size ga (w.heap.size + 1) (w.heap.size + 1 + 1) K P Z X2 (.slice oa on oc) U (.slice a1 l.length c1) (.slice a2 m.length c2) na nc R.needs l m hn1 hz1 hn2 hz2 (by omega)
        have hK := ask_keeps Q.heap.size wc.heap.size ga (w.heap.size + 1) (w.heap.size + 1 + 1) #[.int .i64 K, .string P, .int .i64 Z, .string X2, .slice oa on oc, .slice na R.needs.length nc, .int .i64 U] (.slice a1 l.length c1) (.slice a2 m.length c2) na nc R.needs l m (by omega)
        have hd := Do_ask (hjW.below bq0) (hLW.below bq0 hLW.size) F hsf.1 hsf.2 hwg _ (Ip.mix R.needs l m) _ [wc.heap.size] (answer_some hA hK) hK ⟨.slice none 0 0, rfl, rq0, Rc.Own.nil _ _, ⟨rA0, lc, r60, by omega, r70, by omega, f1, f2, pB1⟩⟩ (by have := hLW.size; simp; omega)
        rw [hmix, HRE.out.1, HRE.out.2] at hd
        refine hd.mono ?_
        rintro e w' ⟨⟨oa2, on2, oc2, na2, nn2, nc2, rfl, p1, p2⟩, ⟨D', hq, -⟩, hT⟩
        refine ⟨oa2, on2, oc2, na2, nn2, nc2, ?_, p1, p2, ⟨D', hq⟩, hT⟩
        rw [ranL HV.out]
      have d0 := r50.cell 0
      have d1 := r50.cell 1
      have d2 := r50.cell 2
      go_upto_region 13 with (first
        | (go_at_call 15; refine HD2.out.mono ?_; rintro e wd ⟨oa2, on2, oc2, na2, nn2, nc2, rfl, p3, p4, ⟨D', ⟨vq, -, hq1, hq2, hq3⟩⟩, hT⟩; have kq := (hq3.ra.alloc (.cells #[.int .i64 K, .string P, .int .i64 Z, .string X2, .slice oa2 on2 oc2, .slice na2 nn2 nc2, .int .i64 U] 35)).cell 5)
        | fail)
      have hbD : Below wc.heap.size Q wd := hT.below' (by omega) (by simp)
      have hzD := hbD.size
      obtain ⟨qa, qc, rfl, -⟩ := hq2.sl.shape
      have b10 := (Below.refl wd.heap.size wd).alloc (Nat.le_refl _) (.cells #[.int .i64 K, .string P, .int .i64 Z, .string X2, .slice oa2 on2 oc2, .slice na2 nn2 nc2, .int .i64 U] 35)
      have r10 := Rw.new wd #[.int .i64 K, .string P, .int .i64 Z, .string X2, .slice oa2 on2 oc2, .slice na2 nn2 nc2, .int .i64 U] 35
      have rA3 := hq3.ra.alloc (.cells #[.int .i64 K, .string P, .int .i64 Z, .string X2, .slice oa2 on2 oc2, .slice na2 nn2 nc2, .int .i64 U] 35)
      have rq3 := hq1.alloc (.cells #[.int .i64 K, .string P, .int .i64 Z, .string X2, .slice oa2 on2 oc2, .slice na2 nn2 nc2, .int .i64 U] 35)
      have pA3 := ((pA1.below hbD (Nat.le_refl _)).mono (B' := wd.heap.size) (by omega)).below b10 (Nat.le_refl _)
      have pB3 := ((pB1.below hbD (Nat.le_refl _)).mono (B' := wd.heap.size) (by omega)).below b10 (Nat.le_refl _)
      have pq3 := hq2.sl.below b10 (Nat.le_refl _)
      have p33 := p3.sl.below b10 (Nat.le_refl _)
      have p43 := p4.sl.below b10 (Nat.le_refl _)
      have hbF := (hbW.trans (bq0.mono hzW)).trans ((hbD.mono (by have := hbW.size; omega)).trans (b10.mono (by have := hbW.size; omega)))
      have hzY := b10.size
      generalize wd.alloc (.cells #[.int .i64 K, .string P, .int .i64 Z, .string X2, .slice oa2 on2 oc2, .slice na2 nn2 nc2, .int .i64 U] 35) = Y at *
      clear HD2 hq1 hq2 hq3 hT p3 p4 pA1 pB1 f1 f2 d0 d1 d2 rq0 rA0 r50 r60 r70 pA pB
      have HIs : Hid (∀ (k : Nat) (hk : k < R.needs.length) (W : World), Calls Tryz.prog 35 #[.string (str R.needs[k])] W fun e w' => e = .returned (.bool true) ∧ Below W.heap.size W w') := fun k hk W => by
        have hp := e4 _ (List.getElem_mem hk)
        have hs := Ip.isP_len hp
        have := Is_any (str R.needs[k]) W (by rw [str_size]; omega)
        rw [bs_str, hp] at this
        exact this
      have HNd : Hid (∀ (q k : Nat) (hq : q < R.needs.length) (hk : k < R.needs.length), q < k → R.needs[q] ≠ R.needs[k]) := fun q k hq hk hlt => List.pairwise_iff_getElem.1 e3 q k hq hk hlt
      have HRn : Hid (∀ W, Below Y.heap.size Y W → RnV W (.agg #[.int .i64 K, .string P, .int .i64 Z, .string X2, .slice oa on oc, .slice na R.needs.length nc, .int .i64 U]) R ∧ RnV W (.agg #[.int .i64 K, .string P, .int .i64 Z, .string X2, .slice oa2 on2 oc2, .slice na2 nn2 nc2, .int .i64 U]) R) := fun W hb => by
        have hz := hb.size
        exact ⟨⟨oa, on, oc, na, R.needs.length, nc, (ranL HV.out _ _).symm, (pA3.mono hzY |>.below hb (Nat.le_refl _)).mono hz, (pB3.mono hzY |>.below hb (Nat.le_refl _)).mono hz⟩,
          ⟨oa2, on2, oc2, na2, nn2, nc2, (ranL HV.out _ _).symm, (p33.mono hzY |>.below hb (Nat.le_refl _)).mono hz, (p43.mono hzY |>.below hb (Nat.le_refl _)).mono hz⟩⟩
      clear pA3 p33 p43 HRE HV
      have l10 := r10.lt
      have lq := rq3.lt
      have lA := rA3.lt
      go_wp2
      go_loopw [73] (fun i wr => ∃ k : Nat, k ≤ R.needs.length ∧ i = .int .i64 (k : Int) ∧ Below Y.heap.size Y wr) (fun i _ => R.needs.length - (intOf i).toNat)
      case atStart => exact ⟨0, Nat.zero_le _, rfl, Below.refl _ _⟩
      case round =>
        obtain ⟨k, hk, rfl, hbr⟩ := hrel
        by_cases hlt : k < R.needs.length
        · have i1 : (k : Int) < (R.needs.length : Int) := by omega
          obtain ⟨gn, on', c', e1, hgn, p1⟩ := TxR.at ((pB3.mono hzY).below hbr (Nat.le_refl _)) hlt
          simp only [Value.slice.injEq] at e1
          obtain ⟨rfl, -, rfl⟩ := e1
          have hIs := HIs.out k hlt
          obtain ⟨S1, hS1⟩ : ∃ S1, str R.needs[k] = S1 := ⟨_, rfl⟩
          rw [hS1] at p1 hIs
          go_upto_region 18 with (first
            | (go_at_call 35; refine (hIs _).mono ?_; rintro e w5 ⟨rfl, hb5⟩)
            | fail)
          have hbr5 := hbr.trans (hb5.mono hbr.size)
          have a5 := (rA3.below hbr5 lA).cell 5
          go_wp2
          go_loop [14] (fun j => ∃ q : Nat, q ≤ k ∧ j = .int .i64 (q : Int)) (fun j => k - (intOf j).toNat)
          case atStart => exact ⟨0, Nat.zero_le _, rfl⟩
          case round =>
            obtain ⟨q, hq, rfl⟩ := hrel
            by_cases hqk : q < k
            · have i2 : (q : Int) < (k : Int) := by omega
              have i3 : (q : Int) < (R.needs.length : Int) := by omega
              obtain ⟨gn2, on2', c2', e2', hgn2, p2⟩ := TxR.at ((pB3.mono hzY).below hbr5 (Nat.le_refl _)) (show q < R.needs.length by omega)
              simp only [Value.slice.injEq, Option.some.injEq, Addr.mk.injEq] at e2'
              obtain ⟨⟨rfl, rfl, -⟩, -, -⟩ := e2'
              have hbs := beq_str R.needs[q] R.needs[k]
              rw [decide_eq_false (HNd.out q k (by omega) hlt hqk), hS1] at hbs
              generalize str R.needs[q] = S2 at *
              go_wp2
              exact ⟨⟨q + 1, by omega, by go_num⟩, by simp [intOf]; omega⟩
            · obtain rfl : q = k := by omega
              have i2 : ¬ (q : Int) < (q : Int) := by omega
              go_wp2
              exact ⟨⟨q + 1, by omega, by go_num, hbr5⟩, by simp [intOf]; omega⟩
        · obtain rfl : k = R.needs.length := by omega
          have i1 : ¬ (R.needs.length : Int) < (R.needs.length : Int) := by omega
          have rA4 := rA3.below hbr lA
          have r104 := r10.below hbr l10
          have rq4 := rq3.below hbr lq
          have z0 := rA4.cell 0
          have z1 := rA4.cell 1
          have z2 := rA4.cell 2
          have z3 := rA4.cell 3
          have z4 := rA4.cell 4
          have z5 := rA4.cell 5
          have z6 := rA4.cell 6
          have y0 := r104.cell 0
          have y1 := r104.cell 1
          have y2 := r104.cell 2
          have y3 := r104.cell 3
          have y4 := r104.cell 4
          have y5 := r104.cell 5
          have y6 := r104.cell 6
          have hSm := Same_any _ _ _ R R (HRn.out _ hbr).1 (HRn.out _ hbr).2 (by omega) (by omega)
          rw [decide_eq_true rfl] at hSm
          have q0 := rq4.cell 0
          clear HIs HNd HRn hmix e4 e3
          go_wp2_with (first
            | (go_at_call 26; refine hSm.mono ?_; rintro e w6 ⟨rfl, hb6⟩; have q6' := (rq4.below hb6 rq4.lt).cell 0; have z56 := (rA4.below hb6 rA4.lt).cell 5)
            | (go_at_call 31; refine (Texts_any _ Y.heap.size _ _ R.needs R.needs (((pq3.mono hzY).below hbr (Nat.le_refl _)).below hb6 hbr.size) (((pB3.mono hzY).below hbr (Nat.le_refl _)).below hb6 hbr.size) (by omega)).mono ?_; rw [decide_eq_true rfl]; rintro e w7 ⟨rfl, hb7⟩)
            | fail)
          go_ret
          exact ⟨rfl, (hbF.trans (hbr.mono hbF.size)).trans ((hb6.mono (by have := hbr.size; have := hbF.size; omega)).trans (hb7.mono (by have := hb6.size; have := hbr.size; have := hbF.size; omega)))⟩
    · obtain ⟨e0, e1⟩ := whole_no (Ip.find l) (by simpa using hmy)
      rw [HRE.out.1] at e1
      rw [HRE.out.2] at e0
      subst e0
      have hn0 : R.needs.length = 0 := by rw [e1]; rfl
      have hK0 : K = 0 := by rw [← HV.out.1, e1]; rfl
      have hP0 : P = ⟨#[]⟩ := by rw [← HV.out.2.1, e1]; rfl
      have hX0 : X2 = ⟨#[]⟩ := by rw [← HV.out.2.2.1, e1]; rfl
      have hZ0 : Z = 0 := by rw [← HV.out.2.2.2.1, e1]; rfl
      rw [hn0] at k5
      rw [hK0] at k0
      rw [hP0] at k1
      rw [hZ0] at k2
      rw [hX0] at k3
      have heq : ∀ W, (Go.binOp .eql 33 (.agg #[.int .i64 0, .string ⟨#[]⟩, .int .i64 0, .string ⟨#[]⟩]) (.agg #[.int .i64 0, .string ⟨#[]⟩, .int .i64 0, .string ⟨#[]⟩])).run Tryz.prog W = .ok (.bool true) W := fun W => (eql_ev W Ip.Ev.zero Ip.Ev.zero).trans (by rw [decide_eq_true rfl])
      have hgd := fun W x y => guard_ev W .eql x y #[.int .i64 0, .string ⟨#[]⟩, .int .i64 0, .string ⟨#[]⟩] #[.int .i64 0, .string ⟨#[]⟩, .int .i64 0, .string ⟨#[]⟩]
      clear HV HRE e1 hK0 hP0 hX0 hZ0 hn0
      have hbF := hbW.trans (bA.mono hzW)
      go_wp2
      go_ret
      exact ⟨rfl, hbF⟩
end Go.Proofs.YtnobmgkdieaclaaGreatDoor
