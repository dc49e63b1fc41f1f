/-
  WHAT Do DOES.
-/
import Derived.Test.YtnobmgkdieaclaaGreatDoorIpAns
import Derived.Test.YtnobmgkdieaclaaGreatDoorIpClon
import Derived.Test.YtnobmgkdieaclaaGreatDoorIpFuel
namespace Go.Proofs.YtnobmgkdieaclaaGreatDoor
open Go.RowKit

theorem field_ev (W : World) (k : Int) (p : ByteArray) (y : Int) (t : ByteArray) : (Instr.field 33 (.agg #[.int .i64 k, .string p, .int .i64 y, .string t]) 0).run Tryz.prog W = .ok (.int .i64 k) W := by kernel_rfl
/-- what a run comes to, as a value -/
def ranV (e : Ip.Ev) (ov nv : Value) (u : Nat) : Value := .agg #[.int .i64 (e.kind : Int), .string (str e.path), .int .i64 (e.why : Int), .string (str e.text), ov, nv, .int .i64 (u : Int)]
def ran0 : Array Value := #[.int .i64 0, .string ⟨#[]⟩, .int .i64 0, .string ⟨#[]⟩, .slice none 0 0, .slice none 0 0, .int .i64 0]
theorem Rw.put7 {W : World} {g : Nat} {t : TypeId} {x0 x1 x2 x3 x4 x5 x6 : Value} (h : Rw W g #[x0, x1, x2, x3, x4, x5, x6] t) (a0 a1 a2 a3 a4 a5 a6 : Value) :
    Rw (((((((W.setCell ⟨g, 0, none⟩ a0).setCell ⟨g, 1, none⟩ a1).setCell ⟨g, 2, none⟩ a2).setCell ⟨g, 3, none⟩ a3).setCell ⟨g, 4, none⟩ a4).setCell ⟨g, 5, none⟩ a5).setCell ⟨g, 6, none⟩ a6) g #[a0, a1, a2, a3, a4, a5, a6] t :=
  ((((((h.set 0 a0 (by simp)).set 1 a1 (by simp)).set 2 a2 (by simp)).set 3 a3 (by simp)).set 4 a4 (by simp)).set 5 a5 (by simp)).set 6 a6 (by simp)
theorem Turn.put7 (W : World) (g : Nat) (a0 a1 a2 a3 a4 a5 a6 : Value) :
    Turn [g] W (((((((W.setCell ⟨g, 0, none⟩ a0).setCell ⟨g, 1, none⟩ a1).setCell ⟨g, 2, none⟩ a2).setCell ⟨g, 3, none⟩ a3).setCell ⟨g, 4, none⟩ a4).setCell ⟨g, 5, none⟩ a5).setCell ⟨g, 6, none⟩ a6) :=
  (((((((Turn.refl [g] W).set (fun _ => by simp) _).set (fun _ => by simp) _).set (fun _ => by simp) _).set (fun _ => by simp) _).set (fun _ => by simp) _).set (fun _ => by simp) _).set (fun _ => by simp) _
theorem Outputs_any (w : World) (O : List Nat) (x : RP) (s : Ip.St) (h : RunS w O x s) (hi : s.Inv) :
    Calls Tryz.prog 18 #[.pointer (some ⟨x.p, 0, none⟩)] w fun e w' => ∃ a n c, e = .returned (.slice a n c) ∧ TxR.Own w' w.heap.size (.slice a n c) s.outs ∧ Below w.heap.size w w' := by
  unfold Ip.St.outs
  by_cases h2 : s.ev.kind = 2
  · rw [if_pos h2]
    exact Outputs_yes w O x s h hi.some h2 hi.ok.core.few hi.ok.core.short
  · rw [if_neg h2]
    refine (Outputs_no w O x s h hi.some h2).mono ?_
    rintro e w' ⟨rfl, rfl⟩
    exact ⟨_, _, _, rfl, Rc.Own.nil _ _, Below.refl _ _⟩
/-- the end of a whole run -/
structure DoEnd (w : World) (D0 : List Nat) (J : List Ip.B → List Nat → World → Prop) (s : Ip.St) (e : Ending) (w' : World) : Prop where
  val : ∃ oa on oc na nn nc, e = .returned (.tuple #[ranV s.ev (.slice oa on oc) (.slice na nn nc) s.used, .int .i64 0]) ∧ TxR.Own w' w.heap.size (.slice oa on oc) s.outs ∧ TxR.Own w' w.heap.size (.slice na nn nc) s.needs
  own : ∃ D', J s.needs D' w' ∧ (∀ b ∈ D', b ∈ D0 ∨ w.heap.size ≤ b)
  turn : Turn D0 w w'
set_option maxRecDepth 100000 in
set_option maxHeartbeats 1000000 in
theorem Do_no (av : Value) (f : Ac.Fo) (ts : List (List UInt8)) (fuel : Int) (vc vt : Value) (w : World) (B : Nat) (h : Handed w B vc vt f ts) (hL : Laid w) (h1 : -9223372036854775808 ≤ fuel) (h2 : fuel ≤ 9223372036854775807) (hno : Ip.mayNew f ts fuel = false) :
    Calls Tryz.prog 15 #[vc, vt, .int .i64 fuel, av] w fun e w' => e = .returned (.tuple #[.agg ran0, .int .i64 2]) ∧ Below w.heap.size w w' := by
  have r0 := Rw.new w ran0 35
  have hB := (Below.refl w.heap.size w).alloc (Nat.le_refl _) (.cells ran0 35)
  have hz := size_alloc w (.cells ran0 35)
  have hN := New_no f ts fuel vc vt (w.alloc (.cells ran0 35)) B (h.below hB) (hL.below hB hL.size) h1 h2 hno
  unfold ran0 at r0 hB hz hN
  go_enter Tryz.func15, Tryz.ntmps15
  go_upto_region 1 with fail
  generalize w.alloc (.cells #[.int .i64 0, .string ⟨#[]⟩, .int .i64 0, .string ⟨#[]⟩, .slice none 0 0, .slice none 0 0, .int .i64 0] 35) = Y at *
  go_wp2_with (first | (go_at_call 14; refine hN.mono ?_; rintro e w1 ⟨rfl, hb1⟩; have r1 := r0.below hb1 r0.lt; have c0 := r1.cell 0; have c1 := r1.cell 1; have c2 := r1.cell 2; have c3 := r1.cell 3; have c4 := r1.cell 4; have c5 := r1.cell 5; have c6 := r1.cell 6; have f0 := r1.free 0; have f1 := r1.free 1; have f2 := r1.free 2; have f3 := r1.free 3; have f4 := r1.free 4; have f5 := r1.free 5; have f6 := r1.free 6) | fail)
  have q7 := r1.put7 (.int .i64 0) (.string ⟨#[]⟩) (.int .i64 0) (.string ⟨#[]⟩) (.slice none 0 0) (.slice none 0 0) (.int .i64 0)
  have hT := Turn.put7 w1 w.heap.size (.int .i64 0) (.string ⟨#[]⟩) (.int .i64 0) (.string ⟨#[]⟩) (.slice none 0 0) (.slice none 0 0) (.int .i64 0)
  refine bodyPost_ret (results_row_slot Tryz.results15 _ _ w.heap.size _ _ _ (.int .i64 2) rfl rfl q7 Tryz.underlying35 rfl (by kernel_rfl)) rfl ⟨rfl, ?_⟩
  exact hT.bel (hB.trans (hb1.mono (by omega))) (by simp)
set_option maxRecDepth 100000 in
set_option maxHeartbeats 2000000 in
theorem Do_yes (av : Value) (af : Ip.B → Option Ip.B) (J : List Ip.B → List Nat → World → Prop) (f : Ac.Fo) (ts : List (List UInt8)) (fuel : Int) (vc vt : Value) (w : World) (B : Nat) (D0 : List Nat) (h : Handed w B vc vt f ts) (hL : Laid w) (h1 : -9223372036854775808 ≤ fuel) (h2 : fuel ≤ 9223372036854775807) (hyes : Ip.mayNew f ts fuel = true)
    (hi : (Ip.new f ts fuel.toNat).Inv) (hA : AnsC av af w.heap.size J) (hK : Keeps w.heap.size J) (hJ : J [] D0 w) (hD7 : ∀ b ∈ D0, 7 ≤ b) :
    Calls Tryz.prog 15 #[vc, vt, .int .i64 fuel, av] w (DoEnd w D0 J (Ip.St.done af (Ip.new f ts fuel.toNat).step)) := by
  have r0 := Rw.new w ran0 35
  have hB := (Below.refl w.heap.size w).alloc (Nat.le_refl _) (.cells ran0 35)
  have hz := size_alloc w (.cells ran0 35)
  have hLY := hL.below hB hL.size
  have hJY := hK.keep hJ (Turn.of_below hB) (by simp)
  have hDlt := hK.lt hJ
  have hN := New_yes f ts fuel vc vt (w.alloc (.cells ran0 35)) B D0 (h.below hB) hLY h1 h2 hyes (hK.lt hJY)
  unfold ran0 at r0 hB hz hN hLY hJY
  obtain ⟨s0, hs0⟩ : ∃ s0, Ip.new f ts fuel.toNat = s0 := ⟨_, rfl⟩
  have hn0 : s0.needs = [] := by rw [← hs0]; rfl
  have hk0 : s0.ev.kind = 0 := by rw [← hs0]; rfl
  rw [hs0] at hN hi ⊢
  obtain ⟨R, hR⟩ : ∃ R, Ip.St.done af s0.step = R := ⟨_, rfl⟩
  rw [hR]
  have HR : Hid (Ip.St.done af s0.step = R) := hR
  have HI : Hid s0.Inv := hi
  have HA : Hid (AnsC av af w.heap.size J) := hA
  have HK : Hid (Keeps w.heap.size J) := hK
  have HDlt : Hid (∀ b ∈ D0, b < w.heap.size) := hDlt
  have HD7 : Hid (∀ b ∈ D0, 7 ≤ b) := hD7
  have hz7 := hL.size
  clear h hL h1 h2 hyes hs0 hR hi hA hK hJ hDlt hD7
  go_enter Tryz.func15, Tryz.ntmps15
  go_upto_region 1 with fail
  generalize w.alloc (.cells #[.int .i64 0, .string ⟨#[]⟩, .int .i64 0, .string ⟨#[]⟩, .slice none 0 0, .slice none 0 0, .int .i64 0] 35) = Y at *
  go_wp2_with (first | (go_at_call 14; refine hN.mono ?_; rintro e w1 ⟨x, rfl, hr1, hx1, hb1⟩) | fail)
  have HW : Hid (RunS w1 (x.own ++ D0) x s0 ∧ (∀ b ∈ x.own, Y.heap.size ≤ b) ∧ Below Y.heap.size Y w1) := ⟨hr1, hx1, hb1⟩
  have HY : Hid (Below w.heap.size w Y ∧ J [] D0 Y) := ⟨hB, hJY⟩
  obtain ⟨p0, hp0⟩ : ∃ p0, x.p = p0 := ⟨_, rfl⟩
  rw [hp0]
  have HP : Hid (x.p = p0) := hp0
  clear hN hr1 hx1 hb1 hB hJY hp0
  go_loopg [] 9 (fun k wr => ∃ (y : RP) (D : List Nat) (s : Ip.St), Hid (y.p = p0 ∧ RunS wr (y.own ++ D) y s ∧ s.Inv ∧ s.ev.kind ≠ 1 ∧ J s.needs D wr ∧ (∀ b ∈ y.own, Y.heap.size ≤ b ∧ b ∉ D) ∧ (∀ b ∈ D, b ∈ D0 ∨ Y.heap.size ≤ b) ∧ Turn D0 Y wr ∧ Ip.St.done af s.step = R ∧ 9 ≤ s.needs.length + k))
  case atStart =>
    obtain ⟨q1, q2, q3⟩ := HW.out
    refine ⟨x, D0, s0, HP.out, q1, HI.out, by omega, ?_, fun b hb => ⟨q2 b hb, fun hd => ?_⟩, fun b hb => .inl hb, (Turn.of_below q3).mono (by simp), HR.out, by rw [hn0]; exact Nat.le_refl _⟩
    · rw [hn0]
      exact HK.out.keep HY.out.2 (Turn.of_below q3) (by simp)
    · have := HDlt.out b hd; have := q2 b hb; omega
  case round =>
    obtain ⟨y, D, s, HS⟩ := hrel
    obtain ⟨ep, hr, hsi, hs1, hj, hy, hd, hT, hdn, hk⟩ := HS.out
    have hYs := HY.out.1.size
    have hLr := hLY.turn hT HD7.out
    have hSt := Step_any wr (y.own ++ D) y s hr hsi hLr
    rw [ep] at hSt
    obtain ⟨hti, htk⟩ := Ip.St.step_inv hsi
    obtain ⟨hq1, hq2⟩ := Ip.St.step_qs hsi hs1
    have hDr := HK.out.lt hj
    -- behind the step
    have hW2 : ∀ w2, Went wr (y.own ++ D) y s.step w2 → ∃ z, z.p = p0 ∧ RunS w2 (z.own ++ D) z s.step ∧ J s.needs D w2 ∧ (∀ b ∈ z.own, Y.heap.size ≤ b ∧ b ∉ D) ∧ Turn D0 Y w2 := by
      rintro w2 ⟨z, e1, z1, z2, z3⟩
      have hzo : ∀ b ∈ z.own, Y.heap.size ≤ b ∧ b ∉ D := fun b hb => by
        rcases z2 b hb with hb | hb
        · exact hy b hb
        · exact ⟨by have := hT.size; omega, fun hx => by have := hDr b hx; omega⟩
      refine ⟨z, e1.trans ep, z1.other (fun b hb _ => by
        rcases List.mem_append.1 hb with hb | hb
        · exact List.mem_append_left _ hb
        · exact List.mem_append_right _ (List.mem_append_right _ hb)) (fun b hb => List.mem_append_left _ hb) (fun b hb => z1.lim b (by
        rcases List.mem_append.1 hb with hb | hb
        · exact List.mem_append_left _ hb
        · exact List.mem_append_right _ (List.mem_append_right _ hb))), HK.out.keep hj z3 (fun b hb => ⟨by have := (hy b hb).1; omega, (hy b hb).2⟩), hzo, hT.trans z3 (fun b hb hl => by have := (hy b hb).1; omega)⟩
    have HW2 : Hid _ := hW2
    clear HS
    by_cases hk1 : s.step.ev.kind = 1
    · have hAn : ∀ w2, Went wr (y.own ++ D) y s.step w2 → Calls Tryz.prog 47 #[.pointer (some ⟨p0, 0, none⟩), av] w2 fun e w3 => e = .returned (.tuple #[]) ∧ ∃ (y : RP) (D : List Nat) (s : Ip.St), y.p = p0 ∧ RunS w3 (y.own ++ D) y s ∧ s.Inv ∧ s.ev.kind ≠ 1 ∧ J s.needs D w3 ∧ (∀ b ∈ y.own, Y.heap.size ≤ b ∧ b ∉ D) ∧ (∀ b ∈ D, b ∈ D0 ∨ Y.heap.size ≤ b) ∧ Turn D0 Y w3 ∧ Ip.St.done af s.step = R ∧ 9 ≤ s.needs.length + (gk - 1) := by
        intro w2 hw
        obtain ⟨z, e1, z1, z2, z3, z4⟩ := hW2 w2 hw
        have hC := HA.out s.needs D w2 (z.own ++ D) z s.step z1 hti hk1 z2 (fun b hb => ⟨List.mem_append_right _ hb, fun hx => (z3 b hx).2 hb⟩) (fun b hb => by have := (z3 b hb).1; omega) hsi.len
        rw [e1] at hC
        refine hC.mono ?_
        rintro e w3 ⟨rfl, D', a1, a2, a3, a4⟩
        obtain ⟨b1, b2, b3⟩ := Ip.St.answer_inv hti hk1 (af s.step.ev.path)
        have hz4 := z4.size
        refine ⟨rfl, z, D', s.step.answer (af s.step.ev.path), e1, a1.other (fun b hb _ => by
          rcases List.mem_append.1 hb with hb | hb
          · exact List.mem_append_right _ (List.mem_append_left _ hb)
          · exact List.mem_append_left _ hb) (fun b hb => List.mem_append_left _ hb) (fun b hb => a1.lim b (by
          rcases List.mem_append.1 hb with hb | hb
          · exact List.mem_append_right _ (List.mem_append_left _ hb)
          · exact List.mem_append_left _ hb)), b1, b2, by rw [b3, hq1 hk1]; exact a2, fun b hb => ⟨(z3 b hb).1, fun hx => ?_⟩, fun b hb => ?_, z4.trans a4 (fun b hb hl => ?_), ?_, ?_⟩
        · rcases a3 b hx with hx | hx
          · exact (z3 b hb).2 hx
          · have := z1.lt b hb; omega
        · rcases a3 b hb with hb | hb
          · exact hd b hb
          · exact .inr (by omega)
        · rcases List.mem_cons.1 hb with rfl | hb
          · have := (z3 _ z.p_own).1; omega
          · rcases List.mem_cons.1 hb with rfl | hb
            · have := (z3 _ z.mt_own).1; omega
            · rcases hd b hb with hb | hb
              · exact hb
              · omega
        · rw [← hdn]
          exact Ip.St.done_next (f := af) hti hk1
        · rw [b3, hq1 hk1, List.length_append, List.length_singleton]
          have := hti.len
          rw [hq1 hk1, List.length_append, List.length_singleton] at this
          omega
      have HLT : Hid (gk - 1 < gk) := by
        have := hti.len
        rw [hq1 hk1, List.length_append, List.length_singleton] at this
        show gk - 1 < gk
        omega
      unfold evV at hSt
      rw [hk1] at hSt
      clear hW2 HW2 hr hj hy hd hT hdn hk hti htk hq1 hq2 hLr hDr hsi hs1 hk1
      generalize str s.step.ev.path = P at *
      generalize str s.step.ev.text = X at *
      have hfe := fun W => field_ev W 1 P (s.step.ev.why : Int) X
      generalize (s.step.ev.why : Int) = Z at *
      go_wp2_with (first | (go_at_call 25; refine hSt.mono ?_; rintro e w2 ⟨rfl, hw2⟩) | (go_at_call 47; refine (hAn _ hw2).mono ?_; rintro e w3 ⟨rfl, hrel3⟩) | fail)
      go_roundg (gk - 1)
      case measure => exact HLT.out
      case rel => exact hrel3
    · have hRe : R = s.step := by rw [← hdn]; exact Ip.St.done_end hk1
      have hne : s.step.needs = s.needs := hq2 hk1
      have HF : Hid (∀ w2, Went wr (y.own ++ D) y s.step w2 → (∀ W, Below w2.heap.size w2 W → W.cell? ⟨p0, 9, none⟩ = some (.int .i64 (s.step.ev.kind : Int)) ∧ W.cell? ⟨p0, 10, none⟩ = some (.string (str s.step.ev.path)) ∧ W.cell? ⟨p0, 11, none⟩ = some (.int .i64 (s.step.ev.why : Int)) ∧ W.cell? ⟨p0, 12, none⟩ = some (.string (str s.step.ev.text)) ∧ W.cell? ⟨p0, 2, none⟩ = some (.int .i64 (s.step.used : Int))) ∧
          (∀ W, Below w2.heap.size w2 W → Calls Tryz.prog 18 #[.pointer (some ⟨p0, 0, none⟩)] W fun e w' => ∃ a n c, e = .returned (.slice a n c) ∧ TxR.Own w' W.heap.size (.slice a n c) R.outs ∧ Below W.heap.size W w') ∧
          (∀ W, Below w2.heap.size w2 W → Calls Tryz.prog 17 #[.pointer (some ⟨p0, 0, none⟩)] W fun e w' => ∃ a n c, e = .returned (.slice a n c) ∧ TxR.Own w' W.heap.size (.slice a n c) R.needs ∧ Below W.heap.size W w') ∧
          (∀ W, Below w2.heap.size w2 W → Rw W w.heap.size #[.int .i64 0, .string ⟨#[]⟩, .int .i64 0, .string ⟨#[]⟩, .slice none 0 0, .slice none 0 0, .int .i64 0] 35) ∧
          (∀ W, Below w2.heap.size w2 W → J R.needs D W ∧ Turn D0 w W ∧ w.heap.size < W.heap.size) ∧ p0 ≠ w.heap.size ∧ p0 < w2.heap.size) := by
        intro w2 hw
        obtain ⟨z, e1, z1, z2, z3, z4⟩ := hW2 w2 hw
        have hz4 := z4.size
        refine ⟨fun W hb => ?_, fun W hb => ?_, fun W hb => ?_, fun W hb => ?_, fun W hb => ⟨?_, ?_, ?_⟩, ?_, ?_⟩
        · have hr2 := z1.below hb
          rw [← e1]
          exact ⟨hr2.c9, hr2.c10, hr2.c11, hr2.c12, hr2.c2⟩
        · rw [← e1, hRe]
          exact Outputs_any W _ z s.step (z1.below hb) hti
        · rw [← e1, hRe]
          exact Needs_any W _ z s.step (z1.below hb) hti.some hti.len
        · exact (r0.turn z4 (fun hx => by have := HDlt.out _ hx; omega)).below hb (by omega)
        · rw [hRe, hne]
          exact HK.out.keep z2 (Turn.of_below hb) (by simp)
        · exact (((Turn.of_below HY.out.1).mono (S' := D0) (by simp)).trans z4 (fun b hb _ => hb)).belowTrans hb
        · have := hb.size; omega
        · have := (z3 _ z.p_own).1; rw [e1] at this; omega
        · have := z1.lt _ z.p_own; rw [e1] at this; exact this
      have HRD : Hid (w.heap.size ∉ D) := fun hx => by
        rcases hd _ hx with h | h
        · have := HDlt.out _ h; omega
        · omega
      have HD : Hid (∀ b ∈ D, b ∈ D0 ∨ w.heap.size ≤ b) := fun b hb => (hd b hb).imp id (fun h => by omega)
      have HR2 : Hid (R = s.step) := hRe
      have hk2 : ((s.step.ev.kind : Int) == 1) = false := by rw [beq_eq_false_iff_ne]; omega
      unfold evV at hSt
      clear hW2 HW2 hr hj hy hd hT hdn hk hti htk hq1 hq2 hLr hDr hsi hs1 hk1 hRe hne
      obtain ⟨K, hK⟩ : ∃ K : Int, (s.step.ev.kind : Int) = K := ⟨_, rfl⟩
      obtain ⟨P, hP⟩ : ∃ P, str s.step.ev.path = P := ⟨_, rfl⟩
      obtain ⟨X2, hX⟩ : ∃ X, str s.step.ev.text = X := ⟨_, rfl⟩
      obtain ⟨Z, hZ⟩ : ∃ Z : Int, (s.step.ev.why : Int) = Z := ⟨_, rfl⟩
      obtain ⟨U, hU⟩ : ∃ U : Int, (s.step.used : Int) = U := ⟨_, rfl⟩
      rw [hK, hP, hX, hZ] at hSt
      rw [hK] at hk2
      rw [hK, hP, hX, hZ, hU] at HF
      have HV : Hid (ranV R.ev = ranV s.step.ev ∧ R.used = s.step.used ∧ (s.step.ev.kind : Int) = K ∧ str s.step.ev.path = P ∧ str s.step.ev.text = X2 ∧ (s.step.ev.why : Int) = Z ∧ (s.step.used : Int) = U) := ⟨by rw [HR2.out], by rw [HR2.out], hK, hP, hX, hZ, hU⟩
      clear hK hP hX hZ hU
      have hfe := fun W => field_ev W K P Z X2
      go_upto_region 6 with (first | (go_at_call 25; refine hSt.mono ?_; rintro e w2 ⟨rfl, hw2⟩) | fail)
      obtain ⟨hSK, hOut, hNee, hRK, hJK, hpR, hp2⟩ := HF.out w2 hw2
      have hbV : Below w2.heap.size w2 w2.drew := (Below.refl _ w2).drew
      have hSV := hSK _ hbV
      have HSS : Hid (∀ (W : World) (a0 a1 a2 a3 a4 a5 a6 : Value), Below w2.heap.size w2 W → (((((((W.setCell ⟨w.heap.size, 0, none⟩ a0).setCell ⟨w.heap.size, 1, none⟩ a1).setCell ⟨w.heap.size, 2, none⟩ a2).setCell ⟨w.heap.size, 3, none⟩ a3).setCell ⟨w.heap.size, 4, none⟩ a4).setCell ⟨w.heap.size, 5, none⟩ a5).setCell ⟨w.heap.size, 6, none⟩ a6).cell? ⟨p0, 9, none⟩ = some (.int .i64 K) ∧ (((((((W.setCell ⟨w.heap.size, 0, none⟩ a0).setCell ⟨w.heap.size, 1, none⟩ a1).setCell ⟨w.heap.size, 2, none⟩ a2).setCell ⟨w.heap.size, 3, none⟩ a3).setCell ⟨w.heap.size, 4, none⟩ a4).setCell ⟨w.heap.size, 5, none⟩ a5).setCell ⟨w.heap.size, 6, none⟩ a6).cell? ⟨p0, 10, none⟩ = some (.string P) ∧ (((((((W.setCell ⟨w.heap.size, 0, none⟩ a0).setCell ⟨w.heap.size, 1, none⟩ a1).setCell ⟨w.heap.size, 2, none⟩ a2).setCell ⟨w.heap.size, 3, none⟩ a3).setCell ⟨w.heap.size, 4, none⟩ a4).setCell ⟨w.heap.size, 5, none⟩ a5).setCell ⟨w.heap.size, 6, none⟩ a6).cell? ⟨p0, 11, none⟩ = some (.int .i64 Z) ∧ (((((((W.setCell ⟨w.heap.size, 0, none⟩ a0).setCell ⟨w.heap.size, 1, none⟩ a1).setCell ⟨w.heap.size, 2, none⟩ a2).setCell ⟨w.heap.size, 3, none⟩ a3).setCell ⟨w.heap.size, 4, none⟩ a4).setCell ⟨w.heap.size, 5, none⟩ a5).setCell ⟨w.heap.size, 6, none⟩ a6).cell? ⟨p0, 12, none⟩ = some (.string X2) ∧ (((((((W.setCell ⟨w.heap.size, 0, none⟩ a0).setCell ⟨w.heap.size, 1, none⟩ a1).setCell ⟨w.heap.size, 2, none⟩ a2).setCell ⟨w.heap.size, 3, none⟩ a3).setCell ⟨w.heap.size, 4, none⟩ a4).setCell ⟨w.heap.size, 5, none⟩ a5).setCell ⟨w.heap.size, 6, none⟩ a6).cell? ⟨p0, 2, none⟩ = some (.int .i64 U)) := fun W a0 a1 a2 a3 a4 a5 a6 hb => by
        obtain ⟨u1, u2, u3, u4, u5⟩ := hSK W hb
        have hT7 := Turn.put7 W w.heap.size a0 a1 a2 a3 a4 a5 a6
        have hpl : p0 < W.heap.size := by have := hb.size; omega
        have hpn : p0 ∉ [w.heap.size] := by simpa using hpR
        exact ⟨(hT7.cell (p := ⟨p0, 9, none⟩) hpl hpn).trans u1, (hT7.cell (p := ⟨p0, 10, none⟩) hpl hpn).trans u2, (hT7.cell (p := ⟨p0, 11, none⟩) hpl hpn).trans u3, (hT7.cell (p := ⟨p0, 12, none⟩) hpl hpn).trans u4, (hT7.cell (p := ⟨p0, 2, none⟩) hpl hpn).trans u5⟩
      have HSK : Hid _ := hSK
      have HRK : Hid _ := hRK
      have HOut : Hid _ := hOut
      have HNee : Hid _ := hNee
      have HFin : Hid (∀ (W : World) (oa : Option Addr) (on oc : Nat) (na : Option Addr) (nn nc : Nat), Below w2.heap.size w2 W → TxR.Own W w2.heap.size (.slice oa on oc) R.outs → TxR.Own W w2.heap.size (.slice na nn nc) R.needs → ∀ W', Turn [w.heap.size] W W' → DoEnd w D0 J R (.returned (.tuple #[.agg #[.int .i64 K, .string P, .int .i64 Z, .string X2, .slice oa on oc, .slice na nn nc, .int .i64 U], .int .i64 0])) W') := by
        intro W oa on oc na nn nc hb h1 h2 W' hT
        obtain ⟨j1, j2, j3⟩ := hJK W hb
        obtain ⟨j4, j5, j6⟩ := hJK w2 (Below.refl _ _)
        have k1 := (h1.turnP hT (fun g hg => by have := (h1.lt g hg).1; simp; omega)).low (B' := w.heap.size) (by omega)
        have k2 := (h2.turnP hT (fun g hg => by have := (h2.lt g hg).1; simp; omega)).low (B' := w.heap.size) (by omega)
        obtain ⟨v1, v2, v3, v4, v5, v6, v7⟩ := HV.out
        refine ⟨⟨oa, on, oc, na, nn, nc, ?_, k1, k2⟩, ⟨D, HK.out.keep j1 hT (fun b hb2 => ?_), HD.out⟩, j2.trans hT (fun b hb2 hl => by rw [List.mem_singleton] at hb2; omega)⟩
        · rw [HR2.out]
          unfold ranV
          rw [v3, v4, v5, v6, v7]
        · rw [List.mem_singleton] at hb2
          subst hb2
          exact ⟨Nat.le_refl _, fun hx => HRD.out hx⟩
      clear hSK hRK hOut hNee HF hw2 hSt hfe
      go_region_held3 (fun X : World => X.cell? ⟨p0, 9, none⟩ = some (.int .i64 K) ∧ X.cell? ⟨p0, 10, none⟩ = some (.string P) ∧ X.cell? ⟨p0, 11, none⟩ = some (.int .i64 Z) ∧ X.cell? ⟨p0, 12, none⟩ = some (.string X2) ∧ X.cell? ⟨p0, 2, none⟩ = some (.int .i64 U)) (first | with_reducible exact hSV | with_reducible exact hS3 | with_reducible exact hS4 | with_reducible exact hS5 | with_reducible exact hS6 | with_reducible exact HSS.out _ _ _ _ _ _ _ _ hb6 | with_reducible exact HSS.out _ _ _ _ _ _ _ _ hb5 | fail) (first
        | (go_at_call 18; first
            | (refine (HOut.out _ hbV).mono ?_; rintro e w3 ⟨a3, n3, c3', rfl, p3, q3⟩; have hb3 := hbV.trans (q3.mono hbV.size); have hS3 := HSK.out _ hb3)
            | (refine (HOut.out _ hb4).mono ?_; rintro e w5 ⟨a5, n5, c5', rfl, p5, q5⟩; have hb5 := hb4.trans (q5.mono hb4.size); have hS5 := HSK.out _ hb5; have r5 := HRK.out _ hb5; have c0 := r5.cell 0; have f0 := r5.free 0; have c1 := r5.cell 1; have f1 := r5.free 1; have c2 := r5.cell 2; have f2 := r5.free 2; have c3 := r5.cell 3; have f3 := r5.free 3; have c4 := r5.cell 4; have f4 := r5.free 4; have c5 := r5.cell 5; have f5 := r5.free 5; have c6 := r5.cell 6; have f6 := r5.free 6))
        | (go_at_call 17; first
            | (refine (HNee.out _ hbV).mono ?_; rintro e w4 ⟨a4, n4, c4', rfl, p4, q4⟩; have hb4 := hbV.trans (q4.mono hbV.size); have hS4 := HSK.out _ hb4)
            | (refine (HNee.out _ hb3).mono ?_; rintro e w6 ⟨a6, n6, c6', rfl, p6, q6⟩; have hb6 := hb3.trans (q6.mono hb3.size); have hS6 := HSK.out _ hb6; have r6 := HRK.out _ hb6; have c0 := r6.cell 0; have f0 := r6.free 0; have c1 := r6.cell 1; have f1 := r6.free 1; have c2 := r6.cell 2; have f2 := r6.free 2; have c3 := r6.cell 3; have f3 := r6.free 3; have c4 := r6.cell 4; have f4 := r6.free 4; have c5 := r6.cell 5; have f5 := r6.free 5; have c6 := r6.cell 6; have f6 := r6.free 6))
        | fail)
      · have q7 := r6.put7 (.int .i64 K) (.string P) (.int .i64 Z) (.string X2) (.slice a3 n3 c3') (.slice a6 n6 c6') (.int .i64 U)
        have hT7 := Turn.put7 w6 w.heap.size (.int .i64 K) (.string P) (.int .i64 Z) (.string X2) (.slice a3 n3 c3') (.slice a6 n6 c6') (.int .i64 U)
        have hE := HFin.out w6 a3 n3 c3' a6 n6 c6' hb6 (p3.below q6 (Nat.le_refl _)) (p6.low (by have := hb3.size; omega)) _ hT7
        have HE : Hid _ := hE
        clear c0 c1 c2 c3 c4 c5 c6 hSV hS3 hS6 hE
        go_wp2
        refine bodyPost_ret (results_row_slot Tryz.results15 _ _ w.heap.size _ _ _ (.int .i64 0) rfl rfl q7 Tryz.underlying35 rfl (by kernel_rfl)) rfl ?_
        exact HE.out
end Go.Proofs.YtnobmgkdieaclaaGreatDoor
