/-
  WHAT THE LAWS' OWN Texts, Same DO.
-/
import Derived.Test.YtnobmgkdieaclaaGreatDoorIpDoF
import Derived.Laws.StructEq
import Derived.Test.YtnobmgkdieaclaaGreatDoorIpGreat
namespace Go.Proofs.YtnobmgkdieaclaaGreatDoor
open Go.RowKit

set_option maxRecDepth 100000 in
set_option maxHeartbeats 2000000 in
theorem Texts_any (w : World) (B : Nat) (va vb : Value) (a b : List (List UInt8)) (ha : TxR.Sl w B va a) (hb : TxR.Sl w B vb b) (hl : a.length ≤ 100000000) :
    Calls Tryz.prog 31 #[va, vb] w fun e w' => e = .returned (.bool (decide (a = b))) ∧ Below w.heap.size w w' := by
  obtain ⟨ada, ca, rfl, hca⟩ := ha.shape
  obtain ⟨adb, cb, rfl, hcb⟩ := hb.shape
  by_cases hlen : a.length = b.length
  · have q0 : ((a.length : Int) != (b.length : Int)) = false := by simp; omega
    go_enter Tryz.func31, Tryz.ntmps31
    go_wp2
    go_loopw [5] (fun i wr => ∃ k : Nat, k ≤ a.length ∧ i = .int .i64 (k : Int) ∧ a.take k = b.take k ∧ ∃ q, wr = w.drewN q) (fun i _ => a.length - (intOf i).toNat)
    case atStart => exact ⟨0, Nat.zero_le _, rfl, rfl, 0, rfl⟩
    case round =>
      obtain ⟨k, hk, rfl, hall, q, rfl⟩ := hrel
      have HA : Hid _ := hall
      clear hall
      by_cases hlt : k < a.length
      · have hlt2 : k < b.length := by omega
        obtain ⟨b1, o1, c1, e1, -, p1⟩ := TxR.at ha hlt
        obtain ⟨b2, o2, c2, e2, -, p2⟩ := TxR.at hb hlt2
        simp only [Value.slice.injEq] at e1 e2
        obtain ⟨rfl, -, rfl⟩ := e1
        obtain ⟨rfl, -, rfl⟩ := e2
        have i1 : (k : Int) < (a.length : Int) := by omega
        have i2 : (k : Int) < (b.length : Int) := by omega
        have HE := beq_str a[k] b[k]
        have HS : Hid (a.take (k + 1) = a.take k ++ [a[k]] ∧ b.take (k + 1) = b.take k ++ [b[k]]) := ⟨List.take_succ_eq_append_getElem hlt, List.take_succ_eq_append_getElem hlt2⟩
        by_cases hxy : a[k] = b[k]
        · rw [decide_eq_true hxy] at HE
          have HX : Hid _ := hxy
          clear hxy
          generalize str a[k] = x at *
          generalize str b[k] = y at *
          go_wp2_with fail
          go_quiet (fail)
          go_wp2
          refine ⟨⟨k + 1, by omega, by go_num, ?_, _, rfl⟩, by simp [intOf]; omega⟩
          rw [HS.out.1, HS.out.2, HA.out, HX.out]
        · rw [decide_eq_false hxy] at HE
          have HX : Hid _ := hxy
          clear hxy
          generalize str a[k] = x at *
          generalize str b[k] = y at *
          go_wp2_with fail
          go_quiet (fail)
          go_wp2
          go_ret
          rw [decide_eq_false]
          · exact ⟨rfl, (Turn.refl [] w |>.drewN _ |>.drewN _).below (by simp)⟩
          · intro hab
            subst hab
            exact HX.out rfl
      · obtain rfl : k = a.length := by omega
        have i1 : ¬ (a.length : Int) < (a.length : Int) := by omega
        have e := HA.out
        rw [List.take_length, hlen, List.take_length] at e
        have HX : Hid _ := e
        clear e
        go_wp2
        go_ret
        rw [decide_eq_true HX.out]
        exact ⟨rfl, (Turn.refl [] w |>.drewN _).below (by simp)⟩
  · have q0 : ((a.length : Int) != (b.length : Int)) = true := by simp; omega
    go_enter Tryz.func31, Tryz.ntmps31
    go_wp2
    go_ret
    rw [decide_eq_false (by rintro rfl; exact hlen rfl)]
    exact ⟨rfl, Below.refl _ _⟩
theorem stood_ev : Tryz.prog.stoodInHeld 33 = false := by kernel_rfl
theorem guard_ev0 : Tryz.prog.eqGuardType Tryz.prog.depth 33 = false := by kernel_rfl
theorem str_toL {a b : List UInt8} (h : (str a).toList = (str b).toList) : a = b := by
  rw [ByteArray.toList_eq, ByteArray.toList_eq, str_toList, str_toList] at h
  exact h
def evA (e : Ip.Ev) : Array Value := #[.int .i64 (e.kind : Int), .string (str e.path), .int .i64 (e.why : Int), .string (str e.text)]
theorem eq_ev (W : World) (a b : Ip.Ev) : (Op.equalIn 10000 33 (.agg (evA a)) (.agg (evA b))).run Tryz.prog W = .ok (decide (a = b)) W := by
  rw [show (10000 : Nat) = 9999 + 1 from rfl, run_equalIn_agg W 9999 33 _ _ (by simp [Program.fieldsOf, Tryz.underlying33]) stood_ev]
  simp [Program.fieldsOf, Tryz.underlying33, go_sem, evA]
  by_cases h : a = b
  · subst h; simp
  · rw [decide_eq_false h]
    by_cases h1 : a.kind = b.kind
    · rw [if_pos (by omega)]
      by_cases h2 : (str a.path).toList = (str b.path).toList
      · rw [if_pos h2]
        by_cases h3 : a.why = b.why
        · rw [if_pos (by omega)]
          by_cases h4 : (str a.text).toList = (str b.text).toList
          · exact absurd (by obtain ⟨_, _, _, _⟩ := a; obtain ⟨_, _, _, _⟩ := b; simp only at h1 h2 h3 h4; rw [h1, str_toL h2, h3, str_toL h4]) h
          · rw [if_neg h4]
        · rw [if_neg (by omega)]
      · rw [if_neg h2]
    · rw [if_neg (by omega)]
theorem neq_ev (W : World) (a b : Ip.Ev) : (Go.binOp .neq 33 (.agg (evA a)) (.agg (evA b))).run Tryz.prog W = .ok (.bool (!decide (a = b))) W := by
  rw [run_neq_struct, eq_ev]; rfl
theorem eql_ev (W : World) (a b : Ip.Ev) : (Go.binOp .eql 33 (.agg (evA a)) (.agg (evA b))).run Tryz.prog W = .ok (.bool (decide (a = b))) W := by
  rw [run_eql_struct, eq_ev]; rfl
theorem guard_ev (W : World) (op : BinOp) (x y : Operand) (xs ys : Array Value) : (eqGuard op 33 x y (.agg xs) (.agg ys)).run Tryz.prog W = .ok () W := run_eqGuard_agg W op 33 x y xs ys guard_ev0

/-- what runs come to, held against each other -/
structure Rn where
  ev : Ip.Ev
  outs : List Ip.B
  needs : List Ip.B
  used : Nat
deriving DecidableEq
def Ip.St.rn (s : Ip.St) : Rn := ⟨s.ev, s.outs, s.needs, s.used⟩
/-- such a value that lies here -/
def RnV (w : World) (v : Value) (r : Rn) : Prop := ∃ oa on oc na nn nc, v = ranV r.ev (.slice oa on oc) (.slice na nn nc) r.used ∧ TxR.Sl w w.heap.size (.slice oa on oc) r.outs ∧ TxR.Sl w w.heap.size (.slice na nn nc) r.needs
theorem RnV.below {w w' : World} {v : Value} {r : Rn} (h : RnV w v r) (hb : Below w.heap.size w w') : RnV w' v r := by
  obtain ⟨oa, on, oc, na, nn, nc, e, h1, h2⟩ := h
  exact ⟨oa, on, oc, na, nn, nc, e, (h1.below hb (Nat.le_refl _)).mono hb.size, (h2.below hb (Nat.le_refl _)).mono hb.size⟩
set_option maxRecDepth 100000 in
set_option maxHeartbeats 2000000 in
theorem Same_any (w : World) (va vb : Value) (a b : Rn) (ha : RnV w va a) (hb : RnV w vb b) (h1 : a.outs.length ≤ 1000) (h2 : a.needs.length ≤ 1000) :
    Calls Tryz.prog 26 #[va, vb] w fun e w' => e = .returned (.bool (decide (a = b))) ∧ Below w.heap.size w w' := by
  obtain ⟨oa, on, oc, na, nn, nc, rfl, p1, p2⟩ := ha
  obtain ⟨ob, om, od, nb, nm, nd, rfl, q1, q2⟩ := hb
  have hT1 := fun W (hW : Below w.heap.size w W) => Texts_any W w.heap.size _ _ a.outs b.outs (p1.below hW (Nat.le_refl _)) (q1.below hW (Nat.le_refl _)) (by omega)
  have hT2 := fun W (hW : Below w.heap.size w W) => Texts_any W w.heap.size _ _ a.needs b.needs (p2.below hW (Nat.le_refl _)) (q2.below hW (Nat.le_refl _)) (by omega)
  clear p1 p2 q1 q2
  have heq := fun W => eql_ev W a.ev b.ev
  have hgd := fun W x y => guard_ev W .eql x y (evA a.ev) (evA b.ev)
  have HE : Hid (decide (a = b) = (decide (a.ev = b.ev) && (decide (a.outs = b.outs) && (decide (a.needs = b.needs) && ((a.used : Int) == (b.used : Int)))))) := by
    show _ = _
    obtain ⟨a1, a2, a3, a4⟩ := a
    obtain ⟨b1, b2, b3, b4⟩ := b
    rw [Bool.eq_iff_iff]
    have e4 : ((a4 : Int) = (b4 : Int)) ↔ a4 = b4 := by omega
    simp only [decide_eq_true_eq, Bool.and_eq_true, Rn.mk.injEq, beq_iff_eq, e4]
  unfold evA at heq hgd
  unfold ranV
  generalize (a.ev.kind : Int) = KA at *
  generalize (b.ev.kind : Int) = KB at *
  generalize (a.ev.why : Int) = YA at *
  generalize (b.ev.why : Int) = YB at *
  generalize str a.ev.path = PA at *
  generalize str b.ev.path = PB at *
  generalize str a.ev.text = TA at *
  generalize str b.ev.text = TB at *
  generalize decide (a.ev = b.ev) = E1 at *
  generalize decide (a.outs = b.outs) = E2 at *
  generalize decide (a.needs = b.needs) = E3 at *
  go_enter Tryz.func26, Tryz.ntmps26
  obtain ⟨r0, r1, hb0, hz0⟩ := Rw.two w #[.int .i64 KA, .string PA, .int .i64 YA, .string TA, .slice oa on oc, .slice na nn nc, .int .i64 (a.used : Int)] #[.int .i64 KB, .string PB, .int .i64 YB, .string TB, .slice ob om od, .slice nb nm nd, .int .i64 (b.used : Int)] 35 35
  obtain ⟨UA, hUA⟩ : ∃ UA : Int, (a.used : Int) = UA := ⟨_, rfl⟩
  obtain ⟨UB, hUB⟩ : ∃ UB : Int, (b.used : Int) = UB := ⟨_, rfl⟩
  rw [hUA] at r0 r1 hb0 hz0 HE
  rw [hUB] at r0 r1 hb0 hz0 HE
  rw [hUA, hUB]
  clear hUA hUB
  go_upto_region 1 with fail
  generalize (w.alloc (.cells #[.int .i64 KA, .string PA, .int .i64 YA, .string TA, .slice oa on oc, .slice na nn nc, .int .i64 UA] 35)).alloc (.cells #[.int .i64 KB, .string PB, .int .i64 YB, .string TB, .slice ob om od, .slice nb nm nd, .int .i64 UB] 35) = Y at *
  have k0 := r0.cell 0
  have k1 := r0.cell 1
  have k2 := r0.cell 2
  have k3 := r0.cell 3
  have k4 := r0.cell 4
  have k5 := r0.cell 5
  have k6 := r0.cell 6
  have l0 := r1.cell 0
  have l1 := r1.cell 1
  have l2 := r1.cell 2
  have l3 := r1.cell 3
  have l4 := r1.cell 4
  have l5 := r1.cell 5
  have l6 := r1.cell 6
  cases E1 with
  | false =>
    go_wp2
    go_ret
    rw [HE.out]
    exact ⟨rfl, hb0⟩
  | true =>
    cases E2 with
    | false =>
      go_wp2_with (first | (go_at_call 31; first | (refine (hT2 _ hbx).mono ?_; rintro e w2 ⟨rfl, hb2⟩; have hby := hbx.trans (hb2.mono hbx.size); have r0'' := r0'.below hb2 r0'.lt; have r1'' := r1'.below hb2 r1'.lt; have z6 := r0''.cell 6; have v6 := r1''.cell 6) | (refine (hT1 _ hb0).mono ?_; rintro e w1 ⟨rfl, hb1⟩; have hbx := hb0.trans (hb1.mono hb0.size); have r0' := r0.below hb1 r0.lt; have r1' := r1.below hb1 r1.lt; have x5 := r0'.cell 5; have y5 := r1'.cell 5; have x6 := r0'.cell 6; have y6 := r1'.cell 6)) | fail)
      go_ret
      rw [HE.out]
      exact ⟨rfl, hbx⟩
    | true =>
      cases E3 with
      | false =>
        go_wp2_with (first | (go_at_call 31; first | (refine (hT2 _ hbx).mono ?_; rintro e w2 ⟨rfl, hb2⟩; have hby := hbx.trans (hb2.mono hbx.size); have r0'' := r0'.below hb2 r0'.lt; have r1'' := r1'.below hb2 r1'.lt; have z6 := r0''.cell 6; have v6 := r1''.cell 6) | (refine (hT1 _ hb0).mono ?_; rintro e w1 ⟨rfl, hb1⟩; have hbx := hb0.trans (hb1.mono hb0.size); have r0' := r0.below hb1 r0.lt; have r1' := r1.below hb1 r1.lt; have x5 := r0'.cell 5; have y5 := r1'.cell 5; have x6 := r0'.cell 6; have y6 := r1'.cell 6)) | fail)
        go_ret
        rw [HE.out]
        exact ⟨rfl, hby⟩
      | true =>
        go_wp2_with (first | (go_at_call 31; first | (refine (hT2 _ hbx).mono ?_; rintro e w2 ⟨rfl, hb2⟩; have hby := hbx.trans (hb2.mono hbx.size); have r0'' := r0'.below hb2 r0'.lt; have r1'' := r1'.below hb2 r1'.lt; have z6 := r0''.cell 6; have v6 := r1''.cell 6) | (refine (hT1 _ hb0).mono ?_; rintro e w1 ⟨rfl, hb1⟩; have hbx := hb0.trans (hb1.mono hb0.size); have r0' := r0.below hb1 r0.lt; have r1' := r1.below hb1 r1.lt; have x5 := r0'.cell 5; have y5 := r1'.cell 5; have x6 := r0'.cell 6; have y6 := r1'.cell 6)) | fail)
        go_ret
        rw [HE.out]
        exact ⟨by simp, hby⟩
end Go.Proofs.YtnobmgkdieaclaaGreatDoor

namespace Go.Proofs.YtnobmgkdieaclaaGreatDoor
open Go.RowKit

namespace Ip
theorem joinW_bulk : ∀ a : List B, (joinW a).length ≤ Ac.bulkL a
  | [] => Nat.le_refl _
  | [w] => by show w.length ≤ 1 + w.length + 0; omega
  | w :: v :: r => by
    have := joinW_bulk (v :: r)
    show (w ++ 32 :: joinW (v :: r)).length ≤ 1 + w.length + Ac.bulkL (v :: r)
    rw [List.length_append, List.length_cons]
    omega
theorem good_of : ∀ {f : Ac.Fo}, Ac.one f = true → Ac.wgt f ≤ 4000 → good f
  | .nil, _, _ => trivial
  | .cons op a n b t, h, hw => by
    simp only [Ac.one, Bool.and_eq_true] at h
    obtain ⟨⟨⟨h1, -⟩, h3⟩, h4⟩ := h
    rw [Ac.wgt] at hw
    have k1 := joinW_bulk a
    have k2 := Ac.bulkL_len a
    have k3 := Ac.wgt_size b
    have k4 := Ac.len_size b
    exact ⟨h1, ⟨by omega, by omega⟩, by omega, good_of h3 (by omega), good_of h4 (by omega)⟩
theorem isP_len {p : B} (h : Pm.isP p = true) : p.length ≤ 60 := (Pm.isP_parts h).1
theorem mayNew_iff {f : Ac.Fo} {ts : List B} {fuel : Int} (h : mayNew f ts fuel = true) : Ac.may f = true ∧ ts ≠ [] ∧ ts.length ≤ 4 ∧ (∀ p ∈ ts, Pm.isP p = true) ∧ 0 ≤ fuel ∧ fuel ≤ 65536 := by
  unfold mayNew mayT at h
  simp only [Bool.and_eq_true, decide_eq_true_eq, List.all_eq_true] at h
  obtain ⟨⟨h1, ⟨⟨h2, h3⟩, h4⟩, -⟩, h5⟩ := h
  exact ⟨h1, by rintro rfl; simp at h2, h3, h4, h5⟩
theorem new_ok {f : Ac.Fo} {ts : List B} {fuel : Int} (h : mayNew f ts fuel = true) (hw : Ac.wgt f ≤ 4000) : (new f ts fuel.toNat).Inv := by
  obtain ⟨h1, h2, h3, h4, h5, h6⟩ := mayNew_iff h
  obtain ⟨m1, m2, -⟩ := Ac.may_iff.1 h1
  refine St.new_inv ⟨⟨Nat.zero_le _, by show fuel.toNat ≤ _; omega, Nat.zero_le _, (by intro p c hc; cases hc), Nat.zero_le _, h3, fun p hp => by have := isP_len (h4 p hp); omega⟩, by show 1 + 0 ≤ 0 + 1; omega, ?_⟩ h2
  intro b hb
  rw [show b = ⟨f, 0, [], []⟩ from List.mem_singleton.1 hb]
  have := Ac.len_size f
  exact ⟨good_of m1 hw, by show f.len ≤ _; omega, Nat.zero_le _, (by intro l hl; cases hl), Nat.zero_le _, Nat.zero_le _⟩
end Ip
theorem Ac.lite_of : ∀ {f : Ac.Fo}, Ac.SzE f → Ac.size f ≤ 1000000 → Ac.lite f
  | .nil, _, _ => trivial
  | .cons _ a _ b t, h, hs => by
    rw [Ac.size] at hs
    have := Ac.len_size b
    exact ⟨h.1, by omega, Ac.lite_of h.2.2.2.1 (by omega), Ac.lite_of h.2.2.2.2 (by omega)⟩
theorem Ac.wid_of : ∀ {f : Ac.Fo}, Ac.SzE f → Ac.wid f
  | .nil, _ => trivial
  | .cons _ a _ b t, h => ⟨by have := h.1; have := reach_is; omega, by have := h.2.2.1; have := reach_is; omega, Ac.wid_of h.2.2.2.1, Ac.wid_of h.2.2.2.2⟩
/-- what a law hands to New -/
theorem Handed.of {w : World} {B : Nat} {vc vt : Value} {f : Ac.Fo} {ts : List (List UInt8)} (h1 : FoS w B vc f) (h2 : TxR.Sl w B vt ts) (h3 : B ≤ w.heap.size) (h4 : f.len ≤ reachBytes) (h5 : Ac.SzE f) (h6 : ts.length ≤ reachBytes) (h7 : ∀ s ∈ ts, s.length ≤ reachBytes) : Handed w B vc vt f ts :=
  ⟨h1, h2, h3, by have := reach_is; omega, Ac.wid_of h5, fun hm => by
    have h8 := (Ac.may_iff.1 hm).2.1
    have := Ac.len_size f
    exact ⟨by omega, Ac.lite_of h5 (by omega)⟩, by have := reach_is; omega, fun s hs => by have := h7 s hs; have := reach_is; omega⟩

/-- one run, and nothing else that is somebody's own -/
def Lives (B0 : Nat) (W : World) (p : Nat) (s : Ip.St) : Prop := ∃ x : RP, x.p = p ∧ RunS W x.own x s ∧ s.Inv ∧ ∀ b ∈ x.own, B0 ≤ b
variable {B0 p : Nat} {W W' : World} {s : Ip.St}
theorem Lives.below (h : Lives B0 W p s) (hb : Below W.heap.size W W') : Lives B0 W' p s := by
  obtain ⟨x, e, h1, h2, h3⟩ := h
  exact ⟨x, e, h1.below hb, h2, h3⟩
theorem Lives.step (h : Lives B0 W p s) (hL : Laid W) (hB : B0 ≤ W.heap.size) : Calls Tryz.prog 25 #[.pointer (some ⟨p, 0, none⟩)] W fun e w' => e = .returned (evV s.step.ev) ∧ Lives B0 w' p s.step ∧ Below B0 W w' := by
  obtain ⟨x, rfl, h1, h2, h3⟩ := h
  refine (Step_any W _ x s h1 h2 hL).mono ?_
  rintro e w' ⟨rfl, z, e1, z1, z2, z3⟩
  refine ⟨rfl, ⟨z, e1, z1.other (fun b hb _ => List.mem_append_left _ hb) (fun b hb => hb) (fun b hb => z1.lt b hb), (Ip.St.step_inv h2).1, fun b hb => ?_⟩, z3.below' hB h3⟩
  rcases z2 b hb with hb | hb
  · exact h3 b hb
  · omega
theorem Lives.give (h : Lives B0 W p s) (h1 : s.ev.kind = 1) (c : List UInt8) (hc : c.length ≤ 140737488351232) (hB : B0 ≤ W.heap.size) : Calls Tryz.prog 20 #[.pointer (some ⟨p, 0, none⟩), .string (str c)] W fun e w' => e = .returned (.int .i64 0) ∧ Lives B0 w' p (s.give c) ∧ Below B0 W w' := by
  obtain ⟨x, rfl, k1, k2, k3⟩ := h
  refine (Give_any c W _ x s k1 k2 h1 hc).mono ?_
  rintro e w' ⟨rfl, z1, z2⟩
  exact ⟨rfl, ⟨x, rfl, z1, Ip.St.give_inv k2 h1 c, k3⟩, z2.below' hB (by simp; exact ⟨k3 _ x.p_own, k3 _ x.mt_own⟩)⟩
theorem Lives.lack (h : Lives B0 W p s) (h1 : s.ev.kind = 1) (hB : B0 ≤ W.heap.size) : Calls Tryz.prog 21 #[.pointer (some ⟨p, 0, none⟩)] W fun e w' => e = .returned (.int .i64 0) ∧ Lives B0 w' p s.lack ∧ Below B0 W w' := by
  obtain ⟨x, rfl, k1, k2, k3⟩ := h
  refine (Lack_any W _ x s k1 k2.some h1).mono ?_
  rintro e w' ⟨rfl, z1, z2⟩
  exact ⟨rfl, ⟨x, rfl, z1, Ip.St.lack_inv k2, k3⟩, z2.below' hB (by simp; exact k3 _ x.p_own)⟩
theorem Lives.outs (h : Lives B0 W p s) : Calls Tryz.prog 18 #[.pointer (some ⟨p, 0, none⟩)] W fun e w' => ∃ a n c, e = .returned (.slice a n c) ∧ TxR.Own w' W.heap.size (.slice a n c) s.outs ∧ Below W.heap.size W w' := by
  obtain ⟨x, rfl, k1, k2, k3⟩ := h
  exact Outputs_any W _ x s k1 k2
theorem Lives.needs (h : Lives B0 W p s) : Calls Tryz.prog 17 #[.pointer (some ⟨p, 0, none⟩)] W fun e w' => ∃ a n c, e = .returned (.slice a n c) ∧ TxR.Own w' W.heap.size (.slice a n c) s.needs ∧ Below W.heap.size W w' := by
  obtain ⟨x, rfl, k1, k2, k3⟩ := h
  exact Needs_any W _ x s k1 k2.some k2.len
theorem Lives.used (h : Lives B0 W p s) : Calls Tryz.prog 19 #[.pointer (some ⟨p, 0, none⟩)] W fun e w' => e = .returned (.int .i64 (s.used : Int)) ∧ w' = W := by
  obtain ⟨x, rfl, k1, k2, k3⟩ := h
  exact Used_any W _ x s k1 k2.some
end Go.Proofs.YtnobmgkdieaclaaGreatDoor

namespace Go.Proofs.YtnobmgkdieaclaaGreatDoor
open Go.RowKit

/-- the works' action -/
def wkC : Ac.Fo := .cons 2 [[97, 46, 99]] 0 .nil (.cons 4 [] 0 .nil (.cons 8 [[97, 46, 111]] 0 .nil .nil))
def wkT : List (List UInt8) := [[97, 46, 111]]
def wkS0 : Ip.St := Ip.new wkC wkT 100
def wkS1 : Ip.St := wkS0.step
def wkS2 : Ip.St := wkS1.give [97, 98]
def wkS3 : Ip.St := wkS2.step
theorem wk_may : Ip.mayNew wkC wkT 100 = true := by kernel_rfl
theorem wk_e1 : wkS1.ev = ⟨1, [97, 46, 99], 0, []⟩ := by kernel_rfl
theorem wk_e3 : wkS3.ev = ⟨2, [], 0, []⟩ := by kernel_rfl
theorem wk_o3 : wkS3.outs = [[65, 66]] := by kernel_rfl
theorem wk_u3 : wkS3.used = 5 := by kernel_rfl
theorem wk_lite : wkC.len ≤ 1000000 ∧ Ac.lite wkC ∧ Ac.wid wkC := by
  refine ⟨by decide, ?_, ?_⟩
  · simp [Ac.lite, wkC, Ac.Fo.len]
  · simp [Ac.wid, wkC, Ac.Fo.len]
/-- the world in which works reads its action -/
def wkW (w : World) : World := (((w.alloc (.cells #[.string ⟨#[97, 46, 99]⟩] 9)).alloc (.cells #[.string ⟨#[97, 46, 111]⟩] 9)).alloc (.cells #[.int .i64 2, .slice (some ⟨w.heap.size, 0, none⟩) 1 1, .int .i64 0, .slice none 0 0, .int .i64 4, .slice none 0 0, .int .i64 0, .slice none 0 0, .int .i64 8, .slice (some ⟨w.heap.size + 1, 0, none⟩) 1 1, .int .i64 0, .slice none 0 0] 75)).alloc (.cells #[.string ⟨#[97, 46, 111]⟩] 9)
theorem Rc.ofRw {α : Type} {R : Rc α} {W : World} {g : Nat} {cs : Array Value} {t : TypeId} {l : List α} {B n : Nat} (h : Rw W g cs t) (hl : cs.toList = R.vals l) (hn : n = l.length) (hg : g < B) : R.Sl W B (.slice (some ⟨g, 0, none⟩) n n) l := by
  subst hn
  refine ⟨_, l.length, rfl, Nat.le_refl _, (fun h => by cases h), fun _ => ⟨g, 0, rfl, hg, fun j u hu => ?_⟩⟩
  rw [Nat.zero_add, h.cell j, ← Array.getElem?_toList, hl]
  exact hu
theorem wk_handed (w : World) : Handed (wkW w) (wkW w).heap.size (.slice (some ⟨w.heap.size + 1 + 1, 0, none⟩) 3 3) (.slice (some ⟨w.heap.size + 1 + 1 + 1, 0, none⟩) 1 1) wkC wkT ∧ Below w.heap.size w (wkW w) := by
  unfold wkW
  obtain ⟨r0, r1, r2, hb3, hz3⟩ := Rw.three w #[.string ⟨#[97, 46, 99]⟩] #[.string ⟨#[97, 46, 111]⟩] #[.int .i64 2, .slice (some ⟨w.heap.size, 0, none⟩) 1 1, .int .i64 0, .slice none 0 0, .int .i64 4, .slice none 0 0, .int .i64 0, .slice none 0 0, .int .i64 8, .slice (some ⟨w.heap.size + 1, 0, none⟩) 1 1, .int .i64 0, .slice none 0 0] 9 9 75
  generalize ((w.alloc (.cells #[.string ⟨#[97, 46, 99]⟩] 9)).alloc (.cells #[.string ⟨#[97, 46, 111]⟩] 9)).alloc (.cells #[.int .i64 2, .slice (some ⟨w.heap.size, 0, none⟩) 1 1, .int .i64 0, .slice none 0 0, .int .i64 4, .slice none 0 0, .int .i64 0, .slice none 0 0, .int .i64 8, .slice (some ⟨w.heap.size + 1, 0, none⟩) 1 1, .int .i64 0, .slice none 0 0] 75) = W3 at *
  have r3 := Rw.new W3 #[.string ⟨#[97, 46, 111]⟩] 9
  have hb4 := (Below.refl W3.heap.size W3).alloc (Nat.le_refl _) (.cells #[.string ⟨#[97, 46, 111]⟩] 9)
  have hz4 := size_alloc W3 (.cells #[.string ⟨#[97, 46, 111]⟩] 9)
  generalize W3.alloc (.cells #[.string ⟨#[97, 46, 111]⟩] 9) = W4 at *
  rw [hz3] at r3
  have q0 := r0.below hb4 (by omega)
  have q1 := r1.below hb4 (by omega)
  have q2 := r2.below hb4 (by omega)
  obtain ⟨l1, l2, l3⟩ := wk_lite
  refine ⟨⟨⟨[⟨2, some ⟨w.heap.size, 0, none⟩, 1, 1, 0, none, 0, 0⟩, ⟨4, none, 0, 0, 0, none, 0, 0⟩, ⟨8, some ⟨w.heap.size + 1, 0, none⟩, 1, 1, 0, none, 0, 0⟩], Rc.ofRw q2 rfl rfl (by omega), _, _, rfl, rfl, rfl, Rc.ofRw q0 rfl rfl (by omega), ⟨[], Rc.Sl.nil _ _, rfl⟩, _, _, rfl, rfl, rfl, Rc.Sl.nil _ _, ⟨[], Rc.Sl.nil _ _, rfl⟩, _, _, rfl, rfl, rfl, Rc.ofRw q1 rfl rfl (by omega), ⟨[], Rc.Sl.nil _ _, rfl⟩, rfl⟩, Rc.ofRw r3 rfl rfl (by omega), Nat.le_refl _, by omega, l3, fun _ => ⟨l1, l2⟩, by decide, by decide⟩, hb3.trans (hb4.mono (by omega))⟩
set_option maxRecDepth 100000 in
set_option maxHeartbeats 1000000 in
theorem works_any (w : World) (hL : Laid w) : Calls Tryz.prog 12 #[] w fun e w' => e = .returned (.bool true) ∧ Below w.heap.size w w' := by
  obtain ⟨hli, hb5⟩ := wk_handed w
  have hN := New_yes wkC wkT 100 _ _ (wkW w) _ [] hli (hL.below hb5 hL.size) (by omega) (by omega) wk_may (by simp)
  have hI : wkS0.Inv := Ip.new_ok wk_may (by decide)
  have hN2 : Calls Tryz.prog 14 #[.slice (some ⟨w.heap.size + 1 + 1, 0, none⟩) 3 3, .slice (some ⟨w.heap.size + 1 + 1 + 1, 0, none⟩) 1 1, .int .i64 100] (wkW w) fun e w' => (∃ p, e = .returned (.tuple #[.pointer (some ⟨p, 0, none⟩), .int .i64 0]) ∧ Lives w.heap.size w' p wkS0) ∧ Below w.heap.size w w' := by
    refine hN.mono ?_
    rintro e w' ⟨x, rfl, h1, h2, h3⟩
    rw [List.append_nil] at h1
    exact ⟨⟨x.p, rfl, x, rfl, h1, hI, fun b hb => by have := h2 b hb; have := hb5.size; omega⟩, hb5.trans (h3.mono hb5.size)⟩
  have i1 := (Ip.St.step_inv hI).1
  have k1 : wkS1.ev.kind = 1 := by rw [wk_e1]
  have i2 : wkS2.Inv := Ip.St.give_inv i1 k1 _
  clear hN hli hb5
  unfold wkW at hN2
  have cS1 := fun W p (h : Lives w.heap.size W p wkS0) (hb : Below w.heap.size w W) => h.step (hL.below hb hL.size) hb.size
  have cG := fun W p (h : Lives w.heap.size W p wkS1) (hb : Below w.heap.size w W) => h.give k1 [97, 98] (by decide) hb.size
  have cS3 := fun W p (h : Lives w.heap.size W p wkS2) (hb : Below w.heap.size w W) => h.step (hL.below hb hL.size) hb.size
  have cO := fun W p (h : Lives w.heap.size W p wkS3) => h.outs
  have cU := fun W p (h : Lives w.heap.size W p wkS3) => h.used
  have n1 := fun W => neq_ev W ⟨1, [97, 46, 99], 0, []⟩ ⟨1, [97, 46, 99], 0, []⟩
  have g1 := fun W x y => guard_ev W .neq x y (evA ⟨1, [97, 46, 99], 0, []⟩) (evA ⟨1, [97, 46, 99], 0, []⟩)
  have f3 := fun W => field_ev W 2 ⟨#[]⟩ 0 ⟨#[]⟩
  rw [decide_eq_true rfl] at n1
  change ∀ W p, Lives w.heap.size W p wkS0 → Below w.heap.size w W → Calls _ _ _ W fun e w' => e = .returned (evV wkS1.ev) ∧ Lives w.heap.size w' p wkS1 ∧ Below w.heap.size W w' at cS1
  change ∀ W p, Lives w.heap.size W p wkS1 → Below w.heap.size w W → Calls _ _ _ W fun e w' => e = .returned (.int .i64 0) ∧ Lives w.heap.size w' p wkS2 ∧ Below w.heap.size W w' at cG
  change ∀ W p, Lives w.heap.size W p wkS2 → Below w.heap.size w W → Calls _ _ _ W fun e w' => e = .returned (evV wkS3.ev) ∧ Lives w.heap.size w' p wkS3 ∧ Below w.heap.size W w' at cS3
  rw [wk_e1] at cS1
  rw [wk_e3] at cS3
  rw [wk_o3] at cO
  rw [wk_u3] at cU
  clear hI i1 i2 k1
  generalize wkS0 = s0 at *
  generalize wkS1 = s1 at *
  generalize wkS2 = s2 at *
  generalize wkS3 = s3 at *
  replace cS1 : ∀ W p, Lives w.heap.size W p s0 → Below w.heap.size w W → Calls Tryz.prog 25 #[.pointer (some ⟨p, 0, none⟩)] W fun e w' => e = .returned (.agg #[.int .i64 1, .string ⟨#[97, 46, 99]⟩, .int .i64 0, .string ⟨#[]⟩]) ∧ Lives w.heap.size w' p s1 ∧ Below w.heap.size W w' := cS1
  replace cG : ∀ W p, Lives w.heap.size W p s1 → Below w.heap.size w W → Calls Tryz.prog 20 #[.pointer (some ⟨p, 0, none⟩), .string ⟨#[97, 98]⟩] W fun e w' => e = .returned (.int .i64 0) ∧ Lives w.heap.size w' p s2 ∧ Below w.heap.size W w' := cG
  replace cS3 : ∀ W p, Lives w.heap.size W p s2 → Below w.heap.size w W → Calls Tryz.prog 25 #[.pointer (some ⟨p, 0, none⟩)] W fun e w' => e = .returned (.agg #[.int .i64 2, .string ⟨#[]⟩, .int .i64 0, .string ⟨#[]⟩]) ∧ Lives w.heap.size w' p s3 ∧ Below w.heap.size W w' := cS3
  replace n1 : ∀ W, (Go.binOp .neq 33 (.agg #[.int .i64 1, .string ⟨#[97, 46, 99]⟩, .int .i64 0, .string ⟨#[]⟩]) (.agg #[.int .i64 1, .string ⟨#[97, 46, 99]⟩, .int .i64 0, .string ⟨#[]⟩])).run Tryz.prog W = .ok (.bool false) W := n1
  replace g1 : ∀ W x y, (eqGuard .neq 33 x y (.agg #[.int .i64 1, .string ⟨#[97, 46, 99]⟩, .int .i64 0, .string ⟨#[]⟩]) (.agg #[.int .i64 1, .string ⟨#[97, 46, 99]⟩, .int .i64 0, .string ⟨#[]⟩])).run Tryz.prog W = .ok () W := g1
  replace cU : ∀ W p, Lives w.heap.size W p s3 → Calls Tryz.prog 19 #[.pointer (some ⟨p, 0, none⟩)] W fun e w' => e = .returned (.int .i64 5) ∧ w' = W := cU
  go_enter Tryz.func12, Tryz.ntmps12
  go_upto_region 2 with (first | (go_at_call 14; refine hN2.mono ?_; rintro e w1 ⟨⟨p, rfl, hl0⟩, hb1⟩) | fail)
  go_upto_region 4 with (first
    | (go_at_call 25; first
        | (refine (cS3 _ _ hl2 hb3).mono ?_; rintro e w4 ⟨rfl, hl3, hq3⟩; have hb4 := hb3.trans hq3)
        | (refine (cS1 _ _ hl0 hb1).mono ?_; rintro e w2 ⟨rfl, hl1, hq1⟩; have hb2 := hb1.trans hq1))
    | (go_at_call 20; refine (cG _ _ hl1 hb2).mono ?_; rintro e w3 ⟨rfl, hl2, hq2⟩; have hb3 := hb2.trans hq2)
    | fail)
  go_upto_region 5 with (first | (go_at_call 18; refine (cO _ _ hl3).mono ?_; rintro e w5 ⟨a5, n5, c5, rfl, p5, q5⟩) | fail)
  obtain ⟨g5, o5, cc, e5, -, s5⟩ := TxR.at p5.sl (k := 0) (by decide)
  simp only [Value.slice.injEq] at e5
  obtain ⟨rfl, rfl, rfl⟩ := e5
  rw [Nat.add_zero] at s5
  have s6 : w5.cell? ⟨g5, o5, none⟩ = some (.string ⟨#[65, 66]⟩) := s5
  have hl4 := hl3.below q5
  have hb5 := hb4.trans (q5.mono hb4.size)
  clear s5 p5
  go_wp2_with (first | (go_at_call 19; refine (cU _ _ hl4).mono ?_; rintro e w6 ⟨rfl, hw⟩; rw [hw]; clear hw) | fail)
  go_ret
  exact ⟨rfl, hb5⟩
end Go.Proofs.YtnobmgkdieaclaaGreatDoor
