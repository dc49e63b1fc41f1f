/-
  WHAT THE LAWS' OWN Texts, Same DO.
-/
import Derived.Test.YtnobmgkdieaclaaGreatDoorIpDoF
import Derived.Laws.StructEq
namespace Go.Proofs.YtnobmgkdieaclaaGreatDoor
open Go.RowKit

set_option maxRecDepth 100000 in
set_option maxHeartbeats 2000000 in
theorem Texts_any (w : World) (B : Nat) (va vb : Value) (a b : List (List UInt8)) (ha : TxR.Sl w B va a) (hb : TxR.Sl w B vb b) (hl : a.length ≤ 100000000) :
    Calls Tryz.prog 31 #[va, vb] w fun e w' => e = .returned (.bool (decide (a = b))) ∧ Below w.heap.size w w' := by
  obtain ⟨ada, ca, rfl, hca⟩ := ha.shape
  obtain ⟨adb, cb, rfl, hcb⟩ := hb.shape
  by_cases hlen : a.length = b.length
  · have q0 : ((a.length : Int) != (b.length : Int)) = false := by simp; omega
    go_enter Tryz.func31, Tryz.ntmps31
    go_wp2
    go_loopw [5] (fun i wr => ∃ k : Nat, k ≤ a.length ∧ i = .int .i64 (k : Int) ∧ a.take k = b.take k ∧ ∃ q, wr = w.drewN q) (fun i _ => a.length - (intOf i).toNat)
    case atStart => exact ⟨0, Nat.zero_le _, rfl, rfl, 0, rfl⟩
    case round =>
      obtain ⟨k, hk, rfl, hall, q, rfl⟩ := hrel
      have HA : Hid _ := hall
      clear hall
      by_cases hlt : k < a.length
      · have hlt2 : k < b.length := by omega
        obtain ⟨b1, o1, c1, e1, -, p1⟩ := TxR.at ha hlt
        obtain ⟨b2, o2, c2, e2, -, p2⟩ := TxR.at hb hlt2
        simp only [Value.slice.injEq] at e1 e2
        obtain ⟨rfl, -, rfl⟩ := e1
        obtain ⟨rfl, -, rfl⟩ := e2
        have i1 : (k : Int) < (a.length : Int) := by omega
        have i2 : (k : Int) < (b.length : Int) := by omega
        have HE := beq_str a[k] b[k]
        have HS : Hid (a.take (k + 1) = a.take k ++ [a[k]] ∧ b.take (k + 1) = b.take k ++ [b[k]]) := ⟨List.take_succ_eq_append_getElem hlt, List.take_succ_eq_append_getElem hlt2⟩
        by_cases hxy : a[k] = b[k]
        · rw [decide_eq_true hxy] at HE
          have HX : Hid _ := hxy
          clear hxy
          generalize str a[k] = x at *
          generalize str b[k] = y at *
          go_wp2_with fail
          go_quiet (fail)
          go_wp2
          refine ⟨⟨k + 1, by omega, by go_num, ?_, _, rfl⟩, by simp [intOf]; omega⟩
          rw [HS.out.1, HS.out.2, HA.out, HX.out]
        · rw [decide_eq_false hxy] at HE
          have HX : Hid _ := hxy
          clear hxy
          generalize str a[k] = x at *
          generalize str b[k] = y at *
          go_wp2_with fail
          go_quiet (fail)
          go_wp2
          go_ret
          rw [decide_eq_false]
          · exact ⟨rfl, (Turn.refl [] w |>.drewN _ |>.drewN _).below (by simp)⟩
          · intro hab
            subst hab
            exact HX.out rfl
      · obtain rfl : k = a.length := by omega
        have i1 : ¬ (a.length : Int) < (a.length : Int) := by omega
        have e := HA.out
        rw [List.take_length, hlen, List.take_length] at e
        have HX : Hid _ := e
        clear e
        go_wp2
        go_ret
        rw [decide_eq_true HX.out]
        exact ⟨rfl, (Turn.refl [] w |>.drewN _).below (by simp)⟩
  · have q0 : ((a.length : Int) != (b.length : Int)) = true := by simp; omega
    go_enter Tryz.func31, Tryz.ntmps31
    go_wp2
    go_ret
    rw [decide_eq_false (by rintro rfl; exact hlen rfl)]
    exact ⟨rfl, Below.refl _ _⟩
theorem stood_ev : Tryz.prog.stoodInHeld 33 = false := by kernel_rfl
theorem guard_ev0 : Tryz.prog.eqGuardType Tryz.prog.depth 33 = false := by kernel_rfl
theorem str_toL {a b : List UInt8} (h : (str a).toList = (str b).toList) : a = b := by
  rw [ByteArray.toList_eq, ByteArray.toList_eq, str_toList, str_toList] at h
  exact h
def evA (e : Ip.Ev) : Array Value := #[.int .i64 (e.kind : Int), .string (str e.path), .int .i64 (e.why : Int), .string (str e.text)]
theorem eq_ev (W : World) (a b : Ip.Ev) : (Op.equalIn 10000 33 (.agg (evA a)) (.agg (evA b))).run Tryz.prog W = .ok (decide (a = b)) W := by
  rw [show (10000 : Nat) = 9999 + 1 from rfl, run_equalIn_agg W 9999 33 _ _ (by simp [Program.fieldsOf, Tryz.underlying33]) stood_ev]
  simp [Program.fieldsOf, Tryz.underlying33, go_sem, evA]
  by_cases h : a = b
  · subst h; simp
  · rw [decide_eq_false h]
    by_cases h1 : a.kind = b.kind
    · rw [if_pos (by omega)]
      by_cases h2 : (str a.path).toList = (str b.path).toList
      · rw [if_pos h2]
        by_cases h3 : a.why = b.why
        · rw [if_pos (by omega)]
          by_cases h4 : (str a.text).toList = (str b.text).toList
          · exact absurd (by obtain ⟨_, _, _, _⟩ := a; obtain ⟨_, _, _, _⟩ := b; simp only at h1 h2 h3 h4; rw [h1, str_toL h2, h3, str_toL h4]) h
          · rw [if_neg h4]
        · rw [if_neg (by omega)]
      · rw [if_neg h2]
    · rw [if_neg (by omega)]
theorem neq_ev (W : World) (a b : Ip.Ev) : (Go.binOp .neq 33 (.agg (evA a)) (.agg (evA b))).run Tryz.prog W = .ok (.bool (!decide (a = b))) W := by
  rw [run_neq_struct, eq_ev]; rfl
theorem eql_ev (W : World) (a b : Ip.Ev) : (Go.binOp .eql 33 (.agg (evA a)) (.agg (evA b))).run Tryz.prog W = .ok (.bool (decide (a = b))) W := by
  rw [run_eql_struct, eq_ev]; rfl
theorem guard_ev (W : World) (op : BinOp) (x y : Operand) (xs ys : Array Value) : (eqGuard op 33 x y (.agg xs) (.agg ys)).run Tryz.prog W = .ok () W := run_eqGuard_agg W op 33 x y xs ys guard_ev0

/-- what runs come to, held against each other -/
structure Rn where
  ev : Ip.Ev
  outs : List Ip.B
  needs : List Ip.B
  used : Nat
deriving DecidableEq
def Ip.St.rn (s : Ip.St) : Rn := ⟨s.ev, s.outs, s.needs, s.used⟩
/-- such a value that lies here -/
def RnV (w : World) (v : Value) (r : Rn) : Prop := ∃ oa on oc na nn nc, v = ranV r.ev (.slice oa on oc) (.slice na nn nc) r.used ∧ TxR.Sl w w.heap.size (.slice oa on oc) r.outs ∧ TxR.Sl w w.heap.size (.slice na nn nc) r.needs
theorem RnV.below {w w' : World} {v : Value} {r : Rn} (h : RnV w v r) (hb : Below w.heap.size w w') : RnV w' v r := by
  obtain ⟨oa, on, oc, na, nn, nc, e, h1, h2⟩ := h
  exact ⟨oa, on, oc, na, nn, nc, e, (h1.below hb (Nat.le_refl _)).mono hb.size, (h2.below hb (Nat.le_refl _)).mono hb.size⟩
set_option maxRecDepth 100000 in
set_option maxHeartbeats 2000000 in
theorem Same_any (w : World) (va vb : Value) (a b : Rn) (ha : RnV w va a) (hb : RnV w vb b) (h1 : a.outs.length ≤ 1000) (h2 : a.needs.length ≤ 1000) :
    Calls Tryz.prog 26 #[va, vb] w fun e w' => e = .returned (.bool (decide (a = b))) ∧ Below w.heap.size w w' := by
  obtain ⟨oa, on, oc, na, nn, nc, rfl, p1, p2⟩ := ha
  obtain ⟨ob, om, od, nb, nm, nd, rfl, q1, q2⟩ := hb
  have hT1 := fun W (hW : Below w.heap.size w W) => Texts_any W w.heap.size _ _ a.outs b.outs (p1.below hW (Nat.le_refl _)) (q1.below hW (Nat.le_refl _)) (by omega)
  have hT2 := fun W (hW : Below w.heap.size w W) => Texts_any W w.heap.size _ _ a.needs b.needs (p2.below hW (Nat.le_refl _)) (q2.below hW (Nat.le_refl _)) (by omega)
  clear p1 p2 q1 q2
  have heq := fun W => eql_ev W a.ev b.ev
  have hgd := fun W x y => guard_ev W .eql x y (evA a.ev) (evA b.ev)
  have HE : Hid (decide (a = b) = (decide (a.ev = b.ev) && (decide (a.outs = b.outs) && (decide (a.needs = b.needs) && ((a.used : Int) == (b.used : Int)))))) := by
    show _ = _
    obtain ⟨a1, a2, a3, a4⟩ := a
    obtain ⟨b1, b2, b3, b4⟩ := b
    rw [Bool.eq_iff_iff]
    have e4 : ((a4 : Int) = (b4 : Int)) ↔ a4 = b4 := by omega
    simp only [decide_eq_true_eq, Bool.and_eq_true, Rn.mk.injEq, beq_iff_eq, e4]
  unfold evA at heq hgd
  unfold ranV
  generalize (a.ev.kind : Int) = KA at *
  generalize (b.ev.kind : Int) = KB at *
  generalize (a.ev.why : Int) = YA at *
  generalize (b.ev.why : Int) = YB at *
  generalize str a.ev.path = PA at *
  generalize str b.ev.path = PB at *
  generalize str a.ev.text = TA at *
  generalize str b.ev.text = TB at *
  generalize decide (a.ev = b.ev) = E1 at *
  generalize decide (a.outs = b.outs) = E2 at *
  generalize decide (a.needs = b.needs) = E3 at *
  go_enter Tryz.func26, Tryz.ntmps26
  obtain ⟨r0, r1, hb0, hz0⟩ := Rw.two w #[.int .i64 KA, .string PA, .int .i64 YA, .string TA, .slice oa on oc, .slice na nn nc, .int .i64 (a.used : Int)] #[.int .i64 KB, .string PB, .int .i64 YB, .string TB, .slice ob om od, .slice nb nm nd, .int .i64 (b.used : Int)] 35 35
  obtain ⟨UA, hUA⟩ : ∃ UA : Int, (a.used : Int) = UA := ⟨_, rfl⟩
  obtain ⟨UB, hUB⟩ : ∃ UB : Int, (b.used : Int) = UB := ⟨_, rfl⟩
  rw [hUA] at r0 r1 hb0 hz0 HE
  rw [hUB] at r0 r1 hb0 hz0 HE
  rw [hUA, hUB]
  clear hUA hUB
  go_upto_region 1 with fail
  generalize (w.alloc (.cells #[.int .i64 KA, .string PA, .int .i64 YA, .string TA, .slice oa on oc, .slice na nn nc, .int .i64 UA] 35)).alloc (.cells #[.int .i64 KB, .string PB, .int .i64 YB, .string TB, .slice ob om od, .slice nb nm nd, .int .i64 UB] 35) = Y at *
  have k0 := r0.cell 0
  have k1 := r0.cell 1
  have k2 := r0.cell 2
  have k3 := r0.cell 3
  have k4 := r0.cell 4
  have k5 := r0.cell 5
  have k6 := r0.cell 6
  have l0 := r1.cell 0
  have l1 := r1.cell 1
  have l2 := r1.cell 2
  have l3 := r1.cell 3
  have l4 := r1.cell 4
  have l5 := r1.cell 5
  have l6 := r1.cell 6
  cases E1 with
  | false =>
    go_wp2
    go_ret
    rw [HE.out]
    exact ⟨rfl, hb0⟩
  | true =>
    cases E2 with
    | false =>
      go_wp2_with (first | (go_at_call 31; first | (refine (hT2 _ hbx).mono ?_; rintro e w2 ⟨rfl, hb2⟩; have hby := hbx.trans (hb2.mono hbx.size); have r0'' := r0'.below hb2 r0'.lt; have r1'' := r1'.below hb2 r1'.lt; have z6 := r0''.cell 6; have v6 := r1''.cell 6) | (refine (hT1 _ hb0).mono ?_; rintro e w1 ⟨rfl, hb1⟩; have hbx := hb0.trans (hb1.mono hb0.size); have r0' := r0.below hb1 r0.lt; have r1' := r1.below hb1 r1.lt; have x5 := r0'.cell 5; have y5 := r1'.cell 5; have x6 := r0'.cell 6; have y6 := r1'.cell 6)) | fail)
      go_ret
      rw [HE.out]
      exact ⟨rfl, hbx⟩
    | true =>
      cases E3 with
      | false =>
        go_wp2_with (first | (go_at_call 31; first | (refine (hT2 _ hbx).mono ?_; rintro e w2 ⟨rfl, hb2⟩; have hby := hbx.trans (hb2.mono hbx.size); have r0'' := r0'.below hb2 r0'.lt; have r1'' := r1'.below hb2 r1'.lt; have z6 := r0''.cell 6; have v6 := r1''.cell 6) | (refine (hT1 _ hb0).mono ?_; rintro e w1 ⟨rfl, hb1⟩; have hbx := hb0.trans (hb1.mono hb0.size); have r0' := r0.below hb1 r0.lt; have r1' := r1.below hb1 r1.lt; have x5 := r0'.cell 5; have y5 := r1'.cell 5; have x6 := r0'.cell 6; have y6 := r1'.cell 6)) | fail)
        go_ret
        rw [HE.out]
        exact ⟨rfl, hby⟩
      | true =>
        go_wp2_with (first | (go_at_call 31; first | (refine (hT2 _ hbx).mono ?_; rintro e w2 ⟨rfl, hb2⟩; have hby := hbx.trans (hb2.mono hbx.size); have r0'' := r0'.below hb2 r0'.lt; have r1'' := r1'.below hb2 r1'.lt; have z6 := r0''.cell 6; have v6 := r1''.cell 6) | (refine (hT1 _ hb0).mono ?_; rintro e w1 ⟨rfl, hb1⟩; have hbx := hb0.trans (hb1.mono hb0.size); have r0' := r0.below hb1 r0.lt; have r1' := r1.below hb1 r1.lt; have x5 := r0'.cell 5; have y5 := r1'.cell 5; have x6 := r0'.cell 6; have y6 := r1'.cell 6)) | fail)
        go_ret
        rw [HE.out]
        exact ⟨by simp, hby⟩
end Go.Proofs.YtnobmgkdieaclaaGreatDoor
