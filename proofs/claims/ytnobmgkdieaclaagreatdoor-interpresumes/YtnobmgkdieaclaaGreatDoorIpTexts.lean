/-
  WHAT THE LAWS' OWN Texts, Same DO.
-/
import Derived.Test.YtnobmgkdieaclaaGreatDoorIpDoF
import Derived.Laws.StructEq
import Derived.Test.YtnobmgkdieaclaaGreatDoorRows
import Derived.Test.YtnobmgkdieaclaaGreatDoorKit
import Derived.ProofKit
import Derived.OpenShut
import Derived.SliceStrings
import Derived.JoinedCond
import Derived.Carry
import Derived.Test.YtnobmgkdieaclaaGreatDoorRec
import Derived.Deep.Slices
import Derived.Deep.Strs
import Derived.SizedLaws
import Derived.Test.YtnobmgkdieaclaaGreatDoorALineR
namespace Go.Proofs.YtnobmgkdieaclaaGreatDoor
open Go.RowKit

set_option maxRecDepth 100000 in
set_option maxHeartbeats 2000000 in
theorem Texts_any (w : World) (B : Nat) (va vb : Value) (a b : List (List UInt8)) (ha : TxR.Sl w B va a) (hb : TxR.Sl w B vb b) (hl : a.length ≤ 100000000) :
    Calls Tryz.prog 31 #[va, vb] w fun e w' => e = .returned (.bool (decide (a = b))) ∧ Below w.heap.size w w' := by
  obtain ⟨ada, ca, rfl, hca⟩ := ha.shape
  obtain ⟨adb, cb, rfl, hcb⟩ := hb.shape
  by_cases hlen : a.length = b.length
  · have q0 : ((a.length : Int) != (b.length : Int)) = false := by simp; omega
    go_enter Tryz.func31, Tryz.ntmps31
    go_wp2
    go_loopw [5] (fun i wr => ∃ k : Nat, k ≤ a.length ∧ i = .int .i64 (k : Int) ∧ a.take k = b.take k ∧ ∃ q, wr = w.drewN q) (fun i _ => a.length - (intOf i).toNat)
    case atStart => exact ⟨0, Nat.zero_le _, rfl, rfl, 0, rfl⟩
    case round =>
      obtain ⟨k, hk, rfl, hall, q, rfl⟩ := hrel
      have HA : Hid _ := hall
      clear hall
      by_cases hlt : k < a.length
      · have hlt2 : k < b.length := by omega
        obtain ⟨b1, o1, c1, e1, -, p1⟩ := TxR.at ha hlt
        obtain ⟨b2, o2, c2, e2, -, p2⟩ := TxR.at hb hlt2
        simp only [Value.slice.injEq] at e1 e2
        obtain ⟨rfl, -, rfl⟩ := e1
        obtain ⟨rfl, -, rfl⟩ := e2
        have i1 : (k : Int) < (a.length : Int) := by omega
        have i2 : (k : Int) < (b.length : Int) := by omega
        have HE := beq_str a[k] b[k]
        have HS : Hid (a.take (k + 1) = a.take k ++ [a[k]] ∧ b.take (k + 1) = b.take k ++ [b[k]]) := ⟨List.take_succ_eq_append_getElem hlt, List.take_succ_eq_append_getElem hlt2⟩
        by_cases hxy : a[k] = b[k]
        · rw [decide_eq_true hxy] at HE
          have HX : Hid _ := hxy
          clear hxy
          generalize str a[k] = x at *
          generalize str b[k] = y at *
          go_wp2_with fail
          go_quiet (fail)
          go_wp2
          refine ⟨⟨k + 1, by omega, by go_num, ?_, _, rfl⟩, by simp [intOf]; omega⟩
          rw [HS.out.1, HS.out.2, HA.out, HX.out]
        · rw [decide_eq_false hxy] at HE
          have HX : Hid _ := hxy
          clear hxy
          generalize str a[k] = x at *
          generalize str b[k] = y at *
          go_wp2_with fail
          go_quiet (fail)
          go_wp2
          go_ret
          rw [decide_eq_false]
          · exact ⟨rfl, (Turn.refl [] w |>.drewN _ |>.drewN _).below (by simp)⟩
          · intro hab
            subst hab
            exact HX.out rfl
      · obtain rfl : k = a.length := by omega
        have i1 : ¬ (a.length : Int) < (a.length : Int) := by omega
        have e := HA.out
        rw [List.take_length, hlen, List.take_length] at e
        have HX : Hid _ := e
        clear e
        go_wp2
        go_ret
        rw [decide_eq_true HX.out]
        exact ⟨rfl, (Turn.refl [] w |>.drewN _).below (by simp)⟩
  · have q0 : ((a.length : Int) != (b.length : Int)) = true := by simp; omega
    go_enter Tryz.func31, Tryz.ntmps31
    go_wp2
    go_ret
    rw [decide_eq_false (by rintro rfl; exact hlen rfl)]
    exact ⟨rfl, Below.refl _ _⟩
theorem stood_ev : Tryz.prog.stoodInHeld 33 = false := by kernel_rfl
theorem guard_ev0 : Tryz.prog.eqGuardType Tryz.prog.depth 33 = false := by kernel_rfl
theorem str_toL {a b : List UInt8} (h : (str a).toList = (str b).toList) : a = b := by
  rw [ByteArray.toList_eq, ByteArray.toList_eq, str_toList, str_toList] at h
  exact h
def evA (e : Ip.Ev) : Array Value := #[.int .i64 (e.kind : Int), .string (str e.path), .int .i64 (e.why : Int), .string (str e.text)]
theorem eq_ev (W : World) (a b : Ip.Ev) : (Op.equalIn 10000 33 (.agg (evA a)) (.agg (evA b))).run Tryz.prog W = .ok (decide (a = b)) W := by
  rw [show (10000 : Nat) = 9999 + 1 from rfl, run_equalIn_agg W 9999 33 _ _ (by simp [Program.fieldsOf, Tryz.underlying33]) stood_ev]
  simp [Program.fieldsOf, Tryz.underlying33, go_sem, evA]
  by_cases h : a = b
  · subst h; simp
  · rw [decide_eq_false h]
    by_cases h1 : a.kind = b.kind
    · rw [if_pos (by omega)]
      by_cases h2 : (str a.path).toList = (str b.path).toList
      · rw [if_pos h2]
        by_cases h3 : a.why = b.why
        · rw [if_pos (by omega)]
          by_cases h4 : (str a.text).toList = (str b.text).toList
          · exact absurd (by obtain ⟨_, _, _, _⟩ := a; obtain ⟨_, _, _, _⟩ := b; simp only at h1 h2 h3 h4; rw [h1, str_toL h2, h3, str_toL h4]) h
          · rw [if_neg h4]
        · rw [if_neg (by omega)]
      · rw [if_neg h2]
    · rw [if_neg (by omega)]
theorem neq_ev (W : World) (a b : Ip.Ev) : (Go.binOp .neq 33 (.agg (evA a)) (.agg (evA b))).run Tryz.prog W = .ok (.bool (!decide (a = b))) W := by
  rw [run_neq_struct, eq_ev]; rfl
theorem eql_ev (W : World) (a b : Ip.Ev) : (Go.binOp .eql 33 (.agg (evA a)) (.agg (evA b))).run Tryz.prog W = .ok (.bool (decide (a = b))) W := by
  rw [run_eql_struct, eq_ev]; rfl
theorem guard_ev (W : World) (op : BinOp) (x y : Operand) (xs ys : Array Value) : (eqGuard op 33 x y (.agg xs) (.agg ys)).run Tryz.prog W = .ok () W := run_eqGuard_agg W op 33 x y xs ys guard_ev0

/-- what runs come to, held against each other -/
structure Rn where
  ev : Ip.Ev
  outs : List Ip.B
  needs : List Ip.B
  used : Nat
deriving DecidableEq
def Ip.St.rn (s : Ip.St) : Rn := ⟨s.ev, s.outs, s.needs, s.used⟩
/-- such a value that lies here -/
def RnV (w : World) (v : Value) (r : Rn) : Prop := ∃ oa on oc na nn nc, v = ranV r.ev (.slice oa on oc) (.slice na nn nc) r.used ∧ TxR.Sl w w.heap.size (.slice oa on oc) r.outs ∧ TxR.Sl w w.heap.size (.slice na nn nc) r.needs
theorem RnV.below {w w' : World} {v : Value} {r : Rn} (h : RnV w v r) (hb : Below w.heap.size w w') : RnV w' v r := by
  obtain ⟨oa, on, oc, na, nn, nc, e, h1, h2⟩ := h
  exact ⟨oa, on, oc, na, nn, nc, e, (h1.below hb (Nat.le_refl _)).mono hb.size, (h2.below hb (Nat.le_refl _)).mono hb.size⟩
set_option maxRecDepth 100000 in
set_option maxHeartbeats 2000000 in
theorem Same_any (w : World) (va vb : Value) (a b : Rn) (ha : RnV w va a) (hb : RnV w vb b) (h1 : a.outs.length ≤ 1000) (h2 : a.needs.length ≤ 1000) :
    Calls Tryz.prog 26 #[va, vb] w fun e w' => e = .returned (.bool (decide (a = b))) ∧ Below w.heap.size w w' := by
  obtain ⟨oa, on, oc, na, nn, nc, rfl, p1, p2⟩ := ha
  obtain ⟨ob, om, od, nb, nm, nd, rfl, q1, q2⟩ := hb
  have hT1 := fun W (hW : Below w.heap.size w W) => Texts_any W w.heap.size _ _ a.outs b.outs (p1.below hW (Nat.le_refl _)) (q1.below hW (Nat.le_refl _)) (by omega)
  have hT2 := fun W (hW : Below w.heap.size w W) => Texts_any W w.heap.size _ _ a.needs b.needs (p2.below hW (Nat.le_refl _)) (q2.below hW (Nat.le_refl _)) (by omega)
  clear p1 p2 q1 q2
  have heq := fun W => eql_ev W a.ev b.ev
  have hgd := fun W x y => guard_ev W .eql x y (evA a.ev) (evA b.ev)
  have HE : Hid (decide (a = b) = (decide (a.ev = b.ev) && (decide (a.outs = b.outs) && (decide (a.needs = b.needs) && ((a.used : Int) == (b.used : Int)))))) := by
    show _ = _
    obtain ⟨a1, a2, a3, a4⟩ := a
    obtain ⟨b1, b2, b3, b4⟩ := b
    rw [Bool.eq_iff_iff]
    have e4 : ((a4 : Int) = (b4 : Int)) ↔ a4 = b4 := by omega
    simp only [decide_eq_true_eq, Bool.and_eq_true, Rn.mk.injEq, beq_iff_eq, e4]
  unfold evA at heq hgd
  unfold ranV
  generalize (a.ev.kind : Int) = KA at *
  generalize (b.ev.kind : Int) = KB at *
  generalize (a.ev.why : Int) = YA at *
  generalize (b.ev.why : Int) = YB at *
  generalize str a.ev.path = PA at *
  generalize str b.ev.path = PB at *
  generalize str a.ev.text = TA at *
  generalize str b.ev.text = TB at *
  generalize decide (a.ev = b.ev) = E1 at *
  generalize decide (a.outs = b.outs) = E2 at *
  generalize decide (a.needs = b.needs) = E3 at *
  go_enter Tryz.func26, Tryz.ntmps26
  obtain ⟨r0, r1, hb0, hz0⟩ := Rw.two w #[.int .i64 KA, .string PA, .int .i64 YA, .string TA, .slice oa on oc, .slice na nn nc, .int .i64 (a.used : Int)] #[.int .i64 KB, .string PB, .int .i64 YB, .string TB, .slice ob om od, .slice nb nm nd, .int .i64 (b.used : Int)] 35 35
  obtain ⟨UA, hUA⟩ : ∃ UA : Int, (a.used : Int) = UA := ⟨_, rfl⟩
  obtain ⟨UB, hUB⟩ : ∃ UB : Int, (b.used : Int) = UB := ⟨_, rfl⟩
  rw [hUA] at r0 r1 hb0 hz0 HE
  rw [hUB] at r0 r1 hb0 hz0 HE
  rw [hUA, hUB]
  clear hUA hUB
  go_upto_region 1 with fail
  generalize (w.alloc (.cells #[.int .i64 KA, .string PA, .int .i64 YA, .string TA, .slice oa on oc, .slice na nn nc, .int .i64 UA] 35)).alloc (.cells #[.int .i64 KB, .string PB, .int .i64 YB, .string TB, .slice ob om od, .slice nb nm nd, .int .i64 UB] 35) = Y at *
  have k0 := r0.cell 0
  have k1 := r0.cell 1
  have k2 := r0.cell 2
  have k3 := r0.cell 3
  have k4 := r0.cell 4
  have k5 := r0.cell 5
  have k6 := r0.cell 6
  have l0 := r1.cell 0
  have l1 := r1.cell 1
  have l2 := r1.cell 2
  have l3 := r1.cell 3
  have l4 := r1.cell 4
  have l5 := r1.cell 5
  have l6 := r1.cell 6
  cases E1 with
  | false =>
    go_wp2
    go_ret
    rw [HE.out]
    exact ⟨rfl, hb0⟩
  | true =>
    cases E2 with
    | false =>
      go_wp2_with (first | (go_at_call 31; first | (refine (hT2 _ hbx).mono ?_; rintro e w2 ⟨rfl, hb2⟩; have hby := hbx.trans (hb2.mono hbx.size); have r0'' := r0'.below hb2 r0'.lt; have r1'' := r1'.below hb2 r1'.lt; have z6 := r0''.cell 6; have v6 := r1''.cell 6) | (refine (hT1 _ hb0).mono ?_; rintro e w1 ⟨rfl, hb1⟩; have hbx := hb0.trans (hb1.mono hb0.size); have r0' := r0.below hb1 r0.lt; have r1' := r1.below hb1 r1.lt; have x5 := r0'.cell 5; have y5 := r1'.cell 5; have x6 := r0'.cell 6; have y6 := r1'.cell 6)) | fail)
      go_ret
      rw [HE.out]
      exact ⟨rfl, hbx⟩
    | true =>
      cases E3 with
      | false =>
        go_wp2_with (first | (go_at_call 31; first | (refine (hT2 _ hbx).mono ?_; rintro e w2 ⟨rfl, hb2⟩; have hby := hbx.trans (hb2.mono hbx.size); have r0'' := r0'.below hb2 r0'.lt; have r1'' := r1'.below hb2 r1'.lt; have z6 := r0''.cell 6; have v6 := r1''.cell 6) | (refine (hT1 _ hb0).mono ?_; rintro e w1 ⟨rfl, hb1⟩; have hbx := hb0.trans (hb1.mono hb0.size); have r0' := r0.below hb1 r0.lt; have r1' := r1.below hb1 r1.lt; have x5 := r0'.cell 5; have y5 := r1'.cell 5; have x6 := r0'.cell 6; have y6 := r1'.cell 6)) | fail)
        go_ret
        rw [HE.out]
        exact ⟨rfl, hby⟩
      | true =>
        go_wp2_with (first | (go_at_call 31; first | (refine (hT2 _ hbx).mono ?_; rintro e w2 ⟨rfl, hb2⟩; have hby := hbx.trans (hb2.mono hbx.size); have r0'' := r0'.below hb2 r0'.lt; have r1'' := r1'.below hb2 r1'.lt; have z6 := r0''.cell 6; have v6 := r1''.cell 6) | (refine (hT1 _ hb0).mono ?_; rintro e w1 ⟨rfl, hb1⟩; have hbx := hb0.trans (hb1.mono hb0.size); have r0' := r0.below hb1 r0.lt; have r1' := r1.below hb1 r1.lt; have x5 := r0'.cell 5; have y5 := r1'.cell 5; have x6 := r0'.cell 6; have y6 := r1'.cell 6)) | fail)
        go_ret
        rw [HE.out]
        exact ⟨by simp, hby⟩
end Go.Proofs.YtnobmgkdieaclaaGreatDoor

namespace Go.Proofs.YtnobmgkdieaclaaGreatDoor
open Go.ChangeShapes Go.WideShapes Go.ChangeAt Go.RowKit

theorem own : ownKnob Tryz.prog.godebug = none := by kernel_rfl
theorem laidOut : laidOutB Tryz.prog = true := by kernel_rfl

section
variable {H : Type} {enc : TypeId × Value → H}

theorem trodAll_below {W W' : World} (hb : Below W.heap.size W W') : ∀ (ts : List TypeId) (vs : List Value) (ds : List (DataW H)) (p : List MemPlace), (∀ t ∈ ts, Tryz.prog.readableRec t = true ∧ t < Tryz.prog.types.size) →
    DataW.TrodAll enc Tryz.prog W 0 (fun _ => true) true ts vs ds p → DataW.TrodAll enc Tryz.prog W' 0 (fun b => decide (b < W.heap.size)) true ts vs ds p := by
  intro ts
  induction ts with
  | nil =>
    intro vs ds p _ h
    obtain ⟨rfl, rfl, rfl⟩ := trodAll_nil h
    exact trodAll_mk0
  | cons t ts ih =>
    intro vs ds p hr h
    obtain ⟨v, vs', d, ds', p1, q1, rfl, rfl, rfl, h1, h2⟩ := trodAll_cons h
    have ht := hr t (by simp)
    have hlt : ∀ x ∈ p1, x.block < W.heap.size := by obtain ⟨m, hm⟩ := h1; exact DataW.trod_lt m _ _ _ hm
    exact trodAll_cons_mk (Below.trod laidOut ht.1 ht.2 h1 hb hlt) (ih vs' ds' q1 (fun t' ht' => hr t' (by simp [ht'])) h2)

theorem law_post {f : Func} {s : ChangeSpec} {W W' : World} {args : Array Value} {ds gs : List (DataW H)} {before : List MemPlace} (hv : s.vars = []) (hrt : f.resultTypes = #[4])
    (hread : ∀ t ∈ f.params.toList, Tryz.prog.readableRec t = true ∧ t < Tryz.prog.types.size) (hspec : s.fn H (ds ++ gs) = { results := [.lit (.bool true)], args := ds })
    (hW : DataW.Whole enc Tryz.prog f.params.toList s.vars false W args.toList ds gs before) (hb : Below W.heap.size W W') : s.post enc Tryz.prog f false true false false W args (.bool true) W' := by
  have hW' := hW
  obtain ⟨p, q, hA, hV, rfl, hfz, hnd⟩ := hW
  refine ⟨ds, gs, _, [], p, [], hW', ?_, ?_, ?_, hb.frame _, fun h => by cases h⟩
  · rw [hspec, hrt]
    exact trodAll_mk1 (shut_bool Tryz.underlying4 _)
  · rw [hspec]
    exact trodAll_below hb _ _ _ _ hread hA
  · rw [hspec, hv]
    rfl

theorem spot_none {w : World} {x : Addr} {v : Value} (h : w.cell? (x.add 0) = some v) : x.spot = none := by
  simpa [Addr.add] using World.cell?_spot h

theorem wf_u8 {n : Int} (h : (Lit.int .u8 n).wf = true) : 0 ≤ n ∧ n < 256 := by
  have : 0 ≤ n ∧ n ≤ 255 := by simpa [Lit.wf, IntKind.min, IntKind.max, IntKind.signed, IntKind.bits] using h
  omega
theorem wf_u32 {n : Int} (h : (Lit.int .u32 n).wf = true) : ∃ m : Nat, n = (m : Int) ∧ m < 4294967296 := by
  have : 0 ≤ n ∧ n ≤ 4294967295 := by simpa [Lit.wf, IntKind.min, IntKind.max, IntKind.signed, IntKind.bits] using h
  exact ⟨n.toNat, by omega, by omega⟩

end
end Go.Proofs.YtnobmgkdieaclaaGreatDoor

namespace Go.Proofs.YtnobmgkdieaclaaGreatDoor
open Go.ChangeShapes Go.WideShapes Go.ChangeAt Go.RowKit

theorem weights_mem_all {H : Type} {P : Program} {e : TypeId} : ∀ {ds : List (DataW H)} {d : DataW H}, d ∈ ds → ∀ n ∈ d.weights P e, n ∈ DataW.weightsAll P e ds
  | d0 :: ds, d, hd, n, hn => by
    simp only [DataW.weightsAll, List.mem_append]
    rcases List.mem_cons.1 hd with rfl | hd
    · exact .inl hn
    · exact .inr (weights_mem_all hd n hn)
set_option maxRecDepth 100000 in
theorem Rc.openRows {α : Type} (R : Rc α) [Inhabited α] {H : Type} {enc : TypeId × Value → H} {W : World} {base : Nat} {v : Value} {d : DataW H} {p : List MemPlace} (hce : Tryz.prog.cellsOf R.e = R.k)
    (hok : Value.okWide Tryz.prog W .any base R.st v) (h : DataW.Trod enc Tryz.prog W 0 (fun _ => true) true R.st v d p) (Q : α → DataW H → Prop)
    (one : ∀ fuel cs x, cs.length = R.k → DataW.trod enc Tryz.prog W 0 (fun _ => true) true fuel R.e cs = some x → ∃ a, R.enc a = cs ∧ Q a x.1) :
    ∃ l : List α, R.Sl W W.heap.size v l ∧ (∀ a ∈ l, ∃ d', Q a d' ∧ ∀ n ∈ d'.weights Tryz.prog R.e, n ∈ d.weights Tryz.prog R.st) ∧ (l = [] ∨ ∃ n ∈ d.weights Tryz.prog R.st, l.length * Tryz.prog.bytesOf R.e ≤ n) := by
  obtain ⟨a0, len, cap, rfl⟩ := okWide_slice R.under hok
  obtain ⟨fuel, hf⟩ := h
  rcases Deep.open_slice R.under hf with ⟨hcs, _⟩ | ⟨x, l, c, m, n, D, Pl, hcs, _, hl, hm, hz, hx, hel⟩
  · simp [Value.cells] at hcs
    obtain ⟨rfl, rfl, rfl⟩ := hcs
    exact ⟨[], Rc.Sl.nil W _, by simp, .inl rfl⟩
  · simp [Value.cells] at hcs
    obtain ⟨rfl, rfl, rfl⟩ := hcs
    simp only [if_true] at hz
    subst hz
    simp only [Prod.mk.injEq] at hx
    obtain ⟨hxd, -⟩ := hx
    have each : ∀ i, i < m → ∃ t : α, (∀ s u, (R.enc t)[s]? = some u → W.cell? ((x.add (i * R.k)).add s) = some u) ∧ Q t (D i) := by
      intro i hi
      obtain ⟨cs', hcs', htr⟩ := hel i hi
      rw [hce] at hcs'
      obtain ⟨_, hlen, hcell⟩ := World.cells?_some hcs'
      obtain ⟨a, ha, hq⟩ := one _ cs' _ hlen htr
      refine ⟨a, fun s u hu => ?_, hq⟩
      rw [ha] at hu
      have hs : s < R.k := by rw [← hlen]; exact (List.getElem?_eq_some_iff.1 hu).1
      rw [hcell s hs]
      exact hu
    obtain ⟨f, hf'⟩ := Deep.choose_lt each
    have hql : ((List.range len).map f).length = len := by simp
    refine ⟨(List.range len).map f, ⟨some x, m, by rw [hql], by rw [hql]; omega, (fun h => by cases h), fun hne => ?_⟩, fun a ha => ?_, .inr ⟨(len + (m - len)) * Tryz.prog.bytesOf R.e, ?_, ?_⟩⟩
    · have hpos : 0 < len := by
        rcases Nat.eq_zero_or_pos len with h0 | h0
        · subst h0; exact absurd (by simp) hne
        · exact h0
      have hk0 : 0 < R.k := R.pos
      have hel0 : 0 < (R.enc (f 0)).length := by rw [R.len]; exact hk0
      have hz : (x.add (0 * R.k)).add 0 = x.add 0 := by
        rw [Nat.zero_mul]
        unfold Addr.add
        split <;> simp_all
      have h00 := (hf' 0 (by omega)).1 0 _ (List.getElem?_eq_getElem hel0)
      rw [hz] at h00
      have hs := spot_none (x := x) h00
      obtain ⟨b, o, sp⟩ := x
      simp only at hs
      subst hs
      refine ⟨b, o, rfl, World.block_lt_of_cell? W _ (by simpa [Addr.add] using h00), fun q u hu => ?_⟩
      have hqlt : q < len * R.k := by
        have := (List.getElem?_eq_some_iff.1 hu).1
        rw [R.vals_length, hql] at this
        exact this
      have hj : q / R.k < len := (Nat.div_lt_iff_lt_mul hk0).2 hqlt
      have hfm : q % R.k < R.k := Nat.mod_lt _ hk0
      have hq : q / R.k * R.k + q % R.k = q := by rw [Nat.mul_comm]; exact Nat.div_add_mod q R.k
      have hv := R.vals_get ((List.range len).map f) (q / R.k) (q % R.k) (by rw [hql]; exact hj) hfm
      rw [hq, hu] at hv
      have e : ((List.range len).map f)[q / R.k]'(by rw [hql]; exact hj) = f (q / R.k) := by simp
      rw [e] at hv
      have g0 := (hf' (q / R.k) (by omega)).1 _ _ hv.symm
      rw [addr_at, addr_at, Nat.add_assoc, hq] at g0
      exact g0
    · obtain ⟨j, hj, rfl⟩ := List.mem_map.1 ha
      rw [List.mem_range] at hj
      refine ⟨D j, (hf' j (by omega)).2, fun n hn => ?_⟩
      rw [hxd]
      simp only [DataW.weights, R.under, List.mem_cons, List.mem_append]
      exact .inr (.inl (weights_mem_all (List.mem_map.2 ⟨j, List.mem_range.2 hj, rfl⟩) n hn))
    · rw [hxd]
      simp only [DataW.weights, R.under, List.mem_cons, List.length_map, List.length_range]
      exact .inl (by simp)
    · rw [hql]
      exact Nat.mul_le_mul_right _ (by omega)

end Go.Proofs.YtnobmgkdieaclaaGreatDoor

namespace Go.Proofs.YtnobmgkdieaclaaGreatDoor
open Go.ChangeShapes Go.WideShapes Go.ChangeAt Go.RowKit

set_option maxRecDepth 100000 in
theorem Rc.openSized {α : Type} (R : Rc α) [Inhabited α] {H : Type} {enc : TypeId × Value → H} {W : World} {fuel0 : Nat} {v : Value} {d : DataW H} {p : List MemPlace} (hce : Tryz.prog.cellsOf R.e = R.k)
    (hf : DataW.trod enc Tryz.prog W 0 (fun _ => true) true fuel0 R.st [v] = some (d, p)) (Q : α → DataW H → Prop)
    (one : ∀ fuel cs x, cs.length = R.k → DataW.trod enc Tryz.prog W 0 (fun _ => true) true fuel R.e cs = some x → SizeOf.sizeOf x.1 < SizeOf.sizeOf d → ∃ a, R.enc a = cs ∧ Q a x.1) :
    ∃ l : List α, R.Sl W W.heap.size v l ∧ (∀ a ∈ l, ∃ d', Q a d' ∧ ∀ n ∈ d'.weights Tryz.prog R.e, n ∈ d.weights Tryz.prog R.st) ∧ (l = [] ∨ ∃ n ∈ d.weights Tryz.prog R.st, l.length * Tryz.prog.bytesOf R.e ≤ n) := by
  rcases Deep.open_slice R.under hf with ⟨hcs, _⟩ | ⟨x, len, cap, m, n, D, Pl, hcs, _, hl, hm, hz, hx, hel⟩
  · simp only [List.cons.injEq, and_true] at hcs
    subst hcs
    exact ⟨[], Rc.Sl.nil W _, by simp, .inl rfl⟩
  · simp only [List.cons.injEq, and_true] at hcs
    subst hcs
    simp only [if_true] at hz
    subst hz
    simp only [Prod.mk.injEq] at hx
    obtain ⟨hxd, -⟩ := hx
    have each : ∀ i, i < m → ∃ t : α, (∀ s u, (R.enc t)[s]? = some u → W.cell? ((x.add (i * R.k)).add s) = some u) ∧ Q t (D i) := by
      intro i hi
      obtain ⟨cs', hcs', htr⟩ := hel i hi
      rw [hce] at hcs'
      obtain ⟨_, hlen, hcell⟩ := World.cells?_some hcs'
      have hsz : SizeOf.sizeOf (D i) < SizeOf.sizeOf d := by
        rw [hxd, DataW.slice.sizeOf_spec]
        by_cases hil : i < len
        · have := List.sizeOf_lt_of_mem (show D i ∈ (List.range len).map D from List.mem_map.2 ⟨i, List.mem_range.2 hil, rfl⟩)
          omega
        · have := List.sizeOf_lt_of_mem (show D i ∈ (List.range (m - len)).map fun j => D (len + j) from List.mem_map.2 ⟨i - len, List.mem_range.2 (by omega), by rw [show len + (i - len) = i by omega]⟩)
          omega
      obtain ⟨a, ha, hq⟩ := one _ cs' _ hlen htr hsz
      refine ⟨a, fun s u hu => ?_, hq⟩
      rw [ha] at hu
      have hs : s < R.k := by rw [← hlen]; exact (List.getElem?_eq_some_iff.1 hu).1
      rw [hcell s hs]
      exact hu
    obtain ⟨f, hf'⟩ := Deep.choose_lt each
    have hql : ((List.range len).map f).length = len := by simp
    refine ⟨(List.range len).map f, ⟨some x, m, by rw [hql], by rw [hql]; omega, (fun h => by cases h), fun hne => ?_⟩, fun a ha => ?_, .inr ⟨(len + (m - len)) * Tryz.prog.bytesOf R.e, ?_, ?_⟩⟩
    · have hpos : 0 < len := by
        rcases Nat.eq_zero_or_pos len with h0 | h0
        · subst h0; exact absurd (by simp) hne
        · exact h0
      have hk0 : 0 < R.k := R.pos
      have hel0 : 0 < (R.enc (f 0)).length := by rw [R.len]; exact hk0
      have hz : (x.add (0 * R.k)).add 0 = x.add 0 := by
        rw [Nat.zero_mul]
        unfold Addr.add
        split <;> simp_all
      have h00 := (hf' 0 (by omega)).1 0 _ (List.getElem?_eq_getElem hel0)
      rw [hz] at h00
      have hs := spot_none (x := x) h00
      obtain ⟨b, o, sp⟩ := x
      simp only at hs
      subst hs
      refine ⟨b, o, rfl, World.block_lt_of_cell? W _ (by simpa [Addr.add] using h00), fun q u hu => ?_⟩
      have hqlt : q < len * R.k := by
        have := (List.getElem?_eq_some_iff.1 hu).1
        rw [R.vals_length, hql] at this
        exact this
      have hj : q / R.k < len := (Nat.div_lt_iff_lt_mul hk0).2 hqlt
      have hfm : q % R.k < R.k := Nat.mod_lt _ hk0
      have hq : q / R.k * R.k + q % R.k = q := by rw [Nat.mul_comm]; exact Nat.div_add_mod q R.k
      have hv := R.vals_get ((List.range len).map f) (q / R.k) (q % R.k) (by rw [hql]; exact hj) hfm
      rw [hq, hu] at hv
      have e : ((List.range len).map f)[q / R.k]'(by rw [hql]; exact hj) = f (q / R.k) := by simp
      rw [e] at hv
      have g0 := (hf' (q / R.k) (by omega)).1 _ _ hv.symm
      rw [addr_at, addr_at, Nat.add_assoc, hq] at g0
      exact g0
    · obtain ⟨j, hj, rfl⟩ := List.mem_map.1 ha
      rw [List.mem_range] at hj
      refine ⟨D j, (hf' j (by omega)).2, fun n hn => ?_⟩
      rw [hxd]
      simp only [DataW.weights, R.under, List.mem_cons, List.mem_append]
      exact .inr (.inl (weights_mem_all (List.mem_map.2 ⟨j, List.mem_range.2 hj, rfl⟩) n hn))
    · rw [hxd]
      simp only [DataW.weights, R.under, List.mem_cons, List.length_map, List.length_range]
      exact .inl (by simp)
    · rw [hql]
      exact Nat.mul_le_mul_right _ (by omega)


theorem pairs_of {α β : Type} {P : α → β → Prop} : ∀ (l : List α), (∀ a ∈ l, ∃ b, P a b) → ∃ ps : List (α × β), ps.map Prod.fst = l ∧ ∀ p ∈ ps, P p.1 p.2
  | [], _ => ⟨[], rfl, fun _ h => by cases h⟩
  | a :: r, h => by
    obtain ⟨b, hb⟩ := h a (List.mem_cons_self ..)
    obtain ⟨ps, h1, h2⟩ := pairs_of r fun x hx => h x (List.mem_cons_of_mem _ hx)
    refine ⟨(a, b) :: ps, by rw [List.map_cons, h1], fun p hp => ?_⟩
    rcases List.mem_cons.1 hp with rfl | hp
    · exact hb
    · exact h2 p hp

end Go.Proofs.YtnobmgkdieaclaaGreatDoor

namespace Go.Proofs.YtnobmgkdieaclaaGreatDoor
open Go.ChangeShapes Go.WideShapes Go.ChangeAt Go.RowKit

instance : Inhabited RawT := ⟨⟨none, 0, 0⟩⟩
instance : Inhabited RawS := ⟨⟨0, none, 0, 0, 0, none, 0, 0⟩⟩
theorem cellsA3 : Tryz.prog.cellsOf 3 = 1 := by kernel_rfl
theorem cellsA9 : Tryz.prog.cellsOf 9 = 1 := by kernel_rfl
theorem cellsAT : Tryz.prog.cellsOf 23 = 1 := by kernel_rfl
theorem cellsAS : Tryz.prog.cellsOf 75 = 4 := by kernel_rfl
theorem cellsAL : Tryz.prog.cellsOf 22 = 1 := by kernel_rfl
theorem bytesA9 : 1 ≤ Tryz.prog.bytesOf 9 := by
  rw [show Tryz.prog.bytesOf 9 = 16 by kernel_rfl]; decide
theorem bytesAT : 1 ≤ Tryz.prog.bytesOf 23 := by
  rw [show Tryz.prog.bytesOf 23 = 24 by kernel_rfl]; decide
theorem bytesAS : 1 ≤ Tryz.prog.bytesOf 75 := by
  rw [show Tryz.prog.bytesOf 75 = 64 by kernel_rfl]; decide
theorem reach_is : reachBytes = 140737488351232 := rfl

set_option maxRecDepth 100000 in
theorem open_texts {H : Type} {enc : TypeId × Value → H} {W : World} {fuel0 : Nat} {v : Value} {d : DataW H} {p : List MemPlace} (hf : DataW.trod enc Tryz.prog W 0 (fun _ => true) true fuel0 23 [v] = some (d, p)) :
    ∃ l : List (List UInt8), TxR.Sl W W.heap.size v l ∧ ((∀ n ∈ d.weights Tryz.prog 23, n ≤ reachBytes) → l.length * 16 ≤ reachBytes ∧ ∀ s ∈ l, s.length ≤ reachBytes) := by
  obtain ⟨l, h1, h2, h3⟩ := Rc.openSized TxR cellsA9 hf (fun s d' => (∀ n ∈ d'.weights Tryz.prog 9, n ≤ reachBytes) → s.length ≤ reachBytes) (by
    intro fuel cs x hlen htr _
    obtain ⟨k, e, hx, _⟩ := DataW.trod_string Tryz.underlying9 htr
    refine ⟨bs k, by show [Value.string (str (bs k))] = _; rw [show str (bs k) = k from str_of k, e], fun hw => ?_⟩
    rw [hx] at hw
    exact hw _ (by simp [DataW.weights, bs]))
  refine ⟨l, h1, fun hw => ⟨?_, fun s hs => ?_⟩⟩
  · rcases h3 with rfl | ⟨n, hn, hl⟩
    · exact Nat.zero_le _
    · have h9 := hw n hn
      have e16 : Tryz.prog.bytesOf 9 = 16 := by kernel_rfl
      have hl' : l.length * 16 ≤ n := by rw [← e16]; exact hl
      omega
  · obtain ⟨d', k1, k2⟩ := h2 s hs
    exact k1 fun n hn => hw n (k2 n hn)
/-- how great statements that come in can be -/
def Ac.SzE : Ac.Fo → Prop
  | .nil => True
  | .cons _ a _ b t => a.length * 16 ≤ reachBytes ∧ (∀ s ∈ a, s.length ≤ reachBytes) ∧ b.len ≤ reachBytes ∧ Ac.SzE b ∧ Ac.SzE t
theorem foRow_of {W : World} {B : Nat} : ∀ (l : List RawS), (∀ r ∈ l, ∃ a b, TxR.Sl W B r.args a ∧ FoS W B r.body b ∧ a.length * 16 ≤ reachBytes ∧ (∀ s ∈ a, s.length ≤ reachBytes) ∧ b.len ≤ reachBytes ∧ Ac.SzE b) → ∃ f, FoRow W B f l ∧ f.len = l.length ∧ Ac.SzE f
  | [], _ => ⟨.nil, rfl, rfl, trivial⟩
  | r :: rest, h => by
    obtain ⟨a, b, h1, ⟨bs, h2, h3⟩, h4⟩ := h r (List.mem_cons_self ..)
    obtain ⟨f, k1, k2, k3⟩ := foRow_of rest fun y hy => h y (List.mem_cons_of_mem _ hy)
    exact ⟨.cons r.op a r.n b f, ⟨r, rest, rfl, rfl, rfl, h1, ⟨bs, h2, h3⟩, k1⟩, by simp [Ac.Fo.len, k2], h4.1, h4.2.1, h4.2.2.1, h4.2.2.2, k3⟩
set_option maxRecDepth 100000 in
theorem open_fo {H : Type} {enc : TypeId × Value → H} {W : World} : ∀ (N : Nat) (fuel0 : Nat) (v : Value) (d : DataW H) (p : List MemPlace), SizeOf.sizeOf d < N → DataW.trod enc Tryz.prog W 0 (fun _ => true) true fuel0 22 [v] = some (d, p) → (∀ n ∈ d.weights Tryz.prog 22, n ≤ reachBytes) →
    ∃ f, FoS W W.heap.size v f ∧ f.len ≤ reachBytes ∧ Ac.SzE f := by
  intro N
  induction N with
  | zero => intro fuel0 v d p h; omega
  | succ N ih =>
    intro fuel0 v d p hN hf hsz
    obtain ⟨l, h1, h2, h3⟩ := Rc.openSized SmR cellsAS hf (fun r d' => (∀ n ∈ d'.weights Tryz.prog 75, n ≤ reachBytes) → ∃ a b, TxR.Sl W W.heap.size r.args a ∧ FoS W W.heap.size r.body b ∧ a.length * 16 ≤ reachBytes ∧ (∀ s ∈ a, s.length ≤ reachBytes) ∧ b.len ≤ reachBytes ∧ Ac.SzE b) (by
      intro fuel cs x hlen htr hsx
      obtain ⟨xs, n', _, hDx, hl', hlen', hfld⟩ := DataW.trod_struct Tryz.underlying75 htr
      match xs, hlen' with
      | [y0, y1, y2, y3], _ =>
        match cs, hlen with
        | [c0, c1, c2, c3], _ =>
          have t0 : DataW.trod enc Tryz.prog W 0 (fun _ => true) true n' 3 [c0] = some y0 := by
            have t : DataW.trod enc Tryz.prog W 0 (fun _ => true) true n' 3 (([c0, c1, c2, c3].drop 0).take (Tryz.prog.cellsOf 3)) = some y0 := hfld 0 _ rfl
            rw [cellsA3] at t
            exact t
          have t1 : DataW.trod enc Tryz.prog W 0 (fun _ => true) true n' 23 [c1] = some y1 := by
            have t : DataW.trod enc Tryz.prog W 0 (fun _ => true) true n' 23 (([c0, c1, c2, c3].drop 1).take (Tryz.prog.cellsOf 23)) = some y1 := hfld 1 _ rfl
            rw [cellsAT] at t
            exact t
          have t2 : DataW.trod enc Tryz.prog W 0 (fun _ => true) true n' 3 [c2] = some y2 := by
            have t : DataW.trod enc Tryz.prog W 0 (fun _ => true) true n' 3 (([c0, c1, c2, c3].drop 2).take (Tryz.prog.cellsOf 3)) = some y2 := hfld 2 _ rfl
            rw [cellsA3] at t
            exact t
          have t3 : DataW.trod enc Tryz.prog W 0 (fun _ => true) true n' 22 [c3] = some y3 := by
            have t : DataW.trod enc Tryz.prog W 0 (fun _ => true) true n' 22 (([c0, c1, c2, c3].drop 3).take (Tryz.prog.cellsOf 22)) = some y3 := hfld 3 _ rfl
            rw [cellsAL] at t
            exact t
          have hD : x.1 = .agg [y0.1, y1.1, y2.1, y3.1] := by rw [hDx]; rfl
          have hy3 : SizeOf.sizeOf y3.1 < N := by
            have : SizeOf.sizeOf y3.1 < SizeOf.sizeOf x.1 := by
              rw [hD, DataW.agg.sizeOf_spec]
              have := List.sizeOf_lt_of_mem (show y3.1 ∈ [y0.1, y1.1, y2.1, y3.1] by simp)
              omega
            omega
          obtain ⟨k0, e0, _, _⟩ := DataW.trod_int Tryz.underlying3 t0
          obtain ⟨k2, e2, _, _⟩ := DataW.trod_int Tryz.underlying3 t2
          obtain ⟨ts, hts, hbt⟩ := open_texts (d := y1.1) (p := y1.2) t1
          obtain ⟨ta, tc, rfl, _⟩ := hts.shape
          rcases Deep.open_slice SmR.under t3 with ⟨hcs, _⟩ | ⟨ba, bl, bc, _, _, _, _, hcs, _⟩
          · simp only [List.cons.injEq, and_true] at e0 e2 hcs
            subst e0 e2 hcs
            refine ⟨⟨k0, ta, ts.length, tc, k2, none, 0, 0⟩, rfl, fun hw => ?_⟩
            have g : ∀ n ∈ DataW.weightsEach Tryz.prog [3, 23, 3, 22] [y0.1, y1.1, y2.1, y3.1], n ≤ reachBytes := fun n hn => hw n (by
              rw [hD]
              simp only [DataW.weights, Tryz.underlying75]
              exact hn)
            obtain ⟨a1, a2⟩ := hbt fun n hn => g n (DataW.weights_mem_each (j := 1) rfl rfl n hn)
            obtain ⟨b, b1, b2, b3⟩ := ih n' _ y3.1 y3.2 hy3 t3 fun n hn => g n (DataW.weights_mem_each (j := 3) rfl rfl n hn)
            exact ⟨ts, b, hts, b1, a1, a2, b2, b3⟩
          · simp only [List.cons.injEq, and_true] at e0 e2 hcs
            subst e0 e2 hcs
            refine ⟨⟨k0, ta, ts.length, tc, k2, some ba, bl, bc⟩, rfl, fun hw => ?_⟩
            have g : ∀ n ∈ DataW.weightsEach Tryz.prog [3, 23, 3, 22] [y0.1, y1.1, y2.1, y3.1], n ≤ reachBytes := fun n hn => hw n (by
              rw [hD]
              simp only [DataW.weights, Tryz.underlying75]
              exact hn)
            obtain ⟨a1, a2⟩ := hbt fun n hn => g n (DataW.weights_mem_each (j := 1) rfl rfl n hn)
            obtain ⟨b, b1, b2, b3⟩ := ih n' _ y3.1 y3.2 hy3 t3 fun n hn => g n (DataW.weights_mem_each (j := 3) rfl rfl n hn)
            exact ⟨ts, b, hts, b1, a1, a2, b2, b3⟩)
    obtain ⟨f, k1, k2, k3⟩ := foRow_of (W := W) (B := W.heap.size) l fun r hr => by
      obtain ⟨d', q1, q2⟩ := h2 r hr
      exact q1 fun n hn => hsz n (q2 n hn)
    refine ⟨f, ⟨l, h1, k1⟩, ?_, k3⟩
    rcases h3 with rfl | ⟨n, hn, hl⟩
    · rw [k2]; exact Nat.zero_le _
    · have := hsz n hn
      have := Nat.mul_le_mul_left l.length bytesAS
      have e : l.length * Tryz.prog.bytesOf SmR.e = l.length * Tryz.prog.bytesOf 75 := rfl
      omega
set_option maxRecDepth 100000 in
theorem open_actS {H : Type} {enc : TypeId × Value → H} {W : World} {base : Nat} {v : Value} {d : DataW H} {p : List MemPlace} (hok : Value.okWide Tryz.prog W .any base 22 v) (h : DataW.Trod enc Tryz.prog W 0 (fun _ => true) true 22 v d p) (hsz : ∀ n ∈ d.weights Tryz.prog 22, n ≤ reachBytes) :
    ∃ f, FoS W W.heap.size v f ∧ f.len ≤ reachBytes ∧ Ac.SzE f := by
  obtain ⟨a0, len, cap, rfl⟩ := okWide_slice Tryz.underlying22 hok
  obtain ⟨fuel, hf⟩ := h
  exact open_fo _ fuel _ d p (Nat.lt_succ_self _) hf hsz

end Go.Proofs.YtnobmgkdieaclaaGreatDoor
