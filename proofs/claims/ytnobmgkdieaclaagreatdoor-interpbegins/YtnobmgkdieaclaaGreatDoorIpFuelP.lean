/-
  MORE FUEL, LESS FUEL, AS A WHOLE RUN ANSWERS (pure).
-/
import Derived.Test.YtnobmgkdieaclaaGreatDoorIpFuel
import Derived.Test.YtnobmgkdieaclaaGreatDoorIpAskJ
import Derived.Test.YtnobmgkdieaclaaGreatDoorPBs
import Derived.Test.YtnobmgkdieaclaaGreatDoorIpGreat
import Derived.BigQuiet
import Derived.Deep.RegionHeld3
namespace Go.Proofs.YtnobmgkdieaclaaGreatDoor
open Go.RowKit

theorem shortF_top {n : Int} (h : shortF n ≤ 65536) : shortF n ≤ 20000 := by
  unfold shortF at h ⊢
  split
  · rename_i h1
    have k1 := Int.tmod_lt_of_pos n (b := 20000) (by omega)
    omega
  · rename_i h1
    rw [if_neg h1] at h
    omega
theorem mayNew_top {f : Ac.Fo} {ts : List Ip.B} {F : Int} (h : Ip.mayNew f ts F = true) : 0 ≤ F ∧ F ≤ 65536 := by
  unfold Ip.mayNew at h
  simp only [Bool.and_eq_true, decide_eq_true_eq] at h
  exact h.2
theorem mayNew_fuel {f : Ac.Fo} {ts : List Ip.B} {F G : Int} (h : Ip.mayNew f ts F = true) (h0 : 0 ≤ G) (h1 : G ≤ 65536) : Ip.mayNew f ts G = true := by
  unfold Ip.mayNew at h ⊢
  simp only [Bool.and_eq_true, decide_eq_true_eq] at h ⊢
  exact ⟨h.1, h0, h1⟩
theorem Ip.St.next_fuel {f : Ip.B → Option Ip.B} {s : Ip.St} (h : s.Inv) (h1 : s.ev.kind = 1) : (s.next f).fuel = s.fuel := by
  obtain ⟨a1, -, -⟩ := Ip.St.answer_inv h h1 (f s.ev.path)
  unfold Ip.St.next
  rw [Ip.St.step_fuel a1.ok, (Ip.St.answer_used s _).2]
/-- what a whole run with this fuel comes to -/
theorem whole_is {f : Ac.Fo} {ts : List Ip.B} {F : Int} (af : Ip.B → Option Ip.B) (hy : Ip.mayNew f ts F = true) (hw : Ac.wgt f ≤ 4000) :
    wholeR (Ip.whole f ts F af) = (Ip.St.done af (Ip.new f ts F.toNat).step).rn ∧ (Ip.St.done af (Ip.new f ts F.toNat).step).Inv ∧ (Ip.St.done af (Ip.new f ts F.toNat).step).fuel = F.toNat ∧ (Ip.St.done af (Ip.new f ts F.toNat).step).Ends := by
  have hT := told_of hy hw
  refine ⟨(whole_yes af hy hw).2.1, (Ip.St.done_over (f := af) hT).1, ?_, ?_⟩
  · exact (Ip.St.goN_ind (f := af) (fun t => t.fuel = F.toNat) (fun s hs hp hk => (Ip.St.next_fuel hs hk).trans hp) 9 hT.inv (Ip.St.step_fuel (Ip.new_ok hy hw).ok)).1
  · exact Ip.St.done_ends hT.inv (Ip.St.step_ends (Ip.new_ok hy hw) (Ip.St.ends_of (by show (0 : Nat) ≠ 143; decide)))
theorem whole_sims {f : Ac.Fo} {ts : List Ip.B} {F G : Int} (af : Ip.B → Option Ip.B) (hy : Ip.mayNew f ts F = true) (hw : Ac.wgt f ≤ 4000) (h0 : 0 ≤ G) (hlt : G < F) :
    wholeR (Ip.whole f ts F af) = wholeR (Ip.whole f ts G af) ∨ ((wholeR (Ip.whole f ts G af)).ev = ⟨3, [], 143, []⟩ ∧ (wholeR (Ip.whole f ts G af)).used = G.toNat ∧ (wholeR (Ip.whole f ts G af)).outs = [] ∧ (wholeR (Ip.whole f ts G af)).needs <+: (wholeR (Ip.whole f ts F af)).needs ∧ G.toNat < (wholeR (Ip.whole f ts F af)).used) := by
  obtain ⟨t0, t1⟩ := mayNew_top hy
  have hz := mayNew_fuel hy h0 (by omega)
  have hs := Ip.St.done_sim (F := G.toNat) (F' := F.toNat) (by omega) (by omega) af (s := Ip.new f ts F.toNat) (Ip.new_ok hy hw) (Nat.zero_le _)
  change Ip.St.Sims G.toNat F.toNat (Ip.St.done af (Ip.new f ts G.toNat).step) (Ip.St.done af (Ip.new f ts F.toNat).step) at hs
  rw [(whole_is af hy hw).1, (whole_is af hz hw).1]
  rcases hs with h | ⟨h1, h2, h3, h4⟩
  · left
    rw [h]
    rfl
  · right
    refine ⟨h1, h2, ?_, h3, h4⟩
    show (Ip.St.done af (Ip.new f ts G.toNat).step).outs = []
    unfold Ip.St.outs
    rw [h1]
    rfl
/-- what lies in the answer -/
theorem fuel_here {f : Ac.Fo} {ts : List Ip.B} {F : Int} (af : Ip.B → Option Ip.B) (hy : Ip.mayNew f ts F = true) (hw : Ac.wgt f ≤ 4000) :
    ((wholeR (Ip.whole f ts F af)).used : Int) ≤ F ∧ ((wholeR (Ip.whole f ts F af)).ev.why = 143 → ((wholeR (Ip.whole f ts F af)).used : Int) = F) := by
  obtain ⟨e, hi, hf, he⟩ := whole_is af hy hw
  obtain ⟨t0, t1⟩ := mayNew_top hy
  rw [e]
  have hu := hi.ok.core.used
  rw [hf] at hu
  refine ⟨by show ((Ip.St.done af (Ip.new f ts F.toNat).step).used : Int) ≤ F; omega, fun h => ?_⟩
  have := he h
  rw [hf] at this
  show ((Ip.St.done af (Ip.new f ts F.toNat).step).used : Int) = F
  omega
/-- more fuel: the same -/
theorem fuel_more {f : Ac.Fo} {ts : List Ip.B} {F G : Int} (af : Ip.B → Option Ip.B) (hy : Ip.mayNew f ts F = true) (hw : Ac.wgt f ≤ 4000) (hlt : F ≤ G) (ht : G ≤ 65536) (hn : (wholeR (Ip.whole f ts F af)).ev.why ≠ 143) :
    wholeR (Ip.whole f ts G af) = wholeR (Ip.whole f ts F af) ∧ wholeE (Ip.whole f ts G af) = 0 := by
  obtain ⟨t0, t1⟩ := mayNew_top hy
  have hz := mayNew_fuel hy (G := G) (by omega) ht
  refine ⟨?_, (whole_yes af hz hw).1⟩
  by_cases e : F = G
  · rw [e]
  rcases whole_sims af hz hw t0 (by omega) with h | ⟨h, -⟩
  · exact h
  · exact absurd (by rw [h]) hn
/-- with what it used: the same -/
theorem fuel_used {f : Ac.Fo} {ts : List Ip.B} {F : Int} (af : Ip.B → Option Ip.B) (hy : Ip.mayNew f ts F = true) (hw : Ac.wgt f ≤ 4000) :
    wholeR (Ip.whole f ts ((wholeR (Ip.whole f ts F af)).used : Int) af) = wholeR (Ip.whole f ts F af) ∧ wholeE (Ip.whole f ts ((wholeR (Ip.whole f ts F af)).used : Int) af) = 0 := by
  obtain ⟨t0, t1⟩ := mayNew_top hy
  obtain ⟨h1, -⟩ := fuel_here af hy hw
  generalize hU : (wholeR (Ip.whole f ts F af)).used = U at *
  have hz := mayNew_fuel hy (G := (U : Int)) (by omega) (by omega)
  refine ⟨?_, (whole_yes af hz hw).1⟩
  by_cases e : (U : Int) = F
  · rw [e]
  rcases whole_sims af hy hw (G := (U : Int)) (by omega) (by omega) with h | ⟨-, -, -, -, h⟩
  · exact h.symm
  · rw [hU] at h
    omega
/-- with less: none is left -/
theorem fuel_less {f : Ac.Fo} {ts : List Ip.B} {F G : Int} (af : Ip.B → Option Ip.B) (hy : Ip.mayNew f ts F = true) (hw : Ac.wgt f ≤ 4000) (h0 : 0 ≤ G) (hlt : G < ((wholeR (Ip.whole f ts F af)).used : Int)) :
    wholeE (Ip.whole f ts G af) = 0 ∧ (wholeR (Ip.whole f ts G af)).ev = ⟨3, [], 143, []⟩ ∧ ((wholeR (Ip.whole f ts G af)).used : Int) = G ∧ (wholeR (Ip.whole f ts G af)).outs = [] ∧ (wholeR (Ip.whole f ts G af)).needs <+: (wholeR (Ip.whole f ts F af)).needs := by
  obtain ⟨t0, t1⟩ := mayNew_top hy
  obtain ⟨h1, -⟩ := fuel_here af hy hw
  have hz := mayNew_fuel hy (G := G) h0 (by omega)
  obtain ⟨h2, -⟩ := fuel_here af hz hw
  refine ⟨(whole_yes af hz hw).1, ?_⟩
  rcases whole_sims af hy hw h0 (by omega) with h | ⟨a1, a2, a3, a4, -⟩
  · rw [h] at hlt
    omega
  · exact ⟨a1, by rw [a2]; omega, a3, a4⟩
end Go.Proofs.YtnobmgkdieaclaaGreatDoor

namespace Go.Proofs.YtnobmgkdieaclaaGreatDoor
open Go.RowKit

theorem shortF_in {n : Int} (h1 : -9223372036854775808 ≤ n) (h2 : n ≤ 9223372036854775807) : -9223372036854775808 ≤ shortF n ∧ shortF n ≤ 9223372036854775807 := by
  unfold shortF
  split
  · rename_i h
    have k1 := Int.tmod_lt_of_pos n (b := 20000) (by omega)
    have k2 := Int.tmod_nonneg 20000 (show 0 ≤ n by omega)
    omega
  · exact ⟨h1, h2⟩
theorem ran_let {R : Rn} {K : Int} {P : ByteArray} {X2 : ByteArray} {Z U : Int} (h : (R.ev.kind : Int) = K ∧ str R.ev.path = P ∧ str R.ev.text = X2 ∧ (R.ev.why : Int) = Z ∧ (R.used : Int) = U) (ov nv : Value) : ranV R.ev ov nv R.used = .agg #[.int .i64 K, .string P, .int .i64 Z, .string X2, ov, nv, .int .i64 U] := by
  obtain ⟨rfl, rfl, rfl, rfl, rfl⟩ := h
  rfl
theorem Do_let {w : World} {B : Nat} {va : Option Addr} {vn vc : Nat} {ta : Option Addr} {tn tc : Nat} {f : Ac.Fo} {ts : List (List UInt8)} (hj : JobS w B va vn vc ta tn tc f ts) (hL : Laid w) (G : Int) (h1 : -9223372036854775808 ≤ G) (h2 : G ≤ 9223372036854775807) (hw : Ac.wgt f ≤ 4000) (a1 : Option Addr) (c1 : Nat) (l : List (Ip.B × Ip.B)) (hl : FiR.Sl w w.heap.size (.slice a1 l.length c1) l) (hn : l.length ≤ 140737488351232) (hz : ∀ a ∈ l, a.2.length ≤ 140737488351232)
    (R : Rn) (E : Int) {K : Int} {P : ByteArray} {X2 : ByteArray} {Z U : Int} (hR : wholeR (Ip.whole f ts G (Ip.find l)) = R) (hE : wholeE (Ip.whole f ts G (Ip.find l)) = E) (hV : (R.ev.kind : Int) = K ∧ str R.ev.path = P ∧ str R.ev.text = X2 ∧ (R.ev.why : Int) = Z ∧ (R.used : Int) = U) :
    Hid (∀ W bx, Below w.heap.size w W → Rw W bx #[.slice a1 l.length c1] 54 → Calls Tryz.prog 15 #[.slice va vn vc, .slice ta tn tc, .int .i64 G, .func (.func 57) #[] #[.pointer (some ⟨bx, 0, none⟩)]] W fun e w' => ∃ oa on oc na nn nc, e = .returned (.tuple #[.agg #[.int .i64 K, .string P, .int .i64 Z, .string X2, .slice oa on oc, .slice na nn nc, .int .i64 U], .int .i64 E]) ∧ TxR.Own w' W.heap.size (.slice oa on oc) R.outs ∧ TxR.Own w' W.heap.size (.slice na nn nc) R.needs ∧ Below W.heap.size W w') := fun W bx hb hr => by
  have := Do_files (hj.below hb) (hL.below hb hL.size) G h1 h2 hw bx _ l hr ((hl.below hb (Nat.le_refl _)).mono hb.size) hn hz
  rw [hR, hE] at this
  refine this.mono ?_
  rintro e w' ⟨oa, on, oc, na, nn, nc, rfl, p1, p2, hbx⟩
  exact ⟨oa, on, oc, na, nn, nc, by rw [ran_let hV], p1, p2, hbx⟩
/-- such a value that lies here, in letters -/
theorem ran_v {w : World} {R : Rn} {K : Int} {P : ByteArray} {X2 : ByteArray} {Z U : Int} (h : (R.ev.kind : Int) = K ∧ str R.ev.path = P ∧ str R.ev.text = X2 ∧ (R.ev.why : Int) = Z ∧ (R.used : Int) = U) {oa : Option Addr} {on oc : Nat} {na : Option Addr} {nn nc : Nat} (h1 : TxR.Sl w w.heap.size (.slice oa on oc) R.outs) (h2 : TxR.Sl w w.heap.size (.slice na nn nc) R.needs) :
    RnV w (.agg #[.int .i64 K, .string P, .int .i64 Z, .string X2, .slice oa on oc, .slice na nn nc, .int .i64 U]) R := ⟨oa, on, oc, na, nn, nc, (ran_let h _ _).symm, h1, h2⟩
end Go.Proofs.YtnobmgkdieaclaaGreatDoor

namespace Go.Proofs.YtnobmgkdieaclaaGreatDoor
open Go.RowKit

theorem whole_newE (f : Ac.Fo) (ts : List Ip.B) (fuel : Int) (af : Ip.B → Option Ip.B) : wholeE (Ip.whole f ts fuel af) = newE f ts fuel := by
  unfold wholeE Ip.whole newE
  split <;> rfl
/-- Do, asked with nobody -/
theorem Do_nil {w : World} {B : Nat} {va : Option Addr} {vn vc : Nat} {ta : Option Addr} {tn tc : Nat} {f : Ac.Fo} {ts : List (List UInt8)} (h : JobS w B va vn vc ta tn tc f ts) (hL : Laid w) (fuel : Int) (h1 : -9223372036854775808 ≤ fuel) (h2 : fuel ≤ 9223372036854775807) (hw : Ac.wgt f ≤ 4000) :
    Calls Tryz.prog 15 #[.slice va vn vc, .slice ta tn tc, .int .i64 fuel, .nilFunc] w fun e w' => ∃ K P Z X2 oa on oc na nn nc U, e = .returned (.tuple #[.agg #[.int .i64 K, .string P, .int .i64 Z, .string X2, .slice oa on oc, .slice na nn nc, .int .i64 U], .int .i64 (newE f ts fuel)]) ∧ Below w.heap.size w w' := by
  have hK : Keeps w.heap.size (fun _ D _ => D = []) := ⟨fun h _ _ => h, fun h b hb => by rw [h] at hb; cases hb⟩
  refine (Do_ask h hL fuel h1 h2 hw _ (fun _ => none) (fun _ D _ => D = []) [] (answer_nil hK (fun _ _ _ _ h => h)) hK rfl (by simp)).mono ?_
  rintro e w' ⟨⟨oa, on, oc, na, nn, nc, rfl, p1, p2⟩, -, hT⟩
  exact ⟨_, _, _, _, oa, on, oc, na, nn, nc, _, by rw [whole_newE]; rfl, hT.below (by simp)⟩
set_option maxRecDepth 100000 in
set_option maxHeartbeats 8000000 in
theorem begins_walk (HC : OneC) (va : Option Addr) (vn vc : Nat) (ta : Option Addr) (tn tc : Nat) (F : Int) (f : Ac.Fo) (ts : List (List UInt8)) (w : World) (hL : Laid w) (hj : JobS w w.heap.size va vn vc ta tn tc f ts) (h1 : -9223372036854775808 ≤ F) (h2 : F ≤ 9223372036854775807) :
    Calls Tryz.prog 3 #[jobV va vn vc ta tn tc F] w fun e w' => e = .returned (.bool true) ∧ Below w.heap.size w w' := by
  have r0 := Rw.new w #[.slice va vn vc, .slice ta tn tc, .int .i64 F] 25
  have hbY := (Below.refl w.heap.size w).alloc (Nat.le_refl _) (.cells #[.slice va vn vc, .slice ta tn tc, .int .i64 F] 25)
  unfold jobV
  go_enter Tryz.func3, Tryz.ntmps3
  go_upto_region 1 with fail
  generalize w.alloc (.cells #[.slice va vn vc, .slice ta tn tc, .int .i64 F] 25) = Y at *
  have hW := works_any Y (hL.below hbY hL.size)
  have hjY := hj.below hbY
  have hG : ∀ W, Below Y.heap.size Y W → _ := fun W hb => great_any F (hjY.below hb)
  unfold jobV at hG
  go_upto_region 5 with (first
    | (go_at_call 12; refine hW.mono ?_; rintro e w1 ⟨rfl, hb1⟩; have q0 := r0.below hb1 r0.lt; have k0 := q0.cell 0; have k1 := q0.cell 1; have k2 := q0.cell 2)
    | (go_at_call 13; refine (hG _ hb1).mono ?_; rintro e w3 ⟨he, hb3⟩; rcases he with rfl | ⟨rfl, hwg⟩)
    | fail)
  · go_ret
    exact ⟨rfl, hbY.trans ((hb1.mono hbY.size).trans (hb3.mono (by have := hb1.size; have := hbY.size; omega)))⟩
  have hbW : Below w.heap.size w w3 := hbY.trans ((hb1.mono hbY.size).trans (hb3.mono (by have := hb1.size; have := hbY.size; omega)))
  have q5 := q0.below hb3 q0.lt
  have hjW := hj.below hbW
  have hLW := hL.below hbW hL.size
  have j0 := q5.cell 0
  have j1 := q5.cell 1
  have j2 := q5.cell 2
  have HD : Hid (∀ W G, Below w3.heap.size w3 W → -9223372036854775808 ≤ G → G ≤ 9223372036854775807 → Calls Tryz.prog 15 #[.slice va vn vc, .slice ta tn tc, .int .i64 G, .nilFunc] W fun e w' => ∃ K P Z X2 oa on oc na nn nc U, e = .returned (.tuple #[.agg #[.int .i64 K, .string P, .int .i64 Z, .string X2, .slice oa on oc, .slice na nn nc, .int .i64 U], .int .i64 (newE f ts G)]) ∧ Below W.heap.size W w') := fun W G hb g1 g2 => Do_nil (hjW.below hb) (hLW.below hb hLW.size) G g1 g2 hwg
  have HR : Hid (∀ W G, Below w3.heap.size w3 W → Calls Tryz.prog 16 #[.slice va vn vc, .slice ta tn tc, .int .i64 G] W fun e w' => e = .returned (.int .i64 (newE f ts G)) ∧ Below W.heap.size W w') := fun W G hb => RefNew_any HC (hjW.below hb) G hwg
  clear hG hW hjY k0 k1 k2 q0 r0 hb1 hb3 hbY
  obtain ⟨Q, hQ⟩ : ∃ Q, F.tmod 1000 = Q := ⟨_, rfl⟩
  have m1 : Q < 1000 := by rw [← hQ]; exact Int.tmod_lt_of_pos F (by omega)
  have m2 : -1000 < Q := by rw [← hQ]; exact Int.lt_tmod_of_pos F (by omega)
  obtain ⟨G, hGm⟩ : ∃ G, min F (max Q (-1)) = G := ⟨_, rfl⟩
  have g1 : -9223372036854775808 ≤ G := by omega
  have g2 : G ≤ 9223372036854775807 := by omega
  clear m1 m2
  by_cases hmy : Ip.mayNew f ts F = true
  case neg =>
    have hN := New_no f ts F _ _ _ _ hjW.handed hLW h1 h2 (by simpa using hmy)
    have hE : newE f ts F = 2 := newE_no (by simpa using hmy)
    obtain ⟨E, hEE⟩ : ∃ E, newE f ts G = E := ⟨_, rfl⟩
    have HE : Hid (newE f ts G = E) := hEE
    clear hmy hEE
    go_upto_region 9 with (first
      | (go_at_call 14; refine hN.mono ?_; rintro e w5 ⟨rfl, hb5⟩; have q6 := q5.below hb5 q5.lt; have s0 := q6.cell 0; have s1 := q6.cell 1; have s2 := q6.cell 2)
      | (go_at_call 15; refine (HD.out _ _ hb5 g1 g2).mono ?_; rintro e w6 ⟨K, P, Z, X2, oa, on, oc, na, nn, nc, U, rfl, hb6'⟩; have hb6 : Below w3.heap.size w3 w6 := hb5.trans (hb6'.mono hb5.size); have q7 := (q5.below hb6 q5.lt).alloc (.cells #[.int .i64 K, .string P, .int .i64 Z, .string X2, .slice oa on oc, .slice na nn nc, .int .i64 U] 35); have t0 := q7.cell 0; have t1 := q7.cell 1; have t2 := q7.cell 2; have hb7 := hb6.alloc hb6.size (.cells #[.int .i64 K, .string P, .int .i64 Z, .string X2, .slice oa on oc, .slice na nn nc, .int .i64 U] 35))
      | (go_at_call 16; first
        | (refine (HR.out _ _ hb8).mono ?_; rintro e w9 ⟨rfl, hb9'⟩; have hb9 : Below w3.heap.size w3 w9 := hb8.trans (hb9'.mono hb8.size))
        | (refine (HR.out _ _ hb7).mono ?_; rintro e w8 ⟨rfl, hb8'⟩; have hb8 : Below w3.heap.size w3 w8 := hb7.trans (hb8'.mono hb7.size); have q8 := q5.below hb8 q5.lt; have u0 := q8.cell 0; have u1 := q8.cell 1; have u2 := q8.cell 2))
      | fail)
    rw [HE.out]
    clear HE
    go_wp2
    go_ret
    exact ⟨rfl, hbW.trans (hb9.mono hbW.size)⟩
  case pos =>
    have hN := New_yes f ts F _ _ _ _ [] hjW.handed hLW h1 h2 hmy (by simp)
    have hE : newE f ts F = 0 := by unfold newE; rw [if_pos hmy]
    have hInv := Ip.new_ok hmy hwg
    obtain ⟨E, hEE⟩ : ∃ E, newE f ts G = E := ⟨_, rfl⟩
    have HE : Hid (newE f ts G = E) := hEE
    clear hmy hEE
    go_upto_region 9 with (first
      | (go_at_call 14; refine hN.mono ?_; rintro e w5 ⟨x, rfl, R5, hx5, hb5⟩; have q6 := q5.below hb5 q5.lt; have s0 := q6.cell 0; have s1 := q6.cell 1; have s2 := q6.cell 2)
      | (go_at_call 15; refine (HD.out _ _ hb5 g1 g2).mono ?_; rintro e w6 ⟨K, P, Z, X2, oa, on, oc, na, nn, nc, U, rfl, hb6'⟩; have hb6 : Below w3.heap.size w3 w6 := hb5.trans (hb6'.mono hb5.size); have q7 := (q5.below hb6 q5.lt).alloc (.cells #[.int .i64 K, .string P, .int .i64 Z, .string X2, .slice oa on oc, .slice na nn nc, .int .i64 U] 35); have t0 := q7.cell 0; have t1 := q7.cell 1; have t2 := q7.cell 2; have hb7 := hb6.alloc hb6.size (.cells #[.int .i64 K, .string P, .int .i64 Z, .string X2, .slice oa on oc, .slice na nn nc, .int .i64 U] 35))
      | (go_at_call 16; first
        | (refine (HR.out _ _ hb8).mono ?_; rintro e w9 ⟨rfl, hb9'⟩; have hb9 : Below w3.heap.size w3 w9 := hb8.trans (hb9'.mono hb8.size))
        | (refine (HR.out _ _ hb7).mono ?_; rintro e w8 ⟨rfl, hb8'⟩; have hb8 : Below w3.heap.size w3 w8 := hb7.trans (hb8'.mono hb7.size); have q8 := q5.below hb8 q5.lt; have u0 := q8.cell 0; have u1 := q8.cell 1; have u2 := q8.cell 2))
      | fail)
    rw [HE.out]
    clear HE
    have R9 : RunS w9 (x.own ++ []) x (Ip.new f ts F.toNat) := R5.below (hb6'.trans ((Below.alloc (Below.refl w6.heap.size w6) (Nat.le_refl _) _).mono hb6'.size |>.trans ((hb8'.mono (by rw [size_alloc]; have := hb6'.size; omega)).trans (hb9'.mono (by have := hb8'.size; rw [size_alloc] at this; have := hb6'.size; omega)))))
    have HNd : Hid (∀ W, Below w9.heap.size w9 W → Calls Tryz.prog 17 #[.pointer (some ⟨x.p, 0, none⟩)] W fun e w' => ∃ a c, e = .returned (.slice a 0 c) ∧ Below W.heap.size W w') := fun W hb => by
      refine (Needs_any W _ x _ (R9.below hb) hInv.some hInv.len).mono ?_
      rintro e w' ⟨a, n, c, rfl, p1, p2⟩
      obtain ⟨a', c', e1, -⟩ := p1.sl.shape
      simp only [Value.slice.injEq] at e1
      obtain ⟨rfl, rfl, rfl⟩ := e1
      exact ⟨_, _, rfl, p2⟩
    have HOt : Hid (∀ W, Below w9.heap.size w9 W → Calls Tryz.prog 18 #[.pointer (some ⟨x.p, 0, none⟩)] W fun e w' => e = .returned (.slice none 0 0) ∧ w' = W) := fun W hb => Outputs_no W _ x _ (R9.below hb) hInv.some (by show (0 : Nat) ≠ 2; decide)
    have HUs : Hid (∀ W, Below w9.heap.size w9 W → Calls Tryz.prog 19 #[.pointer (some ⟨x.p, 0, none⟩)] W fun e w' => e = .returned (.int .i64 0) ∧ w' = W) := fun W hb => Used_any W _ x _ (R9.below hb) hInv.some
    have HGv : Hid (∀ W, Below w9.heap.size w9 W → Calls Tryz.prog 20 #[.pointer (some ⟨x.p, 0, none⟩), .string ⟨#[]⟩] W fun e w' => e = .returned (.int .i64 4) ∧ w' = W) := fun W hb => Give_no _ W _ x _ (R9.below hb) hInv.some (by show (0 : Nat) ≠ 1; decide)
    have HLk : Hid (∀ W, Below w9.heap.size w9 W → Calls Tryz.prog 21 #[.pointer (some ⟨x.p, 0, none⟩)] W fun e w' => e = .returned (.int .i64 4) ∧ w' = W) := fun W hb => Lack_no W _ x _ (R9.below hb) hInv.some (by show (0 : Nat) ≠ 1; decide)
    have hbW9 := hbW.trans (hb9.mono hbW.size)
    clear R9 R5 hInv hx5 hN hE hjW hLW q5 q6 q7 q8 s0 s1 s2 t0 t1 t2 u0 u1 u2
    go_wp2_with (first
      | (go_at_call 17; refine (HNd.out _ (Below.refl _ _)).mono ?_; rintro e w10 ⟨na2, nc2, rfl, hb10⟩)
      | (go_at_call 18; refine (HOt.out _ hb10).mono ?_; rintro e w11 ⟨rfl, hw⟩; rw [hw]; clear hw)
      | (go_at_call 19; refine (HUs.out _ hb10).mono ?_; rintro e w11 ⟨rfl, hw⟩; rw [hw]; clear hw)
      | (go_at_call 20; refine (HGv.out _ hb10).mono ?_; rintro e w11 ⟨rfl, hw⟩; rw [hw]; clear hw)
      | (go_at_call 21; refine (HLk.out _ hb10).mono ?_; rintro e w11 ⟨rfl, hw⟩; rw [hw]; clear hw)
      | fail)
    go_ret
    exact ⟨rfl, hbW9.trans (hb10.mono hbW9.size)⟩
end Go.Proofs.YtnobmgkdieaclaaGreatDoor

namespace Go.Proofs.YtnobmgkdieaclaaGreatDoor
open Go.RowKit

/-- the loops of a code, the outer ones first -/
def loopsOf : Code → List Code
  | .loop c => c :: loopsOf c
  | .seq a b => loopsOf a ++ loopsOf b
  | .block _ c => loopsOf c
  | .scope c => loopsOf c
  | .cond _ a b => loopsOf a ++ loopsOf b
  | _ => []
/-- the regions of a code that bear this number -/
def regsOf (n : Nat) : Code → List Code
  | .region k ops d => if k = n then [.region k ops d] else []
  | .loop c => regsOf n c
  | .seq a b => regsOf n a ++ regsOf n b
  | .block _ c => regsOf n c
  | .scope c => regsOf n c
  | .cond _ a b => regsOf n a ++ regsOf n b
  | _ => []
noncomputable def one5 : Code := ((Tryz.f65.body.map (regsOf 5)).getD []).getD 0 .skip
end Go.Proofs.YtnobmgkdieaclaaGreatDoor

namespace Go.Proofs.YtnobmgkdieaclaaGreatDoor
open Go.RowKit

set_option maxRecDepth 1000000 in
set_option maxHeartbeats 8000000 in
theorem one_h1 (o n AN : Int) (al bl g4 ac bc : Nat) (aa ba : Option Addr) (S : ByteArray) (RB : Bool) (W4 : World) (s1 : S.toList.isEmpty = false) (d0 : decide (n < 0) = false) (d1 : decide (1000 < n) = false) (_ : decide (0 ≤ AN) = false) (iA : ¬ (0 : Int) ≤ AN) (_ : (o == 10) = true) (e10 : (o != 10) = false) (_ : decide (o = 10) = true) 
    (r4 : Rw W4 g4 #[.int .i64 o, .slice aa al ac, .int .i64 n, .slice ba bl bc] 75)
    (hW0 : ∀ W, Calls Tryz.prog 89 #[.int .i64 o] W fun e w' => e = .returned (.string S) ∧ w' = W)
    (hA0 : ∀ W, Calls Tryz.prog 90 #[.int .i64 o] W fun e w' => e = .returned (.int .i64 AN) ∧ w' = W)
    (hO0 : ∀ W, Calls Tryz.prog 91 #[.int .i64 o] W fun e w' => e = .returned (.bool true) ∧ w' = W)
    (HR : Hid (Calls Tryz.prog 65 #[.slice ba bl bc] W4.drew fun e w' => e = .returned (.bool RB) ∧ Below W4.heap.size W4 w'))
    (c0_ c1_ c2_ c3_ c5_ c6_ c7_ c8_ c9_ c10_ c11_ c12_ c13_ c14_ c15_ c16_ c17_ c18_ c19_ c20_ c21_ c22_ c23_ c24_ c25_ c26_ c27_ c28_ c29_ c30_ c31_ c32_ c33_ c34_ c35_ c36_ c37_ c38_ c39_ c40_ c41_ c42_ c43_ c44_ c45_ c46_ c47_ c48_ c49_ c50_ c51_ c52_ c53_ c54_ c55_ c56_ c57_ c58_ c59_ c60_ c61_ c62_ c63_ c64_ c65_ c66_ c67_ c68_ c69_ c70_ c71_ : Value) (Q0 : Exit → Act → World → Prop) (hP : ∀ c a (d : Nat) v w, Q0 (.panic c) (a.put (some d) v) w → Q0 (.panic c) a w)
    (hQ : Hid (∀ (u15 u16 u17 u18 u19 u20 u21 u22 u23 u24 u25 u26 u27 u28 u29 u30 u31 u32 u33 u34 u35 u36 u37 u38 u39 u40 u41 u42 u43 u44 u45 u46 u47 u48 u49 u50 u51 u52 u53 u54 u55 u56 u57 u58 u59 u60 u61 u62 u63 u64 u65 u66 u67 u68 u69 u70 : Value) (w5 : World), Below W4.heap.size W4 w5 → Q0 .normal ⟨#[c0_, c1_, c2_, c3_, .pointer (some ⟨g4, 0, none⟩), c5_, c6_, c7_, c8_, c9_, c10_, c11_, c12_, c13_, c14_, u15, u16, u17, u18, u19, u20, u21, u22, u23, u24, u25, u26, u27, u28, u29, u30, u31, u32, u33, u34, u35, u36, u37, u38, u39, u40, u41, u42, u43, u44, u45, u46, u47, u48, u49, u50, u51, u52, u53, u54, u55, u56, u57, u58, u59, u60, u61, u62, u63, u64, u65, u66, u67, u68, u69, u70, .bool (!RB)], []⟩ w5)) :
    Code.wp Tryz.prog one5 Q0 ⟨#[c0_, c1_, c2_, c3_, .pointer (some ⟨g4, 0, none⟩), c5_, c6_, c7_, c8_, c9_, c10_, c11_, c12_, c13_, c14_, c15_, c16_, c17_, c18_, c19_, c20_, c21_, c22_, c23_, c24_, c25_, c26_, c27_, c28_, c29_, c30_, c31_, c32_, c33_, c34_, c35_, c36_, c37_, c38_, c39_, c40_, c41_, c42_, c43_, c44_, c45_, c46_, c47_, c48_, c49_, c50_, c51_, c52_, c53_, c54_, c55_, c56_, c57_, c58_, c59_, c60_, c61_, c62_, c63_, c64_, c65_, c66_, c67_, c68_, c69_, c70_, c71_], []⟩ W4 := by
  conv => arg 2; whnf
  have x0 := r4.cell 0
  have x1 := r4.cell 1
  have x2 := r4.cell 2
  have x3 := r4.cell 3
  refine wp_region_held_drew (S := fun X : World => X.cell? ⟨g4, 0, none⟩ = some (.int .i64 o) ∧ X.cell? ⟨g4, 1, none⟩ = some (.slice aa al ac) ∧ X.cell? ⟨g4, 2, none⟩ = some (.int .i64 n) ∧ X.cell? ⟨g4, 3, none⟩ = some (.slice ba bl bc)) (by kernel_rfl) ⟨x0, x1, x2, x3⟩ (fun hHeld => ?_)
  refine wpAnyH_take (i := 0) (v := ?_) rfl (by as_aux_lemma => kernel_rfl) (by as_aux_lemma => kernel_rfl) (by as_aux_lemma => kernel_rfl) (fun c a w h => hP c a _ _ w h) (Or.inl ⟨(by simp [Region.wanted]), ?_⟩) (hHeld) ?_
  rotate_left
  · (intro w hSw; (try dsimp only at hSw); ((go_simp) <;> (with_reducible rfl)))
  try simp only [Act.put, List.setIfInBounds_toArray]
  refine wpAnyH_take (i := 1) (v := ?_) rfl (by as_aux_lemma => kernel_rfl) (by as_aux_lemma => kernel_rfl) (by as_aux_lemma => kernel_rfl) (fun c a w h => hP c a _ _ w h) (Or.inl ⟨(by simp [Region.wanted]), ?_⟩) (hHeld) ?_
  rotate_left
  · (intro w hSw; (try dsimp only at hSw); ((go_simp) <;> (with_reducible rfl)))
  try simp only [Act.put]
  refine wpAnyH_ready (rs := [2]) (by as_aux_lemma => kernel_rfl) (by simp) ?_
  refine AllReadyH.cons rfl (fun K hK => ?_) AllReadyH.nil
  go_simp
  refine (hW0 _).mono ?_
  rintro e w5 ⟨rfl, hw5⟩
  rw [hw5]
  clear hw5
  refine hK.out _ _ (⟨x0, x1, x2, x3⟩) (fun hHeld => ?_)
  clear hK K
  try simp only [Act.put, List.setIfInBounds_toArray, List.set_cons_zero, List.set_cons_succ]
  refine wpAnyH_take (i := 3) (v := ?_) rfl (by as_aux_lemma => kernel_rfl) (by as_aux_lemma => kernel_rfl) (by as_aux_lemma => kernel_rfl) (fun c a w h => hP c a _ _ w h) (Or.inl ⟨(by simp [Region.wanted]), ?_⟩) (hHeld) ?_
  rotate_left
  · (intro w hSw; (try dsimp only at hSw); ((go_simp) <;> (with_reducible rfl)))
  try simp only [Act.put, List.setIfInBounds_toArray]
  refine wpAnyH_take (i := 4) (v := ?_) rfl (by as_aux_lemma => kernel_rfl) (by as_aux_lemma => kernel_rfl) (by as_aux_lemma => kernel_rfl) (fun c a w h => hP c a _ _ w h) (Or.inl ⟨(by simp [Region.wanted]), ?_⟩) (hHeld) ?_
  rotate_left
  · (intro w hSw; (try dsimp only at hSw); ((go_simp) <;> (with_reducible rfl)))
  try simp only [Act.put]
  refine wpAnyH_take (i := 5) (v := ?_) rfl (by as_aux_lemma => kernel_rfl) (by as_aux_lemma => kernel_rfl) (by as_aux_lemma => kernel_rfl) (fun c a w h => hP c a _ _ w h) (Or.inl ⟨(by simp [Region.wanted, yielded]), ?_⟩) (hHeld) ?_
  rotate_left
  · (intro w hSw; (try dsimp only at hSw); ((go_simp) <;> (with_reducible rfl)))
  try simp only [Act.put]
  refine wpAnyH_take (i := 6) (v := ?_) rfl (by as_aux_lemma => kernel_rfl) (by as_aux_lemma => kernel_rfl) (by as_aux_lemma => kernel_rfl) (fun c a w h => hP c a _ _ w h) (Or.inl ⟨(by simp [Region.wanted, yielded]), ?_⟩) (hHeld) ?_
  rotate_left
  · (intro w hSw; (try dsimp only at hSw); ((go_simp) <;> (with_reducible rfl)))
  try simp only [Act.put]
  refine wpAnyH_ready (rs := [7]) (by as_aux_lemma => kernel_rfl) (by simp) ?_
  refine AllReadyH.cons rfl (fun K hK => ?_) AllReadyH.nil
  go_simp
  refine (hA0 _).mono ?_
  rintro e w5 ⟨rfl, hw5⟩
  rw [hw5]
  clear hw5
  refine hK.out _ _ (⟨x0, x1, x2, x3⟩) (fun hHeld => ?_)
  clear hK K
  try simp only [Act.put, List.setIfInBounds_toArray, List.set_cons_zero, List.set_cons_succ]
  refine wpAnyH_take (i := 8) (v := ?_) rfl (by as_aux_lemma => kernel_rfl) (by as_aux_lemma => kernel_rfl) (by as_aux_lemma => kernel_rfl) (fun c a w h => hP c a _ _ w h) (Or.inl ⟨(by simp [Region.wanted, yielded]), ?_⟩) (hHeld) ?_
  rotate_left
  · (intro w hSw; (try dsimp only at hSw); ((go_simp) <;> (with_reducible rfl)))
  try simp only [Act.put, List.setIfInBounds_toArray]
  refine wpAnyH_take (i := 9) (v := ?_) rfl (by as_aux_lemma => kernel_rfl) (by as_aux_lemma => kernel_rfl) (by as_aux_lemma => kernel_rfl) (fun c a w h => hP c a _ _ w h) (Or.inl ⟨(by simp [Region.wanted, yielded]), ?_⟩) (hHeld) ?_
  rotate_left
  · (intro w hSw; (try dsimp only at hSw); ((go_simp) <;> (with_reducible rfl)))
  try simp only [Act.put]
  refine wpAnyH_take (i := 10) (v := undef) rfl (by as_aux_lemma => kernel_rfl) (by as_aux_lemma => kernel_rfl) (by as_aux_lemma => kernel_rfl) (fun c a w h => hP c a _ _ w h) (Or.inr ⟨(by simp [Region.wanted, yielded]), rfl⟩) (hHeld) ?_
  try simp only [Act.put]
  refine wpAnyH_take (i := 11) (v := undef) rfl (by as_aux_lemma => kernel_rfl) (by as_aux_lemma => kernel_rfl) (by as_aux_lemma => kernel_rfl) (fun c a w h => hP c a _ _ w h) (Or.inr ⟨(by simp [Region.wanted, yielded]), rfl⟩) (hHeld) ?_
  try simp only [Act.put]
  refine wpAnyH_take (i := 12) (v := undef) rfl (by as_aux_lemma => kernel_rfl) (by as_aux_lemma => kernel_rfl) (by as_aux_lemma => kernel_rfl) (fun c a w h => hP c a _ _ w h) (Or.inr ⟨(by simp [Region.wanted, yielded]), rfl⟩) (hHeld) ?_
  try simp only [Act.put]
  refine wpAnyH_take (i := 13) (v := undef) rfl (by as_aux_lemma => kernel_rfl) (by as_aux_lemma => kernel_rfl) (by as_aux_lemma => kernel_rfl) (fun c a w h => hP c a _ _ w h) (Or.inr ⟨(by simp [Region.wanted, yielded]), rfl⟩) (hHeld) ?_
  try simp only [Act.put]
  refine wpAnyH_take (i := 14) (v := undef) rfl (by as_aux_lemma => kernel_rfl) (by as_aux_lemma => kernel_rfl) (by as_aux_lemma => kernel_rfl) (fun c a w h => hP c a _ _ w h) (Or.inr ⟨(by simp [Region.wanted, yielded]), rfl⟩) (hHeld) ?_
  try simp only [Act.put]
  refine wpAnyH_take (i := 15) (v := undef) rfl (by as_aux_lemma => kernel_rfl) (by as_aux_lemma => kernel_rfl) (by as_aux_lemma => kernel_rfl) (fun c a w h => hP c a _ _ w h) (Or.inr ⟨(by simp [Region.wanted, yielded]), rfl⟩) (hHeld) ?_
  try simp only [Act.put]
  refine wpAnyH_take (i := 16) (v := undef) rfl (by as_aux_lemma => kernel_rfl) (by as_aux_lemma => kernel_rfl) (by as_aux_lemma => kernel_rfl) (fun c a w h => hP c a _ _ w h) (Or.inr ⟨(by simp [Region.wanted, yielded]), rfl⟩) (hHeld) ?_
  try simp only [Act.put]
  refine wpAnyH_take (i := 17) (v := ?_) rfl (by as_aux_lemma => kernel_rfl) (by as_aux_lemma => kernel_rfl) (by as_aux_lemma => kernel_rfl) (fun c a w h => hP c a _ _ w h) (Or.inl ⟨(by simp [Region.wanted, yielded]), ?_⟩) (hHeld) ?_
  rotate_left
  · (intro w hSw; (try dsimp only at hSw); ((go_simp) <;> (with_reducible rfl)))
  try simp only [Act.put]
  refine wpAnyH_take (i := 18) (v := ?_) rfl (by as_aux_lemma => kernel_rfl) (by as_aux_lemma => kernel_rfl) (by as_aux_lemma => kernel_rfl) (fun c a w h => hP c a _ _ w h) (Or.inl ⟨(by simp [Region.wanted]), ?_⟩) (hHeld) ?_
  rotate_left
  · (intro w hSw; (try dsimp only at hSw); ((go_simp) <;> (with_reducible rfl)))
  try simp only [Act.put]
  refine wpAnyH_take (i := 19) (v := ?_) rfl (by as_aux_lemma => kernel_rfl) (by as_aux_lemma => kernel_rfl) (by as_aux_lemma => kernel_rfl) (fun c a w h => hP c a _ _ w h) (Or.inl ⟨(by simp [Region.wanted]), ?_⟩) (hHeld) ?_
  rotate_left
  · (intro w hSw; (try dsimp only at hSw); ((go_simp) <;> (with_reducible rfl)))
  try simp only [Act.put]
  refine wpAnyH_take (i := 20) (v := ?_) rfl (by as_aux_lemma => kernel_rfl) (by as_aux_lemma => kernel_rfl) (by as_aux_lemma => kernel_rfl) (fun c a w h => hP c a _ _ w h) (Or.inl ⟨(by simp [Region.wanted, yielded]), ?_⟩) (hHeld) ?_
  rotate_left
  · (intro w hSw; (try dsimp only at hSw); ((go_simp) <;> (with_reducible rfl)))
  try simp only [Act.put]
  refine wpAnyH_take (i := 21) (v := ?_) rfl (by as_aux_lemma => kernel_rfl) (by as_aux_lemma => kernel_rfl) (by as_aux_lemma => kernel_rfl) (fun c a w h => hP c a _ _ w h) (Or.inl ⟨(by simp [Region.wanted, yielded]), ?_⟩) (hHeld) ?_
  rotate_left
  · (intro w hSw; (try dsimp only at hSw); ((go_simp) <;> (with_reducible rfl)))
  try simp only [Act.put]
  refine wpAnyH_take (i := 22) (v := ?_) rfl (by as_aux_lemma => kernel_rfl) (by as_aux_lemma => kernel_rfl) (by as_aux_lemma => kernel_rfl) (fun c a w h => hP c a _ _ w h) (Or.inl ⟨(by simp [Region.wanted, yielded]), ?_⟩) (hHeld) ?_
  rotate_left
  · (intro w hSw; (try dsimp only at hSw); ((go_simp) <;> (with_reducible rfl)))
  try simp only [Act.put]
  refine wpAnyH_take (i := 23) (v := ?_) rfl (by as_aux_lemma => kernel_rfl) (by as_aux_lemma => kernel_rfl) (by as_aux_lemma => kernel_rfl) (fun c a w h => hP c a _ _ w h) (Or.inl ⟨(by simp [Region.wanted]), ?_⟩) (hHeld) ?_
  rotate_left
  · (intro w hSw; (try dsimp only at hSw); ((go_simp) <;> (with_reducible rfl)))
  try simp only [Act.put]
  refine wpAnyH_take (i := 24) (v := ?_) rfl (by as_aux_lemma => kernel_rfl) (by as_aux_lemma => kernel_rfl) (by as_aux_lemma => kernel_rfl) (fun c a w h => hP c a _ _ w h) (Or.inl ⟨(by simp [Region.wanted]), ?_⟩) (hHeld) ?_
  rotate_left
  · (intro w hSw; (try dsimp only at hSw); ((go_simp) <;> (with_reducible rfl)))
  try simp only [Act.put]
  refine wpAnyH_take (i := 25) (v := ?_) rfl (by as_aux_lemma => kernel_rfl) (by as_aux_lemma => kernel_rfl) (by as_aux_lemma => kernel_rfl) (fun c a w h => hP c a _ _ w h) (Or.inl ⟨(by simp [Region.wanted, yielded]), ?_⟩) (hHeld) ?_
  rotate_left
  · (intro w hSw; (try dsimp only at hSw); ((go_simp) <;> (with_reducible rfl)))
  try simp only [Act.put]
  refine wpAnyH_take (i := 26) (v := ?_) rfl (by as_aux_lemma => kernel_rfl) (by as_aux_lemma => kernel_rfl) (by as_aux_lemma => kernel_rfl) (fun c a w h => hP c a _ _ w h) (Or.inl ⟨(by simp [Region.wanted, yielded]), ?_⟩) (hHeld) ?_
  rotate_left
  · (intro w hSw; (try dsimp only at hSw); ((go_simp) <;> (with_reducible rfl)))
  try simp only [Act.put]
  refine wpAnyH_take (i := 27) (v := ?_) rfl (by as_aux_lemma => kernel_rfl) (by as_aux_lemma => kernel_rfl) (by as_aux_lemma => kernel_rfl) (fun c a w h => hP c a _ _ w h) (Or.inl ⟨(by simp [Region.wanted, yielded]), ?_⟩) (hHeld) ?_
  rotate_left
  · (intro w hSw; (try dsimp only at hSw); ((go_simp) <;> (with_reducible rfl)))
  try simp only [Act.put]
  refine wpAnyH_take (i := 28) (v := ?_) rfl (by as_aux_lemma => kernel_rfl) (by as_aux_lemma => kernel_rfl) (by as_aux_lemma => kernel_rfl) (fun c a w h => hP c a _ _ w h) (Or.inl ⟨(by simp [Region.wanted]), ?_⟩) (hHeld) ?_
  rotate_left
  · (intro w hSw; (try dsimp only at hSw); ((go_simp) <;> (with_reducible rfl)))
  try simp only [Act.put]
  refine wpAnyH_take (i := 29) (v := ?_) rfl (by as_aux_lemma => kernel_rfl) (by as_aux_lemma => kernel_rfl) (by as_aux_lemma => kernel_rfl) (fun c a w h => hP c a _ _ w h) (Or.inl ⟨(by simp [Region.wanted]), ?_⟩) (hHeld) ?_
  rotate_left
  · (intro w hSw; (try dsimp only at hSw); ((go_simp) <;> (with_reducible rfl)))
  try simp only [Act.put]
  refine wpAnyH_take (i := 30) (v := ?_) rfl (by as_aux_lemma => kernel_rfl) (by as_aux_lemma => kernel_rfl) (by as_aux_lemma => kernel_rfl) (fun c a w h => hP c a _ _ w h) (Or.inl ⟨(by simp [Region.wanted, yielded]), ?_⟩) (hHeld) ?_
  rotate_left
  · (intro w hSw; (try dsimp only at hSw); ((go_simp) <;> (with_reducible rfl)))
  try simp only [Act.put]
  refine wpAnyH_take (i := 31) (v := ?_) rfl (by as_aux_lemma => kernel_rfl) (by as_aux_lemma => kernel_rfl) (by as_aux_lemma => kernel_rfl) (fun c a w h => hP c a _ _ w h) (Or.inl ⟨(by simp [Region.wanted, yielded]), ?_⟩) (hHeld) ?_
  rotate_left
  · (intro w hSw; (try dsimp only at hSw); ((go_simp) <;> (with_reducible rfl)))
  try simp only [Act.put]
  refine wpAnyH_take (i := 32) (v := ?_) rfl (by as_aux_lemma => kernel_rfl) (by as_aux_lemma => kernel_rfl) (by as_aux_lemma => kernel_rfl) (fun c a w h => hP c a _ _ w h) (Or.inl ⟨(by simp [Region.wanted, yielded]), ?_⟩) (hHeld) ?_
  rotate_left
  · (intro w hSw; (try dsimp only at hSw); ((go_simp) <;> (with_reducible rfl)))
  try simp only [Act.put]
  refine wpAnyH_take (i := 33) (v := ?_) rfl (by as_aux_lemma => kernel_rfl) (by as_aux_lemma => kernel_rfl) (by as_aux_lemma => kernel_rfl) (fun c a w h => hP c a _ _ w h) (Or.inl ⟨(by simp [Region.wanted, yielded]), ?_⟩) (hHeld) ?_
  rotate_left
  · (intro w hSw; (try dsimp only at hSw); ((go_simp) <;> (with_reducible rfl)))
  try simp only [Act.put]
  refine wpAnyH_take (i := 34) (v := undef) rfl (by as_aux_lemma => kernel_rfl) (by as_aux_lemma => kernel_rfl) (by as_aux_lemma => kernel_rfl) (fun c a w h => hP c a _ _ w h) (Or.inr ⟨(by simp [Region.wanted, yielded]), rfl⟩) (hHeld) ?_
  try simp only [Act.put]
  refine wpAnyH_take (i := 35) (v := undef) rfl (by as_aux_lemma => kernel_rfl) (by as_aux_lemma => kernel_rfl) (by as_aux_lemma => kernel_rfl) (fun c a w h => hP c a _ _ w h) (Or.inr ⟨(by simp [Region.wanted, yielded]), rfl⟩) (hHeld) ?_
  try simp only [Act.put]
  refine wpAnyH_take (i := 36) (v := undef) rfl (by as_aux_lemma => kernel_rfl) (by as_aux_lemma => kernel_rfl) (by as_aux_lemma => kernel_rfl) (fun c a w h => hP c a _ _ w h) (Or.inr ⟨(by simp [Region.wanted, yielded]), rfl⟩) (hHeld) ?_
  try simp only [Act.put]
  refine wpAnyH_take (i := 37) (v := ?_) rfl (by as_aux_lemma => kernel_rfl) (by as_aux_lemma => kernel_rfl) (by as_aux_lemma => kernel_rfl) (fun c a w h => hP c a _ _ w h) (Or.inl ⟨(by simp [Region.wanted, yielded]), ?_⟩) (hHeld) ?_
  rotate_left
  · (intro w hSw; (try dsimp only at hSw); ((go_simp) <;> (with_reducible rfl)))
  try simp only [Act.put]
  refine wpAnyH_take (i := 38) (v := ?_) rfl (by as_aux_lemma => kernel_rfl) (by as_aux_lemma => kernel_rfl) (by as_aux_lemma => kernel_rfl) (fun c a w h => hP c a _ _ w h) (Or.inl ⟨(by simp [Region.wanted]), ?_⟩) (hHeld) ?_
  rotate_left
  · (intro w hSw; (try dsimp only at hSw); ((go_simp) <;> (with_reducible rfl)))
  try simp only [Act.put]
  refine wpAnyH_take (i := 39) (v := ?_) rfl (by as_aux_lemma => kernel_rfl) (by as_aux_lemma => kernel_rfl) (by as_aux_lemma => kernel_rfl) (fun c a w h => hP c a _ _ w h) (Or.inl ⟨(by simp [Region.wanted]), ?_⟩) (hHeld) ?_
  rotate_left
  · (intro w hSw; (try dsimp only at hSw); ((go_simp) <;> (with_reducible rfl)))
  try simp only [Act.put]
  refine wpAnyH_take (i := 40) (v := ?_) rfl (by as_aux_lemma => kernel_rfl) (by as_aux_lemma => kernel_rfl) (by as_aux_lemma => kernel_rfl) (fun c a w h => hP c a _ _ w h) (Or.inl ⟨(by simp [Region.wanted, yielded]), ?_⟩) (hHeld) ?_
  rotate_left
  · (intro w hSw; (try dsimp only at hSw); ((go_simp) <;> (with_reducible rfl)))
  try simp only [Act.put]
  refine wpAnyH_take (i := 41) (v := ?_) rfl (by as_aux_lemma => kernel_rfl) (by as_aux_lemma => kernel_rfl) (by as_aux_lemma => kernel_rfl) (fun c a w h => hP c a _ _ w h) (Or.inl ⟨(by simp [Region.wanted, yielded]), ?_⟩) (hHeld) ?_
  rotate_left
  · (intro w hSw; (try dsimp only at hSw); ((go_simp) <;> (with_reducible rfl)))
  try simp only [Act.put]
  refine wpAnyH_ready (rs := [42]) (by as_aux_lemma => kernel_rfl) (by simp) ?_
  refine AllReadyH.cons rfl (fun K hK => ?_) AllReadyH.nil
  go_simp
  refine (hO0 _).mono ?_
  rintro e w5 ⟨rfl, hw5⟩
  rw [hw5]
  clear hw5
  refine hK.out _ _ (⟨x0, x1, x2, x3⟩) (fun hHeld => ?_)
  clear hK K
  try simp only [Act.put, List.setIfInBounds_toArray, List.set_cons_zero, List.set_cons_succ]
  refine wpAnyH_take (i := 43) (v := ?_) rfl (by as_aux_lemma => kernel_rfl) (by as_aux_lemma => kernel_rfl) (by as_aux_lemma => kernel_rfl) (fun c a w h => hP c a _ _ w h) (Or.inl ⟨(by simp [Region.wanted, yielded]), ?_⟩) (hHeld) ?_
  rotate_left
  · (intro w hSw; (try dsimp only at hSw); ((go_simp) <;> (with_reducible rfl)))
  try simp only [Act.put, List.setIfInBounds_toArray]
  refine wpAnyH_take (i := 44) (v := ?_) rfl (by as_aux_lemma => kernel_rfl) (by as_aux_lemma => kernel_rfl) (by as_aux_lemma => kernel_rfl) (fun c a w h => hP c a _ _ w h) (Or.inl ⟨(by simp [Region.wanted, yielded]), ?_⟩) (hHeld) ?_
  rotate_left
  · (intro w hSw; (try dsimp only at hSw); ((go_simp) <;> (with_reducible rfl)))
  try simp only [Act.put]
  refine wpAnyH_take (i := 45) (v := undef) rfl (by as_aux_lemma => kernel_rfl) (by as_aux_lemma => kernel_rfl) (by as_aux_lemma => kernel_rfl) (fun c a w h => hP c a _ _ w h) (Or.inr ⟨(by simp [Region.wanted, yielded]), rfl⟩) (hHeld) ?_
  try simp only [Act.put]
  refine wpAnyH_take (i := 46) (v := undef) rfl (by as_aux_lemma => kernel_rfl) (by as_aux_lemma => kernel_rfl) (by as_aux_lemma => kernel_rfl) (fun c a w h => hP c a _ _ w h) (Or.inr ⟨(by simp [Region.wanted, yielded]), rfl⟩) (hHeld) ?_
  try simp only [Act.put]
  refine wpAnyH_take (i := 47) (v := undef) rfl (by as_aux_lemma => kernel_rfl) (by as_aux_lemma => kernel_rfl) (by as_aux_lemma => kernel_rfl) (fun c a w h => hP c a _ _ w h) (Or.inr ⟨(by simp [Region.wanted, yielded]), rfl⟩) (hHeld) ?_
  try simp only [Act.put]
  refine wpAnyH_take (i := 48) (v := undef) rfl (by as_aux_lemma => kernel_rfl) (by as_aux_lemma => kernel_rfl) (by as_aux_lemma => kernel_rfl) (fun c a w h => hP c a _ _ w h) (Or.inr ⟨(by simp [Region.wanted, yielded]), rfl⟩) (hHeld) ?_
  try simp only [Act.put]
  refine wpAnyH_take (i := 49) (v := ?_) rfl (by as_aux_lemma => kernel_rfl) (by as_aux_lemma => kernel_rfl) (by as_aux_lemma => kernel_rfl) (fun c a w h => hP c a _ _ w h) (Or.inl ⟨(by simp [Region.wanted, yielded]), ?_⟩) (hHeld) ?_
  rotate_left
  · (intro w hSw; (try dsimp only at hSw); ((go_simp) <;> (with_reducible rfl)))
  try simp only [Act.put]
  refine wpAnyH_take (i := 50) (v := ?_) rfl (by as_aux_lemma => kernel_rfl) (by as_aux_lemma => kernel_rfl) (by as_aux_lemma => kernel_rfl) (fun c a w h => hP c a _ _ w h) (Or.inl ⟨(by simp [Region.wanted]), ?_⟩) (hHeld) ?_
  rotate_left
  · (intro w hSw; (try dsimp only at hSw); ((go_simp) <;> (with_reducible rfl)))
  try simp only [Act.put]
  refine wpAnyH_take (i := 51) (v := ?_) rfl (by as_aux_lemma => kernel_rfl) (by as_aux_lemma => kernel_rfl) (by as_aux_lemma => kernel_rfl) (fun c a w h => hP c a _ _ w h) (Or.inl ⟨(by simp [Region.wanted]), ?_⟩) (hHeld) ?_
  rotate_left
  · (intro w hSw; (try dsimp only at hSw); ((go_simp) <;> (with_reducible rfl)))
  try simp only [Act.put]
  refine wpAnyH_take (i := 52) (v := ?_) rfl (by as_aux_lemma => kernel_rfl) (by as_aux_lemma => kernel_rfl) (by as_aux_lemma => kernel_rfl) (fun c a w h => hP c a _ _ w h) (Or.inl ⟨(by simp [Region.wanted, yielded]), ?_⟩) (hHeld) ?_
  rotate_left
  · (intro w hSw; (try dsimp only at hSw); ((go_simp) <;> (with_reducible rfl)))
  try simp only [Act.put]
  refine wpAnyH_take (i := 53) (v := ?_) rfl (by as_aux_lemma => kernel_rfl) (by as_aux_lemma => kernel_rfl) (by as_aux_lemma => kernel_rfl) (fun c a w h => hP c a _ _ w h) (Or.inl ⟨(by simp [Region.wanted, yielded]), ?_⟩) (hHeld) ?_
  rotate_left
  · (intro w hSw; (try dsimp only at hSw); ((go_simp) <;> (with_reducible rfl)))
  try simp only [Act.put]
  refine wpAnyH_ready (rs := [54]) (by as_aux_lemma => kernel_rfl) (by simp) ?_
  refine AllReadyH.cons rfl (fun K hK => ?_) AllReadyH.nil
  go_simp
  refine HR.out.mono ?_
  rintro e w5 ⟨rfl, hb5⟩
  refine hK.out _ _ (⟨(r4.below hb5 r4.lt).cell 0, (r4.below hb5 r4.lt).cell 1, (r4.below hb5 r4.lt).cell 2, (r4.below hb5 r4.lt).cell 3⟩) (fun hHeld => ?_)
  clear hK K
  try simp only [Act.put, List.setIfInBounds_toArray, List.set_cons_zero, List.set_cons_succ]
  refine wpAnyH_take (i := 55) (v := ?_) rfl (by as_aux_lemma => kernel_rfl) (by as_aux_lemma => kernel_rfl) (by as_aux_lemma => kernel_rfl) (fun c a w h => hP c a _ _ w h) (Or.inl ⟨(by simp [Region.wanted, yielded]), ?_⟩) (hHeld) ?_
  rotate_left
  · (intro w hSw; (try dsimp only at hSw); ((go_simp) <;> (with_reducible rfl)))
  try simp only [Act.put, List.setIfInBounds_toArray]
  refine wpAnyH_ready (rs := [56]) (by as_aux_lemma => kernel_rfl) (by simp) ?_
  refine AllReadyH.cons rfl (fun K hK => ?_) AllReadyH.nil
  go_simp
  refine hK.out _ _ (⟨(r4.below hb5 r4.lt).cell 0, (r4.below hb5 r4.lt).cell 1, (r4.below hb5 r4.lt).cell 2, (r4.below hb5 r4.lt).cell 3⟩) (fun hHeld => ?_)
  clear hK K
  try simp only [Act.put, List.setIfInBounds_toArray, List.set_cons_zero, List.set_cons_succ]
  refine wpAnyH_done (by as_aux_lemma => kernel_rfl) ?_ _
  exact hQ.out _ _ _ _ _ _ _ _ _ _ _ _ _ _ _ _ _ _ _ _ _ _ _ _ _ _ _ _ _ _ _ _ _ _ _ _ _ _ _ _ _ _ _ _ _ _ _ _ _ _ _ _ _ _ _ _ _ hb5
end Go.Proofs.YtnobmgkdieaclaaGreatDoor
