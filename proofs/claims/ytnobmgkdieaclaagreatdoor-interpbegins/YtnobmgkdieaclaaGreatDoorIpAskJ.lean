/-
  InterpAsks' own closure: it notes whom it was asked for, and tells one table's content or the other's.
-/
import Derived.Test.YtnobmgkdieaclaaGreatDoorIpFiles
import Derived.Test.YtnobmgkdieaclaaGreatDoorIbMay
namespace Go.Proofs.YtnobmgkdieaclaaGreatDoor
open Go.RowKit

/-- of some paths what one table has, of all others what the other one has -/
def Ip.mix (ns : List Ip.B) (l m : List (Ip.B × Ip.B)) (p : Ip.B) : Option Ip.B := if p ∈ ns then Ip.find l p else Ip.find m p
/-- what that closure finds -/
structure AskK (bq ga b4 b5 : Nat) (cs : Array Value) (v1 v2 : Value) (na : Option Addr) (nc : Nat) (ns : List Ip.B) (l m : List (Ip.B × Ip.B)) (W : World) : Prop where
  ra : Rw W ga cs 35
  la : ga < bq
  r4 : Rw W b4 #[v1] 54
  l4 : b4 < bq
  r5 : Rw W b5 #[v2] 54
  l5 : b5 < bq
  f1 : FiR.Sl W bq v1 l
  f2 : FiR.Sl W bq v2 m
  tn : TxR.Sl W bq (.slice na ns.length nc) ns
theorem AskK.below {bq ga b4 b5 : Nat} {cs : Array Value} {v1 v2 : Value} {na : Option Addr} {nc : Nat} {ns : List Ip.B} {l m : List (Ip.B × Ip.B)} {W W' : World} (h : AskK bq ga b4 b5 cs v1 v2 na nc ns l m W) (hb : Below bq W W') : AskK bq ga b4 b5 cs v1 v2 na nc ns l m W' :=
  ⟨h.ra.below hb h.la, h.la, h.r4.below hb h.l4, h.l4, h.r5.below hb h.l5, h.l5, h.f1.below hb (Nat.le_refl _), h.f2.below hb (Nat.le_refl _), h.tn.below hb (Nat.le_refl _)⟩
def AskJ (bq ga b4 b5 : Nat) (cs : Array Value) (v1 v2 : Value) (na : Option Addr) (nc : Nat) (ns : List Ip.B) (l m : List (Ip.B × Ip.B)) (qs : List Ip.B) (D : List Nat) (W : World) : Prop :=
  ∃ v, D = bq :: v.ownBlock.toList ∧ Rw W bq #[v] 23 ∧ TxR.Own W (bq + 1) v qs ∧ AskK bq ga b4 b5 cs v1 v2 na nc ns l m W
theorem ask_keeps (B0 bq ga b4 b5 : Nat) (cs : Array Value) (v1 v2 : Value) (na : Option Addr) (nc : Nat) (ns : List Ip.B) (l m : List (Ip.B × Ip.B)) (hB : bq < B0) : Keeps B0 (AskJ bq ga b4 b5 cs v1 v2 na nc ns l m) where
  keep := by
    rintro qs D W W' S ⟨v, rfl, h1, h2, h3⟩ hT hS
    have hlt := h1.lt
    have hb : Below bq W W' := hT.below' (by omega) (fun b hb => by have := (hS b hb).1; omega)
    exact ⟨v, rfl, h1.turn hT (fun hx => (hS _ hx).2 (List.mem_cons_self ..)), h2.turnP hT (fun g hg hx => (hS g hx).2 (List.mem_cons_of_mem _ (by simp [hg]))), h3.below hb⟩
  lt := by
    rintro qs D W ⟨v, rfl, h1, h2, h3⟩ b hb
    rcases List.mem_cons.1 hb with rfl | hb
    · exact h1.lt
    · exact (h2.lt b (by simpa using hb)).2
set_option maxRecDepth 100000 in
set_option maxHeartbeats 1000000 in
theorem ask_ask (bq ga b4 b5 : Nat) (K : Int) (P : ByteArray) (Z : Int) (X2 : ByteArray) (ov : Value) (U : Int) (v1 v2 : Value) (na : Option Addr) (nc : Nat) (ns : List Ip.B) (l m : List (Ip.B × Ip.B)) (hn1 : l.length ≤ 140737488351232) (hz1 : ∀ a ∈ l, a.2.length ≤ 140737488351232) (hn2 : m.length ≤ 140737488351232) (hz2 : ∀ a ∈ m, a.2.length ≤ 140737488351232) (hns : ns.length ≤ 1000) :
    AskC 33 #[.pointer (some ⟨bq, 0, none⟩), .pointer (some ⟨ga, 0, none⟩), .pointer (some ⟨b4, 0, none⟩), .pointer (some ⟨b5, 0, none⟩)] (Ip.mix ns l m) (AskJ bq ga b4 b5 #[.int .i64 K, .string P, .int .i64 Z, .string X2, ov, .slice na ns.length nc, .int .i64 U] v1 v2 na nc ns l m) where
  enter := enters_of Tryz.func33 (by kernel_rfl) rfl
  short := by
    intro p c hc
    have key : ∀ (l : List (Ip.B × Ip.B)), (∀ a ∈ l, a.2.length ≤ 140737488351232) → Ip.find l p = some c → c.length ≤ 140737488351232 := by
      intro l
      induction l with
      | nil => intro _ h; cases h
      | cons a r ih =>
        intro hz h
        rw [Ip.find] at h
        split at h
        · cases h; exact hz a (List.mem_cons_self ..)
        · exact ih (fun b hb => hz b (List.mem_cons_of_mem _ hb)) h
    unfold Ip.mix at hc
    split at hc
    · exact key l hz1 hc
    · exact key m hz2 hc
  call := by
    rintro W qs D p ⟨v, rfl, h1, h2, h3⟩ - hq8
    show Calls Tryz.prog 33 #[.string (str p), .pointer (some ⟨bq, 0, none⟩), .pointer (some ⟨ga, 0, none⟩), .pointer (some ⟨b4, 0, none⟩), .pointer (some ⟨b5, 0, none⟩)] W _
    have hbq := h1.lt
    have b0 := h1.cell 0
    show Calls Tryz.prog 33 _ W fun e w' => e = .returned (.tuple #[.string (str ((Ip.mix ns l m p).getD [])), .bool (Ip.mix ns l m p).isSome]) ∧ _
    obtain ⟨R, hR⟩ : ∃ R, Ip.mix ns l m p = R := ⟨_, rfl⟩
    rw [hR]
    obtain ⟨SR, hSR⟩ : ∃ SR, str (R.getD []) = SR := ⟨_, rfl⟩
    obtain ⟨QR, hQR⟩ : ∃ QR, R.isSome = QR := ⟨_, rfl⟩
    rw [hSR, hQR]
    have HSQ : Hid (str (R.getD []) = SR ∧ R.isSome = QR) := ⟨hSR, hQR⟩
    clear hSR hQR
    have hlit := TxR.lit W p #[.string (str p)] rfl
    have hown2 := h2.alloc (.cells #[.string (str p)] 9)
    have hb2 := (Below.refl W.heap.size W).alloc (Nat.le_refl _) (.cells #[.string (str p)] 9)
    have hz2 := size_alloc W (.cells #[.string (str p)] 9)
    have HLn : Hid (qs.length + [p].length ≤ 1099511627) := by show _ ≤ _; simp; omega
    obtain ⟨PP, hPP⟩ : ∃ PP, str p = PP := ⟨_, rfl⟩
    rw [hPP] at hlit hown2 hb2 hz2 ⊢
    go_enter Tryz.func33, Tryz.ntmps33
    go_upto_region 2 with (first | (at_builtin; go_must (refine TxR.append_at rfl (.tmp 12) (.tmp 14) rfl (bq + 1) (W.heap.size + 1) _ _ qs [p] rfl hown2 rfl hlit (by simp) HLn (by omega) ?_)) | fail)
    intro g cap w1 hO1 hG1 hg1 hlt1
    have hTg : Turn v.ownBlock.toList W w1 := ((Turn.refl _ W).alloc (.cells #[.string PP] 9)).grow hG1 (fun x e _ => by simp [e])
    have hnb : bq ∉ v.ownBlock.toList := fun hx => by have := (h2.lt bq (by simpa using hx)).1; omega
    have rq := h1.turn hTg hnb
    have x0 := rq.cell 0
    have y0 := rq.free 0
    have rQ := rq.set 0 (.slice (some ⟨g, 0, none⟩) (qs.length + [p].length) cap) (by simp)
    have oQ := hO1.put bq 0 (.slice (some ⟨g, 0, none⟩) (qs.length + [p].length) cap) (by omega)
    have hTQ : Turn (bq :: v.ownBlock.toList) W (w1.setCell ⟨bq, 0, none⟩ (.slice (some ⟨g, 0, none⟩) (qs.length + [p].length) cap)) := (hTg.mono (S' := bq :: v.ownBlock.toList) (fun x hx _ => List.mem_cons_of_mem _ hx)).trans (Turn.put1 w1 bq 0 _) (fun x hx _ => by rw [List.mem_singleton] at hx; rw [hx]; exact List.mem_cons_self ..)
    have hKQ := h3.below (hTQ.below' (B := bq) (by omega) (fun x hx => by
      rcases List.mem_cons.1 hx with rfl | hx
      · exact Nat.le_refl _
      · have := (h2.lt x (by simpa using hx)).1; omega))
    have hgD : g ∈ (bq :: v.ownBlock.toList) ∨ W.heap.size ≤ g := by
      rcases hg1 with e | e
      · exact .inl (List.mem_cons_of_mem _ (by simp [e]))
      · exact .inr (by rw [e]; simp)
    have hzQ := hTQ.size
    clear hlit hown2 hb2 hz2 hTg hnb rq hO1 hG1 hg1 b0
    go_upto_region 2 with fail
    change Rw _ bq #[_] _ at rQ
    generalize w1.setCell ⟨bq, 0, none⟩ (.slice (some ⟨g, 0, none⟩) (qs.length + 1) cap) = Q at *
    have k5 := hKQ.ra.cell 5
    have k4 := hKQ.r4.cell 0
    have k55 := hKQ.r5.cell 0
    have nb : (ns.length : Int) ≤ 1000 := by omega
    have hQl := rQ.lt
    have HF1 := Find_any l v1 p Q bq hKQ.f1 (by omega) hn1
    have HF2 := Find_any m v2 p Q bq hKQ.f2 (by omega) hn2
    unfold ansV at HF1 HF2
    rw [hPP] at HF1 HF2
    have HEnd : Hid (∀ V, Below Q.heap.size Q V → ∃ D', AskJ bq ga b4 b5 #[.int .i64 K, .string P, .int .i64 Z, .string X2, ov, .slice na ns.length nc, .int .i64 U] v1 v2 na nc ns l m (qs ++ [p]) D' V ∧ (∀ b ∈ D', b ∈ bq :: v.ownBlock.toList ∨ W.heap.size ≤ b) ∧ Turn (bq :: v.ownBlock.toList) W V) := fun V hbx => by
      refine ⟨bq :: [g], ⟨_, rfl, rQ.below hbx rQ.lt, oQ.below hbx (Nat.le_refl _), hKQ.below (hbx.mono (by omega))⟩, fun b hb => ?_, hTQ.belowTrans hbx⟩
      rcases List.mem_cons.1 hb with rfl | hb
      · exact .inl (List.mem_cons_self ..)
      · rw [List.mem_singleton] at hb
        rw [hb]; exact hgD
    have htn := hKQ.tn
    have HR1 : Hid (p ∈ ns → Ip.find l p = R) := fun hm => by rw [← hR]; unfold Ip.mix; rw [if_pos hm]
    have HR2 : Hid (p ∉ ns → Ip.find m p = R) := fun hm => by rw [← hR]; unfold Ip.mix; rw [if_neg hm]
    clear hKQ rQ oQ hTQ hgD h1 h2 h3 hR hzQ x0 y0
    go_wp2
    go_loop [19] (fun i => ∃ k : Nat, k ≤ ns.length ∧ i = .int .i64 (k : Int) ∧ Hid (p ∉ ns.take k)) (fun i => ns.length - (intOf i).toNat)
    case atStart => exact ⟨0, Nat.zero_le _, rfl, by show _ ∉ _; simp⟩
    case round =>
      obtain ⟨k, hk, rfl, HK⟩ := hrel
      by_cases hlt : k < ns.length
      · have i1 : (k : Int) < (ns.length : Int) := by omega
        obtain ⟨gn, on, c', e1, hgn, p1⟩ := TxR.at htn hlt
        simp only [Value.slice.injEq] at e1
        obtain ⟨rfl, -, rfl⟩ := e1
        have hbs := beq_str ns[k] p
        rw [hPP] at hbs
        by_cases he : ns[k] = p
        · rw [decide_eq_true he] at hbs
          rw [HR1.out (he ▸ List.getElem_mem hlt)] at HF1
          rw [HSQ.out.1, HSQ.out.2] at HF1
          clear he HK HR1 HR2 HF2
          generalize str ns[k] = S1 at *
          go_upto_region 7 with (first | (go_at_call 34; refine HF1.mono ?_; rintro e w3 ⟨rfl, hb3⟩) | fail)
          have r3 := Rw.new w3 #[.string SR, .bool QR] 52
          have hb4 := hb3.alloc hb3.size (.cells #[.string SR, .bool QR] 52)
          generalize w3.alloc (.cells #[.string SR, .bool QR] 52) = V at *
          have c0 := r3.cell 0
          have c1 := r3.cell 1
          go_quiet (fail)
          go_wp2
          go_ret2
          exact ⟨rfl, HEnd.out _ ((Turn.of_below hb4).drewN _ |>.below (by simp))⟩
        · rw [decide_eq_false he] at hbs
          have HN : Hid (p ∉ ns.take (k + 1)) := by
            show p ∉ _
            rw [List.take_succ_eq_append_getElem hlt]
            simp only [List.mem_append, List.mem_singleton, not_or]
            exact ⟨HK.out, fun e => he e.symm⟩
          clear he HK HR1 HR2 HF1 HF2
          generalize str ns[k] = S1 at *
          go_wp2
          exact ⟨⟨k + 1, by omega, by go_num, HN⟩, by simp [intOf]; omega⟩
      · obtain rfl : k = ns.length := by omega
        have i1 : ¬ (ns.length : Int) < (ns.length : Int) := by omega
        have hnm := HK.out
        rw [List.take_length] at hnm
        rw [HR2.out hnm] at HF2
        rw [HSQ.out.1, HSQ.out.2] at HF2
        clear hnm HK HR1 HR2 HF1
        go_upto_region 10 with (first | (go_at_call 34; refine HF2.mono ?_; rintro e w3 ⟨rfl, hb3⟩) | fail)
        have r3 := Rw.new w3 #[.string SR, .bool QR] 52
        have hb4 := hb3.alloc hb3.size (.cells #[.string SR, .bool QR] 52)
        generalize w3.alloc (.cells #[.string SR, .bool QR] 52) = V at *
        have c0 := r3.cell 0
        have c1 := r3.cell 1
        go_quiet (fail)
        go_wp2
        go_ret2
        exact ⟨rfl, HEnd.out _ ((Turn.of_below hb4).drewN _ |>.below (by simp))⟩
end Go.Proofs.YtnobmgkdieaclaaGreatDoor

namespace Go.Proofs.YtnobmgkdieaclaaGreatDoor
open Go.RowKit

theorem told_of {f : Ac.Fo} {ts : List Ip.B} {F : Int} (hy : Ip.mayNew f ts F = true) (hw : Ac.wgt f ≤ 4000) : (Ip.new f ts F.toNat).step.Told := ⟨(Ip.St.step_inv (Ip.new_ok hy hw)).1, (Ip.St.step_inv (Ip.new_ok hy hw)).2⟩
theorem whole_yes {f : Ac.Fo} {ts : List Ip.B} {F : Int} (af : Ip.B → Option Ip.B) (hy : Ip.mayNew f ts F = true) (hw : Ac.wgt f ≤ 4000) :
    wholeE (Ip.whole f ts F af) = 0 ∧ wholeR (Ip.whole f ts F af) = (Ip.St.done af (Ip.new f ts F.toNat).step).rn ∧ (wholeR (Ip.whole f ts F af)).needs.length ≤ 8 ∧ (wholeR (Ip.whole f ts F af)).needs.Nodup ∧ (∀ p ∈ (wholeR (Ip.whole f ts F af)).needs, Pm.isP p = true) ∧ (wholeR (Ip.whole f ts F af)).outs.length ≤ 4 := by
  have e : Ip.whole f ts F af = some (Ip.St.done af (Ip.new f ts F.toNat).step).rn := by unfold Ip.whole; rw [if_pos hy]
  rw [e]
  obtain ⟨h1, -, -⟩ := Ip.St.done_over (f := af) (told_of hy hw)
  refine ⟨rfl, rfl, h1.len, h1.once, h1.paths, ?_⟩
  show (Ip.St.done af (Ip.new f ts F.toNat).step).outs.length ≤ 4
  unfold Ip.St.outs
  split
  · rw [List.length_map]; exact h1.ok.core.few
  · exact Nat.zero_le _
theorem whole_no {f : Ac.Fo} {ts : List Ip.B} {F : Int} (af : Ip.B → Option Ip.B) (hy : Ip.mayNew f ts F = false) : wholeE (Ip.whole f ts F af) = 2 ∧ wholeR (Ip.whole f ts F af) = Rn.zero := by
  have e : Ip.whole f ts F af = none := by unfold Ip.whole; rw [hy]; rfl
  rw [e]
  exact ⟨rfl, rfl⟩
theorem whole_mix {f : Ac.Fo} {ts : List Ip.B} {F : Int} (l m : List (Ip.B × Ip.B)) (hy : Ip.mayNew f ts F = true) (hw : Ac.wgt f ≤ 4000) : Ip.whole f ts F (Ip.mix (wholeR (Ip.whole f ts F (Ip.find l))).needs l m) = Ip.whole f ts F (Ip.find l) := by
  rw [(whole_yes (Ip.find l) hy hw).2.1]
  unfold Ip.whole
  rw [if_pos hy, if_pos hy]
  congr 1
  have := Ip.St.done_asks (f := Ip.find l) (g := Ip.mix (Ip.St.done (Ip.find l) (Ip.new f ts F.toNat).step).rn.needs l m) (told_of hy hw) (fun p hp => by
    unfold Ip.mix
    rw [if_pos (show p ∈ (Ip.St.done (Ip.find l) (Ip.new f ts F.toNat).step).rn.needs from hp)])
  rw [this]
end Go.Proofs.YtnobmgkdieaclaaGreatDoor

namespace Go.Proofs.YtnobmgkdieaclaaGreatDoor
open Go.RowKit

/-- what New answers -/
def newE (f : Ac.Fo) (ts : List Ip.B) (fuel : Int) : Int := if Ip.mayNew f ts fuel = true then 0 else 2
theorem newE_no {f : Ac.Fo} {ts : List Ip.B} {fuel : Int} (h : Ip.mayNew f ts fuel = false) : newE f ts fuel = 2 := by unfold newE; rw [h]; rfl
theorem mayT_iff {ts : List Ip.B} : Ip.mayT ts = true ↔ 1 ≤ ts.length ∧ ts.length ≤ 4 ∧ (∀ p ∈ ts, Pm.isP p = true) ∧ ts.Nodup := by
  unfold Ip.mayT
  simp only [Bool.and_eq_true, decide_eq_true_eq, List.all_eq_true]
  constructor
  · rintro ⟨⟨⟨a, b⟩, c⟩, d⟩; exact ⟨a, b, c, d⟩
  · rintro ⟨a, b, c, d⟩; exact ⟨⟨⟨a, b⟩, c⟩, d⟩
theorem mayNew_false {f : Ac.Fo} {ts : List Ip.B} {fuel : Int} (h : ¬ (Ac.may f = true ∧ (1 ≤ ts.length ∧ ts.length ≤ 4 ∧ (∀ p ∈ ts, Pm.isP p = true) ∧ ts.Nodup) ∧ 0 ≤ fuel ∧ fuel ≤ 65536)) : Ip.mayNew f ts fuel = false := by
  cases hc : Ip.mayNew f ts fuel with
  | false => rfl
  | true =>
    exfalso
    apply h
    unfold Ip.mayNew at hc
    simp only [Bool.and_eq_true, decide_eq_true_eq] at hc
    exact ⟨hc.1.1, mayT_iff.1 hc.1.2, hc.2⟩
theorem mayNew_true {f : Ac.Fo} {ts : List Ip.B} {fuel : Int} (h1 : Ac.may f = true) (h2 : 1 ≤ ts.length ∧ ts.length ≤ 4 ∧ (∀ p ∈ ts, Pm.isP p = true) ∧ ts.Nodup) (h3 : 0 ≤ fuel ∧ fuel ≤ 65536) : Ip.mayNew f ts fuel = true := by
  unfold Ip.mayNew
  rw [h1, mayT_iff.2 h2, decide_eq_true h3]
  rfl
theorem nodup_snoc {l : List Ip.B} {k : Nat} (hk : k < l.length) (h : (l.take k).Nodup) (hne : ∀ j (hj : j < l.length), j < k → l[j] ≠ l[k]) : (l.take (k + 1)).Nodup := by
  rw [List.take_succ_eq_append_getElem hk, List.nodup_append]
  refine ⟨h, by simp, fun a ha b hb => ?_⟩
  rw [List.mem_singleton] at hb
  subst hb
  obtain ⟨j, hj, rfl⟩ := List.getElem_of_mem ha
  rw [List.length_take] at hj
  rw [List.getElem_take]
  exact hne j (by omega) (by omega)
theorem below_dM {B : Nat} {a w : World} (h : Below B a w) (n : Nat) : Below B a (w.drewN n) := ⟨h.os, h.tape, h.output, h.size, h.block⟩
set_option maxRecDepth 100000 in
set_option maxHeartbeats 4000000 in
theorem RefNew_any (HC : OneC) {w : World} {B : Nat} {va : Option Addr} {vn vc : Nat} {ta : Option Addr} {tn tc : Nat} {f : Ac.Fo} {ts : List (List UInt8)} (h : JobS w B va vn vc ta tn tc f ts) (fuel : Int) (hw : Ac.wgt f ≤ 4000) :
    Calls Tryz.prog 16 #[.slice va vn vc, .slice ta tn tc, .int .i64 fuel] w fun e w' => e = .returned (.int .i64 (newE f ts fuel)) ∧ Below w.heap.size w w' := by
  have hM := MayT_any HC f _ w B h.code h.low (by have := Ac.wgt_size f; omega)
  have hT := h.tgs
  have hB := h.low
  have hwide : ∀ s ∈ ts, s.length ≤ 140737488351232 := fun s hs => by have := h.wide s hs; have := reach_is; omega
  obtain ⟨_, _, e1, -⟩ := hT.shape
  simp only [Value.slice.injEq] at e1
  obtain ⟨-, rfl, -⟩ := e1
  have lb : (ts.length : Int) ≤ 140737488351232 := by have := h.many; have := reach_is; omega
  clear h hw
  have hno := fun hc => newE_no (mayNew_false (f := f) (ts := ts) (fuel := fuel) hc)
  have hyes := fun a b c => (show newE f ts fuel = 0 by unfold newE; rw [mayNew_true (f := f) (ts := ts) (fuel := fuel) a b c]; rfl)
  obtain ⟨NR, hNR⟩ : ∃ NR, newE f ts fuel = NR := ⟨_, rfl⟩
  rw [hNR] at hno hyes ⊢
  have HNO : Hid _ := hno
  have HYES : Hid _ := hyes
  clear hNR hno hyes
  go_enter Tryz.func16, Tryz.ntmps16
  cases hm : Ac.may f with
  | false =>
    rw [hm] at hM
    have HF : Hid (NR = 2) := HNO.out (fun hc => by rw [hm] at hc; cases hc.1)
    clear HNO HYES hm
    go_wp2_with (first | (go_at_call 48; refine hM.mono ?_; rintro e w1 ⟨rfl, hb1⟩) | fail)
    go_ret
    rw [HF.out]
    exact ⟨rfl, hb1⟩
  | true =>
  rw [hm] at hM
  have HMM : Hid (Ac.may f = true) := hm
  clear hm
  by_cases g1 : (ts.length : Int) < 1
  · have HF : Hid (NR = 2) := HNO.out (fun hc => by have := hc.2.1.1; omega)
    clear HNO HYES
    go_wp2_with (first | (go_at_call 48; refine hM.mono ?_; rintro e w1 ⟨rfl, hb1⟩) | fail)
    go_ret
    rw [HF.out]
    exact ⟨rfl, hb1⟩
  by_cases g2 : (4 : Int) < (ts.length : Int)
  · have HF : Hid (NR = 2) := HNO.out (fun hc => by have := hc.2.1.2.1; omega)
    clear HNO HYES
    go_wp2_with (first | (go_at_call 48; refine hM.mono ?_; rintro e w1 ⟨rfl, hb1⟩) | fail)
    go_ret
    rw [HF.out]
    exact ⟨rfl, hb1⟩
  by_cases g3 : fuel < 0
  · have HF : Hid (NR = 2) := HNO.out (fun hc => by have := hc.2.2.1; omega)
    clear HNO HYES
    go_wp2_with (first | (go_at_call 48; refine hM.mono ?_; rintro e w1 ⟨rfl, hb1⟩) | fail)
    go_ret
    rw [HF.out]
    exact ⟨rfl, hb1⟩
  by_cases g4 : 65536 < fuel
  · have HF : Hid (NR = 2) := HNO.out (fun hc => by have := hc.2.2.2; omega)
    clear HNO HYES
    go_wp2_with (first | (go_at_call 48; refine hM.mono ?_; rintro e w1 ⟨rfl, hb1⟩) | fail)
    go_ret
    rw [HF.out]
    exact ⟨rfl, hb1⟩
  have HL : Hid (1 ≤ ts.length ∧ ts.length ≤ 4 ∧ 0 ≤ fuel ∧ fuel ≤ 65536) := ⟨by omega, by omega, by omega, by omega⟩
  go_wp2_with (first | (go_at_call 48; refine hM.mono ?_; rintro e w1 ⟨rfl, hb1⟩) | fail)
  go_loopw [7, 8] (fun i k wr => ∃ q : Nat, q ≤ ts.length ∧ i = .int .i64 (q : Int) ∧ Hid ((∀ j (h : j < ts.length), j < q → Pm.isP ts[j] = true) ∧ (ts.take q).Nodup) ∧ Below w.heap.size w wr) (fun i _ _ => ts.length - (intOf i).toNat)
  case atStart => exact ⟨0, Nat.zero_le _, rfl, ⟨fun j _ h => absurd h (Nat.not_lt_zero _), by simp⟩, hb1⟩
  case round =>
    obtain ⟨q, hq, rfl, HQ, hbr⟩ := hrel
    by_cases hlt : q < ts.length
    · have i1 : (q : Int) < (ts.length : Int) := by omega
      obtain ⟨g, o, c', e1, hg, p1⟩ := TxR.at (hT.below hbr hB) hlt
      simp only [Value.slice.injEq] at e1
      obtain ⟨rfl, -, rfl⟩ := e1
      have hsz := hwide _ (List.getElem_mem hlt)
      have hI := fun W => IsT_any (str ts[q]) W
      rw [bs_str] at hI
      cases hp : Pm.isP ts[q] with
      | false =>
        rw [hp] at hI
        have HF : Hid (NR = 2) := HNO.out (fun hc => by
          have := hc.2.1.2.2.1 _ (List.getElem_mem hlt)
          rw [hp] at this
          cases this)
        clear HNO HYES HQ hp hsz
        generalize str ts[q] = S1 at *
        go_wp2_with (first | (go_at_call 49; refine (hI _).mono ?_; rintro e w5 ⟨rfl, hb5⟩) | fail)
        go_ret
        rw [HF.out]
        exact ⟨rfl, hbr.trans (hb5.mono hbr.size)⟩
      | true =>
        rw [hp] at hI
        have HP : Hid (Pm.isP ts[q] = true) := hp
        obtain ⟨S1, hS1⟩ : ∃ S1, str ts[q] = S1 := ⟨_, rfl⟩
        rw [hS1] at hI p1
        clear hp hsz
        go_upto_region 8 with (first | (go_at_call 49; refine (hI _).mono ?_; rintro e w5 ⟨rfl, hb5⟩) | fail)
        have hb6 := hbr.trans (hb5.mono hbr.size)
        have HS : Hid (str ts[q] = S1) := hS1
        clear hS1 hI p1
        go_wp2
        go_loopw [8] (fun k wr => ∃ r : Nat, r ≤ q ∧ k = .int .i64 (r : Int) ∧ Hid (∀ j (h : j < ts.length), j < r → ts[j] ≠ ts[q]) ∧ Below w.heap.size w wr) (fun k _ => q - (intOf k).toNat)
        case atStart => exact ⟨0, Nat.zero_le _, rfl, fun j _ h => absurd h (Nat.not_lt_zero _), hb6⟩
        case round =>
          obtain ⟨r, hr, rfl, HK, hbk⟩ := hrel
          by_cases hrq : r < q
          · have i2 : (r : Int) < (q : Int) := by omega
            have i3 : (r : Int) < (ts.length : Int) := by omega
            have hrl : r < ts.length := by omega
            obtain ⟨g2, o2, c2, e2, hg2, p2⟩ := TxR.at (hT.below hbk hB) hrl
            simp only [Value.slice.injEq, Option.some.injEq, Addr.mk.injEq] at e2
            obtain ⟨⟨rfl, rfl, -⟩, -, -⟩ := e2
            obtain ⟨g3, o3, c3, e3, hg3, p3⟩ := TxR.at (hT.below hbk hB) hlt
            simp only [Value.slice.injEq, Option.some.injEq, Addr.mk.injEq] at e3
            obtain ⟨⟨rfl, rfl, -⟩, -, -⟩ := e3
            have hbs := beq_str ts[r] ts[q]
            by_cases heq : ts[r] = ts[q]
            · have HF : Hid (NR = 2) := HNO.out (fun hc => by
                exact List.pairwise_iff_getElem.1 hc.2.1.2.2.2 r q hrl hlt hrq heq)
              rw [decide_eq_true heq] at hbs
              rw [HS.out] at hbs p3
              clear heq HNO HYES HQ HK HP
              generalize str ts[r] = S2 at *
              go_upto_region 11 with fail
              go_quiet (fail)
              go_wp2
              go_ret
              rw [HF.out]
              exact ⟨rfl, below_dM hbk _⟩
            · have HK2 : Hid (∀ j (h : j < ts.length), j < r + 1 → ts[j] ≠ ts[q]) := fun j hj hjr => by
                rcases Nat.lt_or_ge j r with hx | hx
                · exact HK.out j hj hx
                · obtain rfl : j = r := by omega
                  exact heq
              rw [decide_eq_false heq] at hbs
              rw [HS.out] at hbs p3
              clear heq HK
              generalize str ts[r] = S2 at *
              go_upto_region 11 with fail
              go_quiet (fail)
              go_wp2
              exact ⟨⟨r + 1, by omega, by go_num, HK2, below_dM hbk _⟩, by simp [intOf]; omega⟩
          · obtain rfl : r = q := by omega
            have i2 : ¬ (r : Int) < (r : Int) := by omega
            have HQ2 : Hid ((∀ j (h : j < ts.length), j < r + 1 → Pm.isP ts[j] = true) ∧ (ts.take (r + 1)).Nodup) := ⟨fun j hj hjr => by
              rcases Nat.lt_or_ge j r with hx | hx
              · exact HQ.out.1 j hj hx
              · obtain rfl : j = r := by omega
                exact HP.out, nodup_snoc hlt HQ.out.2 HK.out⟩
            clear HQ HK HP
            go_wp2
            exact ⟨⟨r + 1, by omega, by go_num, HQ2, hbk⟩, by simp [intOf]; omega⟩
    · obtain rfl : q = ts.length := by omega
      have i1 : ¬ (ts.length : Int) < (ts.length : Int) := by omega
      have HF : Hid (NR = 0) := HYES.out HMM.out ⟨HL.out.1, HL.out.2.1, fun p hp => by
        obtain ⟨j, hj, rfl⟩ := List.getElem_of_mem hp
        exact HQ.out.1 j hj hj, by have := HQ.out.2; rwa [List.take_length] at this⟩ ⟨HL.out.2.2.1, HL.out.2.2.2⟩
      clear HNO HYES HQ
      go_wp2
      go_ret
      rw [HF.out]
      exact ⟨rfl, hbr⟩
end Go.Proofs.YtnobmgkdieaclaaGreatDoor
