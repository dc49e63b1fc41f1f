/-
  InterpAsks' own closure: it notes whom it was asked for, and tells one table's content or the other's.
-/
import Derived.Test.YtnobmgkdieaclaaGreatDoorIpFiles
import Derived.Test.YtnobmgkdieaclaaGreatDoorIpFuel
namespace Go.Proofs.YtnobmgkdieaclaaGreatDoor
open Go.RowKit

/-- of some paths what one table has, of all others what the other one has -/
def Ip.mix (ns : List Ip.B) (l m : List (Ip.B × Ip.B)) (p : Ip.B) : Option Ip.B := if p ∈ ns then Ip.find l p else Ip.find m p
/-- what that closure finds -/
structure AskK (bq ga b4 b5 : Nat) (cs : Array Value) (v1 v2 : Value) (na : Option Addr) (nc : Nat) (ns : List Ip.B) (l m : List (Ip.B × Ip.B)) (W : World) : Prop where
  ra : Rw W ga cs 35
  la : ga < bq
  r4 : Rw W b4 #[v1] 54
  l4 : b4 < bq
  r5 : Rw W b5 #[v2] 54
  l5 : b5 < bq
  f1 : FiR.Sl W bq v1 l
  f2 : FiR.Sl W bq v2 m
  tn : TxR.Sl W bq (.slice na ns.length nc) ns
theorem AskK.below {bq ga b4 b5 : Nat} {cs : Array Value} {v1 v2 : Value} {na : Option Addr} {nc : Nat} {ns : List Ip.B} {l m : List (Ip.B × Ip.B)} {W W' : World} (h : AskK bq ga b4 b5 cs v1 v2 na nc ns l m W) (hb : Below bq W W') : AskK bq ga b4 b5 cs v1 v2 na nc ns l m W' :=
  ⟨h.ra.below hb h.la, h.la, h.r4.below hb h.l4, h.l4, h.r5.below hb h.l5, h.l5, h.f1.below hb (Nat.le_refl _), h.f2.below hb (Nat.le_refl _), h.tn.below hb (Nat.le_refl _)⟩
def AskJ (bq ga b4 b5 : Nat) (cs : Array Value) (v1 v2 : Value) (na : Option Addr) (nc : Nat) (ns : List Ip.B) (l m : List (Ip.B × Ip.B)) (qs : List Ip.B) (D : List Nat) (W : World) : Prop :=
  ∃ v, D = bq :: v.ownBlock.toList ∧ Rw W bq #[v] 23 ∧ TxR.Own W (bq + 1) v qs ∧ AskK bq ga b4 b5 cs v1 v2 na nc ns l m W
theorem ask_keeps (B0 bq ga b4 b5 : Nat) (cs : Array Value) (v1 v2 : Value) (na : Option Addr) (nc : Nat) (ns : List Ip.B) (l m : List (Ip.B × Ip.B)) (hB : bq < B0) : Keeps B0 (AskJ bq ga b4 b5 cs v1 v2 na nc ns l m) where
  keep := by
    rintro qs D W W' S ⟨v, rfl, h1, h2, h3⟩ hT hS
    have hlt := h1.lt
    have hb : Below bq W W' := hT.below' (by omega) (fun b hb => by have := (hS b hb).1; omega)
    exact ⟨v, rfl, h1.turn hT (fun hx => (hS _ hx).2 (List.mem_cons_self ..)), h2.turnP hT (fun g hg hx => (hS g hx).2 (List.mem_cons_of_mem _ (by simp [hg]))), h3.below hb⟩
  lt := by
    rintro qs D W ⟨v, rfl, h1, h2, h3⟩ b hb
    rcases List.mem_cons.1 hb with rfl | hb
    · exact h1.lt
    · exact (h2.lt b (by simpa using hb)).2
set_option maxRecDepth 100000 in
set_option maxHeartbeats 1000000 in
theorem ask_ask (bq ga b4 b5 : Nat) (K : Int) (P : ByteArray) (Z : Int) (X2 : ByteArray) (ov : Value) (U : Int) (v1 v2 : Value) (na : Option Addr) (nc : Nat) (ns : List Ip.B) (l m : List (Ip.B × Ip.B)) (hn1 : l.length ≤ 140737488351232) (hz1 : ∀ a ∈ l, a.2.length ≤ 140737488351232) (hn2 : m.length ≤ 140737488351232) (hz2 : ∀ a ∈ m, a.2.length ≤ 140737488351232) (hns : ns.length ≤ 1000) :
    AskC 33 #[.pointer (some ⟨bq, 0, none⟩), .pointer (some ⟨ga, 0, none⟩), .pointer (some ⟨b4, 0, none⟩), .pointer (some ⟨b5, 0, none⟩)] (Ip.mix ns l m) (AskJ bq ga b4 b5 #[.int .i64 K, .string P, .int .i64 Z, .string X2, ov, .slice na ns.length nc, .int .i64 U] v1 v2 na nc ns l m) where
  enter := enters_of Tryz.func33 (by kernel_rfl) rfl
  short := by
    intro p c hc
    have key : ∀ (l : List (Ip.B × Ip.B)), (∀ a ∈ l, a.2.length ≤ 140737488351232) → Ip.find l p = some c → c.length ≤ 140737488351232 := by
      intro l
      induction l with
      | nil => intro _ h; cases h
      | cons a r ih =>
        intro hz h
        rw [Ip.find] at h
        split at h
        · cases h; exact hz a (List.mem_cons_self ..)
        · exact ih (fun b hb => hz b (List.mem_cons_of_mem _ hb)) h
    unfold Ip.mix at hc
    split at hc
    · exact key l hz1 hc
    · exact key m hz2 hc
  call := by
    rintro W qs D p ⟨v, rfl, h1, h2, h3⟩ - hq8
    show Calls Tryz.prog 33 #[.string (str p), .pointer (some ⟨bq, 0, none⟩), .pointer (some ⟨ga, 0, none⟩), .pointer (some ⟨b4, 0, none⟩), .pointer (some ⟨b5, 0, none⟩)] W _
    have hbq := h1.lt
    have b0 := h1.cell 0
    show Calls Tryz.prog 33 _ W fun e w' => e = .returned (.tuple #[.string (str ((Ip.mix ns l m p).getD [])), .bool (Ip.mix ns l m p).isSome]) ∧ _
    obtain ⟨R, hR⟩ : ∃ R, Ip.mix ns l m p = R := ⟨_, rfl⟩
    rw [hR]
    obtain ⟨SR, hSR⟩ : ∃ SR, str (R.getD []) = SR := ⟨_, rfl⟩
    obtain ⟨QR, hQR⟩ : ∃ QR, R.isSome = QR := ⟨_, rfl⟩
    rw [hSR, hQR]
    have HSQ : Hid (str (R.getD []) = SR ∧ R.isSome = QR) := ⟨hSR, hQR⟩
    clear hSR hQR
    have hlit := TxR.lit W p #[.string (str p)] rfl
    have hown2 := h2.alloc (.cells #[.string (str p)] 9)
    have hb2 := (Below.refl W.heap.size W).alloc (Nat.le_refl _) (.cells #[.string (str p)] 9)
    have hz2 := size_alloc W (.cells #[.string (str p)] 9)
    have HLn : Hid (qs.length + [p].length ≤ 1099511627) := by show _ ≤ _; simp; omega
    obtain ⟨PP, hPP⟩ : ∃ PP, str p = PP := ⟨_, rfl⟩
    rw [hPP] at hlit hown2 hb2 hz2 ⊢
    go_enter Tryz.func33, Tryz.ntmps33
    go_upto_region 2 with (first | (at_builtin; go_must (refine TxR.append_at rfl (.tmp 12) (.tmp 14) rfl (bq + 1) (W.heap.size + 1) _ _ qs [p] rfl hown2 rfl hlit (by simp) HLn (by omega) ?_)) | fail)
    intro g cap w1 hO1 hG1 hg1 hlt1
    have hTg : Turn v.ownBlock.toList W w1 := ((Turn.refl _ W).alloc (.cells #[.string PP] 9)).grow hG1 (fun x e _ => by simp [e])
    have hnb : bq ∉ v.ownBlock.toList := fun hx => by have := (h2.lt bq (by simpa using hx)).1; omega
    have rq := h1.turn hTg hnb
    have x0 := rq.cell 0
    have y0 := rq.free 0
    have rQ := rq.set 0 (.slice (some ⟨g, 0, none⟩) (qs.length + [p].length) cap) (by simp)
    have oQ := hO1.put bq 0 (.slice (some ⟨g, 0, none⟩) (qs.length + [p].length) cap) (by omega)
    have hTQ : Turn (bq :: v.ownBlock.toList) W (w1.setCell ⟨bq, 0, none⟩ (.slice (some ⟨g, 0, none⟩) (qs.length + [p].length) cap)) := (hTg.mono (S' := bq :: v.ownBlock.toList) (fun x hx _ => List.mem_cons_of_mem _ hx)).trans (Turn.put1 w1 bq 0 _) (fun x hx _ => by rw [List.mem_singleton] at hx; rw [hx]; exact List.mem_cons_self ..)
    have hKQ := h3.below (hTQ.below' (B := bq) (by omega) (fun x hx => by
      rcases List.mem_cons.1 hx with rfl | hx
      · exact Nat.le_refl _
      · have := (h2.lt x (by simpa using hx)).1; omega))
    have hgD : g ∈ (bq :: v.ownBlock.toList) ∨ W.heap.size ≤ g := by
      rcases hg1 with e | e
      · exact .inl (List.mem_cons_of_mem _ (by simp [e]))
      · exact .inr (by rw [e]; simp)
    have hzQ := hTQ.size
    clear hlit hown2 hb2 hz2 hTg hnb rq hO1 hG1 hg1 b0
    go_upto_region 2 with fail
    change Rw _ bq #[_] _ at rQ
    generalize w1.setCell ⟨bq, 0, none⟩ (.slice (some ⟨g, 0, none⟩) (qs.length + 1) cap) = Q at *
    have k5 := hKQ.ra.cell 5
    have k4 := hKQ.r4.cell 0
    have k55 := hKQ.r5.cell 0
    have nb : (ns.length : Int) ≤ 1000 := by omega
    have hQl := rQ.lt
    have HF1 := Find_any l v1 p Q bq hKQ.f1 (by omega) hn1
    have HF2 := Find_any m v2 p Q bq hKQ.f2 (by omega) hn2
    unfold ansV at HF1 HF2
    rw [hPP] at HF1 HF2
    have HEnd : Hid (∀ V, Below Q.heap.size Q V → ∃ D', AskJ bq ga b4 b5 #[.int .i64 K, .string P, .int .i64 Z, .string X2, ov, .slice na ns.length nc, .int .i64 U] v1 v2 na nc ns l m (qs ++ [p]) D' V ∧ (∀ b ∈ D', b ∈ bq :: v.ownBlock.toList ∨ W.heap.size ≤ b) ∧ Turn (bq :: v.ownBlock.toList) W V) := fun V hbx => by
      refine ⟨bq :: [g], ⟨_, rfl, rQ.below hbx rQ.lt, oQ.below hbx (Nat.le_refl _), hKQ.below (hbx.mono (by omega))⟩, fun b hb => ?_, hTQ.belowTrans hbx⟩
      rcases List.mem_cons.1 hb with rfl | hb
      · exact .inl (List.mem_cons_self ..)
      · rw [List.mem_singleton] at hb
        rw [hb]; exact hgD
    have htn := hKQ.tn
    have HR1 : Hid (p ∈ ns → Ip.find l p = R) := fun hm => by rw [← hR]; unfold Ip.mix; rw [if_pos hm]
    have HR2 : Hid (p ∉ ns → Ip.find m p = R) := fun hm => by rw [← hR]; unfold Ip.mix; rw [if_neg hm]
    clear hKQ rQ oQ hTQ hgD h1 h2 h3 hR hzQ x0 y0
    go_wp2
    go_loop [19] (fun i => ∃ k : Nat, k ≤ ns.length ∧ i = .int .i64 (k : Int) ∧ Hid (p ∉ ns.take k)) (fun i => ns.length - (intOf i).toNat)
    case atStart => exact ⟨0, Nat.zero_le _, rfl, by show _ ∉ _; simp⟩
    case round =>
      obtain ⟨k, hk, rfl, HK⟩ := hrel
      by_cases hlt : k < ns.length
      · have i1 : (k : Int) < (ns.length : Int) := by omega
        obtain ⟨gn, on, c', e1, hgn, p1⟩ := TxR.at htn hlt
        simp only [Value.slice.injEq] at e1
        obtain ⟨rfl, -, rfl⟩ := e1
        have hbs := beq_str ns[k] p
        rw [hPP] at hbs
        by_cases he : ns[k] = p
        · rw [decide_eq_true he] at hbs
          rw [HR1.out (he ▸ List.getElem_mem hlt)] at HF1
          rw [HSQ.out.1, HSQ.out.2] at HF1
          clear he HK HR1 HR2 HF2
          generalize str ns[k] = S1 at *
          go_upto_region 7 with (first | (go_at_call 34; refine HF1.mono ?_; rintro e w3 ⟨rfl, hb3⟩) | fail)
          have r3 := Rw.new w3 #[.string SR, .bool QR] 52
          have hb4 := hb3.alloc hb3.size (.cells #[.string SR, .bool QR] 52)
          generalize w3.alloc (.cells #[.string SR, .bool QR] 52) = V at *
          have c0 := r3.cell 0
          have c1 := r3.cell 1
          go_quiet (fail)
          go_wp2
          go_ret2
          exact ⟨rfl, HEnd.out _ ((Turn.of_below hb4).drewN _ |>.below (by simp))⟩
        · rw [decide_eq_false he] at hbs
          have HN : Hid (p ∉ ns.take (k + 1)) := by
            show p ∉ _
            rw [List.take_succ_eq_append_getElem hlt]
            simp only [List.mem_append, List.mem_singleton, not_or]
            exact ⟨HK.out, fun e => he e.symm⟩
          clear he HK HR1 HR2 HF1 HF2
          generalize str ns[k] = S1 at *
          go_wp2
          exact ⟨⟨k + 1, by omega, by go_num, HN⟩, by simp [intOf]; omega⟩
      · obtain rfl : k = ns.length := by omega
        have i1 : ¬ (ns.length : Int) < (ns.length : Int) := by omega
        have hnm := HK.out
        rw [List.take_length] at hnm
        rw [HR2.out hnm] at HF2
        rw [HSQ.out.1, HSQ.out.2] at HF2
        clear hnm HK HR1 HR2 HF1
        go_upto_region 10 with (first | (go_at_call 34; refine HF2.mono ?_; rintro e w3 ⟨rfl, hb3⟩) | fail)
        have r3 := Rw.new w3 #[.string SR, .bool QR] 52
        have hb4 := hb3.alloc hb3.size (.cells #[.string SR, .bool QR] 52)
        generalize w3.alloc (.cells #[.string SR, .bool QR] 52) = V at *
        have c0 := r3.cell 0
        have c1 := r3.cell 1
        go_quiet (fail)
        go_wp2
        go_ret2
        exact ⟨rfl, HEnd.out _ ((Turn.of_below hb4).drewN _ |>.below (by simp))⟩
end Go.Proofs.YtnobmgkdieaclaaGreatDoor

namespace Go.Proofs.YtnobmgkdieaclaaGreatDoor
open Go.RowKit

theorem told_of {f : Ac.Fo} {ts : List Ip.B} {F : Int} (hy : Ip.mayNew f ts F = true) (hw : Ac.wgt f ≤ 4000) : (Ip.new f ts F.toNat).step.Told := ⟨(Ip.St.step_inv (Ip.new_ok hy hw)).1, (Ip.St.step_inv (Ip.new_ok hy hw)).2⟩
theorem whole_yes {f : Ac.Fo} {ts : List Ip.B} {F : Int} (af : Ip.B → Option Ip.B) (hy : Ip.mayNew f ts F = true) (hw : Ac.wgt f ≤ 4000) :
    wholeE (Ip.whole f ts F af) = 0 ∧ wholeR (Ip.whole f ts F af) = (Ip.St.done af (Ip.new f ts F.toNat).step).rn ∧ (wholeR (Ip.whole f ts F af)).needs.length ≤ 8 ∧ (wholeR (Ip.whole f ts F af)).needs.Nodup ∧ (∀ p ∈ (wholeR (Ip.whole f ts F af)).needs, Pm.isP p = true) ∧ (wholeR (Ip.whole f ts F af)).outs.length ≤ 4 := by
  have e : Ip.whole f ts F af = some (Ip.St.done af (Ip.new f ts F.toNat).step).rn := by unfold Ip.whole; rw [if_pos hy]
  rw [e]
  obtain ⟨h1, -, -⟩ := Ip.St.done_over (f := af) (told_of hy hw)
  refine ⟨rfl, rfl, h1.len, h1.once, h1.paths, ?_⟩
  show (Ip.St.done af (Ip.new f ts F.toNat).step).outs.length ≤ 4
  unfold Ip.St.outs
  split
  · rw [List.length_map]; exact h1.ok.core.few
  · exact Nat.zero_le _
theorem whole_no {f : Ac.Fo} {ts : List Ip.B} {F : Int} (af : Ip.B → Option Ip.B) (hy : Ip.mayNew f ts F = false) : wholeE (Ip.whole f ts F af) = 2 ∧ wholeR (Ip.whole f ts F af) = Rn.zero := by
  have e : Ip.whole f ts F af = none := by unfold Ip.whole; rw [hy]; rfl
  rw [e]
  exact ⟨rfl, rfl⟩
theorem whole_mix {f : Ac.Fo} {ts : List Ip.B} {F : Int} (l m : List (Ip.B × Ip.B)) (hy : Ip.mayNew f ts F = true) (hw : Ac.wgt f ≤ 4000) : Ip.whole f ts F (Ip.mix (wholeR (Ip.whole f ts F (Ip.find l))).needs l m) = Ip.whole f ts F (Ip.find l) := by
  rw [(whole_yes (Ip.find l) hy hw).2.1]
  unfold Ip.whole
  rw [if_pos hy, if_pos hy]
  congr 1
  have := Ip.St.done_asks (f := Ip.find l) (g := Ip.mix (Ip.St.done (Ip.find l) (Ip.new f ts F.toNat).step).rn.needs l m) (told_of hy hw) (fun p hp => by
    unfold Ip.mix
    rw [if_pos (show p ∈ (Ip.St.done (Ip.find l) (Ip.new f ts F.toNat).step).rn.needs from hp)])
  rw [this]
end Go.Proofs.YtnobmgkdieaclaaGreatDoor

namespace Go.Proofs.YtnobmgkdieaclaaGreatDoor
open Go.RowKit

theorem shortF_top {n : Int} (h : shortF n ≤ 65536) : shortF n ≤ 20000 := by
  unfold shortF at h ⊢
  split
  · rename_i h1
    have k1 := Int.tmod_lt_of_pos n (b := 20000) (by omega)
    omega
  · rename_i h1
    rw [if_neg h1] at h
    omega
theorem mayNew_top {f : Ac.Fo} {ts : List Ip.B} {F : Int} (h : Ip.mayNew f ts F = true) : 0 ≤ F ∧ F ≤ 65536 := by
  unfold Ip.mayNew at h
  simp only [Bool.and_eq_true, decide_eq_true_eq] at h
  exact h.2
theorem mayNew_fuel {f : Ac.Fo} {ts : List Ip.B} {F G : Int} (h : Ip.mayNew f ts F = true) (h0 : 0 ≤ G) (h1 : G ≤ 65536) : Ip.mayNew f ts G = true := by
  unfold Ip.mayNew at h ⊢
  simp only [Bool.and_eq_true, decide_eq_true_eq] at h ⊢
  exact ⟨h.1, h0, h1⟩
theorem Ip.St.next_fuel {f : Ip.B → Option Ip.B} {s : Ip.St} (h : s.Inv) (h1 : s.ev.kind = 1) : (s.next f).fuel = s.fuel := by
  obtain ⟨a1, -, -⟩ := Ip.St.answer_inv h h1 (f s.ev.path)
  unfold Ip.St.next
  rw [Ip.St.step_fuel a1.ok, (Ip.St.answer_used s _).2]
/-- what a whole run with this fuel comes to -/
theorem whole_is {f : Ac.Fo} {ts : List Ip.B} {F : Int} (af : Ip.B → Option Ip.B) (hy : Ip.mayNew f ts F = true) (hw : Ac.wgt f ≤ 4000) :
    wholeR (Ip.whole f ts F af) = (Ip.St.done af (Ip.new f ts F.toNat).step).rn ∧ (Ip.St.done af (Ip.new f ts F.toNat).step).Inv ∧ (Ip.St.done af (Ip.new f ts F.toNat).step).fuel = F.toNat ∧ (Ip.St.done af (Ip.new f ts F.toNat).step).Ends := by
  have hT := told_of hy hw
  refine ⟨(whole_yes af hy hw).2.1, (Ip.St.done_over (f := af) hT).1, ?_, ?_⟩
  · exact (Ip.St.goN_ind (f := af) (fun t => t.fuel = F.toNat) (fun s hs hp hk => (Ip.St.next_fuel hs hk).trans hp) 9 hT.inv (Ip.St.step_fuel (Ip.new_ok hy hw).ok)).1
  · exact Ip.St.done_ends hT.inv (Ip.St.step_ends (Ip.new_ok hy hw) (Ip.St.ends_of (by show (0 : Nat) ≠ 143; decide)))
theorem whole_sims {f : Ac.Fo} {ts : List Ip.B} {F G : Int} (af : Ip.B → Option Ip.B) (hy : Ip.mayNew f ts F = true) (hw : Ac.wgt f ≤ 4000) (h0 : 0 ≤ G) (hlt : G < F) :
    wholeR (Ip.whole f ts F af) = wholeR (Ip.whole f ts G af) ∨ ((wholeR (Ip.whole f ts G af)).ev = ⟨3, [], 143, []⟩ ∧ (wholeR (Ip.whole f ts G af)).used = G.toNat ∧ (wholeR (Ip.whole f ts G af)).outs = [] ∧ (wholeR (Ip.whole f ts G af)).needs <+: (wholeR (Ip.whole f ts F af)).needs ∧ G.toNat < (wholeR (Ip.whole f ts F af)).used) := by
  obtain ⟨t0, t1⟩ := mayNew_top hy
  have hz := mayNew_fuel hy h0 (by omega)
  have hs := Ip.St.done_sim (F := G.toNat) (F' := F.toNat) (by omega) (by omega) af (s := Ip.new f ts F.toNat) (Ip.new_ok hy hw) (Nat.zero_le _)
  change Ip.St.Sims G.toNat F.toNat (Ip.St.done af (Ip.new f ts G.toNat).step) (Ip.St.done af (Ip.new f ts F.toNat).step) at hs
  rw [(whole_is af hy hw).1, (whole_is af hz hw).1]
  rcases hs with h | ⟨h1, h2, h3, h4⟩
  · left
    rw [h]
    rfl
  · right
    refine ⟨h1, h2, ?_, h3, h4⟩
    show (Ip.St.done af (Ip.new f ts G.toNat).step).outs = []
    unfold Ip.St.outs
    rw [h1]
    rfl
/-- what lies in the answer -/
theorem fuel_here {f : Ac.Fo} {ts : List Ip.B} {F : Int} (af : Ip.B → Option Ip.B) (hy : Ip.mayNew f ts F = true) (hw : Ac.wgt f ≤ 4000) :
    ((wholeR (Ip.whole f ts F af)).used : Int) ≤ F ∧ ((wholeR (Ip.whole f ts F af)).ev.why = 143 → ((wholeR (Ip.whole f ts F af)).used : Int) = F) := by
  obtain ⟨e, hi, hf, he⟩ := whole_is af hy hw
  obtain ⟨t0, t1⟩ := mayNew_top hy
  rw [e]
  have hu := hi.ok.core.used
  rw [hf] at hu
  refine ⟨by show ((Ip.St.done af (Ip.new f ts F.toNat).step).used : Int) ≤ F; omega, fun h => ?_⟩
  have := he h
  rw [hf] at this
  show ((Ip.St.done af (Ip.new f ts F.toNat).step).used : Int) = F
  omega
/-- more fuel: the same -/
theorem fuel_more {f : Ac.Fo} {ts : List Ip.B} {F G : Int} (af : Ip.B → Option Ip.B) (hy : Ip.mayNew f ts F = true) (hw : Ac.wgt f ≤ 4000) (hlt : F ≤ G) (ht : G ≤ 65536) (hn : (wholeR (Ip.whole f ts F af)).ev.why ≠ 143) :
    wholeR (Ip.whole f ts G af) = wholeR (Ip.whole f ts F af) ∧ wholeE (Ip.whole f ts G af) = 0 := by
  obtain ⟨t0, t1⟩ := mayNew_top hy
  have hz := mayNew_fuel hy (G := G) (by omega) ht
  refine ⟨?_, (whole_yes af hz hw).1⟩
  by_cases e : F = G
  · rw [e]
  rcases whole_sims af hz hw t0 (by omega) with h | ⟨h, -⟩
  · exact h
  · exact absurd (by rw [h]) hn
/-- with what it used: the same -/
theorem fuel_used {f : Ac.Fo} {ts : List Ip.B} {F : Int} (af : Ip.B → Option Ip.B) (hy : Ip.mayNew f ts F = true) (hw : Ac.wgt f ≤ 4000) :
    wholeR (Ip.whole f ts ((wholeR (Ip.whole f ts F af)).used : Int) af) = wholeR (Ip.whole f ts F af) ∧ wholeE (Ip.whole f ts ((wholeR (Ip.whole f ts F af)).used : Int) af) = 0 := by
  obtain ⟨t0, t1⟩ := mayNew_top hy
  obtain ⟨h1, -⟩ := fuel_here af hy hw
  generalize hU : (wholeR (Ip.whole f ts F af)).used = U at *
  have hz := mayNew_fuel hy (G := (U : Int)) (by omega) (by omega)
  refine ⟨?_, (whole_yes af hz hw).1⟩
  by_cases e : (U : Int) = F
  · rw [e]
  rcases whole_sims af hy hw (G := (U : Int)) (by omega) (by omega) with h | ⟨-, -, -, -, h⟩
  · exact h.symm
  · rw [hU] at h
    omega
/-- with less: none is left -/
theorem fuel_less {f : Ac.Fo} {ts : List Ip.B} {F G : Int} (af : Ip.B → Option Ip.B) (hy : Ip.mayNew f ts F = true) (hw : Ac.wgt f ≤ 4000) (h0 : 0 ≤ G) (hlt : G < ((wholeR (Ip.whole f ts F af)).used : Int)) :
    wholeE (Ip.whole f ts G af) = 0 ∧ (wholeR (Ip.whole f ts G af)).ev = ⟨3, [], 143, []⟩ ∧ ((wholeR (Ip.whole f ts G af)).used : Int) = G ∧ (wholeR (Ip.whole f ts G af)).outs = [] ∧ (wholeR (Ip.whole f ts G af)).needs <+: (wholeR (Ip.whole f ts F af)).needs := by
  obtain ⟨t0, t1⟩ := mayNew_top hy
  obtain ⟨h1, -⟩ := fuel_here af hy hw
  have hz := mayNew_fuel hy (G := G) h0 (by omega)
  obtain ⟨h2, -⟩ := fuel_here af hz hw
  refine ⟨(whole_yes af hz hw).1, ?_⟩
  rcases whole_sims af hy hw h0 (by omega) with h | ⟨a1, a2, a3, a4, -⟩
  · rw [h] at hlt
    omega
  · exact ⟨a1, by rw [a2]; omega, a3, a4⟩
end Go.Proofs.YtnobmgkdieaclaaGreatDoor

namespace Go.Proofs.YtnobmgkdieaclaaGreatDoor
open Go.RowKit

theorem shortF_in {n : Int} (h1 : -9223372036854775808 ≤ n) (h2 : n ≤ 9223372036854775807) : -9223372036854775808 ≤ shortF n ∧ shortF n ≤ 9223372036854775807 := by
  unfold shortF
  split
  · rename_i h
    have k1 := Int.tmod_lt_of_pos n (b := 20000) (by omega)
    have k2 := Int.tmod_nonneg 20000 (show 0 ≤ n by omega)
    omega
  · exact ⟨h1, h2⟩
theorem ran_let {R : Rn} {K : Int} {P : ByteArray} {X2 : ByteArray} {Z U : Int} (h : (R.ev.kind : Int) = K ∧ str R.ev.path = P ∧ str R.ev.text = X2 ∧ (R.ev.why : Int) = Z ∧ (R.used : Int) = U) (ov nv : Value) : ranV R.ev ov nv R.used = .agg #[.int .i64 K, .string P, .int .i64 Z, .string X2, ov, nv, .int .i64 U] := by
  obtain ⟨rfl, rfl, rfl, rfl, rfl⟩ := h
  rfl
theorem Do_let {w : World} {B : Nat} {va : Option Addr} {vn vc : Nat} {ta : Option Addr} {tn tc : Nat} {f : Ac.Fo} {ts : List (List UInt8)} (hj : JobS w B va vn vc ta tn tc f ts) (hL : Laid w) (G : Int) (h1 : -9223372036854775808 ≤ G) (h2 : G ≤ 9223372036854775807) (hw : Ac.wgt f ≤ 4000) (a1 : Option Addr) (c1 : Nat) (l : List (Ip.B × Ip.B)) (hl : FiR.Sl w w.heap.size (.slice a1 l.length c1) l) (hn : l.length ≤ 140737488351232) (hz : ∀ a ∈ l, a.2.length ≤ 140737488351232)
    (R : Rn) (E : Int) {K : Int} {P : ByteArray} {X2 : ByteArray} {Z U : Int} (hR : wholeR (Ip.whole f ts G (Ip.find l)) = R) (hE : wholeE (Ip.whole f ts G (Ip.find l)) = E) (hV : (R.ev.kind : Int) = K ∧ str R.ev.path = P ∧ str R.ev.text = X2 ∧ (R.ev.why : Int) = Z ∧ (R.used : Int) = U) :
    Hid (∀ W bx, Below w.heap.size w W → Rw W bx #[.slice a1 l.length c1] 54 → Calls Tryz.prog 15 #[.slice va vn vc, .slice ta tn tc, .int .i64 G, .func (.func 57) #[] #[.pointer (some ⟨bx, 0, none⟩)]] W fun e w' => ∃ oa on oc na nn nc, e = .returned (.tuple #[.agg #[.int .i64 K, .string P, .int .i64 Z, .string X2, .slice oa on oc, .slice na nn nc, .int .i64 U], .int .i64 E]) ∧ TxR.Own w' W.heap.size (.slice oa on oc) R.outs ∧ TxR.Own w' W.heap.size (.slice na nn nc) R.needs ∧ Below W.heap.size W w') := fun W bx hb hr => by
  have := Do_files (hj.below hb) (hL.below hb hL.size) G h1 h2 hw bx _ l hr ((hl.below hb (Nat.le_refl _)).mono hb.size) hn hz
  rw [hR, hE] at this
  refine this.mono ?_
  rintro e w' ⟨oa, on, oc, na, nn, nc, rfl, p1, p2, hbx⟩
  exact ⟨oa, on, oc, na, nn, nc, by rw [ran_let hV], p1, p2, hbx⟩
/-- such a value that lies here, in letters -/
theorem ran_v {w : World} {R : Rn} {K : Int} {P : ByteArray} {X2 : ByteArray} {Z U : Int} (h : (R.ev.kind : Int) = K ∧ str R.ev.path = P ∧ str R.ev.text = X2 ∧ (R.ev.why : Int) = Z ∧ (R.used : Int) = U) {oa : Option Addr} {on oc : Nat} {na : Option Addr} {nn nc : Nat} (h1 : TxR.Sl w w.heap.size (.slice oa on oc) R.outs) (h2 : TxR.Sl w w.heap.size (.slice na nn nc) R.needs) :
    RnV w (.agg #[.int .i64 K, .string P, .int .i64 Z, .string X2, .slice oa on oc, .slice na nn nc, .int .i64 U]) R := ⟨oa, on, oc, na, nn, nc, (ran_let h _ _).symm, h1, h2⟩
end Go.Proofs.YtnobmgkdieaclaaGreatDoor
