/-
  WHAT answer DOES.
-/
import Derived.Test.YtnobmgkdieaclaaGreatDoorIpStep
namespace Go.Proofs.YtnobmgkdieaclaaGreatDoor
open Go.RowKit

/-- what whoever is asked keeps to: by the paths that it was asked, with the blocks D that are its own; what lies from B0 on is nobody's else -/
structure Keeps (B0 : Nat) (J : List Ip.B → List Nat → World → Prop) : Prop where
  keep : ∀ {qs : List Ip.B} {D : List Nat} {W W' : World} {S : List Nat}, J qs D W → Turn S W W' → (∀ b ∈ S, B0 ≤ b ∧ b ∉ D) → J qs D W'
  lt : ∀ {qs : List Ip.B} {D : List Nat} {W : World}, J qs D W → ∀ b ∈ D, b < W.heap.size
/-- whom a run asks: of each path a content, or none -/
structure AskC (gf : Nat) (lb : Array Value) (f : Ip.B → Option Ip.B) (J : List Ip.B → List Nat → World → Prop) : Prop where
  enter : ∀ (args : Array Value) (W : World), (callFunc gf args).run Tryz.prog W = .ok (.enter gf args) W
  call : ∀ (W : World) (qs : List Ip.B) (D : List Nat) (p : Ip.B), J qs D W → Pm.isP p = true → Calls Tryz.prog gf (#[.string (str p)] ++ lb) W fun e w' => e = .returned (.tuple #[.string (str ((f p).getD [])), .bool (f p).isSome]) ∧ ∃ D', J (qs ++ [p]) D' w' ∧ (∀ b ∈ D', b ∈ D ∨ W.heap.size ≤ b) ∧ Turn D W w'
  short : ∀ p c, f p = some c → c.length ≤ 140737488351232
/-- an answer, whoever gives it -/
def AnsC (av : Value) (f : Ip.B → Option Ip.B) (B0 : Nat) (J : List Ip.B → List Nat → World → Prop) : Prop :=
  ∀ (qs : List Ip.B) (D : List Nat) (w : World) (O : List Nat) (x : RP) (s : Ip.St), RunS w O x s → s.Inv → s.ev.kind = 1 → J qs D w → (∀ b ∈ D, b ∈ O ∧ b ∉ x.own) → (∀ b ∈ x.own, B0 ≤ b) →
    Calls Tryz.prog 47 #[.pointer (some ⟨x.p, 0, none⟩), av] w fun e w' => e = .returned (.tuple #[]) ∧ ∃ D', RunS w' (D' ++ O) x (s.answer (f s.ev.path)) ∧ J (qs ++ [s.ev.path]) D' w' ∧ (∀ b ∈ D', b ∈ D ∨ w.heap.size ≤ b) ∧ Turn (x.p :: x.mt :: D) w w'
set_option maxRecDepth 100000 in
set_option maxHeartbeats 1000000 in
theorem answer_some {gf : Nat} {lb : Array Value} {f : Ip.B → Option Ip.B} {B0 : Nat} {J : List Ip.B → List Nat → World → Prop} (hA : AskC gf lb f J) (hK : Keeps B0 J) : AnsC (.func (.func gf) #[] lb) f B0 J := by
  intro qs D w O x s h hi h1 hJ hD hx
  have k10 := h.c10
  have hC := hA.call w qs D s.ev.path hJ (hi.need h1).2.2.2
  have hE := hA.enter
  have hne : ∀ W : World, (Go.binOp .eql 55 (.func (.func gf) #[] lb) .nilFunc).run Tryz.prog W = .ok (.bool false) W := fun W => by kernel_rfl
  have hDx : ∀ b ∈ x.own, b ∉ D := fun b hb hd => (hD b hd).2 hb
  have hR : ∀ W D', Turn D w W → J (qs ++ [s.ev.path]) D' W → (∀ b ∈ D', b ∈ D ∨ w.heap.size ≤ b) → RunS W (D' ++ O) x s := fun W D' hT hj hd => h.aside hT (fun b hb _ => (hD b hb).1) hDx (fun b hb hl => by
    rcases List.mem_append.1 hb with hb | hb
    · rcases hd b hb with hb | hb
      · exact (hD b hb).1
      · omega
    · exact hb) (fun b hb => List.mem_append_right _ (h.sub b hb)) (fun b hb => by
    rcases List.mem_append.1 hb with hb | hb
    · exact hK.lt hj b hb
    · have := h.lim b hb; have := hT.size; omega)
  have hEnd : ∀ W1 W2 D', Turn D w W1 → J (qs ++ [s.ev.path]) D' W1 → (∀ b ∈ D', b ∈ D ∨ w.heap.size ≤ b) → Turn [x.p, x.mt] W1 W2 → J (qs ++ [s.ev.path]) D' W2 ∧ Turn (x.p :: x.mt :: D) w W2 := fun W1 W2 D' hT hj hd hT2 => by
    refine ⟨hK.keep hj hT2 (fun b hb => ?_), (hT.mono (fun b hb _ => List.mem_cons_of_mem _ (List.mem_cons_of_mem _ hb))).trans hT2 (fun b hb _ => by simp at hb ⊢; rcases hb with rfl | rfl <;> simp)⟩
    have hbo : b ∈ x.own := by
      simp at hb
      rcases hb with rfl | rfl
      · exact x.p_own
      · exact x.mt_own
    refine ⟨hx b hbo, fun hbd => ?_⟩
    rcases hd b hbd with hb2 | hb2
    · exact hDx b hbo hb2
    · have := h.lt b hbo; omega
  have HE : Hid _ := hEnd
  have HR : Hid _ := hR
  have HL : Hid (∀ b ∈ x.own, b < w.heap.size) := h.lt
  cases hf : f s.ev.path with
  | none =>
    rw [hf] at hC
    have hLk := fun W D' (hr : RunS W (D' ++ O) x s) => Lack_any W (D' ++ O) x s hr hi.some h1
    have hC2 : Calls Tryz.prog gf (#[.string (str s.ev.path)] ++ lb) w fun e w' => e = .returned (.tuple #[.string ⟨#[]⟩, .bool false]) ∧ ∃ D', J (qs ++ [s.ev.path]) D' w' ∧ (∀ b ∈ D', b ∈ D ∨ w.heap.size ≤ b) ∧ Turn D w w' := hC
    show Calls _ _ _ _ fun e w' => _ ∧ ∃ D', RunS w' (D' ++ O) x s.lack ∧ _
    clear hC hf hR hEnd h hA hi hJ hD hx hDx h1
    generalize s.lack = R at *
    generalize str s.ev.path = P at *
    go_enter Tryz.func47, Tryz.ntmps47
    go_wp2_with (first | (go_at_call 21; refine (hLk w1 D' (HR.out _ _ hT1 hJ1 hd1)).mono ?_; rintro e w2 ⟨rfl, h2, h3⟩) | (refine hC2.mono ?_; rintro e w1 ⟨rfl, D', hJ1, hd1, hT1⟩) | fail)
    go_end0
    obtain ⟨g1, g2⟩ := HE.out _ _ _ hT1 hJ1 hd1 (h3.mono (by simp))
    exact ⟨rfl, D', h2, g1, hd1, g2⟩
  | some c =>
    rw [hf] at hC
    have hGv := fun W D' (hr : RunS W (D' ++ O) x s) => Give_any c W (D' ++ O) x s hr hi h1 (hA.short _ _ hf)
    have hC2 : Calls Tryz.prog gf (#[.string (str s.ev.path)] ++ lb) w fun e w' => e = .returned (.tuple #[.string (str c), .bool true]) ∧ ∃ D', J (qs ++ [s.ev.path]) D' w' ∧ (∀ b ∈ D', b ∈ D ∨ w.heap.size ≤ b) ∧ Turn D w w' := hC
    show Calls _ _ _ _ fun e w' => _ ∧ ∃ D', RunS w' (D' ++ O) x (s.give c) ∧ _
    clear hC hf hR hEnd h hA hi hJ hD hx hDx h1
    generalize s.give c = R at *
    generalize str s.ev.path = P at *
    generalize str c = C at *
    go_enter Tryz.func47, Tryz.ntmps47
    go_wp2_with (first | (go_at_call 20; refine (hGv w1 D' (HR.out _ _ hT1 hJ1 hd1)).mono ?_; rintro e w2 ⟨rfl, h2, h3⟩) | (refine hC2.mono ?_; rintro e w1 ⟨rfl, D', hJ1, hd1, hT1⟩) | fail)
    go_end0
    obtain ⟨g1, g2⟩ := HE.out _ _ _ hT1 hJ1 hd1 h3
    exact ⟨rfl, D', h2, g1, hd1, g2⟩
set_option maxRecDepth 100000 in
set_option maxHeartbeats 1000000 in
theorem answer_nil {B0 : Nat} {J : List Ip.B → List Nat → World → Prop} (hK : Keeps B0 J) (hQ : ∀ qs D W p, J qs D W → J (qs ++ [p]) D W) : AnsC .nilFunc (fun _ => none) B0 J := by
  intro qs D w O x s h hi h1 hJ hD hx
  have hne : ∀ W : World, (Go.binOp .eql 55 .nilFunc .nilFunc).run Tryz.prog W = .ok (.bool true) W := fun W => by kernel_rfl
  have hLk := Lack_any w O x s h hi.some h1
  have HF : Hid (∀ W, RunS W O x s.lack → Turn [x.p] w W → ∃ D', RunS W (D' ++ O) x s.lack ∧ J (qs ++ [s.ev.path]) D' W ∧ (∀ b ∈ D', b ∈ D ∨ w.heap.size ≤ b) ∧ Turn (x.p :: x.mt :: D) w W) := fun W hr hT => ⟨D, hr.other (fun b hb _ => by
    rcases List.mem_append.1 hb with hb | hb
    · exact (hD b hb).1
    · exact hb) (fun b hb => List.mem_append_right _ (h.sub b hb)) (fun b hb => by
    rcases List.mem_append.1 hb with hb | hb
    · exact hr.lim b (hD b hb).1
    · exact hr.lim b hb), hQ _ _ _ _ (hK.keep hJ hT (fun b hb => by
      rw [List.mem_singleton] at hb
      subst hb
      exact ⟨hx _ x.p_own, fun hd => (hD _ hd).2 x.p_own⟩)), fun b hb => .inl hb, hT.mono (fun b hb _ => by simp at hb; simp [hb])⟩
  show Calls _ _ _ _ fun e w' => _ ∧ ∃ D', RunS w' (D' ++ O) x s.lack ∧ _
  clear h hi hJ hD hx h1
  go_enter Tryz.func47, Tryz.ntmps47
  go_wp2_with (first | (go_at_call 21; refine hLk.mono ?_; rintro e w2 ⟨rfl, h2, h3⟩) | fail)
  refine bodyPost_ret (results_none rfl _ _ _) rfl ?_
  exact ⟨rfl, HF.out _ h2 h3⟩
end Go.Proofs.YtnobmgkdieaclaaGreatDoor

namespace Go.Proofs.YtnobmgkdieaclaaGreatDoor
open Go.RowKit Go.MapKept Go.Maps Go.ChangeMaps

/-- the contents of the targets -/
def Ip.St.outs (s : Ip.St) : List Ip.B := if s.ev.kind = 2 then s.targets.map fun p => (s.written p).getD [] else []
set_option maxRecDepth 100000 in
theorem Outputs_no (w : World) (O : List Nat) (x : RP) (s : Ip.St) (h : RunS w O x s) (hs : s.targets ≠ []) (h2 : s.ev.kind ≠ 2) :
    Calls Tryz.prog 18 #[.pointer (some ⟨x.p, 0, none⟩)] w fun e w' => e = .returned (.slice none 0 0) ∧ w' = w := by
  have hm := missing_any w O x s h hs
  have k9 := h.c9
  have q : ((s.ev.kind : Int) == 2) = false := by simp; omega
  clear h hs h2
  generalize s.ev.kind = K at *
  go_enter Tryz.func18, Tryz.ntmps18
  go_wp2_with (first | (go_at_call 50; refine hm.mono ?_; rintro e w1 ⟨rfl, hw⟩; rw [hw]; clear hw) | fail)
  go_ret
  exact ⟨rfl, rfl⟩
theorem MapH.look1 {w : World} {b n : Nat} {f : Ip.B → Option Ip.B} (h : MapH w b n f) {p : Ip.B} (hp : p.length ≤ 1000) :
    (Instr.lookup 60 (.map (some b)) (.string (str p)) false).run Tryz.prog w = .ok (.agg #[.string (str ((f p).getD []))]) w := by
  obtain ⟨D, ho, -, hh, ha⟩ := h
  obtain ⟨v, ps, hr, hv⟩ := ho.lookup keyed9 (t := 60) (e := 89) Tryz.underlying60 (z := .agg #[.string (str [])]) (by kernel_rfl) (zd := .held (.agg #[.string (str [])])) (zp := []) rfl (key9 (x := str p) (by rw [str_size]; omega))
  rw [hr]
  simp only [tokT, Option.some.injEq, Prod.mk.injEq] at hv
  obtain ⟨hv, _⟩ := hv
  have hh' : has D (Lit.string (str p).data.toList) = (f p).isSome := by
    have := hh (str p)
    rw [show (fun k => f (bs k)) (str p) = f p from by show f (bs (str p)) = f p; rw [bs_str]] at this
    exact this
  have ha' : ∀ u, f p = some u → ∀ z, D.atKey (Lit.string (str p).data.toList) z = .held (heldV u) := fun u hu z => ha (str p) u (by show f (bs (str p)) = some u; rw [bs_str]; exact hu) z
  cases hf : f p with
  | some u =>
    rw [ha' u hf] at hv
    cases hv
    rfl
  | none =>
    rw [atKey_of_not_has (by rw [hh', hf]; rfl)] at hv
    cases hv
    rfl
theorem field_held (W : World) (G : ByteArray) : (Instr.field 89 (.agg #[.string G]) 0).run Tryz.prog W = .ok (.string G) W := by kernel_rfl
set_option maxRecDepth 100000 in
set_option maxHeartbeats 1000000 in
theorem Outputs_yes (w : World) (O : List Nat) (x : RP) (s : Ip.St) (h : RunS w O x s) (hs : s.targets ≠ []) (h2 : s.ev.kind = 2) (hfew : s.targets.length ≤ 4) (hshort : ∀ p ∈ s.targets, p.length ≤ 1000) :
    Calls Tryz.prog 18 #[.pointer (some ⟨x.p, 0, none⟩)] w fun e w' => ∃ a n c, e = .returned (.slice a n c) ∧ TxR.Own w' w.heap.size (.slice a n c) (s.targets.map fun p => (s.written p).getD []) ∧ Below w.heap.size w w' := by
  have hm := missing_any w O x s h hs
  have k9 := h.c9
  rw [h2] at k9
  have k0 := h.c0
  have k7 := h.c7
  have hpl := h.row.lt
  have htn := h.tn
  have hsl0 := h.tg.sl (B := w.heap.size) (fun b hb => hb.1)
  obtain ⟨nm, hmw, -⟩ := h.mw
  have hml := MapV.lt hmw
  have hlk : ∀ W, Below w.heap.size w W → ∀ p ∈ s.targets, (Instr.lookup 60 (.map (some x.mw)) (.string (str p)) false).run Tryz.prog W = .ok (.agg #[.string (str ((s.written p).getD []))]) W := fun W hW p hp => MapH.look1 (MapV.of_block hmw (hW.block _ hml)) (hshort p hp)
  have HL : Hid _ := hlk
  unfold RP.tv at hsl0
  rw [htn] at hsl0 k0
  clear h hs h2 hshort hmw hlk
  generalize s.targets = T at *
  obtain ⟨g, hg⟩ : ∃ g : Ip.B → Ip.B, (fun p => (s.written p).getD []) = g := ⟨_, rfl⟩
  have HG : Hid (∀ p, (s.written p).getD [] = g p) := fun p => congrFun hg p
  rw [hg]
  clear hg
  obtain ⟨TG, hTG⟩ : ∃ TG, T.map g = TG := ⟨_, rfl⟩
  rw [hTG]
  have hTl : TG.length = T.length := by rw [← hTG, List.length_map]
  have HTG : Hid (T.map g = TG) := hTG
  clear hTG
  have tb : (T.length : Int) ≤ 4 := by omega
  go_enter Tryz.func18, Tryz.ntmps18
  go_wp2_with (first | (go_at_call 50; refine hm.mono ?_; rintro e w1 ⟨rfl, hw⟩; rw [hw]; clear hw) | fail)
  go_loopw [3, 21] (fun v i wr => ∃ k : Nat, k ≤ T.length ∧ i = .int .i64 (k : Int) ∧ TxR.Own wr w.heap.size v (TG.take k) ∧ Below w.heap.size w wr) (fun _ i _ => T.length - (intOf i).toNat)
  case atStart => exact ⟨0, Nat.zero_le _, rfl, Rc.Own.nil _ _, Below.refl _ _⟩
  case round =>
    obtain ⟨k, hk, rfl, hown, hbw⟩ := hrel
    by_cases hlt : k < T.length
    · have i1 : (k : Int) < (T.length : Int) := by omega
      obtain ⟨gt, ot, c', e1, hgt, p1⟩ := TxR.at (hsl0.below hbw (Nat.le_refl _)) hlt
      simp only [Value.slice.injEq] at e1
      obtain ⟨e1, -, rfl⟩ := e1
      have hlk1 := HL.out wr hbw T[k] (List.getElem_mem hlt)
      have r7 : wr.cell? ⟨x.p, 7, none⟩ = some (.map (some x.mw)) := (hbw.cell (p := ⟨x.p, 7, none⟩) hpl).trans k7
      rw [HG.out] at hlk1
      have hfl := field_held wr (str (g T[k]))
      have hel : TG.take (k + 1) = TG.take k ++ [g T[k]] := by
        have e := HTG.out
        subst e
        rw [List.take_succ_eq_append_getElem (by rw [List.length_map]; exact hlt), List.getElem_map]
      have hlen : (TG.take k).length = k := by simp; omega
      have HLn : Hid ((TG.take k).length + [g T[k]].length ≤ 1099511627) := by show _ ≤ _; rw [hlen]; simp; omega
      have hlit := TxR.lit wr (g T[k]) #[.string (str (g T[k]))] rfl
      have hown2 := hown.alloc (.cells #[.string (str (g T[k]))] 9)
      have hbx := hbw.alloc hbw.size (.cells #[.string (str (g T[k]))] 9)
      have HEl : Hid _ := hel
      rw [e1] at *
      clear hel hlen HL HG HTG
      generalize str T[k] = S at *
      generalize g T[k] = G at *
      go_wp2_with (first | (at_builtin; go_must (refine TxR.append rfl (.tmp 25) (.tmp 33) rfl w.heap.size (wr.heap.size + 1) _ _ (TG.take k) [G] rfl hown2 rfl hlit HLn hbx.size ?_)) | fail)
      intro v' w' h1 h2
      have hb2 := hbx.grown h2 hbx.size fun k hk => (World.ownsRow.lt hown2 k hk).1
      rw [← HEl.out] at h1
      go_wp2
      exact ⟨⟨k + 1, by omega, by go_num, h1, hb2⟩, by simp [intOf]; omega⟩
    · obtain rfl : k = T.length := by omega
      have i1 : ¬ (T.length : Int) < (T.length : Int) := by omega
      rw [← hTl, List.take_length] at hown
      obtain ⟨a7, n7, c7, rfl⟩ := hown.isSl
      go_wp2
      go_ret
      exact ⟨_, _, _, rfl, hown, hbw⟩
end Go.Proofs.YtnobmgkdieaclaaGreatDoor
