/-
  WHAT answer DOES.
-/
import Derived.Test.YtnobmgkdieaclaaGreatDoorIpStep
namespace Go.Proofs.YtnobmgkdieaclaaGreatDoor
open Go.RowKit

/-- what whoever is asked keeps to: by the paths that it was asked, with the blocks D that are its own; what lies from B0 on is nobody's else -/
structure Keeps (B0 : Nat) (J : List Ip.B → List Nat → World → Prop) : Prop where
  keep : ∀ {qs : List Ip.B} {D : List Nat} {W W' : World} {S : List Nat}, J qs D W → Turn S W W' → (∀ b ∈ S, B0 ≤ b ∧ b ∉ D) → J qs D W'
  lt : ∀ {qs : List Ip.B} {D : List Nat} {W : World}, J qs D W → ∀ b ∈ D, b < W.heap.size
/-- whom a run asks: of each path a content, or none -/
structure AskC (gf : Nat) (lb : Array Value) (f : Ip.B → Option Ip.B) (J : List Ip.B → List Nat → World → Prop) : Prop where
  enter : ∀ (args : Array Value) (W : World), (callFunc gf args).run Tryz.prog W = .ok (.enter gf args) W
  call : ∀ (W : World) (qs : List Ip.B) (D : List Nat) (p : Ip.B), J qs D W → Pm.isP p = true → qs.length ≤ 8 → Calls Tryz.prog gf (#[.string (str p)] ++ lb) W fun e w' => e = .returned (.tuple #[.string (str ((f p).getD [])), .bool (f p).isSome]) ∧ ∃ D', J (qs ++ [p]) D' w' ∧ (∀ b ∈ D', b ∈ D ∨ W.heap.size ≤ b) ∧ Turn D W w'
  short : ∀ p c, f p = some c → c.length ≤ 140737488351232
/-- an answer, whoever gives it -/
def AnsC (av : Value) (f : Ip.B → Option Ip.B) (B0 : Nat) (J : List Ip.B → List Nat → World → Prop) : Prop :=
  ∀ (qs : List Ip.B) (D : List Nat) (w : World) (O : List Nat) (x : RP) (s : Ip.St), RunS w O x s → s.Inv → s.ev.kind = 1 → J qs D w → (∀ b ∈ D, b ∈ O ∧ b ∉ x.own) → (∀ b ∈ x.own, B0 ≤ b) → qs.length ≤ 8 →
    Calls Tryz.prog 47 #[.pointer (some ⟨x.p, 0, none⟩), av] w fun e w' => e = .returned (.tuple #[]) ∧ ∃ D', RunS w' (D' ++ O) x (s.answer (f s.ev.path)) ∧ J (qs ++ [s.ev.path]) D' w' ∧ (∀ b ∈ D', b ∈ D ∨ w.heap.size ≤ b) ∧ Turn (x.p :: x.mt :: D) w w'
set_option maxRecDepth 100000 in
set_option maxHeartbeats 1000000 in
theorem answer_some {gf : Nat} {lb : Array Value} {f : Ip.B → Option Ip.B} {B0 : Nat} {J : List Ip.B → List Nat → World → Prop} (hA : AskC gf lb f J) (hK : Keeps B0 J) : AnsC (.func (.func gf) #[] lb) f B0 J := by
  intro qs D w O x s h hi h1 hJ hD hx hq8
  have k10 := h.c10
  have hC := hA.call w qs D s.ev.path hJ (hi.need h1).2.2.2 hq8
  have hE := hA.enter
  have hne : ∀ W : World, (Go.binOp .eql 55 (.func (.func gf) #[] lb) .nilFunc).run Tryz.prog W = .ok (.bool false) W := fun W => by kernel_rfl
  have hDx : ∀ b ∈ x.own, b ∉ D := fun b hb hd => (hD b hd).2 hb
  have hR : ∀ W D', Turn D w W → J (qs ++ [s.ev.path]) D' W → (∀ b ∈ D', b ∈ D ∨ w.heap.size ≤ b) → RunS W (D' ++ O) x s := fun W D' hT hj hd => h.aside hT (fun b hb _ => (hD b hb).1) hDx (fun b hb hl => by
    rcases List.mem_append.1 hb with hb | hb
    · rcases hd b hb with hb | hb
      · exact (hD b hb).1
      · omega
    · exact hb) (fun b hb => List.mem_append_right _ (h.sub b hb)) (fun b hb => by
    rcases List.mem_append.1 hb with hb | hb
    · exact hK.lt hj b hb
    · have := h.lim b hb; have := hT.size; omega)
  have hEnd : ∀ W1 W2 D', Turn D w W1 → J (qs ++ [s.ev.path]) D' W1 → (∀ b ∈ D', b ∈ D ∨ w.heap.size ≤ b) → Turn [x.p, x.mt] W1 W2 → J (qs ++ [s.ev.path]) D' W2 ∧ Turn (x.p :: x.mt :: D) w W2 := fun W1 W2 D' hT hj hd hT2 => by
    refine ⟨hK.keep hj hT2 (fun b hb => ?_), (hT.mono (fun b hb _ => List.mem_cons_of_mem _ (List.mem_cons_of_mem _ hb))).trans hT2 (fun b hb _ => by simp at hb ⊢; rcases hb with rfl | rfl <;> simp)⟩
    have hbo : b ∈ x.own := by
      simp at hb
      rcases hb with rfl | rfl
      · exact x.p_own
      · exact x.mt_own
    refine ⟨hx b hbo, fun hbd => ?_⟩
    rcases hd b hbd with hb2 | hb2
    · exact hDx b hbo hb2
    · have := h.lt b hbo; omega
  have HE : Hid _ := hEnd
  have HR : Hid _ := hR
  have HL : Hid (∀ b ∈ x.own, b < w.heap.size) := h.lt
  cases hf : f s.ev.path with
  | none =>
    rw [hf] at hC
    have hLk := fun W D' (hr : RunS W (D' ++ O) x s) => Lack_any W (D' ++ O) x s hr hi.some h1
    have hC2 : Calls Tryz.prog gf (#[.string (str s.ev.path)] ++ lb) w fun e w' => e = .returned (.tuple #[.string ⟨#[]⟩, .bool false]) ∧ ∃ D', J (qs ++ [s.ev.path]) D' w' ∧ (∀ b ∈ D', b ∈ D ∨ w.heap.size ≤ b) ∧ Turn D w w' := hC
    show Calls _ _ _ _ fun e w' => _ ∧ ∃ D', RunS w' (D' ++ O) x s.lack ∧ _
    clear hC hf hR hEnd h hA hi hJ hD hx hDx h1
    generalize s.lack = R at *
    generalize str s.ev.path = P at *
    go_enter Tryz.func47, Tryz.ntmps47
    go_wp2_with (first | (go_at_call 21; refine (hLk w1 D' (HR.out _ _ hT1 hJ1 hd1)).mono ?_; rintro e w2 ⟨rfl, h2, h3⟩) | (refine hC2.mono ?_; rintro e w1 ⟨rfl, D', hJ1, hd1, hT1⟩) | fail)
    go_end0
    obtain ⟨g1, g2⟩ := HE.out _ _ _ hT1 hJ1 hd1 (h3.mono (by simp))
    exact ⟨rfl, D', h2, g1, hd1, g2⟩
  | some c =>
    rw [hf] at hC
    have hGv := fun W D' (hr : RunS W (D' ++ O) x s) => Give_any c W (D' ++ O) x s hr hi h1 (hA.short _ _ hf)
    have hC2 : Calls Tryz.prog gf (#[.string (str s.ev.path)] ++ lb) w fun e w' => e = .returned (.tuple #[.string (str c), .bool true]) ∧ ∃ D', J (qs ++ [s.ev.path]) D' w' ∧ (∀ b ∈ D', b ∈ D ∨ w.heap.size ≤ b) ∧ Turn D w w' := hC
    show Calls _ _ _ _ fun e w' => _ ∧ ∃ D', RunS w' (D' ++ O) x (s.give c) ∧ _
    clear hC hf hR hEnd h hA hi hJ hD hx hDx h1
    generalize s.give c = R at *
    generalize str s.ev.path = P at *
    generalize str c = C at *
    go_enter Tryz.func47, Tryz.ntmps47
    go_wp2_with (first | (go_at_call 20; refine (hGv w1 D' (HR.out _ _ hT1 hJ1 hd1)).mono ?_; rintro e w2 ⟨rfl, h2, h3⟩) | (refine hC2.mono ?_; rintro e w1 ⟨rfl, D', hJ1, hd1, hT1⟩) | fail)
    go_end0
    obtain ⟨g1, g2⟩ := HE.out _ _ _ hT1 hJ1 hd1 h3
    exact ⟨rfl, D', h2, g1, hd1, g2⟩
set_option maxRecDepth 100000 in
set_option maxHeartbeats 1000000 in
theorem answer_nil {B0 : Nat} {J : List Ip.B → List Nat → World → Prop} (hK : Keeps B0 J) (hQ : ∀ qs D W p, J qs D W → J (qs ++ [p]) D W) : AnsC .nilFunc (fun _ => none) B0 J := by
  intro qs D w O x s h hi h1 hJ hD hx _
  have hne : ∀ W : World, (Go.binOp .eql 55 .nilFunc .nilFunc).run Tryz.prog W = .ok (.bool true) W := fun W => by kernel_rfl
  have hLk := Lack_any w O x s h hi.some h1
  have HF : Hid (∀ W, RunS W O x s.lack → Turn [x.p] w W → ∃ D', RunS W (D' ++ O) x s.lack ∧ J (qs ++ [s.ev.path]) D' W ∧ (∀ b ∈ D', b ∈ D ∨ w.heap.size ≤ b) ∧ Turn (x.p :: x.mt :: D) w W) := fun W hr hT => ⟨D, hr.other (fun b hb _ => by
    rcases List.mem_append.1 hb with hb | hb
    · exact (hD b hb).1
    · exact hb) (fun b hb => List.mem_append_right _ (h.sub b hb)) (fun b hb => by
    rcases List.mem_append.1 hb with hb | hb
    · exact hr.lim b (hD b hb).1
    · exact hr.lim b hb), hQ _ _ _ _ (hK.keep hJ hT (fun b hb => by
      rw [List.mem_singleton] at hb
      subst hb
      exact ⟨hx _ x.p_own, fun hd => (hD _ hd).2 x.p_own⟩)), fun b hb => .inl hb, hT.mono (fun b hb _ => by simp at hb; simp [hb])⟩
  show Calls _ _ _ _ fun e w' => _ ∧ ∃ D', RunS w' (D' ++ O) x s.lack ∧ _
  clear h hi hJ hD hx h1
  go_enter Tryz.func47, Tryz.ntmps47
  go_wp2_with (first | (go_at_call 21; refine hLk.mono ?_; rintro e w2 ⟨rfl, h2, h3⟩) | fail)
  refine bodyPost_ret (results_none rfl _ _ _) rfl ?_
  exact ⟨rfl, HF.out _ h2 h3⟩
end Go.Proofs.YtnobmgkdieaclaaGreatDoor

namespace Go.Proofs.YtnobmgkdieaclaaGreatDoor
open Go.RowKit Go.MapKept Go.Maps Go.ChangeMaps

/-- the contents of the targets -/
def Ip.St.outs (s : Ip.St) : List Ip.B := if s.ev.kind = 2 then s.targets.map fun p => (s.written p).getD [] else []
set_option maxRecDepth 100000 in
theorem Outputs_no (w : World) (O : List Nat) (x : RP) (s : Ip.St) (h : RunS w O x s) (hs : s.targets ≠ []) (h2 : s.ev.kind ≠ 2) :
    Calls Tryz.prog 18 #[.pointer (some ⟨x.p, 0, none⟩)] w fun e w' => e = .returned (.slice none 0 0) ∧ w' = w := by
  have hm := missing_any w O x s h hs
  have k9 := h.c9
  have q : ((s.ev.kind : Int) == 2) = false := by simp; omega
  clear h hs h2
  generalize s.ev.kind = K at *
  go_enter Tryz.func18, Tryz.ntmps18
  go_wp2_with (first | (go_at_call 50; refine hm.mono ?_; rintro e w1 ⟨rfl, hw⟩; rw [hw]; clear hw) | fail)
  go_ret
  exact ⟨rfl, rfl⟩
theorem MapH.look1 {w : World} {b n : Nat} {f : Ip.B → Option Ip.B} (h : MapH w b n f) {p : Ip.B} (hp : p.length ≤ 1000) :
    (Instr.lookup 60 (.map (some b)) (.string (str p)) false).run Tryz.prog w = .ok (.agg #[.string (str ((f p).getD []))]) w := by
  obtain ⟨D, ho, -, hh, ha⟩ := h
  obtain ⟨v, ps, hr, hv⟩ := ho.lookup keyed9 (t := 60) (e := 89) Tryz.underlying60 (z := .agg #[.string (str [])]) (by kernel_rfl) (zd := .held (.agg #[.string (str [])])) (zp := []) rfl (key9 (x := str p) (by rw [str_size]; omega))
  rw [hr]
  simp only [tokT, Option.some.injEq, Prod.mk.injEq] at hv
  obtain ⟨hv, _⟩ := hv
  have hh' : has D (Lit.string (str p).data.toList) = (f p).isSome := by
    have := hh (str p)
    rw [show (fun k => f (bs k)) (str p) = f p from by show f (bs (str p)) = f p; rw [bs_str]] at this
    exact this
  have ha' : ∀ u, f p = some u → ∀ z, D.atKey (Lit.string (str p).data.toList) z = .held (heldV u) := fun u hu z => ha (str p) u (by show f (bs (str p)) = some u; rw [bs_str]; exact hu) z
  cases hf : f p with
  | some u =>
    rw [ha' u hf] at hv
    cases hv
    rfl
  | none =>
    rw [atKey_of_not_has (by rw [hh', hf]; rfl)] at hv
    cases hv
    rfl
theorem field_held (W : World) (G : ByteArray) : (Instr.field 89 (.agg #[.string G]) 0).run Tryz.prog W = .ok (.string G) W := by kernel_rfl
set_option maxRecDepth 100000 in
set_option maxHeartbeats 1000000 in
theorem Outputs_yes (w : World) (O : List Nat) (x : RP) (s : Ip.St) (h : RunS w O x s) (hs : s.targets ≠ []) (h2 : s.ev.kind = 2) (hfew : s.targets.length ≤ 4) (hshort : ∀ p ∈ s.targets, p.length ≤ 1000) :
    Calls Tryz.prog 18 #[.pointer (some ⟨x.p, 0, none⟩)] w fun e w' => ∃ a n c, e = .returned (.slice a n c) ∧ TxR.Own w' w.heap.size (.slice a n c) (s.targets.map fun p => (s.written p).getD []) ∧ Below w.heap.size w w' := by
  have hm := missing_any w O x s h hs
  have k9 := h.c9
  rw [h2] at k9
  have k0 := h.c0
  have k7 := h.c7
  have hpl := h.row.lt
  have htn := h.tn
  have hsl0 := h.tg.sl (B := w.heap.size) (fun b hb => hb.1)
  obtain ⟨nm, hmw, -⟩ := h.mw
  have hml := MapV.lt hmw
  have hlk : ∀ W, Below w.heap.size w W → ∀ p ∈ s.targets, (Instr.lookup 60 (.map (some x.mw)) (.string (str p)) false).run Tryz.prog W = .ok (.agg #[.string (str ((s.written p).getD []))]) W := fun W hW p hp => MapH.look1 (MapV.of_block hmw (hW.block _ hml)) (hshort p hp)
  have HL : Hid _ := hlk
  unfold RP.tv at hsl0
  rw [htn] at hsl0 k0
  clear h hs h2 hshort hmw hlk
  generalize s.targets = T at *
  obtain ⟨g, hg⟩ : ∃ g : Ip.B → Ip.B, (fun p => (s.written p).getD []) = g := ⟨_, rfl⟩
  have HG : Hid (∀ p, (s.written p).getD [] = g p) := fun p => congrFun hg p
  rw [hg]
  clear hg
  obtain ⟨TG, hTG⟩ : ∃ TG, T.map g = TG := ⟨_, rfl⟩
  rw [hTG]
  have hTl : TG.length = T.length := by rw [← hTG, List.length_map]
  have HTG : Hid (T.map g = TG) := hTG
  clear hTG
  have tb : (T.length : Int) ≤ 4 := by omega
  go_enter Tryz.func18, Tryz.ntmps18
  go_wp2_with (first | (go_at_call 50; refine hm.mono ?_; rintro e w1 ⟨rfl, hw⟩; rw [hw]; clear hw) | fail)
  go_loopw [3, 21] (fun v i wr => ∃ k : Nat, k ≤ T.length ∧ i = .int .i64 (k : Int) ∧ TxR.Own wr w.heap.size v (TG.take k) ∧ Below w.heap.size w wr) (fun _ i _ => T.length - (intOf i).toNat)
  case atStart => exact ⟨0, Nat.zero_le _, rfl, Rc.Own.nil _ _, Below.refl _ _⟩
  case round =>
    obtain ⟨k, hk, rfl, hown, hbw⟩ := hrel
    by_cases hlt : k < T.length
    · have i1 : (k : Int) < (T.length : Int) := by omega
      obtain ⟨gt, ot, c', e1, hgt, p1⟩ := TxR.at (hsl0.below hbw (Nat.le_refl _)) hlt
      simp only [Value.slice.injEq] at e1
      obtain ⟨e1, -, rfl⟩ := e1
      have hlk1 := HL.out wr hbw T[k] (List.getElem_mem hlt)
      have r7 : wr.cell? ⟨x.p, 7, none⟩ = some (.map (some x.mw)) := (hbw.cell (p := ⟨x.p, 7, none⟩) hpl).trans k7
      rw [HG.out] at hlk1
      have hfl := field_held wr (str (g T[k]))
      have hel : TG.take (k + 1) = TG.take k ++ [g T[k]] := by
        have e := HTG.out
        subst e
        rw [List.take_succ_eq_append_getElem (by rw [List.length_map]; exact hlt), List.getElem_map]
      have hlen : (TG.take k).length = k := by simp; omega
      have HLn : Hid ((TG.take k).length + [g T[k]].length ≤ 1099511627) := by show _ ≤ _; rw [hlen]; simp; omega
      have hlit := TxR.lit wr (g T[k]) #[.string (str (g T[k]))] rfl
      have hown2 := hown.alloc (.cells #[.string (str (g T[k]))] 9)
      have hbx := hbw.alloc hbw.size (.cells #[.string (str (g T[k]))] 9)
      have HEl : Hid _ := hel
      rw [e1] at *
      clear hel hlen HL HG HTG
      generalize str T[k] = S at *
      generalize g T[k] = G at *
      go_wp2_with (first | (at_builtin; go_must (refine TxR.append rfl (.tmp 25) (.tmp 33) rfl w.heap.size (wr.heap.size + 1) _ _ (TG.take k) [G] rfl hown2 rfl hlit HLn hbx.size ?_)) | fail)
      intro v' w' h1 h2
      have hb2 := hbx.grown h2 hbx.size fun k hk => (World.ownsRow.lt hown2 k hk).1
      rw [← HEl.out] at h1
      go_wp2
      exact ⟨⟨k + 1, by omega, by go_num, h1, hb2⟩, by simp [intOf]; omega⟩
    · obtain rfl : k = T.length := by omega
      have i1 : ¬ (T.length : Int) < (T.length : Int) := by omega
      rw [← hTl, List.take_length] at hown
      obtain ⟨a7, n7, c7, rfl⟩ := hown.isSl
      go_wp2
      go_ret
      exact ⟨_, _, _, rfl, hown, hbw⟩
end Go.Proofs.YtnobmgkdieaclaaGreatDoor

namespace Go.Proofs.YtnobmgkdieaclaaGreatDoor
open Go.RowKit Go.MapKept Go.Maps Go.ChangeMaps Go.Shelf

theorem CloneM_any (w : World) (b n : Nat) (f : Ip.B → Option Ip.B) (h : MapH w b n f) :
    Calls Tryz.prog 59 #[.map (some b)] w fun e w' => e = .returned (.map (some w.heap.size)) ∧ MapH w' w.heap.size n f ∧ Below w.heap.size w w' ∧ w.heap.size < w'.heap.size := by
  obtain ⟨es, c, hb⟩ := MapV.isMap h
  refine (AnyW.maps_Clone Tryz.cloneA b es c w hb).mono ?_
  rintro e w' ⟨rfl, rfl⟩
  refine ⟨rfl, MapV.of_entries h hb (heap_alloc_new w _), (Below.refl _ w).alloc (Nat.le_refl _) _, ?_⟩
  rw [size_alloc]
  omega
theorem Rc.Own.put {α : Type} {R : Rc α} {w : World} {base : Nat} {v : Value} {l : List α} (h : R.Own w base v l) (g j : Nat) (u : Value) (hg : g < base) : R.Own (w.setCell ⟨g, j, none⟩ u) base v l := h.turnP (Turn.put1 w g j u) (fun k hk hx => by
  have := h.lt k hk
  rw [List.mem_singleton] at hx
  omega)
theorem MapH.turn {w w' : World} {S : List Nat} {b n : Nat} {f : Ip.B → Option Ip.B} (h : MapH w b n f) (hT : Turn S w w') (hb : b ∉ S) : MapH w' b n f := MapV.of_block h (hT.block b (MapV.lt h) hb)
set_option maxRecDepth 100000 in
set_option maxHeartbeats 2000000 in
theorem Copy_any (w : World) (O : List Nat) (x : RP) (s : Ip.St) (h : RunS w O x s) (hi : s.Inv) (hL : Laid w) :
    Calls Tryz.prog 30 #[.pointer (some ⟨x.p, 0, none⟩)] w fun e w' => ∃ x2, e = .returned (.pointer (some ⟨x2.p, 0, none⟩)) ∧ RunS w' (x2.own ++ O) x2 s ∧ (∀ b ∈ x2.own, w.heap.size ≤ b) ∧ Below w.heap.size w w' := by
  have hm := missing_any w O x s h hi.some
  have k0 := h.c0
  have k1 := h.c1
  have k2 := h.c2
  have k3 := h.c3
  have k4 := h.c4
  have k5 := h.c5
  have k6 := h.c6
  have k7 := h.c7
  have k8 := h.c8
  have k9 := h.c9
  have k10 := h.c10
  have k11 := h.c11
  have k12 := h.c12
  obtain ⟨rs, o1, o2⟩ := h.op
  obtain ⟨n, m1, m2⟩ := h.mt
  obtain ⟨k, m3, m4⟩ := h.mw
  have hdeep : rs.length ≤ 109951162 := by
    rw [o2.len, List.length_reverse]
    have := hi.ok.fine.deep
    omega
  have hlt := h.lt
  go_enter Tryz.func30, Tryz.ntmps30
  go_upto_region 4 with (first | (go_at_call 50; refine hm.mono ?_; rintro e w1 ⟨rfl, hw⟩; rw [hw]; clear hw) | fail)
  have r0 := Rw.new w (runCs x s) 62
  have hB0 := (Below.refl w.heap.size w).alloc (Nat.le_refl _) (.cells (runCs x s) 62)
  have hz0 := size_alloc w (.cells (runCs x s) 62)
  unfold runCs at r0 hB0 hz0
  generalize w.alloc (.cells #[.slice x.ta x.tn x.tc, .int .i64 (s.fuel : Int), .int .i64 (s.used : Int), .slice x.oa x.on x.oc, .bool s.begun, .string (str s.buffer), .map (some x.mt), .map (some x.mw), .slice x.na x.nn x.nc, .int .i64 (s.ev.kind : Int), .string (str s.ev.path), .int .i64 (s.ev.why : Int), .string (str s.ev.text)] 62) = W1 at *
  have q3 : W1.cell? ⟨x.p, 3, none⟩ = some (.slice x.oa x.on x.oc) := (hB0.cell (p := ⟨x.p, 3, none⟩) h.row.lt).trans k3
  have hCl := CloneB_any rs x.ov w.heap.size W1 (o1.sl.below hB0 (Nat.le_refl _)) (by omega) hdeep
  unfold RP.ov at hCl
  have hpl := h.row.lt
  have hgx : ∀ b ∈ x.own, b ≠ w.heap.size := fun b hb => by have := hlt b hb; omega
  go_upto_region 5 with (first | (go_at_call 58; refine hCl.mono ?_; rintro e w2 ⟨oa', on', oc', rfl, p1, hb1⟩; have r1 := r0.below hb1 r0.lt; have s3 := r1.cell 3; have f3 := r1.free 3) | fail)
  have r1' := r1.set 3 (.slice oa' on' oc') (by simp)
  have T1 : Turn [w.heap.size] W1 (w2.setCell ⟨w.heap.size, 3, none⟩ (.slice oa' on' oc')) := ((Turn.of_below hb1).mono (S' := [w.heap.size]) (by simp)).trans (Turn.put1 w2 w.heap.size 3 _) (fun b hb _ => hb)
  have p1' := p1.put w.heap.size 3 (.slice oa' on' oc') (by omega)
  clear hCl s3 f3 r1 p1 hb1
  generalize w2.setCell ⟨w.heap.size, 3, none⟩ (.slice oa' on' oc') = V1 at *
  have hov := p1'.lt
  have U1 : Turn [w.heap.size] w V1 := ((Turn.of_below hB0).mono (S' := [w.heap.size]) (by simp)).trans T1 (fun b hb _ => hb)
  have q6 : V1.cell? ⟨x.p, 6, none⟩ = some (.map (some x.mt)) := (U1.cell (p := ⟨x.p, 6, none⟩) hpl (by simpa using hgx _ x.p_own)).trans k6
  have hCm := CloneM_any V1 x.mt n s.told (m1.turn U1 (by simpa using hgx _ x.mt_own))
  have hz1 := T1.size
  go_upto_region 6 with (first | (go_at_call 59; refine hCm.mono ?_; rintro e w3 ⟨rfl, p2, hb2, hl2⟩; have r2 := r1'.below hb2 r1'.lt; have s6 := r2.cell 6; have f6 := r2.free 6) | fail)
  have r2' := r2.set 6 (.map (some V1.heap.size)) (by simp)
  have T2 : Turn [w.heap.size] V1 (w3.setCell ⟨w.heap.size, 6, none⟩ (.map (some V1.heap.size))) := ((Turn.of_below hb2).mono (S' := [w.heap.size]) (by simp)).trans (Turn.put1 w3 w.heap.size 6 _) (fun b hb _ => hb)
  have p2' := p2.turn (Turn.put1 w3 w.heap.size 6 (.map (some V1.heap.size))) (by simp; omega)
  have l2' : V1.heap.size < (w3.setCell ⟨w.heap.size, 6, none⟩ (.map (some V1.heap.size))).heap.size := by rw [size_setCell]; exact hl2
  have p1b := p1'.turnP T2 (fun k hk => by have := p1'.lt k hk; simp; omega)
  clear hCm s6 f6 r2 p2 hb2 hl2 r1' p1'
  generalize w3.setCell ⟨w.heap.size, 6, none⟩ (.map (some V1.heap.size)) = V2 at *
  have U2 : Turn [w.heap.size] w V2 := U1.trans T2 (fun b hb _ => hb)
  have q7 : V2.cell? ⟨x.p, 7, none⟩ = some (.map (some x.mw)) := (U2.cell (p := ⟨x.p, 7, none⟩) hpl (by simpa using hgx _ x.p_own)).trans k7
  have hCm := CloneM_any V2 x.mw k s.written (m3.turn U2 (by simpa using hgx _ x.mw_own))
  go_upto_region 7 with (first | (go_at_call 59; refine hCm.mono ?_; rintro e w4 ⟨rfl, p3, hb3, hl3⟩; have r3 := r2'.below hb3 r2'.lt; have s7 := r3.cell 7; have f7 := r3.free 7) | fail)
  have r3' := r3.set 7 (.map (some V2.heap.size)) (by simp)
  have T3 : Turn [w.heap.size] V2 (w4.setCell ⟨w.heap.size, 7, none⟩ (.map (some V2.heap.size))) := ((Turn.of_below hb3).mono (S' := [w.heap.size]) (by simp)).trans (Turn.put1 w4 w.heap.size 7 _) (fun b hb _ => hb)
  have p3' := p3.turn (Turn.put1 w4 w.heap.size 7 (.map (some V2.heap.size))) (by simp; omega)
  have l3' : V2.heap.size < (w4.setCell ⟨w.heap.size, 7, none⟩ (.map (some V2.heap.size))).heap.size := by rw [size_setCell]; exact hl3
  have p1c := p1b.turnP T3 (fun k hk => by have := p1b.lt k hk; simp; omega)
  have p2c := p2'.turn T3 (by simp; omega)
  clear hCm s7 f7 r3 p3 hb3 hl3 r2' p1b p2'
  generalize w4.setCell ⟨w.heap.size, 7, none⟩ (.map (some V2.heap.size)) = V3 at *
  have U3 : Turn [w.heap.size] w V3 := U2.trans T3 (fun b hb _ => hb)
  have q8 : V3.cell? ⟨x.p, 8, none⟩ = some (.slice x.na x.nn x.nc) := (U3.cell (p := ⟨x.p, 8, none⟩) hpl (by simpa using hgx _ x.p_own)).trans k8
  have hCt := CloneT_any s.needs x.nv V3.heap.size V3 (h.nd.turnP U3 (fun g hg => by simpa using hgx _ (RP.nv_own hg))).sl (Nat.le_refl _) (by have := hi.len; omega)
  unfold RP.nv at hCt
  go_upto_region 8 with (first | (go_at_call 45; refine hCt.mono ?_; rintro e w5 ⟨na', nn', nc', rfl, p4, hb4⟩; have r4 := r3'.below hb4 r3'.lt; have s8 := r4.cell 8; have f8 := r4.free 8) | fail)
  have r4' := r4.set 8 (.slice na' nn' nc') (by simp)
  have T4 : Turn [w.heap.size] V3 (w5.setCell ⟨w.heap.size, 8, none⟩ (.slice na' nn' nc')) := ((Turn.of_below hb4).mono (S' := [w.heap.size]) (by simp)).trans (Turn.put1 w5 w.heap.size 8 _) (fun b hb _ => hb)
  have p4' := p4.put w.heap.size 8 (.slice na' nn' nc') (by omega)
  have p1d := p1c.turnP T4 (fun k hk => by have := p1c.lt k hk; simp; omega)
  have p2d := p2c.turn T4 (by simp; omega)
  have p3d := p3'.turn T4 (by simp; omega)
  clear hCt s8 f8 r4 p4 hb4 r3' p1c p2c p3'
  generalize w5.setCell ⟨w.heap.size, 8, none⟩ (.slice na' nn' nc') = V4 at *
  have U4 : Turn [w.heap.size] w V4 := U3.trans T4 (fun b hb _ => hb)
  have hz4 := T4.size
  go_wp2
  go_ret
  have hnv := p4'.lt
  have hb : ∀ b ∈ (⟨w.heap.size, V1.heap.size, V2.heap.size, x.ta, x.tn, x.tc, oa', on', oc', na', nn', nc'⟩ : RP).own, w.heap.size ≤ b ∧ b < V4.heap.size := by
    intro b hb
    rcases RP.own_cases hb with rfl | rfl | rfl | e | e
    · exact ⟨Nat.le_refl _, r4'.lt⟩
    · exact ⟨by show w.heap.size ≤ V1.heap.size; omega, by show V1.heap.size < _; omega⟩
    · exact ⟨by show w.heap.size ≤ V2.heap.size; omega, by show V2.heap.size < _; omega⟩
    · have := hov b e; omega
    · have := hnv b e; omega
  have hnd : (⟨w.heap.size, V1.heap.size, V2.heap.size, x.ta, x.tn, x.tc, oa', on', oc', na', nn', nc'⟩ : RP).own.Nodup := by
    show (w.heap.size :: V1.heap.size :: V2.heap.size :: ((Value.slice oa' on' oc').ownBlock.toList ++ (Value.slice na' nn' nc').ownBlock.toList)).Nodup
    cases ho : (Value.slice oa' on' oc').ownBlock with
    | none =>
      cases hn : (Value.slice na' nn' nc').ownBlock with
      | none => simp; omega
      | some b => have := hnv b hn; simp; omega
    | some a =>
      have := hov a ho
      cases hn : (Value.slice na' nn' nc').ownBlock with
      | none => simp; omega
      | some b => have := hnv b hn; simp; omega
  have hP : ∀ b, b < w.heap.size ∧ b ∉ O → b < V4.heap.size ∧ b ∉ (⟨w.heap.size, V1.heap.size, V2.heap.size, x.ta, x.tn, x.tc, oa', on', oc', na', nn', nc'⟩ : RP).own ++ O := fun b hb2 => ⟨by omega, fun hx => by
    rcases List.mem_append.1 hx with hx | hx
    · have := hb b hx; omega
    · exact hb2.2 hx⟩
  have hk : ∀ b, b < w.heap.size ∧ b ∉ O → V4.heap[b]? = w.heap[b]? := fun b hb2 => U4.block b hb2.1 (by simp; omega)
  refine ⟨⟨w.heap.size, V1.heap.size, V2.heap.size, x.ta, x.tn, x.tc, oa', on', oc', na', nn', nc'⟩, rfl, ⟨r4', h.tg.keep hk hP, ⟨rs, p1d.low (by have := hL.size; omega), o2.keep hk hP⟩, ⟨n, p2d, m2⟩, ⟨k, p3d, m4⟩, p4'.low (by have := hL.size; omega), hnd, fun b hx => List.mem_append_left _ hx, fun b hx => by have := hb b hx; have := hL.size; omega, fun b hx => ?_⟩, fun b hx => (hb b hx).1, U4.bel (Below.refl _ _) (by simp)⟩
  rcases List.mem_append.1 hx with hx | hx
  · exact (hb b hx).2
  · have := h.lim b hx; have := U4.size; omega
end Go.Proofs.YtnobmgkdieaclaaGreatDoor

namespace Go.Proofs.YtnobmgkdieaclaaGreatDoor
open Go.RowKit

theorem nodup_take {α : Type} [DecidableEq α] {l : List α} {k : Nat} (hk : k < l.length) : (l.take (k + 1)).Nodup ↔ (l.take k).Nodup ∧ l[k] ∉ l.take k := by
  rw [List.take_succ_eq_append_getElem hk, List.nodup_append]
  simp only [List.mem_singleton, List.nodup_cons, List.not_mem_nil, not_false_eq_true, List.nodup_nil, true_and, and_self]
  constructor
  · rintro ⟨h1, h2⟩
    exact ⟨h1, fun hm => h2 _ hm _ rfl rfl⟩
  · rintro ⟨h1, h2⟩
    exact ⟨h1, fun a ha b hb e => by subst hb; subst e; exact h2 ha⟩
theorem bs_str2 (l : List UInt8) : bs (str l) = l := bs_str l
set_option maxRecDepth 100000 in
set_option maxHeartbeats 1000000 in
theorem mayTargets_any (ts : List (List UInt8)) (v : Value) (w : World) (B : Nat) (h : TxR.Sl w B v ts) (hB : B ≤ w.heap.size) (hl : ts.length ≤ 140737488351232) (hz : ∀ s ∈ ts, s.length ≤ 140737488351232) :
    Calls Tryz.prog 44 #[v] w fun e w' => e = .returned (.bool (Ip.mayT ts)) ∧ Below w.heap.size w w' := by
  obtain ⟨ad, c, rfl, hle⟩ := h.shape
  have lb : (ts.length : Int) ≤ 140737488351232 := by omega
  by_cases h0 : ts.length = 0
  · have e0 : Ip.mayT ts = false := by unfold Ip.mayT; rw [h0]; rfl
    rw [e0, h0]
    clear h hz
    go_enter Tryz.func44, Tryz.ntmps44
    go_wp2
    go_ret
    exact ⟨rfl, Below.refl _ _⟩
  · have n0 : ((ts.length : Int) == 0) = false := by rw [beq_eq_false_iff_ne]; omega
    by_cases h4 : 4 < ts.length
    · have e0 : Ip.mayT ts = false := by
        unfold Ip.mayT
        rw [decide_eq_false (show ¬ ts.length ≤ 4 by omega)]
        simp
      have i4 : (4 : Int) < (ts.length : Int) := by omega
      rw [e0]
      clear h hz
      go_enter Tryz.func44, Tryz.ntmps44
      go_wp2
      go_ret
      exact ⟨rfl, Below.refl _ _⟩
    · have i4 : ¬ (4 : Int) < (ts.length : Int) := by omega
      obtain ⟨R, hR⟩ : ∃ R, Ip.mayT ts = R := ⟨_, rfl⟩
      rw [hR]
      have HR : Hid (ts.all Pm.isP = true ∧ ts.Nodup ↔ R = true) := by
        show _ ↔ _
        rw [← hR]
        unfold Ip.mayT
        simp only [Bool.and_eq_true, decide_eq_true_eq]
        constructor
        · rintro ⟨h1, h2⟩; exact ⟨⟨⟨by omega, by omega⟩, h1⟩, h2⟩
        · rintro ⟨⟨-, h1⟩, h2⟩; exact ⟨h1, h2⟩
      have HZ : Hid _ := hz
      have tb : (ts.length : Int) ≤ 4 := by omega
      have HS : Hid (ts.length ≤ c) := hle
      clear hR hz hle
      go_enter Tryz.func44, Tryz.ntmps44
      go_wp2
      go_loopw [15] (fun i wr => ∃ k : Nat, k ≤ ts.length ∧ i = .int .i64 (k : Int) ∧ Hid ((ts.take k).all Pm.isP = true ∧ (ts.take k).Nodup) ∧ Below w.heap.size w wr) (fun i _ => ts.length - (intOf i).toNat)
      case atStart => exact ⟨0, Nat.zero_le _, rfl, ⟨rfl, List.nodup_nil⟩, Below.refl _ _⟩
      case round =>
        obtain ⟨k, hk, rfl, HK, hbw⟩ := hrel
        by_cases hlt : k < ts.length
        · have i1 : (k : Int) < (ts.length : Int) := by omega
          have hkb : (k : Int) ≤ 4 := by omega
          obtain ⟨gt, ot, c', e1, hgt, p1⟩ := TxR.at (h.below hbw hB) hlt
          simp only [Value.slice.injEq] at e1
          obtain ⟨e1, -, -⟩ := e1
          have hIs := fun W => Is_any (str ts[k]) W (by rw [str_size]; have := HZ.out _ (List.getElem_mem hlt); omega)
          rw [bs_str] at hIs
          have hCt := fun W hW => Contains_texts (ts.take k) (.slice ad k c) ts[k] W B ((h.below hW hB).head k hk) (by rw [List.length_take]; omega)
          have kc : k ≤ c := by have := HS.out; omega
          have hnd := nodup_take hlt
          have hal : (ts.take (k + 1)).all Pm.isP = ((ts.take k).all Pm.isP && Pm.isP ts[k]) := by rw [List.take_succ_eq_append_getElem hlt, List.all_append]; simp
          have hmemk : ts[k] ∈ ts := List.getElem_mem hlt
          have hsub : ∀ x ∈ ts.take k, x ∈ ts := fun x hx => List.mem_of_mem_take hx
          have hfal : Pm.isP ts[k] = false → R = false := fun hf => by
            cases hRR : R with
            | false => rfl
            | true =>
              rw [hRR] at HR
              have := List.all_eq_true.1 (HR.out.2 rfl).1 _ hmemk
              rw [hf] at this; cases this
          have hdup : ts[k] ∈ ts.take k → R = false := fun hm => by
            cases hRR : R with
            | false => rfl
            | true =>
              rw [hRR] at HR
              have h1 : (ts.take (k + 1)).Nodup := (List.take_sublist _ _).nodup (HR.out.2 rfl).2
              exact absurd hm (hnd.1 h1).2
          have HN : Hid (Pm.isP ts[k] = true → ts[k] ∉ ts.take k → (ts.take (k + 1)).all Pm.isP = true ∧ (ts.take (k + 1)).Nodup) := fun a b => ⟨by rw [hal, HK.out.1, a]; rfl, hnd.2 ⟨HK.out.2, b⟩⟩
          clear hnd hal hsub hmemk HZ HR HS h
          rw [e1] at *
          cases hp : Pm.isP ts[k] with
          | false =>
            rw [hp] at hIs
            have HF : Hid (R = false) := hfal hp
            clear hfal hdup HN hp hCt
            generalize str ts[k] = S at *
            go_wp2_with (first | (go_at_call 35; refine (hIs _).mono ?_; rintro e w2 ⟨rfl, hb2⟩) | fail)
            go_ret
            rw [HF.out]
            exact ⟨rfl, hbw.trans (hb2.mono hbw.size)⟩
          | true =>
            rw [hp] at hIs
            by_cases hm : ts[k] ∈ ts.take k
            · have HF : Hid (R = false) := hdup hm
              have hCt2 : ∀ W, Below w.heap.size w W → Calls Tryz.prog 63 #[.slice (some ⟨gt, ot, none⟩) k c, .string (str ts[k])] W fun e w' => e = .returned (.bool true) ∧ w' = W := fun W hW => by have := hCt W hW; rw [decide_eq_true hm] at this; exact this
              clear hfal hdup HN hp hCt hm
              generalize str ts[k] = S at *
              go_wp2_with (first | (go_at_call 35; refine (hIs _).mono ?_; rintro e w2 ⟨rfl, hb2⟩; have hbz := hbw.trans (hb2.mono hbw.size)) | (go_at_call 63; refine (hCt2 _ hbz).mono ?_; rintro e w3 ⟨rfl, hw⟩; rw [hw]; clear hw) | fail)
              go_ret
              rw [HF.out]
              exact ⟨rfl, hbz⟩
            · have HF : Hid _ := HN.out hp hm
              have hCt2 : ∀ W, Below w.heap.size w W → Calls Tryz.prog 63 #[.slice (some ⟨gt, ot, none⟩) k c, .string (str ts[k])] W fun e w' => e = .returned (.bool false) ∧ w' = W := fun W hW => by have := hCt W hW; rw [decide_eq_false hm] at this; exact this
              clear hfal hdup HN hp hCt hm
              generalize str ts[k] = S at *
              go_wp2_with (first | (go_at_call 35; refine (hIs _).mono ?_; rintro e w2 ⟨rfl, hb2⟩; have hbz := hbw.trans (hb2.mono hbw.size)) | (go_at_call 63; refine (hCt2 _ hbz).mono ?_; rintro e w3 ⟨rfl, hw⟩; rw [hw]; clear hw) | fail)
              exact ⟨⟨k + 1, by omega, by go_num, HF, hbz⟩, by simp [intOf]; omega⟩
        · obtain rfl : k = ts.length := by omega
          have i1 : ¬ (ts.length : Int) < (ts.length : Int) := by omega
          have HF : Hid (R = true) := by
            have := HK.out
            rw [List.take_length] at this
            exact HR.out.1 this
          clear HK HR HZ
          go_wp2
          go_ret
          rw [HF.out]
          exact ⟨rfl, hbw⟩
end Go.Proofs.YtnobmgkdieaclaaGreatDoor
