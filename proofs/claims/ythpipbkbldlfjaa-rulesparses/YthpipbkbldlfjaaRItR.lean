/-
  WHAT THE DOCUMENT's Item DOES WITH A rule.
-/
import Derived.Test.YthpipbkbldlfjaaRItI
import Derived.Test.YthpipbkbldlfjaaRSame
namespace Go.Proofs.Ythpipbkbldlfjaa
open Go.RowKit

/-- what is known of a rule's words up to the k-th -/
structure RuRel (num : Int) (R : Lx.R (Int × Nat) Rl.It) (WS : List Lx.V) (T U : List Lx.V) (bh : Bool) (k : Nat) : Prop where
  few : T.length + U.length ≤ k
  no : bh = false → T.length + 1 = k ∧ U = [] ∧ R = Rl.ruleOf num T k (WS.drop k)
  yes : bh = true → R = match Rl.clean k (WS.drop k) with | some i => .bad (120, i) | none => .ok ⟨3, num, [], T, U ++ WS.drop k, []⟩
section
variable {num : Int} {R : Lx.R (Int × Nat) Rl.It} {WS T U : List Lx.V} {k : Nat}
theorem RuRel.bad1 (h : RuRel num R WS T U false k) (hk : k < WS.length) (hm : (WS.getD k Lx.noV).mark = true) (hx : k = 1 ∨ (WS.getD k Lx.noV).text ≠ [58]) : R = .bad (120, k) := by
  obtain ⟨h1, -, h3⟩ := h.no rfl
  rw [h3, List.drop_eq_getElem_cons hk, Rl.ruleOf, ← getD_mem Lx.noV hk, if_pos hm, if_pos]
  rcases hx with rfl | hx
  · exact .inl (List.eq_nil_of_length_eq_zero (by omega))
  · exact .inr hx
theorem RuRel.colon (h : RuRel num R WS T U false k) (hk : k < WS.length) (hm : (WS.getD k Lx.noV).mark = true) (hk1 : k ≠ 1) (hx : (WS.getD k Lx.noV).text = [58]) : RuRel num R WS T U true (k + 1) := by
  obtain ⟨h1, h2, h3⟩ := h.no rfl
  refine ⟨by have := h.few; omega, (fun h => by cases h), fun _ => ?_⟩
  rw [h3, List.drop_eq_getElem_cons hk, Rl.ruleOf, ← getD_mem Lx.noV hk, if_pos hm, if_neg, Rl.depsOf, h2]
  · rfl
  · rintro (h4 | h4)
    · rw [h4] at h1; simp at h1; omega
    · exact h4 hx
theorem RuRel.target (h : RuRel num R WS T U false k) (hk : k < WS.length) (hm : (WS.getD k Lx.noV).mark = false) : RuRel num R WS (T ++ [WS.getD k Lx.noV]) U false (k + 1) := by
  obtain ⟨h1, h2, h3⟩ := h.no rfl
  refine ⟨by have := h.few; simp only [List.length_append, List.length_cons, List.length_nil]; omega, fun _ => ⟨by simp only [List.length_append, List.length_cons, List.length_nil]; omega, h2, ?_⟩, (fun h => by cases h)⟩
  rw [h3, List.drop_eq_getElem_cons hk, Rl.ruleOf, ← getD_mem Lx.noV hk, if_neg (by rw [hm]; decide)]
theorem RuRel.bad2 (h : RuRel num R WS T U true k) (hk : k < WS.length) (hm : (WS.getD k Lx.noV).mark = true) : R = .bad (120, k) := by
  rw [h.yes rfl, Rl.clean_step hk, if_pos hm]
theorem RuRel.dep (h : RuRel num R WS T U true k) (hk : k < WS.length) (hm : (WS.getD k Lx.noV).mark = false) : RuRel num R WS T (U ++ [WS.getD k Lx.noV]) true (k + 1) := by
  refine ⟨by have := h.few; simp only [List.length_append, List.length_cons, List.length_nil]; omega, (fun h => by cases h), fun _ => ?_⟩
  rw [h.yes rfl, Rl.clean_step hk, if_neg (by rw [hm]; decide)]
  cases Rl.clean (k + 1) (WS.drop (k + 1)) with
  | some i => rfl
  | none =>
    simp only
    congr 2
    rw [List.drop_eq_getElem_cons hk, ← getD_mem Lx.noV hk]
    simp
theorem RuRel.end1 (h : RuRel num R WS T U false WS.length) : R = .bad (120, WS.length - 1) := by
  obtain ⟨h1, -, h3⟩ := h.no rfl
  rw [h3, List.drop_length, Rl.ruleOf]
theorem RuRel.end2 (h : RuRel num R WS T U true WS.length) : R = .ok ⟨3, num, [], T, U, []⟩ := by
  rw [h.yes rfl, List.drop_length, Rl.clean, List.append_nil]
end
/-- how a rule lies while it is read -/
structure RuLies (W0 X : World) (num : Int) (ta : Option Addr) (tn tc : Nat) (wa : Option Addr) (wn wc_ : Nat) (T U : List Lx.V) (bh : Bool) (M : Nat) : Prop where
  xb : XB X W0.heap.size ⟨3, num, [], ta, tn, tc, wa, wn, wc_, none, 0, 0⟩
  ts : WdR.Own X (W0.heap.size + 3) (.slice ta tn tc) T
  ws : WdR.Own X M (.slice wa wn wc_) U
  ap : ∀ g, (Value.slice ta tn tc).ownBlock = some g → bh = true → g < M
  nil : bh = false → wa = none ∧ wn = 0 ∧ wc_ = 0
  lo : W0.heap.size + 3 ≤ M
  hi : M ≤ X.heap.size
  below : Below W0.heap.size W0 X
section
variable {W0 X : World} {num : Int} {ta : Option Addr} {tn tc : Nat} {wa : Option Addr} {wn wc_ : Nat} {T U : List Lx.V} {bh : Bool} {M : Nat}
theorem RuLies.size (h : RuLies W0 X num ta tn tc wa wn wc_ T U bh M) : W0.heap.size + 3 ≤ X.heap.size := Nat.le_trans h.lo h.hi
theorem RuLies.turn (h : RuLies W0 X num ta tn tc wa wn wc_ T U false M) : RuLies W0 X num ta tn tc wa wn wc_ T U true X.heap.size := by
  obtain ⟨rfl, rfl, rfl⟩ := h.nil rfl
  have hU : U = [] := by
    rcases h.ws.2 with ⟨-, h0⟩ | ⟨g, cap, cur, e, -⟩
    · exact List.eq_nil_of_length_eq_zero h0
    · cases e
  subst hU
  exact ⟨h.xb, h.ts, Rc.Own.nil _ _, fun g hg _ => (h.ts.lt g hg).2, (fun h => by cases h), h.size, Nat.le_refl _, h.below⟩
/-- a word's cells, laid aside, and a draw -/
theorem RuLies.aside (h : RuLies W0 X num ta tn tc wa wn wc_ T U bh M) (o : Obj) : RuLies W0 (X.alloc o).drew num ta tn tc wa wn wc_ T U bh M := by
  have bb := below_box X o
  have hd := (Below.refl (X.alloc o).heap.size (X.alloc o)).drew
  have hz := h.size
  refine ⟨(h.xb.below bb (by omega)).below hd (by have := bb.size; omega), (h.ts.alloc o).below hd (Nat.le_refl _), (h.ws.alloc o).below hd (Nat.le_refl _), h.ap, h.nil, h.lo, Nat.le_trans h.hi bb.size, (h.below.alloc h.below.size o).drew⟩
theorem RuLies.pushT {w7 : World} {g2 cap : Nat} {x x' : Lx.V} (h : RuLies W0 X num ta tn tc wa wn wc_ T U false M) (hg : X.grownBy w7 (Value.slice ta tn tc).ownBlock) (hO : WdR.Own w7 (W0.heap.size + 3) (.slice (some ⟨g2, 0, none⟩) (T.length + [x'].length) cap) (T ++ [x'])) (he : x' = x) :
    XB w7 W0.heap.size ⟨3, num, [], ta, tn, tc, wa, wn, wc_, none, 0, 0⟩ ∧ RuLies W0 (w7.setCell ⟨W0.heap.size + 1 + 1, 3, none⟩ (.slice (some ⟨g2, 0, none⟩) (T.length + 1) cap)) num (some ⟨g2, 0, none⟩) (T.length + 1) cap wa wn wc_ (T ++ [x]) U false M := by
  have hx := h.xb.grown hg (fun k e => (h.ts.lt k e).1) h.size
  refine ⟨hx, ?_⟩
  obtain ⟨rfl, rfl, rfl⟩ := h.nil rfl
  have hU : U = [] := by
    rcases h.ws.2 with ⟨-, h0⟩ | ⟨g, cap, cur, e, -⟩
    · exact List.eq_nil_of_length_eq_zero h0
    · cases e
  subst hU
  have hb := (h.below.grown hg h.below.size (fun q e => by have := (h.ts.lt q e).1; omega)).setCell (p := ⟨W0.heap.size + 1 + 1, 3, none⟩) (by show _ ≤ W0.heap.size + 1 + 1; omega) (.slice (some ⟨g2, 0, none⟩) (T.length + 1) cap)
  have hs : w7.heap.size = (w7.setCell ⟨W0.heap.size + 1 + 1, 3, none⟩ (.slice (some ⟨g2, 0, none⟩) (T.length + 1) cap)).heap.size := by simp [World.setCell]
  exact ⟨hx.setAt 3 _ _ rfl, own_set4 (g := W0.heap.size + 1 + 1) hO he (by omega) 3 _, Rc.Own.nil _ _, (fun _ _ h => by cases h), h.nil, h.lo, by rw [← hs]; exact Nat.le_trans h.hi hg.size, hb⟩
theorem RuLies.pushW {w7 : World} {g2 cap : Nat} {x x' : Lx.V} (h : RuLies W0 X num ta tn tc wa wn wc_ T U true M) (hg : X.grownBy w7 (Value.slice wa wn wc_).ownBlock) (hO : WdR.Own w7 M (.slice (some ⟨g2, 0, none⟩) (U.length + [x'].length) cap) (U ++ [x'])) (he : x' = x) :
    XB w7 W0.heap.size ⟨3, num, [], ta, tn, tc, wa, wn, wc_, none, 0, 0⟩ ∧ RuLies W0 (w7.setCell ⟨W0.heap.size + 1 + 1, 4, none⟩ (.slice (some ⟨g2, 0, none⟩) (U.length + 1) cap)) num ta tn tc (some ⟨g2, 0, none⟩) (U.length + 1) cap T (U ++ [x]) true M := by
  have hlo := h.lo
  have hx := h.xb.grown hg (fun k e => by have := (h.ws.lt k e).1; omega) h.size
  refine ⟨hx, ?_⟩
  have hb := (h.below.grown hg h.below.size (fun q e => by have := (h.ws.lt q e).1; omega)).setCell (p := ⟨W0.heap.size + 1 + 1, 4, none⟩) (by show _ ≤ W0.heap.size + 1 + 1; omega) (.slice (some ⟨g2, 0, none⟩) (U.length + 1) cap)
  have hs : w7.heap.size = (w7.setCell ⟨W0.heap.size + 1 + 1, 4, none⟩ (.slice (some ⟨g2, 0, none⟩) (U.length + 1) cap)).heap.size := by simp [World.setCell]
  have hT := World.ownsRow.kept h.ts hg (by
    cases hv : (Value.slice ta tn tc).ownBlock with
    | none => exact .inl rfl
    | some g =>
      right
      intro e
      have h1 := h.ap g hv rfl
      have h2 := (h.ws.lt g e.symm).1
      omega)
  have hT2 : WdR.Own (w7.setCell ⟨W0.heap.size + 1 + 1, 4, none⟩ (.slice (some ⟨g2, 0, none⟩) (U.length + 1) cap)) (W0.heap.size + 3) (.slice ta tn tc) T :=
    Row.turn hT (S := [W0.heap.size + 1 + 1]) ((Turn.refl _ w7).set (p := ⟨W0.heap.size + 1 + 1, 4, none⟩) (by simp) _) fun q hq => by
      have := (World.ownsRow.lt hT q hq).1
      rw [List.mem_singleton]
      omega
  exact ⟨hx.setAt 4 _ _ rfl, hT2, own_set4 (g := W0.heap.size + 1 + 1) hO he (by omega) 4 _, h.ap, (fun h => by cases h), h.lo, by rw [← hs]; exact Nat.le_trans h.hi hg.size, hb⟩
end

set_option maxRecDepth 100000 in
set_option maxHeartbeats 20000000 in
theorem itRule (num : Int) (ind : Bool) (ad : Option Addr) (c : Nat) (n : Nat) (u : Lx.V) (r : List Lx.V) (w : World) (B : Nat) (hW : WdR.Sl w B (.slice ad n c) (u :: r)) (hBw : B ≤ w.heap.size) (hnl : r.length + 1 = n) (hl : r.length ≤ 131072) (hu : Rl.isW u Rl.sLet = false) (hi : Rl.isW u Rl.sIncl = false) (hr : Rl.isW u Rl.sRule = true) :
    Calls Try.prog 33 #[lnV num ind (.slice ad n c)] w fun e w' => ItEnd w.heap.size e w' (Rl.ruleOf num [] 1 r) ∧ Below w.heap.size w w' := by
  have hb0 := fun W => bareW_any u ⟨#[108, 101, 116]⟩ W
  have e_hb0 : bs ⟨#[108, 101, 116]⟩ = Rl.sLet := rfl
  rw [e_hb0, hu] at hb0
  clear e_hb0
  unfold wdV at hb0
  have hbi := fun W => bareW_any u ⟨#[105, 110, 99, 108, 117, 100, 101]⟩ W
  have e_hbi : bs ⟨#[105, 110, 99, 108, 117, 100, 101]⟩ = Rl.sIncl := rfl
  rw [e_hbi, hi] at hbi
  clear e_hbi
  unfold wdV at hbi
  have hbr := fun W => bareW_any u ⟨#[114, 117, 108, 101]⟩ W
  have e_hbr : bs ⟨#[114, 117, 108, 101]⟩ = Rl.sRule := rfl
  rw [e_hbr, hr] at hbr
  clear e_hbr
  unfold wdV at hbr
  have n1 : (0 : Int) < (n : Int) := by omega
  have hr0 : RuRel num (Rl.ruleOf num [] 1 r) (u :: r) [] [] false 1 := ⟨by simp, fun _ => ⟨rfl, rfl, rfl⟩, fun h => by cases h⟩
  generalize Rl.ruleOf num [] 1 r = R at *
  have HNL : Hid _ := hnl
  have nb : (n : Int) ≤ 131073 := by omega
  clear hu hi hr hnl hl
  have hY := xw_is w num ind (.slice ad n c)
  unfold lnV
  go_enter Try.func33, Try.ntmps33
  go_upto_region 3 with fail
  generalize ((w.alloc (.cells #[.int .i64 num, .bool ind, .slice ad n c] 48)).alloc (.cells #[.int .i64 0, .int .i64 0, .string ⟨#[]⟩, .slice none 0 0, .slice none 0 0, .slice none 0 0] 33)).alloc (.cells #[.int .i64 0, .int .i64 num, .string ⟨#[]⟩, .slice none 0 0, .slice none 0 0, .slice none 0 0] 33) = Y at hY ⊢
  have HYB : Hid _ := hY.below
  have HYS : Hid _ := hY.size
  have hWY := hW.below hY.below hBw
  have hBY : B ≤ Y.heap.size := Nat.le_trans hBw hY.below.size
  have hx0 := hY.xb
  clear hY
  obtain ⟨b, o, c', e, hb, r0, r1, r2, r3, r4⟩ := WdR.at hWY 0 (by simp)
  simp only [Value.slice.injEq] at e
  obtain ⟨rfl, -, rfl⟩ := e
  replace r0 : Y.cell? ⟨b, o, none⟩ = some (.string (str u.text)) := r0
  replace r1 : Y.cell? ⟨b, o + 1, none⟩ = some (.int .i64 u.line) := r1
  replace r2 : Y.cell? ⟨b, o + 2, none⟩ = some (.int .i64 u.col) := r2
  replace r3 : Y.cell? ⟨b, o + 3, none⟩ = some (.bool u.quoted) := r3
  replace r4 : Y.cell? ⟨b, o + 4, none⟩ = some (.bool u.mark) := r4
  have hbw : b < w.heap.size := Nat.lt_of_lt_of_le hb hBw
  have hbY : b < Y.heap.size := Nat.lt_of_lt_of_le hb hBY
  go_wp2_with fail
  refine (hb0 _).mono ?_
  rintro e w1 ⟨rfl, hB1⟩
  have hx1 := hx0.below hB1 (by have := HYS.out; omega)
  have hb1 : Below w.heap.size w w1 := HYB.out.trans (hB1.mono HYB.out.size)
  have hz1 : w.heap.size + 3 ≤ w1.heap.size := by have := HYS.out; have := hB1.size; omega
  replace r0 := (hB1.cell (p := ⟨b, o, none⟩) hbY).trans r0
  replace r1 := (hB1.cell (p := ⟨b, o + 1, none⟩) hbY).trans r1
  replace r2 := (hB1.cell (p := ⟨b, o + 2, none⟩) hbY).trans r2
  replace r3 := (hB1.cell (p := ⟨b, o + 3, none⟩) hbY).trans r3
  replace r4 := (hB1.cell (p := ⟨b, o + 4, none⟩) hbY).trans r4
  clear hx0 hB1 hb0
  go_wp2_with fail
  refine (hbi _).mono ?_
  rintro e w2 ⟨rfl, hB2⟩
  have hx2 := hx1.below hB2 (by have := hz1; omega)
  have hb2 : Below w.heap.size w w2 := hb1.trans (hB2.mono hb1.size)
  have hz2 : w.heap.size + 3 ≤ w2.heap.size := by have := hB2.size; omega
  replace r0 := (hB2.cell (p := ⟨b, o, none⟩) (Nat.lt_of_lt_of_le hbw (by first | exact HYB.out.size | exact hb1.size))).trans r0
  replace r1 := (hB2.cell (p := ⟨b, o + 1, none⟩) (Nat.lt_of_lt_of_le hbw (by first | exact HYB.out.size | exact hb1.size))).trans r1
  replace r2 := (hB2.cell (p := ⟨b, o + 2, none⟩) (Nat.lt_of_lt_of_le hbw (by first | exact HYB.out.size | exact hb1.size))).trans r2
  replace r3 := (hB2.cell (p := ⟨b, o + 3, none⟩) (Nat.lt_of_lt_of_le hbw (by first | exact HYB.out.size | exact hb1.size))).trans r3
  replace r4 := (hB2.cell (p := ⟨b, o + 4, none⟩) (Nat.lt_of_lt_of_le hbw (by first | exact HYB.out.size | exact hb1.size))).trans r4
  clear hx1 hB2 hbi hb1 hz1
  go_wp2_with fail
  refine (hbr _).mono ?_
  rintro e w3 ⟨rfl, hB3⟩
  have hx3 := hx2.below hB3 (by have := hz2; omega)
  have hb3 : Below w.heap.size w w3 := hb2.trans (hB3.mono hb2.size)
  have hz3 : w.heap.size + 3 ≤ w3.heap.size := by have := hB3.size; omega
  replace r0 := (hB3.cell (p := ⟨b, o, none⟩) (Nat.lt_of_lt_of_le hbw (by first | exact HYB.out.size | exact hb2.size))).trans r0
  replace r1 := (hB3.cell (p := ⟨b, o + 1, none⟩) (Nat.lt_of_lt_of_le hbw (by first | exact HYB.out.size | exact hb2.size))).trans r1
  replace r2 := (hB3.cell (p := ⟨b, o + 2, none⟩) (Nat.lt_of_lt_of_le hbw (by first | exact HYB.out.size | exact hb2.size))).trans r2
  replace r3 := (hB3.cell (p := ⟨b, o + 3, none⟩) (Nat.lt_of_lt_of_le hbw (by first | exact HYB.out.size | exact hb2.size))).trans r3
  replace r4 := (hB3.cell (p := ⟨b, o + 4, none⟩) (Nat.lt_of_lt_of_le hbw (by first | exact HYB.out.size | exact hb2.size))).trans r4
  clear hx2 hB3 hbr hb2 hz2
  obtain ⟨k0, k1, k2, k3, k4, k5, kf⟩ := hx3.cells
  have hxk := hx3.setAt 0 (.int .i64 3) ⟨3, num, [], none, 0, 0, none, 0, 0, none, 0, 0⟩ rfl
  have hbk := hb3.setCell (p := ⟨w.heap.size + 1 + 1, 0, none⟩) (by show _ ≤ w.heap.size + 1 + 1; omega) (.int .i64 3)
  go_upto_region 36 with fail
  generalize w3.setCell ⟨w.heap.size + 1 + 1, 0, none⟩ (.int .i64 3) = X at *
  have hzX : w.heap.size + 3 ≤ X.heap.size := hxk.size3
  clear k0 k1 k2 k3 k4 k5 kf hx3 hb3 hz3 r0 r1 r2 r3 r4 hWY
  have hWX := hW.below hbk hBw
  obtain ⟨WS, hWS⟩ : ∃ WS, u :: r = WS := ⟨_, rfl⟩
  have HWL : Hid (WS.length = n) := by show _ = _; rw [← hWS]; simp only [List.length_cons]; exact HNL.out
  rw [hWS] at hW hr0
  have hR0 : RuLies w X num none 0 0 none 0 0 [] [] false (w.heap.size + 3) := ⟨hxk, Rc.Own.nil _ _, Rc.Own.nil _ _, (fun _ h => by cases h), fun _ => ⟨rfl, rfl, rfl⟩, Nat.le_refl _, hzX, hbk⟩
  clear hWS hWX hxk hbk hzX
  go_wp2
  go_loopw [9, 10] (fun bv i X => ∃ (k : Nat) (ta : Option Addr) (tn tc : Nat) (wa : Option Addr) (wn wc_ : Nat) (T U : List Lx.V) (bh : Bool) (M : Nat), 1 ≤ k ∧ k ≤ n ∧ i = .int .i64 (k : Int) ∧ bv = .bool bh ∧ RuLies w X num ta tn tc wa wn wc_ T U bh M ∧ RuRel num R WS T U bh k) (fun _ i _ => n - (intOf i).toNat)
  case atStart => exact ⟨1, none, 0, 0, none, 0, 0, [], [], false, _, Nat.le_refl _, by have := HNL.out; omega, rfl, rfl, hR0, hr0⟩
  case round =>
    clear hR0 hr0
    obtain ⟨k, ta, tn, tc, wa, wn, wc_, T, U, bh, M, hk1, hkn, rfl, rfl, hX, hRu⟩ := hrel
    by_cases hlt : k < n
    rotate_left
    · obtain rfl : k = n := by omega
      have i1 : ¬ (k : Int) < (k : Int) := by omega
      cases bh with
      | false =>
        have HE : Hid (R = .bad (120, k - 1)) := by
          have := hRu
          rw [← HWL.out] at this
          rw [Hid, this.end1, HWL.out]
        obtain ⟨k', hk'⟩ : ∃ k', k = k' + 1 := ⟨k - 1, by omega⟩
        have n5 : (k : Int) - 1 = (k' : Int) := by omega
        have HK : Hid (k - 1 = k') := by rw [Hid]; omega
        clear hRu hk'
        have hxq := hX.xb
        have hbq := hX.below
        clear hX
        obtain ⟨k0, k1, k2, k3, k4, k5, kf⟩ := hxq.cells
        obtain ⟨m0, m1, m2, m3, m4, m5, mf⟩ := hxq.rcells
        have hfin := hxq.put
        go_wp2
        refine bodyPost_ret (results_css (ty := 33) rfl _ _ (w.heap.size + 1) _ (itCells ⟨3, num, [], ta, tn, tc, wa, wn, wc_, none, 0, 0⟩) _ _ _ _ rfl rfl rfl hfin Try.underlying33 rfl (by kernel_rfl)) rfl ?_
        rw [HE.out, HK.out]
        exact ⟨⟨_, rfl⟩, hbq.trans ((turn6 _ _ _ _ _ _ _ _).below' hbq.size (by intro x hx; rw [List.mem_singleton] at hx; omega))⟩
      | true =>
        have HE : Hid (R = .ok ⟨3, num, [], T, U, []⟩) := by
          have := hRu
          rw [← HWL.out] at this
          rw [Hid, this.end2]
        have hxq := hX.xb
        have hbq := hX.below
        have hTq := fun a0 a1 a2 a3 a4 a5 => Rc.Own.low (R := WdR) (B' := w.heap.size) (Row.turn hX.ts (S := [w.heap.size + 1]) (turn6 wr (w.heap.size + 1) a0 a1 a2 a3 a4 a5) fun q hq => by
          have := (World.ownsRow.lt hX.ts q hq).1
          rw [List.mem_singleton]
          omega) (by omega)
        have hlo := hX.lo
        have hWq := fun a0 a1 a2 a3 a4 a5 => Rc.Own.low (R := WdR) (B' := w.heap.size) (Row.turn hX.ws (S := [w.heap.size + 1]) (turn6 wr (w.heap.size + 1) a0 a1 a2 a3 a4 a5) fun q hq => by
          have := (World.ownsRow.lt hX.ws q hq).1
          rw [List.mem_singleton]
          omega) (by omega)
        clear hRu hX hlo
        obtain ⟨k0, k1, k2, k3, k4, k5, kf⟩ := hxq.cells
        obtain ⟨m0, m1, m2, m3, m4, m5, mf⟩ := hxq.rcells
        have hfin := hxq.put
        go_wp2
        refine bodyPost_ret (results_css (ty := 33) rfl _ _ (w.heap.size + 1) _ (itCells ⟨3, num, [], ta, tn, tc, wa, wn, wc_, none, 0, 0⟩) _ _ _ _ rfl rfl rfl hfin Try.underlying33 rfl (by kernel_rfl)) rfl ?_
        rw [HE.out]
        exact ⟨⟨_, rfl, rfl, rfl, rfl, hTq _ _ _ _ _ _, hWq _ _ _ _ _ _, rfl, rfl, rfl, rfl⟩, hbq.trans ((turn6 _ _ _ _ _ _ _ _).below' hbq.size (by intro x hx; rw [List.mem_singleton] at hx; omega))⟩
    have i1 : (k : Int) < (n : Int) := by omega
    have HLT : Hid (k + 1 ≤ n) := hlt
    have hkl : k < WS.length := by rw [HWL.out]; exact hlt
    obtain ⟨b', o', c', e, -, q0, q1, q2, q3, q4⟩ := WdR.at (hW.below hX.below hBw) k hkl
    simp only [Value.slice.injEq, Option.some.injEq, Addr.mk.injEq, and_true] at e
    obtain ⟨⟨rfl, rfl⟩, -, -⟩ := e
    have hfew := hRu.few
    cases hm : (WS.getD k Lx.noV).mark with
    | true =>
      rw [hm] at q4
      cases bh with
      | true =>
        have HE : Hid (R = .bad (120, k)) := hRu.bad2 hkl hm
        clear hRu hm
        generalize WS.getD k Lx.noV = x at *
        have hxq := hX.xb
        have hbq := hX.below
        clear hX
        obtain ⟨k0, k1, k2, k3, k4, k5, kf⟩ := hxq.cells
        obtain ⟨m0, m1, m2, m3, m4, m5, mf⟩ := hxq.rcells
        have hfin := hxq.put
        go_wp2
        refine bodyPost_ret (results_css (ty := 33) rfl _ _ (w.heap.size + 1) _ (itCells ⟨3, num, [], ta, tn, tc, wa, wn, wc_, none, 0, 0⟩) _ _ _ _ rfl rfl rfl hfin Try.underlying33 rfl (by kernel_rfl)) rfl ?_
        rw [HE.out]
        exact ⟨⟨_, rfl⟩, hbq.trans ((turn6 _ _ _ _ _ _ _ _).below' hbq.size (by intro x hx; rw [List.mem_singleton] at hx; omega))⟩
      | false =>
        by_cases hk : k = 1
        · have HE : Hid (R = .bad (120, k)) := hRu.bad1 hkl hm (.inl hk)
          have g1 : ((k : Int) == 1) = true := by rw [beq_iff_eq]; omega
          clear hRu hm hk
          generalize WS.getD k Lx.noV = x at *
          have hxq := hX.xb
          have hbq := hX.below
          clear hX
          obtain ⟨k0, k1, k2, k3, k4, k5, kf⟩ := hxq.cells
          obtain ⟨m0, m1, m2, m3, m4, m5, mf⟩ := hxq.rcells
          have hfin := hxq.put
          go_wp2
          refine bodyPost_ret (results_css (ty := 33) rfl _ _ (w.heap.size + 1) _ (itCells ⟨3, num, [], ta, tn, tc, wa, wn, wc_, none, 0, 0⟩) _ _ _ _ rfl rfl rfl hfin Try.underlying33 rfl (by kernel_rfl)) rfl ?_
          rw [HE.out]
          exact ⟨⟨_, rfl⟩, hbq.trans ((turn6 _ _ _ _ _ _ _ _).below' hbq.size (by intro x hx; rw [List.mem_singleton] at hx; omega))⟩
        · have g1 : ((k : Int) == 1) = false := by rw [beq_eq_false_iff_ne]; omega
          by_cases hx : (WS.getD k Lx.noV).text = [58]
          · have hc := hRu.colon hkl hm hk hx
            have hXc := hX.turn
            have HC : Hid _ := hc
            rw [hx] at q0
            have g2 : (str [58]).toList = [58] := str_list _
            have g3 : ((str [58]).toList != [58]) = false := by rw [g2]; rfl
            clear hRu hm hk hx hc hX
            generalize WS.getD k Lx.noV = x at *
            go_wp2
            exact ⟨⟨k + 1, ta, tn, tc, wa, wn, wc_, T, U, true, wr.heap.size, by omega, HLT.out, by go_num, rfl, hXc, HC.out⟩, by have := HLT.out; simp [intOf]; omega⟩
          · have HE : Hid (R = .bad (120, k)) := hRu.bad1 hkl hm (.inr hx)
            have g2 : ¬ (str (WS.getD k Lx.noV).text).toList = [58] := by rw [str_list]; exact hx
            have g3 : ((str (WS.getD k Lx.noV).text).toList != [58]) = true := by rw [bne_iff_ne]; exact g2
            have g4 : ((str (WS.getD k Lx.noV).text).toList == [58]) = false := by rw [beq_eq_false_iff_ne]; exact g2
            clear hRu hm hk hx g2
            generalize WS.getD k Lx.noV = x at *
            obtain ⟨tx, htx⟩ : ∃ tx, str x.text = tx := ⟨_, rfl⟩
            rw [htx] at q0 g3 g4
            clear htx
            have hxq := hX.xb
            have hbq := hX.below
            clear hX
            obtain ⟨k0, k1, k2, k3, k4, k5, kf⟩ := hxq.cells
            obtain ⟨m0, m1, m2, m3, m4, m5, mf⟩ := hxq.rcells
            have hfin := hxq.put
            go_wp2
            refine bodyPost_ret (results_css (ty := 33) rfl _ _ (w.heap.size + 1) _ (itCells ⟨3, num, [], ta, tn, tc, wa, wn, wc_, none, 0, 0⟩) _ _ _ _ rfl rfl rfl hfin Try.underlying33 rfl (by kernel_rfl)) rfl ?_
            rw [HE.out]
            exact ⟨⟨_, rfl⟩, hbq.trans ((turn6 _ _ _ _ _ _ _ _).below' hbq.size (by intro x hx; rw [List.mem_singleton] at hx; omega))⟩
    | false =>
      rw [hm] at q4
      cases bh with
      | false =>
        have HD : Hid _ := hRu.target hkl hm
        have HXE : Hid ((⟨(WS.getD k Lx.noV).text, (WS.getD k Lx.noV).line, (WS.getD k Lx.noV).col, (WS.getD k Lx.noV).quoted, false⟩ : Lx.V) = WS.getD k Lx.noV) := by show _ = _; rw [← hm]
        clear hRu hm
        generalize WS.getD k Lx.noV = x at *
        have hA := hX.aside (.cells #[.string (str x.text), .int .i64 x.line, .int .i64 x.col, .bool x.quoted, .bool false] 36)
        have HLn : Hid (T.length + [(⟨x.text, x.line, x.col, x.quoted, false⟩ : Lx.V)].length ≤ 1099511627) := by show _ ≤ _; simp only [List.length_cons, List.length_nil]; omega
        have hL7 := (WdR.lit wr ⟨x.text, x.line, x.col, x.quoted, false⟩ #[.string (str x.text), .int .i64 x.line, .int .i64 x.col, .bool x.quoted, .bool false] rfl).below ((Below.refl (wr.heap.size + 1) _).drew) (Nat.le_refl _)
        have hO7 := hA.ts
        have hz7 := hA.size
        obtain ⟨k0, k1, k2, k3, k4, k5, kf⟩ := hX.xb.cells
        have k3a := (hX.xb.below (below_box wr (.cells #[.string (str x.text), .int .i64 x.line, .int .i64 x.col, .bool x.quoted, .bool false] 36)) (by have := hX.size; omega)).cells.2.2.2.1
        have k3b := hA.xb.cells.2.2.2.1
        clear hX hfew
        go_wp2_with fail
        go_region_law (refine Rc.step_append WdR (by rfl) (.tmp 119) (.tmp 124) (by rfl) (w.heap.size + 3) (wr.heap.size + 1) _ _ T [⟨x.text, x.line, x.col, x.quoted, false⟩] (by rfl) hO7 (by rfl) hL7 (by simp) HLn hz7 ?_; intro g2 cap w7 hown7 hgrow7; obtain ⟨hx8, hR8⟩ := hA.pushT hgrow7 hown7 HXE.out; have k38 := hx8.cells.2.2.2.1; have kf8 := hx8.cells.2.2.2.2.2.2)
        all_goals clear hx8 k38 kf8 hown7 hgrow7
        all_goals go_wp2
        all_goals exact ⟨⟨k + 1, some ⟨g2, 0, none⟩, T.length + 1, cap, wa, wn, wc_, T ++ [x], U, false, M, by omega, HLT.out, by go_num, rfl, hR8, HD.out⟩, by have := HLT.out; simp [intOf]; omega⟩
      | true =>
        have HD : Hid _ := hRu.dep hkl hm
        have HXE : Hid ((⟨(WS.getD k Lx.noV).text, (WS.getD k Lx.noV).line, (WS.getD k Lx.noV).col, (WS.getD k Lx.noV).quoted, false⟩ : Lx.V) = WS.getD k Lx.noV) := by show _ = _; rw [← hm]
        clear hRu hm
        generalize WS.getD k Lx.noV = x at *
        have hA := hX.aside (.cells #[.string (str x.text), .int .i64 x.line, .int .i64 x.col, .bool x.quoted, .bool false] 36)
        have HLn : Hid (U.length + [(⟨x.text, x.line, x.col, x.quoted, false⟩ : Lx.V)].length ≤ 1099511627) := by show _ ≤ _; simp only [List.length_cons, List.length_nil]; omega
        have hL7 := (WdR.lit wr ⟨x.text, x.line, x.col, x.quoted, false⟩ #[.string (str x.text), .int .i64 x.line, .int .i64 x.col, .bool x.quoted, .bool false] rfl).below ((Below.refl (wr.heap.size + 1) _).drew) (Nat.le_refl _)
        have hO7 := hA.ws
        have hz7 := hA.hi
        obtain ⟨k0, k1, k2, k3, k4, k5, kf⟩ := hX.xb.cells
        have k4a := (hX.xb.below (below_box wr (.cells #[.string (str x.text), .int .i64 x.line, .int .i64 x.col, .bool x.quoted, .bool false] 36)) (by have := hX.size; omega)).cells.2.2.2.2.1
        have k4b := hA.xb.cells.2.2.2.2.1
        clear hX hfew
        go_wp2_with fail
        go_region_law (refine Rc.step_append WdR (by rfl) (.tmp 159) (.tmp 164) (by rfl) M (wr.heap.size + 1) _ _ U [⟨x.text, x.line, x.col, x.quoted, false⟩] (by rfl) hO7 (by rfl) hL7 (by simp) HLn hz7 ?_; intro g2 cap w7 hown7 hgrow7; obtain ⟨hx8, hR8⟩ := hA.pushW hgrow7 hown7 HXE.out; have k48 := hx8.cells.2.2.2.2.1; have kf8 := hx8.cells.2.2.2.2.2.2)
        all_goals clear hx8 k48 kf8 hown7 hgrow7
        all_goals go_wp2
        all_goals exact ⟨⟨k + 1, ta, tn, tc, some ⟨g2, 0, none⟩, U.length + 1, cap, T, U ++ [x], true, M, by omega, HLT.out, by go_num, rfl, hR8, HD.out⟩, by have := HLT.out; simp [intOf]; omega⟩

end Go.Proofs.Ythpipbkbldlfjaa
