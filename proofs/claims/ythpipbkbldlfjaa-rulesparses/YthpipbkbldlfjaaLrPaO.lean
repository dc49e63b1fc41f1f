/-
  RulesParses ANSWERS true: a text that says items.
-/
import Derived.Test.YthpipbkbldlfjaaLrPa
namespace Go.Proofs.Ythpipbkbldlfjaa
open Go.RowKit

theorem RdA.wipe {W W' : World} {base M : Nat} {v : Value} {ps : List (RawI × Rl.It)} {k : Nat} (h : RdA W base M v ps) (ht : Turn (blksTo ps k) W W') (hk : k < ps.length) : Wipe W' (blks ps[k]) ps[k].1.ta ps[k].1.tc ∧ Wipe W' (blks ps[k]) ps[k].1.wa ps[k].1.wc := by
  have hI := h.its ps[k] (List.getElem_mem hk)
  have hd : ps[k] ∈ ps.drop k := by rw [List.drop_eq_getElem_cons hk]; exact List.mem_cons_self ..
  have hap : ∀ {u : Value} {l : List Lx.V}, WdR.Own W M u l → (∀ g, u.ownBlock = some g → InBlk ps[k].1 g) → WdR.Own W' M u l := by
    intro u l ho hu
    refine Row.turn ho ht fun g hg hm => ?_
    obtain ⟨q, hq, hin, -⟩ := h.word hm
    have h2 := hu g hg
    have hr := (List.pairwise_append.1 (by rw [List.take_append_drop]; exact h.rise : (ps.take k ++ ps.drop k).Pairwise Rise)).2.2 q hq ps[k] hd
    have := hr g g hin h2
    omega
  exact ⟨Wipe.of (hap hI.targets fun g e => .inl e) fun g e => mem_blks.2 (.inl e), Wipe.of (hap hI.words fun g e => .inr e) fun g e => mem_blks.2 (.inr e)⟩

set_option maxRecDepth 100000 in
set_option maxHeartbeats 8000000 in
theorem pa_ok (s : ByteArray) (w : World) (hs : s.size ≤ 262144) (A : List Rl.It) (hA : Rl.answer (bs s) = .ok A) : Calls Try.prog 3 #[.string s] w fun e w' => e = .returned (.bool true) ∧ Below w.heap.size w w' := by
  have h0 := works12 parseC w
  have hp := fun W : World => Parse_own s W (by omega)
  have hr := fun W : World => RefParse_any s W (by omega)
  rw [hA] at hp hr
  have hsm := Rl.small (Rl.answer_bulk hA)
  have hAl := hsm.len
  have HWH : Hid (∀ (W : World) (va vb : Value) (k : Nat), ItsS W W.heap.size va (A.drop k) → ItsS W W.heap.size vb (A.drop k) → Calls Try.prog 15 #[va, vb] W fun e w' => e = .returned (.bool true) ∧ Below W.heap.size W w') := fun W va vb k ha hb => by
    have := WholeR_any va vb (A.drop k) (A.drop k) W W.heap.size ha hb (Nat.le_refl _) (by rw [List.length_drop]; omega) (fun x hx => hsm.few x (List.mem_of_mem_drop hx))
    rwa [decide_eq_true rfl] at this
  have i1 : ¬ (262144 : Int) < (s.size : Int) := by omega
  have hgd := fun (W : World) (a b : Operand) => guard_where W .neq a b
  have hgd2 := fun (W : World) (a b : Operand) => guard_where W .eql a b
  have heq := fun W : World => eql_where W 0 0 0 0 0 0
  rw [decide_eq_true ⟨rfl, rfl, rfl⟩] at heq
  have hne := fun W : World => neq_where W 0 0 0 0 0 0
  rw [decide_eq_true ⟨rfl, rfl, rfl⟩] at hne
  unfold whA at hne heq
  clear hA hs hsm
  go_enter Try.func3, Try.ntmps3
  go_wp2_with fail
  refine h0.mono ?_
  rintro e w1 ⟨rfl, hB1⟩
  clear h0
  go_wp2_with fail
  refine (hp w1).mono ?_
  rintro e w2 ⟨⟨ad2, c2, M2, rfl, hM2, ps, r1, r2, r3, r4⟩, hB2⟩
  simp only [whV]
  have hRd : RdA w2 (w1.heap.size + 1) M2 (.slice ad2 A.length c2) ps := ⟨r1, r3, r4⟩
  have HPA : Hid _ := r2
  have HBK : Hid (∀ k, ∀ x ∈ blksTo ps k, M2 ≤ x ∧ x < w2.heap.size) := fun k x hx => by
    obtain ⟨p, -, -, h1, h2, -⟩ := hRd.word hx
    exact ⟨h1, h2⟩
  have hC2 := hB1.trans (hB2.mono hB1.size)
  have hD2 := hC2.alloc hC2.size (.cells #[.int .i64 0, .string .empty, .int .i64 0, .int .i64 0] 26)
  have hW2 := WhP.new w2 0 0 0
  have hRd2 := hRd.below (below_box w2 (.cells #[.int .i64 0, .string .empty, .int .i64 0, .int .i64 0] 26))
  have hM2w : w.heap.size < M2 := Nat.lt_of_le_of_lt hB1.size hM2
  clear hB1 hB2 hC2 hRd r1 r2 r3 r4
  go_wp2_with fail
  have hz2 : w2.heap.size < (w2.alloc (.cells #[.int .i64 0, .string .empty, .int .i64 0, .int .i64 0] 26)).heap.size := hW2.lt
  generalize w2.alloc (.cells #[.int .i64 0, .string .empty, .int .i64 0, .int .i64 0] 26) = W2 at *
  generalize w2.heap.size = g2 at *
  refine (hr W2).mono ?_
  rintro e w3 ⟨⟨ad3, c3, M3, M1, out, rfl, hM3, hL3, hOA⟩, hB3⟩
  simp only [whV]
  have HOA : Hid _ := hOA
  have hC3 := hD2.trans (hB3.mono hD2.size)
  have hD3 := hC3.alloc hC3.size (.cells #[.int .i64 0, .string .empty, .int .i64 0, .int .i64 0] 26)
  have hW2' := (hW2.below hB3).below (below_box w3 (.cells #[.int .i64 0, .string .empty, .int .i64 0, .int .i64 0] 26))
  have hW3 := WhP.new w3 0 0 0
  have hRd3 := (hRd2.below hB3).below (below_box w3 (.cells #[.int .i64 0, .string .empty, .int .i64 0, .int .i64 0] 26))
  have hL3' := hL3.below (below_box w3 (.cells #[.int .i64 0, .string .empty, .int .i64 0, .int .i64 0] 26))
  have hz3 : W2.heap.size ≤ w3.heap.size := hB3.size
  clear hB3 hC3 hD2 hW2 hRd2 hL3 hOA hr
  go_wp2_with fail
  generalize w3.alloc (.cells #[.int .i64 0, .string .empty, .int .i64 0, .int .i64 0] 26) = W3 at *
  generalize w3.heap.size = g3 at *
  have ha3 : ItsS W3 W3.heap.size (.slice ad2 A.length c2) (A.drop 0) := ⟨ps, hRd3.row.sl, by rw [List.drop_zero]; exact HPA.out, fun p hp => (hRd3.its p hp).of⟩
  have hb3 : ItsS W3 W3.heap.size (.slice ad3 A.length c3) (A.drop 0) := by
    have := hL3'.s
    rwa [← HOA.out] at this
  refine (HWH.out W3 _ _ 0 ha3 hb3).mono ?_
  rintro e w4 ⟨rfl, hB4⟩
  have hD4 := hD3.trans (hB4.mono hD3.size)
  have hW24 := hW2'.below hB4
  have hW34 := hW3.below hB4
  have hRd4 := hRd3.below hB4
  have hL4 := hL3'.below hB4
  clear hB4 hD3 hW2' hW3 hRd3 hL3' ha3 hb3
  obtain ⟨x0, x1, x2, x3⟩ := hW24.cells
  obtain ⟨y0, y1, y2, y3⟩ := hW34.cells
  have HPL : Hid (ps.length = A.length) := by rw [Hid, HPA.out, List.length_map]
  have HOL : Hid (out.length = A.length) := by rw [Hid, HOA.out, List.length_map]
  go_wp2
  clear x0 x1 x2 x3 y0 y1 y2 y3 hne hgd hW24
  go_loopw [9] (fun v9 wr => ∃ k : Nat, k ≤ A.length ∧ v9 = .int .i64 (k : Int) ∧ Turn (blksTo ps k) w4 wr) (fun v9 _ => A.length - (intOf v9).toNat)
  case atStart => exact ⟨0, Nat.zero_le _, rfl, Turn.refl _ _⟩
  case round =>
  obtain ⟨k, hk, rfl, hT⟩ := hrel
  by_cases hlt : k < A.length
  rotate_left
  · obtain rfl : k = A.length := by omega
    have i2 : ¬ (A.length : Int) < (A.length : Int) := by omega
    have hSb := HBK.out A.length
    have hL5 := hL4.turnS hT (fun x hx => by have := (hSb x hx).2; omega) (by omega)
    have hW35 := hW34.turn hT (fun hx => by have := (hSb _ hx).2; omega)
    have hD5 := hD4.trans (hT.below' hD4.size fun x hx => by have := (hSb x hx).1; omega)
    clear hT hL4 hW34 hD4 hSb hRd4
    go_wp2_with fail
    refine (hp wr).mono ?_
    rintro e w5 ⟨hE, hB5⟩
    obtain ⟨ad5, c5, rfl, hI5⟩ := hE.end_
    simp only [whV]
    have hC5 := hD5.trans (hB5.mono hD5.size)
    have hD6 := hC5.alloc hC5.size (.cells #[.int .i64 0, .string .empty, .int .i64 0, .int .i64 0] 26)
    have hW36 := (hW35.below hB5).below (below_box w5 (.cells #[.int .i64 0, .string .empty, .int .i64 0, .int .i64 0] 26))
    have hW5 := WhP.new w5 0 0 0
    have hL6 := (hL5.below hB5).below (below_box w5 (.cells #[.int .i64 0, .string .empty, .int .i64 0, .int .i64 0] 26))
    have hI6 := (hI5.below (below_box w5 (.cells #[.int .i64 0, .string .empty, .int .i64 0, .int .i64 0] 26)) (Nat.le_refl _)).mono (below_box w5 (.cells #[.int .i64 0, .string .empty, .int .i64 0, .int .i64 0] 26)).size
    clear hB5 hC5 hD5 hW35 hL5 hI5 hE
    go_wp2_with fail
    generalize w5.alloc (.cells #[.int .i64 0, .string .empty, .int .i64 0, .int .i64 0] 26) = W5 at *
    generalize w5.heap.size = g5 at *
    have hb6 : ItsS W5 W5.heap.size (.slice ad3 A.length c3) (A.drop 0) := by
      have := hL6.s
      rwa [← HOA.out] at this
    refine (HWH.out W5 _ _ 0 hI6 hb6).mono ?_
    rintro e w6 ⟨rfl, hB6⟩
    have hD7 := hD6.trans (hB6.mono hD6.size)
    obtain ⟨x0, x1, x2, x3⟩ := (hW5.below hB6).cells
    obtain ⟨y0, y1, y2, y3⟩ := (hW36.below hB6).cells
    clear hB6 hD6 hW5 hW36 hL6 hI6 hb6
    go_wp2
    go_ret
    exact ⟨rfl, hD7⟩
  have i2 : (k : Int) < (A.length : Int) := by omega
  have i3 : (A.length : Int) ≤ 1099511627 := by omega
  have i4 : (0 : Int) ≤ (k : Int) := by omega
  have HLT : Hid (k + 1 ≤ A.length) := hlt
  have hkp : k < ps.length := by rw [HPL.out]; exact hlt
  obtain ⟨gA, cA, e, hgA, p3, p4⟩ := hRd4.cells hT hkp
  rw [HPL.out] at e
  simp only [Value.slice.injEq] at e
  obtain ⟨rfl, -, rfl⟩ := e
  obtain ⟨hwt, hww⟩ := hRd4.wipe hT hkp
  have HBM : Hid _ := blksTo_more hkp
  have HBK1 : Hid (∀ x ∈ blks ps[k], M2 ≤ x ∧ x < g2) := fun x hx => HBK.out (k + 1) x (by rw [HBM.out]; exact List.mem_append_right _ hx)
  obtain ⟨p, hpk⟩ : ∃ p, ps[k] = p := ⟨_, rfl⟩
  rw [hpk] at p3 p4 hwt hww HBM HBK1
  clear hpk
  obtain ⟨⟨kd, ln, nm, ta, tn, tc, wa, wn, wc_, ca, cn, cc⟩, x⟩ := p
  replace p3 : wr.cell? ⟨gA, k * 6 + 3, none⟩ = some (.slice ta tn tc) := p3
  replace p4 : wr.cell? ⟨gA, k * 6 + 4, none⟩ = some (.slice wa wn wc_) := p4
  simp only at hwt hww
  generalize blks (⟨kd, ln, nm, ta, tn, tc, wa, wn, wc_, ca, cn, cc⟩, x) = SB at *
  go_upto_region 13 with fail
  go_region_held3 (fun W : World => W.cell? ⟨gA, k * 6 + 3, none⟩ = some (.slice ta tn tc) ∧ W.cell? ⟨gA, k * 6 + 4, none⟩ = some (.slice wa wn wc_)) (go_keep) (fail)
  go_wp2
  have hBX : Below wr.heap.size wr (wr.alloc (.cells #[.slice ta tn tc, .slice wa wn wc_] 30)).drew := (below_box wr (.cells #[.slice ta tn tc, .slice wa wn wc_] 30)).drew
  have hXn : (wr.alloc (.cells #[.slice ta tn tc, .slice wa wn wc_] 30)).drew.heap[wr.heap.size]? = some (.cells #[.slice ta tn tc, .slice wa wn wc_] 30 (0, 0)) := heap_alloc_new wr _
  have hTX := hT.belowTrans hBX
  have hwtX := hwt.below hBX
  have hwwX := hww.below hBX
  have hgx : g2 < wr.heap.size := by have := hW34.lt; have := hT.size; omega
  clear hT hwt hww hBX p3 p4
  generalize (wr.alloc (.cells #[.slice ta tn tc, .slice wa wn wc_] 30)).drew = X at *
  generalize wr.heap.size = gx at *
  have hgxl : gx < X.heap.size := (Array.getElem?_eq_some_iff.1 hXn).1
  have hgxS : gx ∉ SB := fun hx => by have := (HBK1.out gx hx).2; omega
  have HCL : Hid (∀ X2, Turn SB X X2 → X2.heap[gx]? = some (.cells #[.slice ta tn tc, .slice wa wn wc_] 30 (0, 0))) := fun X2 h2 => (h2.block gx hgxl hgxS).trans hXn
  clear hXn
  go_loopw [70] (fun v70 X2 => ∃ j : Nat, j ≤ 2 ∧ v70 = .int .i64 (j : Int) ∧ Turn SB X X2 ∧ Wipe X2 SB ta tc ∧ Wipe X2 SB wa wc_) (fun v70 _ => 2 - (intOf v70).toNat)
  case atStart => exact ⟨0, Nat.zero_le _, rfl, Turn.refl _ _, hwtX, hwwX⟩
  case round =>
  clear hwtX hwwX
  obtain ⟨j, hj, rfl, hT2, hwt2, hww2⟩ := hrel
  by_cases hj2 : j < 2
  · have j1 : (j : Int) < 2 := by omega
    have j0 : (0 : Int) ≤ (j : Int) := by omega
    obtain ⟨ua, un, uc, hcell, hwu⟩ : ∃ ua un uc, wr.cell? ⟨gx, j, none⟩ = some (.slice ua un uc) ∧ Wipe wr SB ua uc := by
      have hg := HCL.out wr hT2
      rcases (by omega : j = 0 ∨ j = 1) with rfl | rfl
      · exact ⟨ta, tn, tc, by rw [cell_of_row wr gx 0 _ _ _ hg]; rfl, hwt2⟩
      · exact ⟨wa, wn, wc_, by rw [cell_of_row wr gx 1 _ _ _ hg]; rfl, hww2⟩
    have hsl : ∀ W : World, (Instr.slice 30 (.slice ua un uc) none (some (.int .i64 (uc : Int))) none).run Try.prog W = .ok (.slice ua uc uc) W := fun W => Rc.slice_head WdR W ua un uc uc (Nat.le_refl _)
    have hcb := hwu.cap
    have u1 : (uc : Int) ≤ 9223372036854775807 := by omega
    have HJ2 : Hid (j + 1 ≤ 2) := hj2
    go_wp2
    go_loopw [12] (fun v12 X3 => ∃ m : Nat, m ≤ uc ∧ v12 = .int .i64 (m : Int) ∧ Turn SB X X3 ∧ Wipe X3 SB ta tc ∧ Wipe X3 SB wa wc_ ∧ Wipe X3 SB ua uc) (fun v12 _ => uc - (intOf v12).toNat)
    case atStart => exact ⟨0, Nat.zero_le _, rfl, hT2, hwt2, hww2, hwu⟩
    case round =>
    clear hT2 hwt2 hww2 hwu hcell
    obtain ⟨m, hm, rfl, hT3, hwt3, hww3, hwu3⟩ := hrel
    by_cases hmu : m < uc
    · have m1 : (m : Int) < (uc : Int) := by omega
      have HMU : Hid (m + 1 ≤ uc) := hmu
      obtain ⟨g, rfl, hgS, hfr, hcl⟩ := hwu3.at hmu
      obtain ⟨v0, q0⟩ := hcl 0 (by decide)
      obtain ⟨v1, q1⟩ := hcl 1 (by decide)
      obtain ⟨v2, q2⟩ := hcl 2 (by decide)
      obtain ⟨v3, q3⟩ := hcl 3 (by decide)
      obtain ⟨v4, q4⟩ := hcl 4 (by decide)
      rw [Nat.add_zero] at q0
      have HF : Hid (∀ a0 a1 a2 a3 a4 : Value, Turn SB X (((((wr.setCell ⟨g, m * 5, none⟩ a0).setCell ⟨g, m * 5 + 1, none⟩ a1).setCell ⟨g, m * 5 + 2, none⟩ a2).setCell ⟨g, m * 5 + 3, none⟩ a3).setCell ⟨g, m * 5 + 4, none⟩ a4) ∧ ∀ (ua : Option Addr) (uc : Nat), Wipe wr SB ua uc → Wipe (((((wr.setCell ⟨g, m * 5, none⟩ a0).setCell ⟨g, m * 5 + 1, none⟩ a1).setCell ⟨g, m * 5 + 2, none⟩ a2).setCell ⟨g, m * 5 + 3, none⟩ a3).setCell ⟨g, m * 5 + 4, none⟩ a4) SB ua uc) := fun a0 a1 a2 a3 a4 =>
        ⟨((((hT3.set (p := ⟨g, m * 5, none⟩) (fun _ => hgS) _).set (p := ⟨g, m * 5 + 1, none⟩) (fun _ => hgS) _).set (p := ⟨g, m * 5 + 2, none⟩) (fun _ => hgS) _).set (p := ⟨g, m * 5 + 3, none⟩) (fun _ => hgS) _).set (p := ⟨g, m * 5 + 4, none⟩) (fun _ => hgS) _, fun ua uc h => ((((h.set g _ _).set g _ _).set g _ _).set g _ _).set g _ _⟩
      clear hcl hgS hT3
      go_wp2
      exact ⟨⟨m + 1, HMU.out, by go_num, (HF.out _ _ _ _ _).1, (HF.out _ _ _ _ _).2 _ _ hwt3, (HF.out _ _ _ _ _).2 _ _ hww3, (HF.out _ _ _ _ _).2 _ _ hwu3⟩, by have := HMU.out; simp [intOf]; omega⟩
    · obtain rfl : m = uc := by omega
      have m1 : ¬ (m : Int) < (m : Int) := by omega
      clear hwu3 hsl
      go_wp2
      exact ⟨⟨j + 1, HJ2.out, by go_num, hT3, hwt3, hww3⟩, by have := HJ2.out; simp [intOf]; omega⟩
  have j1 : ¬ (j : Int) < 2 := by omega
  have hTk : Turn (blksTo ps (k + 1)) w4 wr := by
    rw [HBM.out]
    exact (hTX.mono fun x hx _ => List.mem_append_left _ hx).trans hT2 (fun x hx _ => List.mem_append_right _ hx)
  have hSb := HBK.out (k + 1)
  obtain ⟨a6, hsa, hIa⟩ := hRd4.tail hTk (by rw [HPL.out]; exact HLT.out)
  obtain ⟨a7, hsb, hIb⟩ := (hL4.turnS hTk (fun x hx => by have := (hSb x hx).2; omega) (by omega)).tail (k + 1) (by rw [HOL.out]; exact HLT.out)
  rw [← HPA.out] at hIa
  rw [← HOA.out] at hIb
  rw [show ((k + 1 : Nat) : Int) = (k : Int) + 1 by omega] at hsa hsb
  have HIA : Hid _ := hIa
  have HIB : Hid _ := hIb
  have HTK : Hid (∀ W, Below wr.heap.size wr W → Turn (blksTo ps (k + 1)) w4 W) := fun W hW => hTk.belowTrans hW
  have hw1 : IntKind.i64.wrap ((k : Int) + 1) = (k : Int) + 1 := by rw [IntKind.wrap_i64]; omega
  have HCALL : Hid (Calls Try.prog 15 #[.slice a6 (A.length - (k + 1)) (c2 - (k + 1)), .slice a7 (A.length - (k + 1)) (c3 - (k + 1))] wr.drew fun e w' => e = .returned (.bool true) ∧ Below wr.heap.size wr w') := by
    have hd : Below wr.heap.size wr wr.drew := (Below.refl _ _).drew
    refine (HWH.out wr.drew _ _ (k + 1) (hIa.below hd (Nat.le_refl _)) (hIb.below hd (Nat.le_refl _))).mono ?_
    rintro e w9 ⟨rfl, hB9⟩
    exact ⟨rfl, hd.trans (hB9.mono (Nat.le_refl _))⟩
  clear hTk hSb hIa hIb hT2 hwt2 hww2 hTX hRd4 hL4 hW34 hD4
  go_upto_region 22 with fail
  go_region_held3 (fun _ : World => True) (trivial) (first | (go_at_call 15; refine HCALL.out.mono ?_; rintro e w9 ⟨rfl, hB9⟩))
  go_wp2
  exact ⟨⟨k + 1, HLT.out, by go_num, HTK.out _ hB9⟩, by have := HLT.out; simp [intOf]; omega⟩

end Go.Proofs.Ythpipbkbldlfjaa
