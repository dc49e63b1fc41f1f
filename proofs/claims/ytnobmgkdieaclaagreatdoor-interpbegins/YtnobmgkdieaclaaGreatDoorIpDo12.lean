/-
  WHAT do DOES AT A STATEMENT OF KIND 12.
-/
import Derived.Test.YtnobmgkdieaclaaGreatDoorIpMul
namespace Go.Proofs.YtnobmgkdieaclaaGreatDoor
open Go.RowKit

set_option maxRecDepth 100000 in
set_option maxHeartbeats 2000000 in
theorem do_12 (u v : List UInt8) (n : Nat) (body : Ac.Fo) (line : List UInt8) (aa : Option Addr) (an ac : Nat) (ba : Option Addr) (bn bc : Nat) (w : World) (O : List Nat) (x : RP) (s : Ip.St) (h : RunS w O x s) (hf : s.Fine) (hL : Laid w)
    (ha : TxR.SlP w (fun b => b < w.heap.size ∧ b ∉ O) (.slice aa an ac) [u, v]) (hb : FoP w (fun b => b < w.heap.size ∧ b ∉ O) (.slice ba bn bc) body) (hj : (Ip.joinW [u, v]).length ≤ 4000) (hal : [u, v].length ≤ 4000) (hl : line.length ≤ 256) (hn : n ≤ 1000) (hbl : body.len ≤ 1000000) :
    Calls Tryz.prog 93 #[.pointer (some ⟨x.p, 0, none⟩), .agg #[.int .i64 12, .slice aa an ac, .int .i64 (n : Int), .slice ba bn bc], .string (str line)] w fun e w' => e = .returned (.tuple #[]) ∧ Went w O x (s.act 12 [u, v] n body line) w' := by
  obtain rfl : an = 2 := by
    obtain ⟨_, _, e, -⟩ := ha
    simp only [Value.slice.injEq] at e
    exact e.2.1
  have hUse := And.intro hal (And.intro hn (And.intro hbl (And.intro hj (And.intro hl (And.intro hf hL)))))
  clear hUse
  have hB0 : Below w.heap.size w (w.alloc (.cells #[.int .i64 12, .slice aa 2 ac, .int .i64 (n : Int), .slice ba bn bc] 75)) := (Below.refl _ w).alloc (Nat.le_refl _) _
  have hR0 := Rw.new w #[.int .i64 12, .slice aa 2 ac, .int .i64 (n : Int), .slice ba bn bc] 75
  have s0 := hR0.cell 0
  have s1 := hR0.cell 1
  have s2 := hR0.cell 2
  have s3 := hR0.cell 3
  have h0 := h.below hB0
  obtain ⟨W0, hW0⟩ : ∃ W0, w.alloc (.cells #[.int .i64 12, .slice aa 2 ac, .int .i64 (n : Int), .slice ba bn bc] 75) = W0 := ⟨_, rfl⟩
  rw [hW0] at hB0 s0 s1 s2 s3 h0
  have hk0 : ∀ b, b < w.heap.size ∧ b ∉ O → W0.heap[b]? = w.heap[b]? := fun b hb => hB0.block b hb.1
  have hP0 : ∀ b, b < w.heap.size ∧ b ∉ O → b < W0.heap.size ∧ b ∉ O := fun b hb => ⟨Nat.lt_of_lt_of_le hb.1 hB0.size, hb.2⟩
  have ha0 := ha.keep hk0 hP0
  have hb0 := hb.keep hk0 hP0
  have hL0 := hL.below hB0 hL.size
  change _ = some (Value.int .i64 12) at s0
  change _ = some (Value.slice aa 2 ac) at s1
  change _ = some (Value.int .i64 (n : Int)) at s2
  change _ = some (Value.slice ba bn bc) at s3
  clear ha hb hL hk0 hP0 hR0
  obtain ⟨ga0, oa0, ca0, ea0, hga0, cw0⟩ := TxR.at (ha0.sl (B := W0.heap.size) (fun b hb => hb.1)) (k := 0) (by simp)
  simp only [Value.slice.injEq] at ea0
  obtain ⟨ga1, oa1, ca1, ea1, hga1, cw1⟩ := TxR.at (ha0.sl (B := W0.heap.size) (fun b hb => hb.1)) (k := 1) (by simp)
  simp only [Value.slice.injEq] at ea1
  obtain ⟨rfl, -, rfl⟩ := ea0
  simp only [Option.some.injEq, Addr.mk.injEq, and_true] at ea1
  obtain ⟨⟨rfl, rfl⟩, -, rfl⟩ := ea1
  change W0.cell? ⟨ga0, oa0 + 0, none⟩ = some (.string (str u)) at cw0
  change W0.cell? ⟨ga0, oa0 + 1, none⟩ = some (.string (str v)) at cw1
  rw [Nat.add_zero] at cw0
  have hul : u.length ≤ 4000 := Nat.le_trans (Ip.joinW_mem (ws := [u, v]) (by simp)) hj
  have hvl : v.length ≤ 4000 := Nat.le_trans (Ip.joinW_mem (ws := [u, v]) (by simp)) hj
  have hA := alike_any line u v W0.drew (by omega) (by omega) (by omega)
  have HE : Hid (s.act 12 [u, v] n body line = if Ip.told line u = Ip.told line v then s.push ⟨body, 0, line, []⟩ else s) := rfl
  generalize s.act 12 [u, v] n body line = R at *
  have e0 : W0.drew.cell? ⟨ga0, oa0, none⟩ = some (.string (str u)) := cw0
  have e1 : W0.drew.cell? ⟨ga0, oa0 + 1, none⟩ = some (.string (str v)) := cw1
  have d1 : W0.drew.cell? ⟨w.heap.size, 1, none⟩ = some (.slice (some ⟨ga0, oa0, none⟩) 2 ac) := s1
  have hkk : ∀ W, Below W0.drew.heap.size W0.drew W → W.cell? ⟨w.heap.size, 1, none⟩ = some (.slice (some ⟨ga0, oa0, none⟩) 2 ac) ∧ W.cell? ⟨ga0, oa0, none⟩ = some (.string (str u)) ∧ W.cell? ⟨ga0, oa0 + 1, none⟩ = some (.string (str v)) := fun W hb => ⟨(hb.cell (World.block_lt_of_cell? _ _ d1)).trans d1, (hb.cell (World.block_lt_of_cell? _ _ e0)).trans e0, (hb.cell (World.block_lt_of_cell? _ _ e1)).trans e1⟩
  have hS0 := hkk W0.drew (Below.refl _ _)
  have c1 : ¬ (2 : Int) ≤ 1 := by omega
  by_cases ht : Ip.told line u = Ip.told line v
  · rw [if_pos ht] at HE
    rw [decide_eq_true ht] at hA
    have hW2 : ∀ W, Below W0.drew.heap.size W0.drew W → RunS W O x s ∧ W.cell? ⟨w.heap.size, 3, none⟩ = some (.slice ba bn bc) ∧ FoP W (fun b => b < W.heap.size ∧ b ∉ O) (.slice ba bn bc) body ∧ Below W0.heap.size W0 W := by
      intro W hb
      have hb2 : Below W0.heap.size W0 W := ⟨hb.os, hb.tape, hb.output, hb.size, hb.block⟩
      exact ⟨h0.below hb2, (hb2.cell (World.block_lt_of_cell? _ _ s3)).trans s3, hb0.keep (fun b hb' => hb2.block b hb'.1) (fun b hb' => ⟨Nat.lt_of_lt_of_le hb'.1 hb2.size, hb'.2⟩), hb2⟩
    have hdeep := hf.deep
    have hpw : ∀ b ∈ x.own, b < w.heap.size := h.lt
    clear hj hal hn hbl hf h ha0 hb0 hL0 h0 ht hul hvl
    generalize hU : str u = U at *
    generalize hV : str v = V at *
    generalize hSL : str line = L at *
    have HSL : Hid _ := hSL
    clear hU hV hSL
    go_enter Tryz.func93, Tryz.ntmps93
    go_upto_region 30 with fail
    go_region_held3 (fun X : World => X.cell? ⟨w.heap.size, 1, none⟩ = some (.slice (some ⟨ga0, oa0, none⟩) 2 ac) ∧ X.cell? ⟨ga0, oa0, none⟩ = some (.string U) ∧ X.cell? ⟨ga0, oa0 + 1, none⟩ = some (.string V)) (first | with_reducible exact hS0 | assumption | fail) (first | (go_at_call 110; refine hA.mono ?_; rintro e w2 ⟨rfl, h2⟩; have hS2 := hkk w2 h2) | fail)
    go_upto_region 31 with fail
    obtain ⟨r2, q3, hc2, hb2⟩ := hW2 w2 h2
    have k3 := r2.c3
    obtain ⟨rs, o1, o2, o3⟩ := r2.opened
    have hLt := BoR.lit1 w2 ⟨ba, bn, bc, 0, line, none, 0, 0⟩ (.slice ba bn bc) (.slice none 0 0) L 0 rfl rfl HSL.out.symm rfl
    have hLd : BoR.Sl (w2.alloc (.cells #[.slice ba bn bc, .int .i64 0, .string L, .slice none 0 0] 86)).drew (w2.heap.size + 1) (.slice (some ⟨w2.heap.size, 0, none⟩) 1 1) [⟨ba, bn, bc, 0, line, none, 0, 0⟩] := hLt
    have hOd : BoR.Own (w2.alloc (.cells #[.slice ba bn bc, .int .i64 0, .string L, .slice none 0 0] 86)).drew 7 (.slice x.oa x.on x.oc) rs := o1.alloc _
    have HLn : Hid (rs.length + [(⟨ba, bn, bc, 0, line, none, 0, 0⟩ : RawB)].length ≤ 1099511627) := by show _ ≤ _; simp; omega
    have h7 : 7 ≤ (w2.alloc (.cells #[.slice ba bn bc, .int .i64 0, .string L, .slice none 0 0] 86)).drew.heap.size := by
      have := r2.low _ x.p_own
      have := r2.row.lt
      show 7 ≤ (w2.alloc _).heap.size
      rw [size_alloc]; omega
    have HB : Hid (BoIs w2 (fun b => b < w2.heap.size ∧ b ∉ O) ⟨body, 0, line, []⟩ ⟨ba, bn, bc, 0, line, none, 0, 0⟩) := ⟨rfl, rfl, hc2, none, 0, rfl, Nat.le_refl _, fun _ => rfl, fun hx => absurd rfl hx⟩
    have k3a : (w2.alloc (.cells #[.slice ba bn bc, .int .i64 0, .string L, .slice none 0 0] 86)).cell? ⟨x.p, 3, none⟩ = some (.slice x.oa x.on x.oc) := (r2.below ((Below.refl _ w2).alloc (Nat.le_refl _) _)).c3
    have HP : ∀ w4, (w2.alloc (.cells #[.slice ba bn bc, .int .i64 0, .string L, .slice none 0 0] 86)).drew.grownBy w4 (Value.slice x.oa x.on x.oc).ownBlock → w4.cell? ⟨x.p, 3, none⟩ = some (.slice x.oa x.on x.oc) ∧ w4.frozen? ⟨x.p, 3, none⟩ = false := by
      intro w4 hg
      have hg' : (w2.alloc (.cells #[.slice ba bn bc, .int .i64 0, .string L, .slice none 0 0] 86)).grownBy w4 x.ov.ownBlock := ⟨hg.os, hg.tape, hg.output, hg.size, hg.block⟩
      have hr4 := r2.row_push hg'
      exact ⟨hr4.cell 3, hr4.free 3⟩
    have HW : Hid (∀ g cap w4, BoR.Own w4 7 (.slice (some ⟨g, 0, none⟩) (rs.length + 1) cap) (rs ++ [⟨ba, bn, bc, 0, line, none, 0, 0⟩]) → (w2.alloc (.cells #[.slice ba bn bc, .int .i64 0, .string L, .slice none 0 0] 86)).drew.grownBy w4 (Value.slice x.oa x.on x.oc).ownBlock → ((Value.slice x.oa x.on x.oc).ownBlock = some g ∨ g = w2.heap.size + 1) → Went w2 O x (s.push ⟨body, 0, line, []⟩) (w4.setCell ⟨x.p, 3, none⟩ (.slice (some ⟨g, 0, none⟩) (rs.length + 1) cap))) := by
      show ∀ g cap w4, _
      intro g cap w4 hO5 hg hw5
      have hg' : (w2.alloc (.cells #[.slice ba bn bc, .int .i64 0, .string L, .slice none 0 0] 86)).grownBy w4 x.ov.ownBlock := ⟨hg.os, hg.tape, hg.output, hg.size, hg.block⟩
      exact r2.pushed o2 hO5 hg' (hw5.imp id (fun e => by rw [size_alloc]; exact e)) HB.out
    clear hA hS0 hS2 hkk hW2 o3 hdeep hLt e0 e1 d1 o1 o2 r2 HB hc2
    go_region_law
      (first | (refine Rc.step_app_at BoR ?_ (.tmp 160) (.tmp 165) ?_ 7 (w2.heap.size + 1) _ _ rs [⟨ba, bn, bc, 0, line, none, 0, 0⟩] ?_ hOd ?_ hLd (by simp) HLn h7 ?_; (next => rfl); (next => rfl); (next => rfl); (next => rfl); intro g cap w4 hO5 hg5 hw5; obtain ⟨y3, yf⟩ := HP w4 hg5) | fail)
    all_goals (go_wp2; go_end0; rw [HE.out]; exact ⟨rfl, ((HW.out g cap w4 hO5 hg5 (hw5.imp id (fun e => by rw [e]; show (w2.alloc _).heap.size = _; rw [size_alloc]))).ofBelow hb2).ofBelow hB0⟩)
  · rw [if_neg ht] at HE
    rw [decide_eq_false ht] at hA
    have H0 : Hid _ := h0
    clear hj hal hn hbl hf h ha0 hb0 hL0 h0 ht hul hvl
    generalize hU : str u = U at *
    generalize hV : str v = V at *
    generalize str line = L at *
    clear hU hV
    go_enter Tryz.func93, Tryz.ntmps93
    go_upto_region 30 with fail
    go_region_held3 (fun X : World => X.cell? ⟨w.heap.size, 1, none⟩ = some (.slice (some ⟨ga0, oa0, none⟩) 2 ac) ∧ X.cell? ⟨ga0, oa0, none⟩ = some (.string U) ∧ X.cell? ⟨ga0, oa0 + 1, none⟩ = some (.string V)) (first | with_reducible exact hS0 | assumption | fail) (first | (go_at_call 110; refine hA.mono ?_; rintro e w2 ⟨rfl, h2⟩; have hS2 := hkk w2 h2) | fail)
    go_wp2
    go_end0
    have hb2 : Below W0.heap.size W0 w2 := ⟨h2.os, h2.tape, h2.output, h2.size, h2.block⟩
    rw [HE.out]
    exact ⟨rfl, (Went.same (H0.out.below hb2) ((Turn.of_below hb2).mono (by simp))).ofBelow hB0⟩

end Go.Proofs.YtnobmgkdieaclaaGreatDoor
