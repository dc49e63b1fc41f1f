/-
  WHAT THE DOCUMENT's Until DOES.
-/
import Derived.Test.YtfgdlnidfkjbdaaDoorAUntilP
namespace Go.Proofs.YtfgdlnidfkjbdaaDoor
open Go.RowKit

set_option maxRecDepth 100000 in
set_option maxHeartbeats 4000000 in
theorem UntilT_any (hC : StmtC) (ls : List (List (List UInt8))) (hF : Fit ls) (hA : ∀ l ∈ ls, l ≠ [Ac.sEnd] → ∃ y, Ac.stmtOf l = some y) : ∀ (f : Nat) (v : Value) (B : Nat) (w : World) (k0 : Nat), LiS w B v ls → B ≤ w.heap.size → k0 ≤ ls.length → ls.length - k0 < f → f ≤ ls.length + 1 →
    Calls Tryd.prog 27 #[v, .int .i64 (k0 : Int)] w fun e w' => (∃ va vn vc k', e = .returned (.tuple #[.slice va vn vc, .int .i64 ((k' : Nat) : Int)]) ∧ FoNew w' w.heap.size (.slice va vn vc) (Ac.unt f (ls.drop k0)).1 ∧ Hid ((Ac.unt f (ls.drop k0)).2 = ls.drop k' ∧ k0 < k' ∧ k' ≤ ls.length + f + 1)) ∧ Below w.heap.size w w' := by
  intro f
  induction f using Nat.strongRecOn with
  | ind f ih =>
  intro v B w k0 hv hB hk0 hf1 hf2
  obtain ⟨ad, c, rfl, hle⟩ := hv.shape
  obtain ⟨X, hX⟩ : ∃ X, Ac.unt f (ls.drop k0) = X := ⟨_, rfl⟩
  rw [hX]
  have HX0 : Hid (X = (Ac.Fo.nil.app (Ac.unt f (ls.drop k0)).1, (Ac.unt f (ls.drop k0)).2)) := by show _ = _; rw [← hX]; rfl
  have HF : Hid (Fit ls) := hF
  have HA : Hid (∀ l ∈ ls, l ≠ [Ac.sEnd] → ∃ y, Ac.stmtOf l = some y) := hA
  have HI : Hid _ := ih
  have lb : (ls.length : Int) ≤ 1099511 := by have := hF.1; omega
  have fb : (f : Int) ≤ (ls.length : Int) + 1 := by omega
  clear hX hF hA ih hle
  go_enter Tryd.func27, Tryd.ntmps27
  go_wp2
  go_loopw [1, 6] (fun t o W => ∃ (k g : Nat) (F : Ac.Fo) (va : Option Addr) (vn vc : Nat), t = .int .i64 (k : Int) ∧ o = .slice va vn vc ∧ k0 ≤ k ∧ k ≤ ls.length + f ∧ ls.length - k < g ∧ g ≤ f ∧ F.len ≤ k ∧ FoNew W w.heap.size (.slice va vn vc) F ∧ Hid (X = (F.app (Ac.unt g (ls.drop k)).1, (Ac.unt g (ls.drop k)).2)) ∧ Below w.heap.size w W) (fun t _ _ => ls.length - (intOf t).toNat)
  case atStart => exact ⟨k0, f, .nil, none, 0, 0, rfl, rfl, Nat.le_refl _, by omega, hf1, Nat.le_refl _, Nat.zero_le _, FoNew.nil _ _, HX0, Below.refl _ _⟩
  case round =>
    clear HX0
    obtain ⟨k, g, F, va, vn, vc, rfl, rfl, hk1, hk2, hg1, hg2, hFl, hN, HX, hbr⟩ := hrel
    obtain ⟨g, rfl⟩ : ∃ g', g = g' + 1 := ⟨g - 1, by omega⟩
    have kb : (k : Int) ≤ 2199024 := by omega
    by_cases hlt : k < ls.length
    · have i1 : (k : Int) < (ls.length : Int) := by omega
      have HX2 := HX.out
      rw [List.drop_eq_getElem_cons hlt, Ac.unt] at HX2
      obtain ⟨gq, oq, c1, aa, ac, e, hgq, p0, hQ⟩ := (hv.below hbr hB).at hlt
      simp only [Value.slice.injEq] at e
      obtain ⟨rfl, -, rfl⟩ := e
      have hl1 := HF.out.2.1 ls[k] (List.getElem_mem hlt)
      have hl2 := HF.out.2.2 ls[k] (List.getElem_mem hlt)
      have hl3 := HA.out ls[k] (List.getElem_mem hlt)
      obtain ⟨l, hl⟩ : ∃ l, ls[k] = l := ⟨_, rfl⟩
      rw [hl] at p0 hQ hl1 hl2 hl3 HX2
      clear hl HX
      have llb : (l.length : Int) ≤ 1099511 := by omega
      by_cases hend : l = [Ac.sEnd]
      · rw [if_pos hend] at HX2
        subst hend
        obtain ⟨g2, o2, c2, e, -, s0⟩ := TxR.at hQ (k := 0) (by simp)
        simp only [Value.slice.injEq] at e
        obtain ⟨rfl, -, rfl⟩ := e
        have s1 : wr.cell? ⟨g2, o2, none⟩ = some (.string ⟨#[101, 110, 100]⟩) := s0
        have HE : Hid (X = (F, ls.drop (k + 1))) := by show _ = _; rw [HX2, Ac.app_none]
        clear s0 hQ HX2 hl1 hl2 hl3
        go_wp2
        go_ret2
        rw [HE.out]
        exact ⟨⟨va, vn, vc, k + 1, rfl, hN, rfl, by omega, by omega⟩, hbr⟩
      · rw [if_neg hend] at HX2
        obtain ⟨⟨op, al, n⟩, hst⟩ := hl3 hend
        have hSt := hC (.slice aa l.length ac) l B wr hQ (by have := hbr.size; omega) hl1 hl2
        rw [hst] at HX2 hSt
        simp only [] at HX2
        go_upto_region 2 with fail
        go_cut [30] from 9 to 54 (fun t X => t = .bool true ∧ X = wr)
        case first =>
          by_cases h1 : l.length = 1
          · have n1 : ((l.length : Int) == 1) = true := by rw [beq_iff_eq]; omega
            obtain ⟨g2, o2, c2, e, -, s0⟩ := TxR.at hQ (k := 0) (by omega)
            simp only [Value.slice.injEq] at e
            obtain ⟨rfl, -, rfl⟩ := e
            obtain ⟨u, hu⟩ : ∃ u, str l[0] = u := ⟨_, rfl⟩
            rw [hu] at s0
            have s1 : wr.cell? ⟨g2, o2, none⟩ = some (.string u) := s0
            have n2 := not_end h1 hend u hu
            have n3 : (u.toList == [101, 110, 100]) = false := by rw [beq_eq_false_iff_ne]; exact n2
            have n4 : (0 : Int) < (l.length : Int) := by omega
            clear s0 hQ hSt HX2 n2 hu hst
            go_wp2
            go_meet
            case rel => exact ⟨rfl, rfl⟩
          · have n1 : ((l.length : Int) == 1) = false := by rw [beq_eq_false_iff_ne]; omega
            clear hQ hSt HX2 hst
            go_wp2
            go_meet
            case rel => exact ⟨rfl, rfl⟩
        case rest =>
          obtain ⟨rfl, rfl⟩ := hcut
          clear hend hQ hl1 hl2 hl3 hst
          go_upto_region 4 with (first | (go_at_call 42; refine hSt.mono ?_; rintro e w1 ⟨⟨u, rfl, ⟨aa', an', ac', rfl, hOa⟩⟩, hb1⟩) | fail)
          have hx := hb1.alloc hb1.size (.cells #[.int .i64 op, .slice aa' an' ac', .int .i64 n, .slice none 0 0] 34)
          have rx := Rw.new w1 #[.int .i64 op, .slice aa' an' ac', .int .i64 n, .slice none 0 0] 34
          have hOz := hOa.alloc (.cells #[.int .i64 op, .slice aa' an' ac', .int .i64 n, .slice none 0 0] 34)
          have hbz := hbr.trans (hx.mono hbr.size)
          have hlt1 : ∀ gg, (Value.slice aa' an' ac').ownBlock = some gg → gg < w1.heap.size := fun gg h => (hOa.lt gg h).2
          generalize w1.alloc (.cells #[.int .i64 op, .slice aa' an' ac', .int .i64 n, .slice none 0 0] 34) = Z at hx rx hOz hbz ⊢
          have x0 : Z.cell? ⟨w1.heap.size, 0, none⟩ = some (.int .i64 op) := rx.cell 0
          have hOp := OpensT_any op Z
          obtain ⟨rs, hO, hE⟩ := hN
          have hrl := hE.len
          have hnl : (F.app (.cons op al n .nil .nil)).len = F.len + 1 := by rw [Ac.Fo.len_app]; rfl
          have rx1 : (Value.slice va vn vc).ownBlock ≠ some w1.heap.size := fun h => by have := (hO.lt _ h).2; have := hb1.size; omega
          cases hop : Ac.opens op with
          | true =>
            rw [hop] at hOp
            rw [if_pos hop] at HX2
            have hU := HI.out g (by omega) (.slice (some ⟨gq, oq, none⟩) ls.length c) B Z (k + 1) (hv.below hbz hB) (by have := hbz.size; omega) (by omega) (by omega) (by omega)
            obtain ⟨UU, hUU⟩ : ∃ UU, Ac.unt g (ls.drop (k + 1)) = UU := ⟨_, rfl⟩
            rw [hUU] at hU HX2
            have HUX : Hid (X = ((F.app (.cons op al n UU.1 .nil)).app (Ac.unt g UU.2).1, (Ac.unt g UU.2).2)) := by show _ = _; rw [HX2, Ac.app_one]
            clear HX2 hop hUU HI
            go_upto_region 7 with (first
              | (go_at_call 43; refine hOp.mono ?_; rintro e w2 ⟨rfl, hw2⟩; rw [hw2]; clear hw2)
              | (go_at_call 27; (have hU2 : Calls Tryd.prog 27 #[.slice (some ⟨gq, oq, none⟩) ls.length c, .int .i64 ((k : Int) + 1)] Z _ := hU); refine hU2.mono ?_; rintro e w3 ⟨⟨ba, bn, bc, k2, rfl, hNb, HU⟩, hb3⟩; have rx3 := rx.below hb3 rx.lt; have y3 : w3.cell? ⟨w1.heap.size, 3, none⟩ = some (.slice none 0 0) := rx3.cell 3; have fy3 := rx3.free 3)
              | fail)
            have hTu := Turn.put1 w3 w1.heap.size 3 (.slice ba bn bc)
            have rxU : Rw (w3.setCell ⟨w1.heap.size, 3, none⟩ (.slice ba bn bc)) w1.heap.size #[.int .i64 op, .slice aa' an' ac', .int .i64 n, .slice ba bn bc] 34 := rx3.set 3 _ (by simp)
            have hZ1 : w1.heap.size < Z.heap.size := rx.lt
            have hz1 := hb1.size
            have hzw := hbr.size
            have hx3 := hx.trans (hb3.mono hx.size)
            have hbrU := hx3.trans (hTu.below' hx3.size (by simpa using hz1))
            have hbU := hbr.trans (hbrU.mono hbr.size)
            have hOU := hO.below hbrU (Nat.le_refl _)
            have hEU := hE.turn (own' := (Value.slice va vn vc).ownBlock) (Turn.of_below hbrU) (by simp) (fun _ _ h => h)
            have hAU := Row.turn (Rc.Own.low (hOz.below hb3 (Nat.le_refl _)) hbr.size) hTu (fun gg hg hx' => by have := hlt1 gg hg; simp at hx'; omega)
            have hBU := (hNb.turn hTu (by simpa using hZ1)).foP (P := fun q => w.heap.size ≤ q ∧ q < (w3.setCell ⟨w1.heap.size, 3, none⟩ (.slice ba bn bc)).heap.size ∧ (Value.slice va vn vc).ownBlock ≠ some q) (fun q h1 h2 => ⟨by omega, h2, fun h => by have := (hO.lt _ h).2; omega⟩)
            have HXn : Hid (X = ((F.app (.cons op al n UU.1 .nil)).app (Ac.unt g (ls.drop k2)).1, (Ac.unt g (ls.drop k2)).2)) := by show _ = _; rw [HUX.out, HU.out.1]
            have hk2a := HU.out.2.1
            have hk2b := HU.out.2.2
            have hnl2 : (F.app (.cons op al n UU.1 .nil)).len = F.len + 1 := by rw [Ac.Fo.len_app]; rfl
            clear hnl HUX HU y3 fy3 x0
            generalize w3.setCell ⟨w1.heap.size, 3, none⟩ (.slice ba bn bc) = U at hTu rxU hbrU hbU hOU hEU hAU hBU ⊢
            have x0 : U.cell? ⟨w1.heap.size, 0, none⟩ = some (.int .i64 op) := rxU.cell 0
            have x1 : U.cell? ⟨w1.heap.size, 1, none⟩ = some (.slice aa' an' ac') := rxU.cell 1
            have x2 : U.cell? ⟨w1.heap.size, 2, none⟩ = some (.int .i64 n) := rxU.cell 2
            have x3 : U.cell? ⟨w1.heap.size, 3, none⟩ = some (.slice ba bn bc) := rxU.cell 3
            have hXa := (Below.refl U.heap.size U).alloc (Nat.le_refl _) (.cells #[.int .i64 op, .slice aa' an' ac', .int .i64 n, .slice ba bn bc] 34)
            have hOX := hOU.below hXa (Nat.le_refl _)
            have HLn : Hid (rs.length + [(⟨op, aa', an', ac', n, ba, bn, bc⟩ : RawS)].length ≤ 1099511627) := by show _ ≤ _; simp only [List.length_cons, List.length_nil]; omega
            have hzX : w.heap.size ≤ (U.alloc (.cells #[.int .i64 op, .slice aa' an' ac', .int .i64 n, .slice ba bn bc] 34)).heap.size := Nat.le_trans hbU.size hXa.size
            have hLitS : SmR.Sl (U.alloc (.cells #[.int .i64 op, .slice aa' an' ac', .int .i64 n, .slice ba bn bc] 34)) (U.heap.size + 1) (.slice (some ⟨U.heap.size, 0, none⟩) 1 1) [⟨op, aa', an', ac', n, ba, bn, bc⟩] := Rc.lit (R := SmR) U ⟨op, aa', an', ac', n, ba, bn, bc⟩ #[.int .i64 op, .slice aa' an' ac', .int .i64 n, .slice ba bn bc] rfl
            go_wp2_with (first
              | (at_builtin; go_must (refine SmR.append_at rfl _ _ rfl w.heap.size (U.heap.size + 1) _ _ rs [⟨op, aa', an', ac', n, ba, bn, bc⟩] rfl hOX rfl hLitS (by simp) HLn hzX ?_))
              | fail)
            intro g9 c9 W9 hO9 hG9 hg9 hl9
            have hN9 := FoNew.push (op := op) (n := n) (al := al) hOU hEU hXa hO9 hG9 (by rw [size_alloc]; exact hg9) rfl rfl hAU hBU
            have hb9 : Below w.heap.size w W9 := (hbU.trans (hXa.mono hbU.size)).trans ((Turn.of_grown hG9).below' hzX fun x hx => (hOX.lt x (ownL hx)).1)
            have hf9 : (F.app (.cons op al n UU.1 .nil)).len ≤ k2 := by omega
            have HG : Hid (k0 ≤ k2 ∧ k2 ≤ ls.length + f ∧ ls.length - k2 < g ∧ g ≤ f ∧ ls.length - k2 < ls.length - k) := ⟨by omega, by omega, by omega, by omega, by omega⟩
            clear hk2a hk2b hnl2
            go_wp2
            exact ⟨⟨k2, g, _, _, _, _, rfl, rfl, HG.out.1, HG.out.2.1, HG.out.2.2.1, HG.out.2.2.2.1, hf9, hN9, HXn, hb9⟩, by simp [intOf]; exact HG.out.2.2.2.2⟩
          | false =>
            rw [hop] at hOp
            rw [if_neg (by rw [hop]; simp)] at HX2
            have HXn : Hid (X = ((F.app (.cons op al n .nil .nil)).app (Ac.unt g (ls.drop (k + 1))).1, (Ac.unt g (ls.drop (k + 1))).2)) := by show _ = _; rw [HX2, Ac.app_one]
            clear HX2 hop HI
            have x1 : Z.cell? ⟨w1.heap.size, 1, none⟩ = some (.slice aa' an' ac') := rx.cell 1
            have x2 : Z.cell? ⟨w1.heap.size, 2, none⟩ = some (.int .i64 n) := rx.cell 2
            have x3 : Z.cell? ⟨w1.heap.size, 3, none⟩ = some (.slice none 0 0) := rx.cell 3
            have hOU := hO.below hx (Nat.le_refl _)
            have hEU := hE.turn (own' := (Value.slice va vn vc).ownBlock) (Turn.of_below hx) (by simp) (fun _ _ h => h)
            have hbU := hbz
            have hAU := Rc.Own.low hOz hbr.size
            have hBU : FoP Z (fun q => w.heap.size ≤ q ∧ q < Z.heap.size ∧ (Value.slice va vn vc).ownBlock ≠ some q) (.slice none 0 0) .nil := ⟨[], ⟨none, 0, rfl, Nat.le_refl _, fun _ => rfl, fun h => absurd rfl h⟩, rfl⟩
            have hXa := (Below.refl Z.heap.size Z).alloc (Nat.le_refl _) (.cells #[.int .i64 op, .slice aa' an' ac', .int .i64 n, .slice none 0 0] 34)
            have hOX := hOU.below hXa (Nat.le_refl _)
            have HLn : Hid (rs.length + [(⟨op, aa', an', ac', n, none, 0, 0⟩ : RawS)].length ≤ 1099511627) := by show _ ≤ _; simp only [List.length_cons, List.length_nil]; omega
            have hzX : w.heap.size ≤ (Z.alloc (.cells #[.int .i64 op, .slice aa' an' ac', .int .i64 n, .slice none 0 0] 34)).heap.size := Nat.le_trans hbU.size hXa.size
            have hLitS : SmR.Sl (Z.alloc (.cells #[.int .i64 op, .slice aa' an' ac', .int .i64 n, .slice none 0 0] 34)) (Z.heap.size + 1) (.slice (some ⟨Z.heap.size, 0, none⟩) 1 1) [⟨op, aa', an', ac', n, none, 0, 0⟩] := Rc.lit (R := SmR) Z ⟨op, aa', an', ac', n, none, 0, 0⟩ #[.int .i64 op, .slice aa' an' ac', .int .i64 n, .slice none 0 0] rfl
            go_wp2_with (first
              | (go_at_call 43; refine hOp.mono ?_; rintro e w2 ⟨rfl, hw2⟩; rw [hw2]; clear hw2)
              | (at_builtin; go_must (refine SmR.append_at rfl _ _ rfl w.heap.size (Z.heap.size + 1) _ _ rs [⟨op, aa', an', ac', n, none, 0, 0⟩] rfl hOX rfl hLitS (by simp) HLn hzX ?_))
              | fail)
            intro g9 c9 W9 hO9 hG9 hg9 hl9
            have hN9 := FoNew.push (op := op) (n := n) (al := al) hOU hEU hXa hO9 hG9 (by rw [size_alloc]; exact hg9) rfl rfl hAU hBU
            have hb9 : Below w.heap.size w W9 := (hbU.trans (hXa.mono hbU.size)).trans ((Turn.of_grown hG9).below' hzX fun x hx => (hOX.lt x (ownL hx)).1)
            have hf9 : (F.app (.cons op al n .nil .nil)).len ≤ k + 1 := by omega
            go_wp2
            exact ⟨⟨k + 1, g, _, _, _, _, by go_num, rfl, by omega, by omega, by omega, by omega, hf9, hN9, HXn, hb9⟩, by simp [intOf]; omega⟩
    · have i1 : ¬ (k : Int) < (ls.length : Int) := by omega
      have HE : Hid (X = (F, [])) := by
        show _ = _
        rw [HX.out, List.drop_of_length_le (by omega), Ac.unt, Ac.app_none]
      have HD : Hid (([] : List (List (List UInt8))) = ls.drop (k + 1)) := by show _ = _; rw [List.drop_of_length_le (by omega)]
      clear HX
      go_wp2
      go_ret2
      rw [HE.out]
      exact ⟨⟨va, vn, vc, k + 1, rfl, hN, HD.out, by omega, by omega⟩, hbr⟩

end Go.Proofs.YtfgdlnidfkjbdaaDoor
