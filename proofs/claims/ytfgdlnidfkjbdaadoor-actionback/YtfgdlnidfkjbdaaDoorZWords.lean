/-
  THE READER: the words of a logical line.
-/
import Derived.Test.YtfgdlnidfkjbdaaDoorZQuo
import Derived.Test.YtfgdlnidfkjbdaaDoorYQuo
import Derived.Deep.RegionHeld3
namespace Go.Proofs.YtfgdlnidfkjbdaaDoor
open Go.RowKit

/-- block g is a word -/
def WAt (w : World) (g : Nat) (v : Lx.V) : Prop := w.heap[g]? = some (.cells #[.string (str v.text), .int .i64 v.line, .int .i64 v.col, .bool v.quoted, .bool v.mark] 48 (0, 0))

theorem WAt.cells {w : World} {g : Nat} {v : Lx.V} (h : WAt w g v) : w.cell? ⟨g, 0, none⟩ = some (.string (str v.text)) ∧ w.cell? ⟨g, 1, none⟩ = some (.int .i64 v.line) ∧ w.cell? ⟨g, 2, none⟩ = some (.int .i64 v.col) ∧ w.cell? ⟨g, 3, none⟩ = some (.bool v.quoted) ∧ w.cell? ⟨g, 4, none⟩ = some (.bool v.mark) := by
  have h' : w.heap[g]? = _ := h
  refine ⟨?_, ?_, ?_, ?_, ?_⟩ <;> simp [World.cell?, h']
theorem WAt.free {w : World} {g : Nat} {v : Lx.V} (h : WAt w g v) (j : Nat) : w.frozen? ⟨g, j, none⟩ = false := frozen_of_row w g j _ 48 h
theorem WAt.lt {w : World} {g : Nat} {v : Lx.V} (h : WAt w g v) : g < w.heap.size := (Array.getElem?_eq_some_iff.1 h).1
theorem WAt.turn {w w' : World} {g : Nat} {v : Lx.V} {S : List Nat} (h : WAt w g v) (ht : Turn S w w') (hs : g ∉ S) : WAt w' g v := (ht.block g h.lt hs).trans h
theorem WAt.set0 {w : World} {g : Nat} {v : Lx.V} (h : WAt w g v) (u : ByteArray) : WAt (w.setCell ⟨g, 0, none⟩ (.string u)) g ⟨bs u, v.line, v.col, v.quoted, v.mark⟩ := by
  unfold WAt
  rw [heap_setCell_same w g 0 _ 48 _ h]
  simp only [bs, str_of]
  rfl
theorem WAt.set3 {w : World} {g : Nat} {v : Lx.V} (h : WAt w g v) (b : Bool) : WAt (w.setCell ⟨g, 3, none⟩ (.bool b)) g ⟨v.text, v.line, v.col, b, v.mark⟩ := by
  unfold WAt
  rw [heap_setCell_same w g 3 _ 48 _ h]
  rfl
theorem WAt.set4 {w : World} {g : Nat} {v : Lx.V} (h : WAt w g v) (b : Bool) : WAt (w.setCell ⟨g, 4, none⟩ (.bool b)) g ⟨v.text, v.line, v.col, v.quoted, b⟩ := by
  unfold WAt
  rw [heap_setCell_same w g 4 _ 48 _ h]
  rfl
theorem Turn.setn {S : List Nat} {a b : World} (h : Turn S a b) {g : Nat} (hg : a.heap.size ≤ g) (j : Nat) (v : Value) : Turn S a (b.setCell ⟨g, j, none⟩ v) :=
  h.set (p := ⟨g, j, none⟩) (fun hl => absurd hl (Nat.not_lt.2 hg)) v
theorem Turn.set1 (a : World) (g j : Nat) (v : Value) : Turn [g] a (a.setCell ⟨g, j, none⟩ v) := (Turn.refl [g] a).set (p := ⟨g, j, none⟩) (fun _ => List.mem_singleton.2 rfl) v

/-- how words ends -/
def WEnd (p : Nat) (s : ByteArray) (k B : Nat) (e : Ending) (w' : World) : Lx.R Nat (List (Lx.W Nat)) → Prop
  | .bad a => e = thrown a
  | .ok ws => ∃ v j, e = .returned v ∧ WdR.Own w' B v (ws.map (Lx.told (bs s))) ∧ Rd w' p s j ∧ Lx.Ends s j ∧ k ≤ j ∧ j ≤ s.size ∧ ws.length ≤ s.size ∧ Lx.bh s k = Lx.dn s j

set_option maxRecDepth 100000 in
set_option maxHeartbeats 4000000 in
theorem words_any (w : World) (p : Nat) (s : ByteArray) (k : Nat) (h : Rd w p s k) (hk : k ≤ s.size) (hs : s.size ≤ 32768) :
    Calls Tryd.prog 53 #[.pointer (some ⟨p, 0, none⟩)] w fun e w' => WEnd p s k w.heap.size e w' (Lx.rd (Lx.ln s k)) ∧ Turn [p] w w' := by
  obtain ⟨R, hR0⟩ : ∃ R, Lx.rd (Lx.ln s k) = R := ⟨_, rfl⟩
  have HR0 : Hid _ := hR0
  rw [hR0]
  clear hR0
  have hpw := h.lt
  go_enter Tryd.func53, Tryd.ntmps53
  go_wp2
  go_loopw [3] (fun v wr => ∃ (j : Nat) (acc : List (Lx.W Nat)), Rd wr p s j ∧ j ≤ s.size ∧ k ≤ j ∧ WdR.Own wr w.heap.size v (acc.map (Lx.told (bs s))) ∧ acc.length ≤ j ∧ Hid (R = (Lx.rd (Lx.ln s j)).map id (acc ++ ·)) ∧ Hid (Lx.bh s k = Lx.bh s j) ∧ Turn [p] w wr) (fun _ wr => s.size - rdAt wr p)
  case atStart => exact ⟨k, [], h, hk, Nat.le_refl _, Rc.Own.nil _ _, Nat.zero_le _, by show _ = _; rw [HR0.out]; cases R <;> rfl, rfl, Turn.refl _ _⟩
  case round =>
    obtain ⟨j, acc, hR, hj, hkj, hO, hal, HQ, HB, hT⟩ := hrel
    have hat := hR.at_
    obtain ⟨a5, n5, c5, rfl⟩ := hO.isSl
    by_cases he : Lx.Ends s j
    · have HEE : Hid _ := he
      have HE : Hid (R = .ok acc) := by
        show _ = _
        rw [HQ.out, (Lx.ln_end he).1, Lx.rd]
        simp [Lx.R.map]
      have HB2 : Hid (Lx.bh s k = Lx.dn s j) := HB.out.trans (Lx.ln_end he).2
      have hend := ended_any _ p s j hR hj
      rw [decide_eq_true he] at hend
      clear he HQ
      go_wp2_with fail
      refine hend.mono ?_
      rintro e w1 ⟨rfl, q, rfl⟩
      go_wp2
      go_ret
      refine ⟨?_, hT.drewN _⟩
      rw [HE.out]
      exact ⟨_, j, rfl, hO, hR, HEE.out, hkj, hj, by omega, HB2.out⟩
    · have hlt : j < s.size := by
        rcases Nat.lt_or_ge j s.size with h | h
        · exact h
        · exact absurd (.inl (by omega)) he
      have HN10 : Hid (s[j] ≠ 10) := fun e => he (.inr ⟨hlt, e⟩)
      have hend := ended_any _ p s j hR hj
      rw [decide_eq_false he] at hend
      clear he
      have i3 : (j : Int) < (s.size : Int) := by omega
      have hR' := hR
      unfold Rd at hR'
      have hpl := place_le s j
      obtain ⟨pl, hl⟩ : ∃ l, (Lx.place (bs s) j).1 = l := ⟨_, rfl⟩
      obtain ⟨pc, hc⟩ : ∃ c, (Lx.place (bs s) j).2 = c := ⟨_, rfl⟩
      rw [hl, hc] at hR' hpl
      have HPL : Hid (Lx.place (bs s) j = (pl, pc)) := by show _ = _; rw [← hl, ← hc]
      obtain ⟨hp1, hp2⟩ := hpl
      clear hl hc
      have HWR : Hid (IntKind.i64.wrap (pc : Int) = (pc : Int)) := by show _ = _; rw [IntKind.wrap_i64]; omega
      have hsub : (j : Int) - ((j - pc : Nat) : Int) = (pc : Int) := by omega
      have c0 := RdC.cell0 hR'
      have c1 := RdC.cell1 hR'
      have c2 := RdC.cell2 hR'
      have c3 := RdC.cell3 hR'
      go_wp2_with fail
      refine hend.mono ?_
      rintro e w1 ⟨rfl, q, rfl⟩
      go_upto_region 3 with fail
      have hR1 : Rd (wr.drewN q) p s j := hR
      have hO1 : WdR.Own (wr.drewN q) w.heap.size (.slice a5 n5 c5) (acc.map (Lx.told (bs s))) := hO
      have hT1 : Turn [p] w (wr.drewN q) := hT.drewN q
      have d1 : (wr.drewN q).cell? ⟨p, 1, none⟩ = some (.int .i64 (j : Int)) := c1
      have d2 : (wr.drewN q).cell? ⟨p, 2, none⟩ = some (.int .i64 (pl : Int)) := c2
      have d3 : (wr.drewN q).cell? ⟨p, 3, none⟩ = some (.int .i64 ((j - pc : Nat) : Int)) := c3
      have HAT : Hid _ := hat
      clear hR hO hT hend c0 c1 c2 c3 hat hR'
      generalize wr.drewN q = W at *
      go_cut [4] (fun t4 X => ∃ g : Nat, t4 = .pointer (some ⟨g, 0, none⟩) ∧ WAt X g ⟨[], (pl : Int), (pc : Int), false, false⟩ ∧ g = W.heap.size ∧ Turn [] W X)
      case first =>
        have hTA : ∀ o : Obj, Turn [] W (W.alloc o).drew := fun o => ((Turn.refl [] W).alloc o).drew
        go_region_held3 (fun X : World => X.cell? ⟨p, 1, none⟩ = some (.int .i64 (j : Int)) ∧ X.cell? ⟨p, 2, none⟩ = some (.int .i64 (pl : Int)) ∧ X.cell? ⟨p, 3, none⟩ = some (.int .i64 ((j - pc : Nat) : Int))) (go_keep) (fail)
        all_goals go_wp2
        all_goals (go_meet; refine ⟨_, rfl, ?_, rfl, hTA _⟩; rw [HWR.out]; exact heap_alloc_new _ _)
      case rest =>
      obtain ⟨g, rfl, hW, hg, hTc⟩ := hcut
      have hgw : w.heap.size ≤ g := by rw [hg]; exact hT1.size
      have hOg : ∀ g', (Value.slice a5 n5 c5).ownBlock = some g' → g' ∉ [g] := fun g' e hm => by
        have := (hO1.lt g' e).2
        simp only [List.mem_singleton] at hm
        omega
      have HOG : Hid _ := hOg
      clear hOg hg
      have hgp : g ∉ [p] := by simp only [List.mem_singleton]; omega
      have hpg : p ≠ g := by omega
      have hR2 := hR1.turn hTc (by simp)
      have hO2 : WdR.Own wc w.heap.size (.slice a5 n5 c5) (acc.map (Lx.told (bs s))) := Row.turn hO1 hTc (by simp)
      have hT2 := hT1.trans hTc (by simp)
      clear hR1 hO1 hT1 hTc d1 d2 d3
      have c0 := RdC.cell0 hR2
      have c1 := RdC.cell1 hR2
      go_wp2_with fail
      go_quiet (fail)
      have hR3 : Rd (wc.drewN nq) p s j := hR2
      have hO3 : WdR.Own (wc.drewN nq) w.heap.size (.slice a5 n5 c5) (acc.map (Lx.told (bs s))) := hO2
      have hT3 : Turn [p] w (wc.drewN nq) := hT2.drewN nq
      have hW3 : WAt (wc.drewN nq) g ⟨[], (pl : Int), (pc : Int), false, false⟩ := hW
      clear hR2 hO2 hT2 hW c0 c1
      generalize wc.drewN nq = X at *
      have c1 := RdC.cell1 hR3
      obtain ⟨x, hx⟩ : ∃ x, s[j] = x := ⟨_, rfl⟩
      have HX : Hid _ := hx
      rw [hx]
      clear hx
      by_cases h92 : x = 92
      · have e92 : ((x.toNat : Int) == 92) = true := byte_eq h92
        have hjo := joins_any _ p s j j hR3 hs (by omega)
        by_cases hJ : Lx.Join s j
        · rw [decide_eq_true hJ] at hjo
          have hlt2 : j + 1 < s.size := hJ.1
          have HQ2 : Hid (R = (Lx.rd (Lx.ln s (j + 2))).map id (acc ++ ·)) := by
            show _ = _
            rw [HQ.out, (Lx.ln_join hJ).1, Lx.rd_blank rfl]
          have HB2 : Hid _ := HB.out.trans (Lx.ln_join hJ).2
          clear h92 hJ HQ HB
          go_wp2_with fail
          refine hjo.mono ?_
          rintro e w1 ⟨rfl, rfl⟩
          go_wp2_with fail
          refine (pass_any _ p s j hR3 hlt hs).mono ?_
          rintro e w2 ⟨rfl, hR4, hT4⟩
          go_wp2_with fail
          refine (pass_any _ p s (j + 1) hR4 hlt2 hs).mono ?_
          rintro e w3 ⟨rfl, hR5, hT5⟩
          have hO5 := row_turn (row_turn hO3 hT4 hpw) hT5 hpw
          have hat5 := hR5.at_
          go_wp2
          exact ⟨⟨j + 2, acc, hR5, by omega, by omega, hO5, by omega, HQ2, HB2, (hT3.trans hT4 (by simp)).trans hT5 (by simp)⟩, by rw [hat5, HAT.out]; omega⟩
        · rw [decide_eq_false hJ] at hjo
          have HE : Hid (R = .bad j) := by
            show _ = _
            rw [HQ.out, (Lx.ln_one hlt hJ HN10.out).1, Lx.rd_bad (by show s[j] ≠ 35; rw [HX.out, h92]; decide) (by show s[j] ≠ 32; rw [HX.out, h92]; decide) (by show ¬ (s[j] = 58 ∨ s[j] = 61); rw [HX.out, h92]; decide) (by show s[j] ≠ 34; rw [HX.out, h92]; decide) (by show Lx.bare s[j] = false; rw [HX.out, h92]; decide)]
            rfl
          clear h92 hJ HQ HB
          go_wp2_with fail
          refine hjo.mono ?_
          rintro e w1 ⟨rfl, rfl⟩
          go_wp2_with fail
          refine (wrong_any _ j).mono ?_
          rintro e w1 ⟨rfl, rfl⟩
          go_wp2
          refine ⟨rfl, ?_, hT3⟩
          rw [HE.out]; rfl
      have e92 : ((x.toNat : Int) == 92) = false := byte_ne h92
      have HL : Hid (Lx.ln s j = ⟨x, false, j⟩ :: Lx.ln s (j + 1) ∧ Lx.bh s j = Lx.bh s (j + 1)) := by
        have := Lx.ln_one hlt (Lx.not_join (h := hlt) (by rw [HX.out]; exact h92)) HN10.out
        rwa [HX.out] at this
      clear h92
      by_cases h32 : x = 32
      · have e32 : ((x.toNat : Int) == 32) = true := byte_eq h32
        have HQ2 : Hid (R = (Lx.rd (Lx.ln s (j + 1))).map id (acc ++ ·)) := by
          show _ = _
          rw [HQ.out, HL.out.1, Lx.rd_blank h32]
        have HB2 : Hid _ := HB.out.trans HL.out.2
        clear h32 HQ HB
        go_wp2_with fail
        refine (pass_any _ p s j hR3 hlt hs).mono ?_
        rintro e w2 ⟨rfl, hR4, hT4⟩
        have hO4 := row_turn hO3 hT4 hpw
        have hat5 := hR4.at_
        go_wp2
        exact ⟨⟨j + 1, acc, hR4, by omega, by omega, hO4, by omega, HQ2, HB2, hT3.trans hT4 (by simp)⟩, by rw [hat5, HAT.out]; omega⟩
      have e32 : ((x.toNat : Int) == 32) = false := byte_ne h32
      by_cases h35 : x = 35
      · have e35 : ((x.toNat : Int) == 35) = true := byte_eq h35
        have HQ2 : Hid (R = .ok acc) := by
          show _ = _
          rw [HQ.out, HL.out.1, Lx.rd_hash h35]
          simp [Lx.R.map]
        have HNE : Hid (¬ Lx.Ends s j) := fun he => he.elim (fun e => by omega) (fun ⟨_, e⟩ => HN10.out e)
        clear h32 h35 HQ
        go_wp2_with fail
        refine (comment_any _ p s j hR3 hj hs).mono ?_
        rintro e w2 ⟨rfl, j', hR4, hE4, hj4, hjj, hB4, hT4⟩
        have hne : j ≠ j' := by rintro rfl; exact HNE.out hE4
        have HQ3 : Hid (R = (Lx.rd (Lx.ln s j')).map id (acc ++ ·)) := by
          show _ = _
          rw [HQ2.out, (Lx.ln_end hE4).1, Lx.rd]
          simp [Lx.R.map]
        have HB2 : Hid _ := HB.out.trans (hB4.trans (Lx.ln_end hE4).2.symm)
        clear HB hB4 hE4
        have hO4 := row_turn hO3 hT4 hpw
        have hat5 := hR4.at_
        go_wp2
        exact ⟨⟨j', acc, hR4, by omega, by omega, hO4, by omega, HQ3, HB2, hT3.trans hT4 (by simp)⟩, by rw [hat5, HAT.out]; omega⟩
      have e35 : ((x.toNat : Int) == 35) = false := byte_ne h35
      by_cases h58 : x = 58
      · have e58 : ((x.toNat : Int) == 58) = true := byte_eq h58
        have HQ2 : Hid (R = (Lx.rd (Lx.ln s (j + 1))).map id ((acc ++ [⟨[58], j, false, true⟩]) ++ ·)) := by
          show _ = _
          rw [HQ.out, HL.out.1, Lx.rd_mark (by show x = 58 ∨ x = 61; rw [h58]; decide), h58, Lx.R.map_map]
          congr 1
          funext l
          simp
        have HB2 : Hid _ := HB.out.trans HL.out.2
        have hxe : (x.toNat : Int) = 58 := by rw [h58]; rfl
        clear h32 h35 HQ HB HL HN10 HX e92 e32 e35
        subst h58
        clear hxe
        have hcv : ∀ W : World, (convert 5 9 (.int .u8 58)).run Tryd.prog W = .ok (.string ⟨#[58]⟩) W := fun _ => by kernel_rfl
        obtain ⟨k0, k1, k2, k3, k4⟩ := hW3.cells
        have f0 := hW3.free 0
        have f4 := hW3.free 4
        have hW5 := (hW3.set0 ⟨#[58]⟩).set4 true
        have hO5 := Row.turn (Row.turn hO3 (Turn.set1 X g 0 (.string ⟨#[58]⟩)) HOG.out) (Turn.set1 _ g 4 (.bool true)) HOG.out
        have hR5 := (hR3.set_other (j := 0) hpg (.string ⟨#[58]⟩)).set_other (j := 4) hpg (.bool true)
        have hT5 := (hT3.setn hgw 0 (.string ⟨#[58]⟩)).setn hgw 4 (.bool true)
        go_wp2_with fail
        refine (pass_any _ p s j hR5 hlt hs).mono ?_
        rintro e w2 ⟨rfl, hR6, hT6⟩
        have hO6 : WdR.Own w2 w.heap.size (.slice a5 n5 c5) (acc.map (Lx.told (bs s))) := row_turn hO5 hT6 hpw
        have hW6 : WAt w2 g ⟨[58], (pl : Int), (pc : Int), false, true⟩ := hW5.turn hT6 hgp
        have hT7 := hT5.trans hT6 (by simp)
        clear hO5 hR5 hT5 hT6 hW5 hW3 hO3 hR3 hT3 k0 k1 k2 k3 k4 f0 f4 c1
        obtain ⟨k0, k1, k2, k3, k4⟩ := hW6.cells
        have hL4 := WdR.lit w2 ⟨[58], (pl : Int), (pc : Int), false, true⟩ #[.string (str ([58])), .int .i64 (pl : Int), .int .i64 (pc : Int), .bool false, .bool true] rfl
        have hO4 := Rc.Own.alloc hO6 (.cells #[.string (str ([58])), .int .i64 (pl : Int), .int .i64 (pc : Int), .bool false, .bool true] 48)
        have hT4 := hT7.alloc (.cells #[.string (str ([58])), .int .i64 (pl : Int), .int .i64 (pc : Int), .bool false, .bool true] 48)
        have hR4 := hR6.alloc (.cells #[.string (str ([58])), .int .i64 (pl : Int), .int .i64 (pc : Int), .bool false, .bool true] 48)
        have HLn : Hid ((acc.map (Lx.told (bs s))).length + ([⟨[58], (pl : Int), (pc : Int), false, true⟩] : List Lx.V).length ≤ 1099511627) := by show _ ≤ _; simp only [List.length_cons, List.length_nil, List.length_map]; omega
        have HV : Hid (acc.map (Lx.told (bs s)) ++ [⟨[58], (pl : Int), (pc : Int), false, true⟩] = (acc ++ ([⟨[58], j, false, true⟩] : List (Lx.W Nat))).map (Lx.told (bs s))) := by
          show _ = _
          rw [List.map_append]
          simp only [List.map_cons, List.map_nil, Lx.told, HPL.out]
        go_wp2_with (at_builtin; go_must (refine WdR.append rfl _ _ rfl w.heap.size (w2.heap.size + 1) _ _ (acc.map (Lx.told (bs s))) [⟨[58], (pl : Int), (pc : Int), false, true⟩] rfl hO4 rfl hL4 HLn hT4.size ?_))
        intro v5 w5 hO5 hg5
        rw [HV.out] at hO5
        have hT5 := row_grow hT4 hO4 hg5
        have hR5 := hR4.turn (Turn.of_grown hg5) (row_apart hO4 hpw)
        have hat5 := hR5.at_
        clear hL4 hO4 hT4 hR4 HLn HV hg5 k0 k1 k2 k3 k4
        obtain ⟨a6, n6, c6, rfl⟩ := hO5.isSl
        go_wp2
        exact ⟨⟨j + 1, _, hR5, by omega, by omega, hO5, by simp only [List.length_append, List.length_cons, List.length_nil]; omega, HQ2, HB2, hT5⟩, by rw [hat5, HAT.out]; omega⟩
      have e58 : ((x.toNat : Int) == 58) = false := byte_ne h58
      by_cases h61 : x = 61
      · have e61 : ((x.toNat : Int) == 61) = true := byte_eq h61
        have HQ2 : Hid (R = (Lx.rd (Lx.ln s (j + 1))).map id ((acc ++ [⟨[61], j, false, true⟩]) ++ ·)) := by
          show _ = _
          rw [HQ.out, HL.out.1, Lx.rd_mark (by show x = 58 ∨ x = 61; rw [h61]; decide), h61, Lx.R.map_map]
          congr 1
          funext l
          simp
        have HB2 : Hid _ := HB.out.trans HL.out.2
        have hxe : (x.toNat : Int) = 61 := by rw [h61]; rfl
        clear h32 h35 HQ HB HL HN10 HX e92 e32 e35 e58 h58
        subst h61
        clear hxe
        have hcv : ∀ W : World, (convert 5 9 (.int .u8 61)).run Tryd.prog W = .ok (.string ⟨#[61]⟩) W := fun _ => by kernel_rfl
        obtain ⟨k0, k1, k2, k3, k4⟩ := hW3.cells
        have f0 := hW3.free 0
        have f4 := hW3.free 4
        have hW5 := (hW3.set0 ⟨#[61]⟩).set4 true
        have hO5 := Row.turn (Row.turn hO3 (Turn.set1 X g 0 (.string ⟨#[61]⟩)) HOG.out) (Turn.set1 _ g 4 (.bool true)) HOG.out
        have hR5 := (hR3.set_other (j := 0) hpg (.string ⟨#[61]⟩)).set_other (j := 4) hpg (.bool true)
        have hT5 := (hT3.setn hgw 0 (.string ⟨#[61]⟩)).setn hgw 4 (.bool true)
        go_wp2_with fail
        refine (pass_any _ p s j hR5 hlt hs).mono ?_
        rintro e w2 ⟨rfl, hR6, hT6⟩
        have hO6 : WdR.Own w2 w.heap.size (.slice a5 n5 c5) (acc.map (Lx.told (bs s))) := row_turn hO5 hT6 hpw
        have hW6 : WAt w2 g ⟨[61], (pl : Int), (pc : Int), false, true⟩ := hW5.turn hT6 hgp
        have hT7 := hT5.trans hT6 (by simp)
        clear hO5 hR5 hT5 hT6 hW5 hW3 hO3 hR3 hT3 k0 k1 k2 k3 k4 f0 f4 c1
        obtain ⟨k0, k1, k2, k3, k4⟩ := hW6.cells
        have hL4 := WdR.lit w2 ⟨[61], (pl : Int), (pc : Int), false, true⟩ #[.string (str ([61])), .int .i64 (pl : Int), .int .i64 (pc : Int), .bool false, .bool true] rfl
        have hO4 := Rc.Own.alloc hO6 (.cells #[.string (str ([61])), .int .i64 (pl : Int), .int .i64 (pc : Int), .bool false, .bool true] 48)
        have hT4 := hT7.alloc (.cells #[.string (str ([61])), .int .i64 (pl : Int), .int .i64 (pc : Int), .bool false, .bool true] 48)
        have hR4 := hR6.alloc (.cells #[.string (str ([61])), .int .i64 (pl : Int), .int .i64 (pc : Int), .bool false, .bool true] 48)
        have HLn : Hid ((acc.map (Lx.told (bs s))).length + ([⟨[61], (pl : Int), (pc : Int), false, true⟩] : List Lx.V).length ≤ 1099511627) := by show _ ≤ _; simp only [List.length_cons, List.length_nil, List.length_map]; omega
        have HV : Hid (acc.map (Lx.told (bs s)) ++ [⟨[61], (pl : Int), (pc : Int), false, true⟩] = (acc ++ ([⟨[61], j, false, true⟩] : List (Lx.W Nat))).map (Lx.told (bs s))) := by
          show _ = _
          rw [List.map_append]
          simp only [List.map_cons, List.map_nil, Lx.told, HPL.out]
        go_wp2_with (at_builtin; go_must (refine WdR.append rfl _ _ rfl w.heap.size (w2.heap.size + 1) _ _ (acc.map (Lx.told (bs s))) [⟨[61], (pl : Int), (pc : Int), false, true⟩] rfl hO4 rfl hL4 HLn hT4.size ?_))
        intro v5 w5 hO5 hg5
        rw [HV.out] at hO5
        have hT5 := row_grow hT4 hO4 hg5
        have hR5 := hR4.turn (Turn.of_grown hg5) (row_apart hO4 hpw)
        have hat5 := hR5.at_
        clear hL4 hO4 hT4 hR4 HLn HV hg5 k0 k1 k2 k3 k4
        obtain ⟨a6, n6, c6, rfl⟩ := hO5.isSl
        go_wp2
        exact ⟨⟨j + 1, _, hR5, by omega, by omega, hO5, by simp only [List.length_append, List.length_cons, List.length_nil]; omega, HQ2, HB2, hT5⟩, by rw [hat5, HAT.out]; omega⟩
      have e61 : ((x.toNat : Int) == 61) = false := byte_ne h61
      by_cases h34 : x = 34
      · have e34 : ((x.toNat : Int) == 34) = true := byte_eq h34
        have HQ1 : Hid (Lx.rd (Lx.ln s j) = Lx.afterQ j (Lx.quo (Lx.ln s (j + 1)) [])) := by
          show _ = _
          rw [HL.out.1, Lx.rd_quote h34]
        obtain ⟨k0, k1, k2, k3, k4⟩ := hW3.cells
        have f0 := hW3.free 0
        have f3 := hW3.free 3
        have hqu := quoted_any _ p s j hR3 hlt hs
        cases hU : Lx.quo (Lx.ln s (j + 1)) [] with
        | bad a =>
          rw [hU] at hqu HQ1
          have HE : Hid (R = .bad a) := by
            show _ = _
            rw [HQ.out, HQ1.out]; rfl
          clear h32 h35 h58 h61 h34 HQ HQ1 hU
          go_wp2_with fail
          refine hqu.mono ?_
          rintro e w1 ⟨hq, hT4⟩
          simp only [QEnd, thrown] at hq
          subst hq
          go_wp2
          refine ⟨rfl, ?_, hT3.trans hT4 (by simp)⟩
          rw [HE.out]; rfl
        | ok o =>
          cases o with
          | none =>
            rw [hU] at hqu HQ1
            have HE : Hid (R = .bad j) := by
              show _ = _
              rw [HQ.out, HQ1.out]; rfl
            clear h32 h35 h58 h61 h34 HQ HQ1 hU
            go_wp2_with fail
            refine hqu.mono ?_
            rintro e w1 ⟨hq, hT4⟩
            simp only [QEnd, thrown] at hq
            subst hq
            go_wp2
            refine ⟨rfl, ?_, hT3.trans hT4 (by simp)⟩
            rw [HE.out]; rfl
          | some tr =>
            obtain ⟨t, r⟩ := tr
            rw [hU] at hqu HQ1
            clear h32 h35 h58 h61 h34 hU k0 k1 k2 k3 k4 f0 f3
            go_wp2_with fail
            refine hqu.mono ?_
            rintro e w1 ⟨⟨rfl, j', hR4, hjj, hj4, rfl, hB4⟩, hT4⟩
            have HQ2 : Hid (R = (Lx.rd (Lx.ln s j')).map id ((acc ++ [⟨t, j, true, false⟩]) ++ ·)) := by
              show _ = _
              rw [HQ.out, HQ1.out]
              show Lx.R.map id (acc ++ ·) ((Lx.rd (Lx.ln s j')).map id (⟨t, j, true, false⟩ :: ·)) = _
              rw [Lx.R.map_map]
              congr 1
              funext l
              simp
            have HB2 : Hid _ := HB.out.trans (HL.out.2.trans hB4)
            clear HB hB4 HQ HQ1 hqu
            have hW4 := hW3.turn hT4 hgp
            have hO4 := row_turn hO3 hT4 hpw
            have hT5 := hT3.trans hT4 (by simp)
            obtain ⟨k0, k1, k2, k3, k4⟩ := hW4.cells
            have f0 := hW4.free 0
            have f3 := hW4.free 3
            have hW6 : WAt ((w1.setCell ⟨g, 0, none⟩ (.string (str t))).setCell ⟨g, 3, none⟩ (.bool true)) g ⟨t, (pl : Int), (pc : Int), true, false⟩ := by
              have := (hW4.set0 (str t)).set3 true
              rwa [bs_str] at this
            have hO6 : WdR.Own ((w1.setCell ⟨g, 0, none⟩ (.string (str t))).setCell ⟨g, 3, none⟩ (.bool true)) w.heap.size (.slice a5 n5 c5) (acc.map (Lx.told (bs s))) := Row.turn (Row.turn hO4 (Turn.set1 w1 g 0 (.string (str t))) HOG.out) (Turn.set1 _ g 3 (.bool true)) HOG.out
            have hR6 := (hR4.set_other (j := 0) hpg (.string (str t))).set_other (j := 3) hpg (.bool true)
            have hT7 := (hT5.setn hgw 0 (.string (str t))).setn hgw 3 (.bool true)
            go_upto_region 21 with fail
            clear hW4 hO4 hT5 hR4 k0 k1 k2 k3 k4 f0 f3 hT4 hW3 hO3 hR3 hT3 c1
            generalize (w1.setCell ⟨g, 0, none⟩ (.string (str t))).setCell ⟨g, 3, none⟩ (.bool true) = Y at *
            obtain ⟨k0, k1, k2, k3, k4⟩ := hW6.cells
            have hL4 := WdR.lit Y ⟨t, (pl : Int), (pc : Int), true, false⟩ #[.string (str (t)), .int .i64 (pl : Int), .int .i64 (pc : Int), .bool true, .bool false] rfl
            have hO4 := Rc.Own.alloc hO6 (.cells #[.string (str (t)), .int .i64 (pl : Int), .int .i64 (pc : Int), .bool true, .bool false] 48)
            have hT4 := hT7.alloc (.cells #[.string (str (t)), .int .i64 (pl : Int), .int .i64 (pc : Int), .bool true, .bool false] 48)
            have hR4 := hR6.alloc (.cells #[.string (str (t)), .int .i64 (pl : Int), .int .i64 (pc : Int), .bool true, .bool false] 48)
            have HLn : Hid ((acc.map (Lx.told (bs s))).length + ([⟨t, (pl : Int), (pc : Int), true, false⟩] : List Lx.V).length ≤ 1099511627) := by show _ ≤ _; simp only [List.length_cons, List.length_nil, List.length_map]; omega
            have HV : Hid (acc.map (Lx.told (bs s)) ++ [⟨t, (pl : Int), (pc : Int), true, false⟩] = (acc ++ ([⟨t, j, true, false⟩] : List (Lx.W Nat))).map (Lx.told (bs s))) := by
              show _ = _
              rw [List.map_append]
              simp only [List.map_cons, List.map_nil, Lx.told, HPL.out]
            go_wp2_with (at_builtin; go_must (refine WdR.append rfl _ _ rfl w.heap.size (Y.heap.size + 1) _ _ (acc.map (Lx.told (bs s))) [⟨t, (pl : Int), (pc : Int), true, false⟩] rfl hO4 rfl hL4 HLn hT4.size ?_))
            intro v5 w5 hO5 hg5
            rw [HV.out] at hO5
            have hT5 := row_grow hT4 hO4 hg5
            have hR5 := hR4.turn (Turn.of_grown hg5) (row_apart hO4 hpw)
            have hat5 := hR5.at_
            clear hL4 hO4 hT4 hR4 HLn HV hg5 k0 k1 k2 k3 k4
            obtain ⟨a6, n6, c6, rfl⟩ := hO5.isSl
            go_wp2
            exact ⟨⟨j', _, hR5, by omega, by omega, hO5, by simp only [List.length_append, List.length_cons, List.length_nil]; omega, HQ2, HB2, hT5⟩, by rw [hat5, HAT.out]; omega⟩
      have e34 : ((x.toNat : Int) == 34) = false := byte_ne h34
      cases hb : Lx.bare x with
      | true =>
        have hba := bare_q hb
        have hbs := bares_any _ p s j hR3 hlt (by rw [HX.out]; exact hb) hs
        clear h32 h35 h58 h61 h34 hb
        go_wp2_with fail
        refine (hba _).mono ?_
        rintro e w1 ⟨rfl, rfl⟩
        go_wp2_with fail
        refine hbs.mono ?_
        rintro e w1 ⟨j', rfl, hR4, hjj, hj4, HB4, HQ4, hT4⟩
        obtain ⟨t, ht⟩ : ∃ t, ((bs s).take j').drop j = t := ⟨_, rfl⟩
        rw [ht] at HQ4
        rw [ht]
        clear ht
        have HQ2 : Hid (R = (Lx.rd (Lx.ln s j')).map id ((acc ++ [⟨t, j, false, false⟩]) ++ ·)) := by
          show _ = _
          rw [HQ.out, HQ4.out, Lx.R.map_map]
          congr 1
          funext l
          simp
        have HB2 : Hid _ := HB.out.trans HB4.out
        clear HB HB4 HQ HQ4 hbs hba
        have hW4 := hW3.turn hT4 hgp
        have hO4 := row_turn hO3 hT4 hpw
        have hT5 := hT3.trans hT4 (by simp)
        obtain ⟨k0, k1, k2, k3, k4⟩ := hW4.cells
        have f0 := hW4.free 0
        have hW6 : WAt (w1.setCell ⟨g, 0, none⟩ (.string (str t))) g ⟨t, (pl : Int), (pc : Int), false, false⟩ := by
          have := hW4.set0 (str t)
          rwa [bs_str] at this
        have hO6 : WdR.Own (w1.setCell ⟨g, 0, none⟩ (.string (str t))) w.heap.size (.slice a5 n5 c5) (acc.map (Lx.told (bs s))) := Row.turn hO4 (Turn.set1 w1 g 0 (.string (str t))) HOG.out
        have hR6 := hR4.set_other (j := 0) hpg (.string (str t))
        have hT7 := hT5.setn hgw 0 (.string (str t))
        go_upto_region 21 with fail
        clear hW4 hO4 hT5 hR4 k0 k1 k2 k3 k4 f0 hT4 hW3 hO3 hR3 hT3 c1
        generalize w1.setCell ⟨g, 0, none⟩ (.string (str t)) = Y at *
        obtain ⟨k0, k1, k2, k3, k4⟩ := hW6.cells
        have hL4 := WdR.lit Y ⟨t, (pl : Int), (pc : Int), false, false⟩ #[.string (str (t)), .int .i64 (pl : Int), .int .i64 (pc : Int), .bool false, .bool false] rfl
        have hO4 := Rc.Own.alloc hO6 (.cells #[.string (str (t)), .int .i64 (pl : Int), .int .i64 (pc : Int), .bool false, .bool false] 48)
        have hT4 := hT7.alloc (.cells #[.string (str (t)), .int .i64 (pl : Int), .int .i64 (pc : Int), .bool false, .bool false] 48)
        have hR4 := hR6.alloc (.cells #[.string (str (t)), .int .i64 (pl : Int), .int .i64 (pc : Int), .bool false, .bool false] 48)
        have HLn : Hid ((acc.map (Lx.told (bs s))).length + ([⟨t, (pl : Int), (pc : Int), false, false⟩] : List Lx.V).length ≤ 1099511627) := by show _ ≤ _; simp only [List.length_cons, List.length_nil, List.length_map]; omega
        have HV : Hid (acc.map (Lx.told (bs s)) ++ [⟨t, (pl : Int), (pc : Int), false, false⟩] = (acc ++ ([⟨t, j, false, false⟩] : List (Lx.W Nat))).map (Lx.told (bs s))) := by
          show _ = _
          rw [List.map_append]
          simp only [List.map_cons, List.map_nil, Lx.told, HPL.out]
        go_wp2_with (at_builtin; go_must (refine WdR.append rfl _ _ rfl w.heap.size (Y.heap.size + 1) _ _ (acc.map (Lx.told (bs s))) [⟨t, (pl : Int), (pc : Int), false, false⟩] rfl hO4 rfl hL4 HLn hT4.size ?_))
        intro v5 w5 hO5 hg5
        rw [HV.out] at hO5
        have hT5 := row_grow hT4 hO4 hg5
        have hR5 := hR4.turn (Turn.of_grown hg5) (row_apart hO4 hpw)
        have hat5 := hR5.at_
        clear hL4 hO4 hT4 hR4 HLn HV hg5 k0 k1 k2 k3 k4
        obtain ⟨a6, n6, c6, rfl⟩ := hO5.isSl
        go_wp2
        exact ⟨⟨j', _, hR5, by omega, by omega, hO5, by simp only [List.length_append, List.length_cons, List.length_nil]; omega, HQ2, HB2, hT5⟩, by rw [hat5, HAT.out]; omega⟩
      | false =>
        have hba := bare_q hb
        have HE : Hid (R = .bad j) := by
          show _ = _
          rw [HQ.out, HL.out.1, Lx.rd_bad h35 h32 (fun h => h.elim h58 h61) h34 hb]
          rfl
        clear h32 h35 h58 h61 h34 hb HQ HB
        go_wp2_with fail
        refine (hba _).mono ?_
        rintro e w1 ⟨rfl, rfl⟩
        go_wp2_with fail
        refine (wrong_any _ j).mono ?_
        rintro e w1 ⟨rfl, rfl⟩
        go_wp2
        refine ⟨rfl, ?_, hT3⟩
        rw [HE.out]; rfl

end Go.Proofs.YtfgdlnidfkjbdaaDoor
