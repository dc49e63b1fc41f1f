/-
  WHAT Lines DOES.
-/
import Derived.Test.YtfgdlnidfkjbdaaDoorZLog
namespace Go.Proofs.YtfgdlnidfkjbdaaDoor
open Go.RowKit

theorem LnsOwn.turn1 {w w' : World} {base p : Nat} {v : Value} {L : List Lx.L} (h : LnsOwn w base v L) (ht : Turn [p] w w') (hp : p < base) : LnsOwn w' base v L := by
  obtain ⟨ps, h1, h2, h3, h4⟩ := h
  exact ⟨ps, row_turn h1 ht hp, h2, (fun q hq => ⟨(h3 q hq).1, (h3 q hq).2.1, row_turn (h3 q hq).2.2 ht hp⟩), h4⟩
theorem LnsOwn.low {w : World} {base B : Nat} {v : Value} {L : List Lx.L} (h : LnsOwn w base v L) (hB : B ≤ base) : LnsOwn w B v L := by
  obtain ⟨ps, h1, h2, h3, h4⟩ := h
  exact ⟨ps, h1.low hB, h2, (fun q hq => ⟨(h3 q hq).1, (h3 q hq).2.1, (h3 q hq).2.2.low hB⟩), h4⟩
theorem LnsOwn.pushed {w w' : World} {base : Nat} {v v' : Value} {ps : List (RawL × Lx.L)} {raw : RawL} {x : Lx.L} (hO : LnR.Own w base v (ps.map Prod.fst)) (h3 : ∀ p ∈ ps, LineOf w base p.1 p.2) (hx : LineOf w base raw x) (hO' : LnR.Own w' base v' (ps.map Prod.fst ++ [raw])) (hg : w.grownBy w' v.ownBlock) (hpw : ps.Pairwise Apart) (hap : ∀ p ∈ ps, Apart p (raw, x)) : LnsOwn w' base v' (ps.map Prod.snd ++ [x]) := by
  refine ⟨ps ++ [(raw, x)], by rw [List.map_append]; exact hO', by rw [List.map_append]; rfl, fun p hp => ?_, List.pairwise_append.2 ⟨hpw, List.pairwise_singleton _ _, fun p hp q hq => by rw [List.mem_singleton.1 hq]; exact hap p hp⟩⟩
  rcases List.mem_append.1 hp with h | h
  · exact (h3 p h).grown hO hg
  · rw [List.mem_singleton] at h
    rw [h]; exact hx.grown hO hg
theorem LV.lt {w : World} {b : Nat} {v : Value} (h : LV w b v) : b < w.heap.size := (Array.getElem?_eq_some_iff.1 h).1
theorem SV.lt {w : World} {b : Nat} {x y : Int} (h : SV w b x y) : b < w.heap.size := (Array.getElem?_eq_some_iff.1 h).1
theorem LV.turn {w w' : World} {b : Nat} {v : Value} {S : List Nat} (h : LV w b v) (ht : Turn S w w') (hs : b ∉ S) : LV w' b v := (ht.block b h.lt hs).trans h
theorem SV.turn {w w' : World} {b : Nat} {x y : Int} {S : List Nat} (h : SV w b x y) (ht : Turn S w w') (hs : b ∉ S) : SV w' b x y := (ht.block b h.lt hs).trans h
theorem LV.cell {w : World} {b : Nat} {v : Value} (h : LV w b v) : w.cell? ⟨b, 0, none⟩ = some v := by have h' : w.heap[b]? = _ := h; simp [World.cell?, h']
theorem LV.free {w : World} {b : Nat} {v : Value} (h : LV w b v) : w.frozen? ⟨b, 0, none⟩ = false := frozen_of_row w b 0 _ _ h
theorem SV.cells {w : World} {b : Nat} {x y : Int} (h : SV w b x y) : w.cell? ⟨b, 0, none⟩ = some (.int .i64 x) ∧ w.cell? ⟨b, 1, none⟩ = some (.int .i64 y) := by
  have h' : w.heap[b]? = _ := h
  exact ⟨by simp [World.cell?, h'], by simp [World.cell?, h']⟩
theorem SV.free {w : World} {b : Nat} {x y : Int} (h : SV w b x y) (j : Nat) : w.frozen? ⟨b, j, none⟩ = false := frozen_of_row w b j _ _ h
theorem LV.set {w : World} {b : Nat} {v : Value} (h : LV w b v) (u : Value) : LV (w.setCell ⟨b, 0, none⟩ u) b u := by
  unfold LV
  rw [heap_setCell_same w b 0 _ 41 _ h]
  rfl

theorem SV.set {w : World} {b : Nat} {x y : Int} (h : SV w b x y) (x' y' : Int) : SV ((w.setCell ⟨b, 0, none⟩ (.int .i64 x')).setCell ⟨b, 1, none⟩ (.int .i64 y')) b x' y' := by
  unfold SV
  have h4 := heap_setCell_same _ b 0 _ 28 (.int .i64 x') h
  rw [heap_setCell_same _ b 1 _ 28 (.int .i64 y') h4]
  rfl
/-- the world in which Lines' loop begins -/
def startW (w : World) (s : ByteArray) : World := ((w.alloc (.cells #[.slice none 0 0] 41)).alloc (.cells #[.int .i64 0, .int .i64 0] 28)).alloc (.cells #[.string s, .int .i64 0, .int .i64 1, .int .i64 0] 78)
theorem start3 (w : World) (s : ByteArray) : LV (startW w s) w.heap.size (.slice none 0 0) ∧ SV (startW w s) (w.heap.size + 1) 0 0 ∧ Rd (startW w s) (w.heap.size + 2) s 0 ∧ Turn [] w (startW w s) ∧ (startW w s).heap.size = w.heap.size + 3 := by
  have hA : LV (w.alloc (.cells #[.slice none 0 0] 41)) w.heap.size (.slice none 0 0) := heap_alloc_new w _
  have hB := heap_alloc_new (w.alloc (.cells #[.slice none 0 0] 41)) (.cells #[.int .i64 0, .int .i64 0] 28)
  have s1 : (w.alloc (.cells #[.slice none 0 0] 41)).heap.size = w.heap.size + 1 := Array.size_push ..
  rw [s1] at hB
  have hC := heap_alloc_new ((w.alloc (.cells #[.slice none 0 0] 41)).alloc (.cells #[.int .i64 0, .int .i64 0] 28)) (.cells #[.string s, .int .i64 0, .int .i64 1, .int .i64 0] 78)
  have s2 : ((w.alloc (.cells #[.slice none 0 0] 41)).alloc (.cells #[.int .i64 0, .int .i64 0] 28)).heap.size = w.heap.size + 2 := by
    have : ((w.alloc (.cells #[.slice none 0 0] 41)).alloc (.cells #[.int .i64 0, .int .i64 0] 28)).heap.size = (w.alloc (.cells #[.slice none 0 0] 41)).heap.size + 1 := Array.size_push ..
    omega
  rw [s2] at hC
  have s3 : (startW w s).heap.size = ((w.alloc (.cells #[.slice none 0 0] 41)).alloc (.cells #[.int .i64 0, .int .i64 0] 28)).heap.size + 1 := Array.size_push ..
  refine ⟨(hA.turn ((Turn.refl [] _).alloc _) (by simp)).turn ((Turn.refl [] _).alloc _) (by simp), SV.turn hB ((Turn.refl [] _).alloc _) (by simp), hC, (((Turn.refl [] w).alloc _).alloc _).alloc _, by omega⟩

set_option maxRecDepth 100000 in
theorem results_lines {tmps : Array Value} {b1 b2 : Nat} {W : World} {v : Value} {x y : Int} (h2 : tmps.getD 2 undef = .pointer (some ⟨b1, 0, none⟩)) (h3 : tmps.getD 3 undef = .pointer (some ⟨b2, 0, none⟩)) (hV : LV W b1 v) (hS : SV W b2 x y) :
    (results Tryd.f20 tmps).run Tryd.prog W = .ok (.tuple #[v, .agg #[.int .i64 x, .int .i64 y]]) W := by
  have c0 := hV.cell
  obtain ⟨d0, d1⟩ := hS.cells
  have h2' : tmps[2]?.getD undef = .pointer (some ⟨b1, 0, none⟩) := by simpa using h2
  have h3' : tmps[3]?.getD undef = .pointer (some ⟨b2, 0, none⟩) := by simpa using h3
  simp [results, Tryd.results20, h2', h3', go_sem, c0, d0, d1]

/-- how Lines ends -/
def LsEnd (s : ByteArray) (B : Nat) (e : Ending) (w' : World) : Lx.R Nat (List (Lx.Ln Nat)) → Prop
  | .bad a => e = .returned (.tuple #[.slice none 0 0, .agg #[.int .i64 6, .int .i64 (a : Int)]])
  | .ok ls => ∃ v, e = .returned (.tuple #[v, .agg #[.int .i64 0, .int .i64 0]]) ∧ LnsOwn w' B v (ls.map (Lx.toldL (bs s)))

set_option maxRecDepth 100000 in
set_option maxHeartbeats 4000000 in
theorem Lines_any (s : ByteArray) (w : World) (hs : s.size ≤ 32768) :
    Calls Tryd.prog 20 #[.string s] w fun e w' => LsEnd s w.heap.size e w' (Lx.lex (bs s)) ∧ Below w.heap.size w w' := by
  have hmf : ∀ (fn : Fn) (first cap : Array Value) (w : World), (Instr.makeFunc fn first cap).run Tryd.prog w = .ok (.func fn first cap) w := fun _ _ _ _ => rfl
  obtain ⟨R, hR0⟩ : ∃ R, Lx.lex (bs s) = R := ⟨_, rfl⟩
  have HR0 : Hid (R = Lx.lns (Lx.dn s 0)) := hR0.symm.trans (Lx.lex_dn s)
  rw [hR0]
  clear hR0
  have i0 : ¬ (32768 : Int) < (s.size : Int) := by omega
  go_enter_defers Tryd.func20, Tryd.ntmps20
  go_wp2
  have hst := start3 w s
  unfold startW at hst
  generalize ((w.alloc (.cells #[.slice none 0 0] 41)).alloc (.cells #[.int .i64 0, .int .i64 0] 28)).alloc (.cells #[.string s, .int .i64 0, .int .i64 1, .int .i64 0] 78) = W0 at *
  obtain ⟨hV0, hS0, hRd0, hT0, hz0⟩ := hst
  have HZ0 : Hid _ := hz0
  clear hz0
  go_loopw [14] (fun _ X => ∃ (v : Value) (j : Nat) (done : List (Lx.Ln Nat)), Rd X (w.heap.size + 2) s j ∧ j ≤ s.size ∧ LV X w.heap.size v ∧ SV X (w.heap.size + 1) 0 0 ∧ LnsOwn X (w.heap.size + 3) v (done.map (Lx.toldL (bs s))) ∧ done.length ≤ j ∧ Hid (R = (Lx.lns (Lx.dn s j)).map id (done ++ ·)) ∧ Turn [] w X ∧ w.heap.size + 3 ≤ X.heap.size) (fun _ X => s.size - rdAt X (w.heap.size + 2))
  case atStart => exact ⟨_, 0, [], hRd0, Nat.zero_le _, hV0, hS0, LnsOwn.nil _ _, Nat.le_refl _, by show _ = _; rw [HR0.out]; cases Lx.lns (Lx.dn s 0) <;> rfl, hT0, by rw [HZ0.out]; exact Nat.le_refl _⟩
  case round =>
    clear hV0 hS0 hRd0 hT0
    obtain ⟨v, j, done, hR, hj, hV, hS, hL, hdl, HQ, hT, hz⟩ := hrel
    have hat := hR.at_
    have HAT : Hid _ := hat
    clear hat
    have c1 := RdC.cell1 hR
    rcases Nat.lt_or_ge j s.size with hlt | hge
    · have i3 : (j : Int) < (s.size : Int) := by omega
      have hlo := logical_any _ (w.heap.size + 2) s j hR hlt hs
      have HQ1 : Hid _ := Lx.lns_at hlt
      cases hU : Lx.line (Lx.ln s j) with
      | bad a =>
        rw [hU] at hlo HQ1
        have HE : Hid (R = .bad a) := by
          show _ = _
          rw [HQ.out, HQ1.out]; rfl
        clear HQ HQ1 hU
        go_wp2_with fail
        refine hlo.mono ?_
        rintro e w1 ⟨hq, hT4⟩
        simp only [LEnd, thrown] at hq
        subst hq
        have hV1 := hV.turn hT4 (by simp)
        have hS1 := hS.turn hT4 (by simp)
        go_wp2
        refine leaves_cons (f := 36) (args := #[.pointer (some ⟨w.heap.size, 0, none⟩), .pointer (some ⟨w.heap.size + 1, 0, none⟩)]) (by simp) (by simp [go_sem]) ?_
        refine (catch_thrown w.heap.size (w.heap.size + 1) _ _ _ _ _ _ [] hV1 hS1 (by omega)).mono ?_
        rintro e u' w2 ⟨rfl, rfl, hV2, hS2, hT5⟩
        refine ⟨_, results_lines rfl rfl hV2 hS2, ?_, ?_⟩
        · rw [HE.out]; rfl
        · exact ((hT.trans hT4 (by simp only [List.mem_singleton]; omega)).trans hT5 (by simp only [List.mem_cons, List.not_mem_nil, or_false]; omega)).below (by simp)
      | ok iw =>
        obtain ⟨ind, ws⟩ := iw
        rw [hU] at hlo HQ1
        clear hU
        go_wp2_with fail
        refine hlo.mono ?_
        rintro e w1 ⟨⟨ad, n, c, j', rfl, hO, hR1, hjj, hj1, hwl, hdn⟩, hT4⟩
        have HQ2 : Hid (R = (Lx.lns (Lx.dn s j')).map id ((done ++ (if ws = [] then [] else [⟨j, ind, ws⟩])) ++ ·)) := by
          show _ = _
          rw [HQ.out, HQ1.out]
          simp only [Lx.R.andThen]
          rw [hdn, Lx.R.map_map]
          congr 1
          funext l
          simp only [Function.comp]
          split <;> simp
        clear HQ HQ1 hdn hlo
        obtain ⟨ad', c', e, hcl⟩ := hO.sl.shape
        simp only [Value.slice.injEq, List.length_map] at e
        obtain ⟨rfl, rfl, rfl⟩ := e
        have hV1 := hV.turn hT4 (by simp)
        have hS1 := hS.turn hT4 (by simp)
        have HBL : Hid (∀ g, (Value.slice ad ws.length c).ownBlock = some g → wr.heap.size ≤ g) := fun g e => (hO.lt g e).1
        have HOL : Hid (∃ ps : List (RawL × Lx.L), LnR.Own w1 (w.heap.size + 3) v (ps.map Prod.fst) ∧ done.map (Lx.toldL (bs s)) = ps.map Prod.snd ∧ (∀ p ∈ ps, LineOf w1 (w.heap.size + 3) p.1 p.2) ∧ ps.Pairwise Apart ∧ ∀ p ∈ ps, ∀ g, p.1.words.ownBlock = some g → g < wr.heap.size) := by
          obtain ⟨ps, h1, h2, h3, h4⟩ := hL
          exact ⟨ps, row_turn h1 hT4 (by omega), h2, (fun q hq => ⟨(h3 q hq).1, (h3 q hq).2.1, row_turn (h3 q hq).2.2 hT4 (by omega)⟩), h4, fun p hp g e => ((h3 p hp).2.2.lt g e).2⟩
        have hL1 := hL.turn1 hT4 (by omega)
        have hT5 : Turn [] w w1 := hT.trans hT4 (by simp only [List.mem_singleton]; omega)
        have hz1 := Nat.le_trans hz hT4.size
        have hO1 := hO.low (B' := w.heap.size + 3) hz
        clear hV hS hL hT hT4 hO hR c1
        obtain ⟨num, hnum⟩ : ∃ num, (Lx.place (bs s) j).1 = num := ⟨_, rfl⟩
        have HNUM : Hid _ := hnum
        rw [hnum]
        clear hnum
        have hV2 := hV1.turn ((Turn.refl [] w1).alloc (.cells #[.int .i64 (num : Int), .bool ind, .slice ad ws.length c] 46)) (by simp)
        have hS2 := hS1.turn ((Turn.refl [] w1).alloc (.cells #[.int .i64 (num : Int), .bool ind, .slice ad ws.length c] 46)) (by simp)
        have hL2 := hL1.alloc (.cells #[.int .i64 (num : Int), .bool ind, .slice ad ws.length c] 46)
        have HOL2 : Hid (∃ ps : List (RawL × Lx.L), LnR.Own (w1.alloc (.cells #[.int .i64 (num : Int), .bool ind, .slice ad ws.length c] 46)) (w.heap.size + 3) v (ps.map Prod.fst) ∧ done.map (Lx.toldL (bs s)) = ps.map Prod.snd ∧ (∀ p ∈ ps, LineOf (w1.alloc (.cells #[.int .i64 (num : Int), .bool ind, .slice ad ws.length c] 46)) (w.heap.size + 3) p.1 p.2) ∧ ps.Pairwise Apart ∧ ∀ p ∈ ps, ∀ g, p.1.words.ownBlock = some g → g < wr.heap.size) := by
          obtain ⟨ps, h1, h2, h3, h4, h5⟩ := HOL.out
          exact ⟨ps, h1.alloc _, h2, (fun p hp => (h3 p hp).alloc _), h4, h5⟩
        clear HOL
        have hT6 := hT5.alloc (.cells #[.int .i64 (num : Int), .bool ind, .slice ad ws.length c] 46)
        have hO2 := hO1.alloc (.cells #[.int .i64 (num : Int), .bool ind, .slice ad ws.length c] 46)
        have hR2 := hR1.alloc (.cells #[.int .i64 (num : Int), .bool ind, .slice ad ws.length c] 46)
        have hB2 : LBk (w1.alloc (.cells #[.int .i64 (num : Int), .bool ind, .slice ad ws.length c] 46)) w1.heap.size (num : Int) ind (.slice ad ws.length c) := heap_alloc_new w1 _
        have hz2 : w.heap.size + 3 ≤ (w1.alloc (.cells #[.int .i64 (num : Int), .bool ind, .slice ad ws.length c] 46)).heap.size := Nat.le_trans hz1 ((Turn.refl [] w1).alloc _).size
        go_upto_if 23 with fail
        clear hV1 hS1 hL1 hT5 hO1 hR1
        generalize w1.alloc (.cells #[.int .i64 (num : Int), .bool ind, .slice ad ws.length c] 46) = Y at *
        by_cases hws : ws = []
        · rw [if_pos hws, List.append_nil] at HQ2
          have i5 : ¬ (0 : Int) < (ws.length : Int) := by rw [hws]; simp
          clear hws
          have hat2 := hR2.at_
          go_wp2
          exact ⟨⟨_, j', done, hR2, hj1, hV2, hS2, hL2, by omega, HQ2, hT6, hz2⟩, by rw [hat2, HAT.out]; omega⟩
        · rw [if_neg hws] at HQ2
          have i5 : (0 : Int) < (ws.length : Int) := by have := List.length_pos_iff.2 hws; omega
          clear hws
          obtain ⟨k0, k1, k2⟩ := hB2.cells
          have m0 := hV2.cell
          clear hL2
          obtain ⟨ps, hP1, hP2, hP3, hP5, hP6⟩ := HOL2.out
          have HAP : Hid (∀ p ∈ ps, Apart p (⟨(num : Int), ind, ad, ws.length, c⟩, Lx.toldL (bs s) ⟨j, ind, ws⟩)) := fun p hp g e1 e2 => by
            have h1 := hP6 p hp g e1
            have h2 := HBL.out g e2
            omega
          have HP5 : Hid _ := hP5
          clear hP5 hP6 HOL2 HBL
          obtain ⟨a5, n5, c5, rfl⟩ := hP1.isSl
          have HPL : Hid (ps.length = done.length) := by
            show _ = _
            have := congrArg List.length hP2
            simp only [List.length_map] at this
            omega
          have HP2 : Hid _ := hP2
          clear hP2
          have hL4 := LnR.lit Y ⟨(num : Int), ind, ad, ws.length, c⟩ #[.int .i64 (num : Int), .bool ind, .slice ad ws.length c] rfl
          have hO4 := Rc.Own.alloc hP1 (.cells #[.int .i64 (num : Int), .bool ind, .slice ad ws.length c] 46)
          have hP4 : ∀ p ∈ ps, LineOf (Y.alloc (.cells #[.int .i64 (num : Int), .bool ind, .slice ad ws.length c] 46)) (w.heap.size + 3) p.1 p.2 := fun p hp => (hP3 p hp).alloc _
          have hx4 : LineOf (Y.alloc (.cells #[.int .i64 (num : Int), .bool ind, .slice ad ws.length c] 46)) (w.heap.size + 3) ⟨(num : Int), ind, ad, ws.length, c⟩ (Lx.toldL (bs s) ⟨j, ind, ws⟩) := by
            refine LineOf.alloc ⟨?_, rfl, hO2⟩ _
            show (num : Int) = ((Lx.place (bs s) j).1 : Int)
            rw [HNUM.out]
          have hR4 := hR2.alloc (.cells #[.int .i64 (num : Int), .bool ind, .slice ad ws.length c] 46)
          have hT7 := hT6.alloc (.cells #[.int .i64 (num : Int), .bool ind, .slice ad ws.length c] 46)
          have hV4 := hV2.turn ((Turn.refl [] Y).alloc (.cells #[.int .i64 (num : Int), .bool ind, .slice ad ws.length c] 46)) (by simp)
          have hS4 := hS2.turn ((Turn.refl [] Y).alloc (.cells #[.int .i64 (num : Int), .bool ind, .slice ad ws.length c] 46)) (by simp)
          have hz4 : w.heap.size + 3 ≤ (Y.alloc (.cells #[.int .i64 (num : Int), .bool ind, .slice ad ws.length c] 46)).heap.size := Nat.le_trans hz2 ((Turn.refl [] Y).alloc _).size
          have HLn : Hid ((ps.map Prod.fst).length + ([⟨(num : Int), ind, ad, ws.length, c⟩] : List RawL).length ≤ 1099511627) := by
            show _ ≤ _
            have := HPL.out
            simp only [List.length_cons, List.length_nil, List.length_map]; omega
          clear hV2 hS2 hR2 hT6 hO2 hP3 hP1
          go_wp2_with (at_builtin; go_must (refine LnR.append rfl _ _ rfl (w.heap.size + 3) (Y.heap.size + 1) _ _ (ps.map Prod.fst) [⟨(num : Int), ind, ad, ws.length, c⟩] rfl hO4 rfl hL4 HLn hz4 ?_))
          intro v5 w5 hO5 hg5
          have hL5 := LnsOwn.pushed hO4 hP4 hx4 hO5 hg5 HP5.out HAP.out
          rw [← HP2.out] at hL5
          have hap : ∀ q, q < w.heap.size + 3 → q ∉ (Value.slice a5 n5 c5).ownBlock.toList := fun q hq => row_apart hO4 hq
          have hR5 := hR4.turn (Turn.of_grown hg5) (hap _ (by omega))
          have hV5 := hV4.turn (Turn.of_grown hg5) (hap _ (by omega))
          have hS5 := hS4.turn (Turn.of_grown hg5) (hap _ (by omega))
          have hT8 : Turn [] w w5 := hT7.grow hg5 fun x hx hl => by
            have := (World.ownsRow.lt hO4 x hx).1
            omega
          have hz5 := Nat.le_trans hz4 hg5.size
          clear hO4 hL4 hP4 hx4 hR4 hT7 hV4 hS4 HLn hg5 hO5 hap k0 k1 k2 m0
          have m0 := hV5.cell
          have n0 := hV5.free
          obtain ⟨a6, n6, c6, rfl⟩ := hL5.isSl
          have hV6 := hV5.set (.slice a6 n6 c6)
          have hR6 := hR5.set_other (j := 0) (r := w.heap.size) (by omega) (.slice a6 n6 c6)
          have hS6 := hS5.turn (Turn.set1 w5 w.heap.size 0 (.slice a6 n6 c6)) (by simp)
          have hT9 := hT8.setn (Nat.le_refl _) 0 (.slice a6 n6 c6)
          have hL6 := hL5.turn1 (Turn.set1 w5 w.heap.size 0 (.slice a6 n6 c6)) (by omega)
          have hz6 : w.heap.size + 3 ≤ (w5.setCell ⟨w.heap.size, 0, none⟩ (.slice a6 n6 c6)).heap.size := Nat.le_trans hz5 (Turn.set1 w5 w.heap.size 0 _).size
          have hat6 := hR6.at_
          go_wp2
          refine ⟨⟨_, j', done ++ [⟨j, ind, ws⟩], hR6, hj1, hV6, hS6, ?_, by simp only [List.length_append, List.length_cons, List.length_nil]; omega, HQ2, hT9, hz6⟩, by rw [hat6, HAT.out]; omega⟩
          rw [List.map_append]
          exact hL6
    · have i3 : ¬ (j : Int) < (s.size : Int) := by omega
      have HE : Hid (R = .ok done) := by
        show _ = _
        rw [HQ.out, Lx.dn_end hge, Lx.lns]
        simp [Lx.R.map]
      obtain ⟨a6, n6, c6, rfl⟩ := hL.isSl
      have m0 := hV.cell
      have n0 := hV.free
      obtain ⟨o0, o1⟩ := hS.cells
      have f0 := hS.free 0
      have f1 := hS.free 1
      have hV6 := ((hV.set (.slice a6 n6 c6)).turn (Turn.set1 _ (w.heap.size + 1) 0 (.int .i64 0)) (by simp)).turn (Turn.set1 _ (w.heap.size + 1) 1 (.int .i64 0)) (by simp)
      have hS6 := (hS.turn (Turn.set1 wr w.heap.size 0 (.slice a6 n6 c6)) (by simp)).set 0 0
      have hT9 := ((hT.setn (Nat.le_refl _) 0 (.slice a6 n6 c6)).setn (g := w.heap.size + 1) (by omega) 0 (.int .i64 0)).setn (g := w.heap.size + 1) (by omega) 1 (.int .i64 0)
      have hL6 := ((hL.turn1 (Turn.set1 wr w.heap.size 0 (.slice a6 n6 c6)) (by omega)).turn1 (Turn.set1 _ (w.heap.size + 1) 0 (.int .i64 0)) (by omega)).turn1 (Turn.set1 _ (w.heap.size + 1) 1 (.int .i64 0)) (by omega)
      clear HQ
      go_wp2
      refine leaves_cons (f := 36) (args := #[.pointer (some ⟨w.heap.size, 0, none⟩), .pointer (some ⟨w.heap.size + 1, 0, none⟩)]) (by simp) (by simp [go_sem]) ?_
      refine (catch_idle w.heap.size (w.heap.size + 1) _).mono ?_
      rintro e u' w2 ⟨rfl, rfl, rfl⟩
      refine ⟨_, results_lines rfl rfl hV6 hS6, ?_, hT9.below (by simp)⟩
      rw [HE.out]
      exact ⟨_, rfl, hL6.low (by omega)⟩

end Go.Proofs.YtfgdlnidfkjbdaaDoor
