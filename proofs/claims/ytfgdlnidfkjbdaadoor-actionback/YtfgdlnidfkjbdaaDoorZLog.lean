/-
  THE READER: a logical line.
-/
import Derived.Test.YtfgdlnidfkjbdaaDoorZWords
import Derived.Defers
import Derived.Recover
namespace Go.Proofs.YtfgdlnidfkjbdaaDoor
open Go.RowKit

/-- block g is a line -/
def LBk (w : World) (g : Nat) (num : Int) (ind : Bool) (v : Value) : Prop := w.heap[g]? = some (.cells #[.int .i64 num, .bool ind, v] 46 (0, 0))
theorem LBk.cells {w : World} {g : Nat} {num : Int} {ind : Bool} {v : Value} (h : LBk w g num ind v) : w.cell? ⟨g, 0, none⟩ = some (.int .i64 num) ∧ w.cell? ⟨g, 1, none⟩ = some (.bool ind) ∧ w.cell? ⟨g, 2, none⟩ = some v := by
  have h' : w.heap[g]? = _ := h
  refine ⟨?_, ?_, ?_⟩ <;> simp [World.cell?, h']
theorem LBk.free {w : World} {g : Nat} {num : Int} {ind : Bool} {v : Value} (h : LBk w g num ind v) (j : Nat) : w.frozen? ⟨g, j, none⟩ = false := frozen_of_row w g j _ 46 h
theorem LBk.lt {w : World} {g : Nat} {num : Int} {ind : Bool} {v : Value} (h : LBk w g num ind v) : g < w.heap.size := (Array.getElem?_eq_some_iff.1 h).1
theorem LBk.turn {w w' : World} {g : Nat} {num : Int} {ind : Bool} {v : Value} {S : List Nat} (h : LBk w g num ind v) (ht : Turn S w w') (hs : g ∉ S) : LBk w' g num ind v := (ht.block g h.lt hs).trans h
theorem LBk.set0 {w : World} {g : Nat} {num : Int} {ind : Bool} {v : Value} (h : LBk w g num ind v) (m : Int) : LBk (w.setCell ⟨g, 0, none⟩ (.int .i64 m)) g m ind v := by
  unfold LBk
  rw [heap_setCell_same w g 0 _ 46 _ h]
  rfl
theorem LBk.set1 {w : World} {g : Nat} {num : Int} {ind : Bool} {v : Value} (h : LBk w g num ind v) (b : Bool) : LBk (w.setCell ⟨g, 1, none⟩ (.bool b)) g num b v := by
  unfold LBk
  rw [heap_setCell_same w g 1 _ 46 _ h]
  rfl
theorem LBk.set2 {w : World} {g : Nat} {num : Int} {ind : Bool} {v : Value} (h : LBk w g num ind v) (u : Value) : LBk (w.setCell ⟨g, 2, none⟩ u) g num ind u := by
  unfold LBk
  rw [heap_setCell_same w g 2 _ 46 _ h]
  rfl

/-- how logical ends -/
def LEnd (p : Nat) (s : ByteArray) (k B : Nat) (e : Ending) (w' : World) : Lx.R Nat (Bool × List (Lx.W Nat)) → Prop
  | .bad a => e = thrown a
  | .ok (ind, ws) => ∃ ad n c j, e = .returned (.agg #[.int .i64 ((Lx.place (bs s) k).1 : Int), .bool ind, .slice ad n c]) ∧ WdR.Own w' B (.slice ad n c) (ws.map (Lx.told (bs s))) ∧ Rd w' p s j ∧ k < j ∧ j ≤ s.size ∧ ws.length ≤ s.size ∧ (Lx.bh s k).drop 1 = Lx.dn s j

set_option maxRecDepth 100000 in
set_option maxHeartbeats 4000000 in
theorem logical_any (w : World) (p : Nat) (s : ByteArray) (k : Nat) (h : Rd w p s k) (hk : k < s.size) (hs : s.size ≤ 32768) :
    Calls Tryd.prog 37 #[.pointer (some ⟨p, 0, none⟩)] w fun e w' => LEnd p s k w.heap.size e w' (Lx.line (Lx.ln s k)) ∧ Turn [p] w w' := by
  obtain ⟨R, hR0⟩ : ∃ R, Lx.line (Lx.ln s k) = R := ⟨_, rfl⟩
  have HR0 : Hid _ := hR0
  rw [hR0]
  clear hR0
  have hpw := h.lt
  have hR' := h
  unfold Rd at hR'
  obtain ⟨pl, hl⟩ : ∃ l, (Lx.place (bs s) k).1 = l := ⟨_, rfl⟩
  have HPL : Hid _ := hl
  rw [hl] at hR'
  clear hl
  have c0 := RdC.cell0 hR'
  have c1 := RdC.cell1 hR'
  have c2 := RdC.cell2 hR'
  have i3 : (k : Int) < (s.size : Int) := by omega
  clear hR'
  go_enter Tryd.func37, Tryd.ntmps37
  go_wp2_with fail
  have hW0 : LBk (w.alloc (.cells #[.int .i64 0, .bool false, .slice none 0 0] 46)) w.heap.size 0 false (.slice none 0 0) := heap_alloc_new w _
  have hW1 := hW0.turn ((Turn.refl [] _).alloc (.cells #[.int .i64 (pl : Int), .bool false, .slice none 0 0] 46)) (by simp)
  have hW2 : LBk ((w.alloc (.cells #[.int .i64 0, .bool false, .slice none 0 0] 46)).alloc (.cells #[.int .i64 (pl : Int), .bool false, .slice none 0 0] 46)) (w.heap.size + 1) (pl : Int) false (.slice none 0 0) := by
    have := heap_alloc_new (w.alloc (.cells #[.int .i64 0, .bool false, .slice none 0 0] 46)) (.cells #[.int .i64 (pl : Int), .bool false, .slice none 0 0] 46)
    rw [show (w.alloc (.cells #[.int .i64 0, .bool false, .slice none 0 0] 46)).heap.size = w.heap.size + 1 from Array.size_push ..] at this
    exact this
  have hT0 := ((Turn.refl [] w).alloc (.cells #[.int .i64 0, .bool false, .slice none 0 0] 46)).alloc (.cells #[.int .i64 (pl : Int), .bool false, .slice none 0 0] 46)
  clear hW0
  go_quiet (fail)
  have hW3 : LBk (((w.alloc (.cells #[.int .i64 0, .bool false, .slice none 0 0] 46)).alloc (.cells #[.int .i64 (pl : Int), .bool false, .slice none 0 0] 46)).drewN nq) w.heap.size 0 false (.slice none 0 0) := hW1
  have hW4 : LBk (((w.alloc (.cells #[.int .i64 0, .bool false, .slice none 0 0] 46)).alloc (.cells #[.int .i64 (pl : Int), .bool false, .slice none 0 0] 46)).drewN nq) (w.heap.size + 1) (pl : Int) false (.slice none 0 0) := hW2
  have hT1 := hT0.drewN nq
  clear hW1 hW2 hT0 c0 c1 c2
  generalize ((w.alloc (.cells #[.int .i64 0, .bool false, .slice none 0 0] 46)).alloc (.cells #[.int .i64 (pl : Int), .bool false, .slice none 0 0] 46)).drewN nq = W at *
  have hR1 := h.turn hT1 (by simp)
  have hT2 : Turn [p] w W := hT1.mono (by simp)
  clear hT1
  go_upto_if 18 with fail
  go_cut [20] (fun _ X => ∃ (k1 : Nat) (ind : Bool), Rd X p s k1 ∧ k ≤ k1 ∧ k1 ≤ s.size ∧ Hid (R = (Lx.rd (Lx.ln s k1)).map id (ind, ·)) ∧ Hid (Lx.bh s k = Lx.bh s k1) ∧ LBk X w.heap.size 0 false (.slice none 0 0) ∧ LBk X (w.heap.size + 1) (pl : Int) ind (.slice none 0 0) ∧ Turn [p] w X)
  case first =>
    by_cases hx : s[k] = 9
    · have e9 : ((s[k].toNat : Int) == 9) = true := byte_eq hx
      have HL : Hid (R = (Lx.rd (Lx.ln s (k + 1))).map id (true, ·)) := HR0.out.symm.trans (Lx.line_tab hk hx)
      have HB : Hid (Lx.bh s k = Lx.bh s (k + 1)) := (Lx.ln_one hk (Lx.not_join (h := hk) (by rw [hx]; decide)) (by rw [hx]; decide)).2
      clear hx
      obtain ⟨k0, k1, k2⟩ := hW4.cells
      have f1 := hW4.free 1
      have hW5 := hW4.set1 true
      have hW6 := hW3.turn (Turn.set1 W (w.heap.size + 1) 1 (.bool true)) (by simp)
      have hR2 := hR1.set_other (j := 1) (r := w.heap.size + 1) (by omega) (.bool true)
      have hT3 := hT2.setn (g := w.heap.size + 1) (by omega) 1 (.bool true)
      go_wp2_with fail
      refine (pass_any _ p s k hR2 hk hs).mono ?_
      rintro e w2 ⟨rfl, hR3, hT4⟩
      go_wp2
      go_meet
      case rel => exact ⟨k + 1, true, hR3, by omega, by omega, HL, HB, hW6.turn hT4 (by simp only [List.mem_singleton]; omega), hW5.turn hT4 (by simp only [List.mem_singleton]; omega), hT3.trans hT4 (by simp)⟩
    · have e9 : ((s[k].toNat : Int) == 9) = false := byte_ne hx
      have HL : Hid (R = (Lx.rd (Lx.ln s k)).map id (false, ·)) := HR0.out.symm.trans (Lx.line_not hk hx)
      clear hx
      go_wp2
      go_meet
      case rel => exact ⟨k, false, hR1, Nat.le_refl _, by omega, HL, rfl, hW3, hW4, hT2⟩
  case rest =>
  obtain ⟨k1, ind, hR2, hkk, hk1, HL, HB, hW5, hW6, hT3⟩ := hcut
  clear hR1 hT2 hW3 hW4
  have hwo := words_any _ p s k1 hR2 hk1 hs
  cases hU : Lx.rd (Lx.ln s k1) with
  | bad a =>
    rw [hU] at hwo HL
    have HE : Hid (R = .bad a) := HL.out
    clear HL hU
    go_wp2_with fail
    refine hwo.mono ?_
    rintro e w1 ⟨hq, hT4⟩
    simp only [WEnd, thrown] at hq
    subst hq
    go_wp2
    refine ⟨rfl, ?_, hT3.trans hT4 (by simp)⟩
    rw [HE.out]; rfl
  | ok ws =>
    rw [hU] at hwo HL
    have HE : Hid (R = .ok (ind, ws)) := HL.out
    clear HL hU
    go_wp2_with fail
    refine hwo.mono ?_
    rintro e w1 ⟨⟨v, j, rfl, hO, hR3, hEn, hj1, hj2, hwl, hbh⟩, hT4⟩
    have HEn : Hid _ := hEn
    have HBH : Hid (Lx.bh s k = Lx.dn s j) := HB.out.trans hbh
    clear hEn hbh HB hwo
    obtain ⟨ad, n, c, rfl⟩ := hO.isSl
    have hX2 : w.heap.size + 1 < wc.heap.size := hW6.lt
    have hW7 := hW6.turn hT4 (by simp only [List.mem_singleton]; omega)
    have hW8 := hW5.turn hT4 (by simp only [List.mem_singleton]; omega)
    obtain ⟨k0, k1', k2⟩ := hW7.cells
    have f2 := hW7.free 2
    have hW9 := hW7.set2 (.slice ad n c)
    have hW10 := hW8.turn (Turn.set1 w1 (w.heap.size + 1) 2 (.slice ad n c)) (by simp)
    have hR4 := hR3.set_other (j := 2) (r := w.heap.size + 1) (by omega) (.slice ad n c)
    have hT5 := (hT3.trans hT4 (by simp)).setn (g := w.heap.size + 1) (by omega) 2 (.slice ad n c)
    have hO2 : WdR.Own (w1.setCell ⟨w.heap.size + 1, 2, none⟩ (.slice ad n c)) wc.heap.size (.slice ad n c) (ws.map (Lx.told (bs s))) := Row.turn hO (Turn.set1 w1 (w.heap.size + 1) 2 (.slice ad n c)) (fun g' e hm => by
      have := (hO.lt g' e).1
      simp only [List.mem_singleton] at hm
      omega)
    have hO3 := hO2
    go_wp2_with fail
    clear hW5 hW6 hW7 hW8 hR2 hR3 hT3 hT4 hO hO2 k0 k1' k2 f2
    generalize w1.setCell ⟨w.heap.size + 1, 2, none⟩ (.slice ad n c) = Y at *
    have c0 := RdC.cell0 hR4
    have c1 := RdC.cell1 hR4
    rcases Nat.lt_or_ge j s.size with hjl | hjl
    · have i4 : (j : Int) < (s.size : Int) := by omega
      have HDN : Hid ((Lx.bh s k).drop 1 = Lx.dn s (j + 1)) := by
        show _ = _
        rw [HBH.out]; exact Lx.ends_next HEn.out hjl
      clear HBH HEn
      go_quiet (fail)
      have hR5 : Rd (Y.drewN nq) p s j := hR4
      have hW11 : LBk (Y.drewN nq) (w.heap.size + 1) (pl : Int) ind (.slice ad n c) := hW9
      have hW12 : LBk (Y.drewN nq) w.heap.size 0 false (.slice none 0 0) := hW10
      have hT6 := hT5.drewN nq
      have hO4 : WdR.Own (Y.drewN nq) wc.heap.size (.slice ad n c) (ws.map (Lx.told (bs s))) := hO3
      clear hR4 hW9 hW10 hT5 hO3 c0 c1
      generalize Y.drewN nq = Z at *
      go_wp2_with fail
      refine (pass_any _ p s j hR5 hjl hs).mono ?_
      rintro e w2 ⟨rfl, hR6, hT7⟩
      have hW13 := hW11.turn hT7 (by simp only [List.mem_singleton]; omega)
      have hW14 := hW12.turn hT7 (by simp only [List.mem_singleton]; omega)
      have hT8 := hT6.trans hT7 (by simp)
      have hO5 := row_turn hO4 hT7 (by omega)
      obtain ⟨k0, k1', k2⟩ := hW13.cells
      obtain ⟨l0, l1, l2⟩ := hW14.cells
      have f0 := hW14.free 0
      have f1 := hW14.free 1
      have f2 := hW14.free 2
      clear hR5 hW11 hW12 hT6 hT7 hO4
      go_wp2
      have hF := ((hW14.set0 (pl : Int)).set1 ind).set2 (.slice ad n c)
      have hT9 := ((hT8.setn (Nat.le_refl _) 0 (.int .i64 (pl : Int))).setn (Nat.le_refl _) 1 (.bool ind)).setn (Nat.le_refl _) 2 (.slice ad n c)
      have hR7 := ((hR6.set_other (j := 0) (r := w.heap.size) (by omega) (.int .i64 (pl : Int))).set_other (j := 1) (r := w.heap.size) (by omega) (.bool ind)).set_other (j := 2) (r := w.heap.size) (by omega) (.slice ad n c)
      have hno : ∀ g', (Value.slice ad n c).ownBlock = some g' → g' ∉ [w.heap.size] := fun g' e hm => by
        have := (World.ownsRow.lt hO5 g' e).1
        simp only [List.mem_singleton] at hm
        omega
      have hO6 : WdR.Own _ wc.heap.size (.slice ad n c) (ws.map (Lx.told (bs s))) := Row.turn (Row.turn (Row.turn hO5 (Turn.set1 _ w.heap.size 0 (.int .i64 (pl : Int))) hno) (Turn.set1 _ w.heap.size 1 (.bool ind)) hno) (Turn.set1 _ w.heap.size 2 (.slice ad n c)) hno
      refine bodyPost_ret (results_cell_row (ty := 46) rfl _ _ w.heap.size _ _ _ _ rfl hF Tryd.underlying46 rfl (by kernel_rfl)) rfl ?_
      refine ⟨?_, hT9⟩
      rw [HE.out]
      exact ⟨ad, n, c, j + 1, by rw [HPL.out], hO6.low (by omega), hR7, by omega, by omega, hwl, HDN.out⟩
    · have i4 : ¬ (j : Int) < (s.size : Int) := by omega
      have HDN : Hid ((Lx.bh s k).drop 1 = Lx.dn s j) := by
        show _ = _
        rw [HBH.out, Lx.dn_end (by omega)]; rfl
      clear HBH HEn
      go_quiet (fail)
      have hR6 : Rd (Y.drewN nq) p s j := hR4
      have hW13 : LBk (Y.drewN nq) (w.heap.size + 1) (pl : Int) ind (.slice ad n c) := hW9
      have hW14 : LBk (Y.drewN nq) w.heap.size 0 false (.slice none 0 0) := hW10
      have hT8 := hT5.drewN nq
      have hO5 : WdR.Own (Y.drewN nq) wc.heap.size (.slice ad n c) (ws.map (Lx.told (bs s))) := hO3
      clear hR4 hW9 hW10 hT5 hO3 c0 c1
      generalize Y.drewN nq = Z at *
      obtain ⟨k0, k1', k2⟩ := hW13.cells
      obtain ⟨l0, l1, l2⟩ := hW14.cells
      have f0 := hW14.free 0
      have f1 := hW14.free 1
      have f2 := hW14.free 2
      go_wp2
      have hF := ((hW14.set0 (pl : Int)).set1 ind).set2 (.slice ad n c)
      have hT9 := ((hT8.setn (Nat.le_refl _) 0 (.int .i64 (pl : Int))).setn (Nat.le_refl _) 1 (.bool ind)).setn (Nat.le_refl _) 2 (.slice ad n c)
      have hR7 := ((hR6.set_other (j := 0) (r := w.heap.size) (by omega) (.int .i64 (pl : Int))).set_other (j := 1) (r := w.heap.size) (by omega) (.bool ind)).set_other (j := 2) (r := w.heap.size) (by omega) (.slice ad n c)
      have hno : ∀ g', (Value.slice ad n c).ownBlock = some g' → g' ∉ [w.heap.size] := fun g' e hm => by
        have := (World.ownsRow.lt hO5 g' e).1
        simp only [List.mem_singleton] at hm
        omega
      have hO6 : WdR.Own _ wc.heap.size (.slice ad n c) (ws.map (Lx.told (bs s))) := Row.turn (Row.turn (Row.turn hO5 (Turn.set1 _ w.heap.size 0 (.int .i64 (pl : Int))) hno) (Turn.set1 _ w.heap.size 1 (.bool ind)) hno) (Turn.set1 _ w.heap.size 2 (.slice ad n c)) hno
      refine bodyPost_ret (results_cell_row (ty := 46) rfl _ _ w.heap.size _ _ _ _ rfl hF Tryd.underlying46 rfl (by kernel_rfl)) rfl ?_
      refine ⟨?_, hT9⟩
      rw [HE.out]
      exact ⟨ad, n, c, j, by rw [HPL.out], hO6.low (by omega), hR7, by omega, by omega, hwl, HDN.out⟩

end Go.Proofs.YtfgdlnidfkjbdaaDoor

namespace Go.Proofs.YtfgdlnidfkjbdaaDoor
open Go.RowKit

/-- the variable lines -/
def LV (w : World) (b : Nat) (v : Value) : Prop := w.heap[b]? = some (.cells #[v] 41 (0, 0))
/-- a spot -/
def SV (w : World) (b : Nat) (x y : Int) : Prop := w.heap[b]? = some (.cells #[.int .i64 x, .int .i64 y] 28 (0, 0))

set_option maxRecDepth 100000 in
theorem catch_idle (b1 b2 : Nat) (w : World) :
    CallsD Tryd.prog 36 #[.pointer (some ⟨b1, 0, none⟩), .pointer (some ⟨b2, 0, none⟩)] .returning w fun e u' w' => e = .returned (.tuple #[]) ∧ u' = .returning ∧ w' = w := by
  refine callsD_of_wpS Tryd.func36 rfl fun c₀ cs hu => ?_
  apply wpS_seq
  apply wpS_region
  simp [wpOpsS, go_sem, recoverD, hu, Tryd.ntmps36, Exit.thenS]
  rw [show (#[Value.pointer (some ⟨b1, 0, none⟩), Value.pointer (some ⟨b2, 0, none⟩)] ++ ((Array.replicate 6 undef).setIfInBounds 1 Value.nilIface).setIfInBounds 0 Value.nilIface) = #[Value.pointer (some ⟨b1, 0, none⟩), Value.pointer (some ⟨b2, 0, none⟩), Value.nilIface, Value.nilIface, undef, undef, undef, undef] from rfl]
  refine wpS_of_wp ?_
  go_wp2
  cases c₀
  simp_all [bodyPostS, results, Tryd.results36]

set_option maxRecDepth 100000 in
theorem catch_thrown (b1 b2 : Nat) (w : World) (v : Value) (x y er a : Int) (older : List PanicEntry) (h1 : LV w b1 v) (h2 : SV w b2 x y) (hne : b1 ≠ b2) :
    CallsD Tryd.prog 36 #[.pointer (some ⟨b1, 0, none⟩), .pointer (some ⟨b2, 0, none⟩)] (.panicking ({ v := .iface 76 (.agg #[.int .i64 er, .int .i64 a]), recovered := false } :: older)) w fun e u' w' =>
      e = .returned (.tuple #[]) ∧ u' = .panicking ({ v := .iface 76 (.agg #[.int .i64 er, .int .i64 a]), recovered := true } :: older) ∧ LV w' b1 (.slice none 0 0) ∧ SV w' b2 er a ∧ Turn [b1, b2] w w' := by
  have k0 : w.cell? ⟨b1, 0, none⟩ = some v := by have h' : w.heap[b1]? = _ := h1; simp [World.cell?, h']
  have l0 : w.cell? ⟨b2, 0, none⟩ = some (.int .i64 x) := by have h' : w.heap[b2]? = _ := h2; simp [World.cell?, h']
  have l1 : w.cell? ⟨b2, 1, none⟩ = some (.int .i64 y) := by have h' : w.heap[b2]? = _ := h2; simp [World.cell?, h']
  have f0 : w.frozen? ⟨b1, 0, none⟩ = false := frozen_of_row w b1 0 _ _ h1
  have g0 : w.frozen? ⟨b2, 0, none⟩ = false := frozen_of_row w b2 0 _ _ h2
  have g1 : w.frozen? ⟨b2, 1, none⟩ = false := frozen_of_row w b2 1 _ _ h2
  refine callsD_of_wpS Tryd.func36 rfl fun c₀ cs hu => ?_
  apply wpS_seq
  apply wpS_region
  simp [wpOpsS, go_sem, recoverD, hu, Tryd.ntmps36, Exit.thenS]
  rw [show (#[Value.pointer (some ⟨b1, 0, none⟩), Value.pointer (some ⟨b2, 0, none⟩)] ++ ((Array.replicate 6 undef).setIfInBounds 1 (Value.iface 76 (Value.agg #[Value.int IntKind.i64 er, Value.int IntKind.i64 a]))).setIfInBounds 0 (Value.iface 76 (Value.agg #[Value.int IntKind.i64 er, Value.int IntKind.i64 a]))) = #[Value.pointer (some ⟨b1, 0, none⟩), Value.pointer (some ⟨b2, 0, none⟩), Value.iface 76 (Value.agg #[Value.int IntKind.i64 er, Value.int IntKind.i64 a]), Value.iface 76 (Value.agg #[Value.int IntKind.i64 er, Value.int IntKind.i64 a]), undef, undef, undef, undef] from rfl]
  refine wpS_of_wp ?_
  have hne' : b2 ≠ b1 := fun e => hne e.symm
  have hta : ∀ W : World, (Instr.typeAssert (.iface 76 (.agg #[.int .i64 er, .int .i64 a])) 20 76 false).run Tryd.prog W = .ok (.agg #[.int .i64 er, .int .i64 a]) W := fun _ => by kernel_rfl
  go_wp2_with fail
  go_region
  go_wp2
  refine ⟨rfl, _, rfl, .tuple #[], by simp [results, Tryd.results36, go_sem], rfl, rfl, ?_, ?_, ?_⟩
  · show (((w.setCell ⟨b1, 0, none⟩ (.slice none 0 0)).setCell ⟨b2, 0, none⟩ (.int .i64 er)).setCell ⟨b2, 1, none⟩ (.int .i64 a)).heap[b1]? = _
    rw [Below.heap_setCell _ _ _ _ hne, Below.heap_setCell _ _ _ _ hne, heap_setCell_same w b1 0 _ 41 _ h1]
    rfl
  · show (((w.setCell ⟨b1, 0, none⟩ (.slice none 0 0)).setCell ⟨b2, 0, none⟩ (.int .i64 er)).setCell ⟨b2, 1, none⟩ (.int .i64 a)).heap[b2]? = _
    have h3 : (w.setCell ⟨b1, 0, none⟩ (.slice none 0 0)).heap[b2]? = some (.cells #[.int .i64 x, .int .i64 y] 28 (0, 0)) := by rw [Below.heap_setCell _ _ _ _ hne']; exact h2
    have h4 := heap_setCell_same _ b2 0 _ 28 (.int .i64 er) h3
    rw [heap_setCell_same _ b2 1 _ 28 (.int .i64 a) h4]
    rfl
  · exact ((((Turn.refl [b1, b2] w).set (p := ⟨b1, 0, none⟩) (by simp) _).set (p := ⟨b2, 0, none⟩) (by simp) _).set (p := ⟨b2, 1, none⟩) (by simp) _).drew

end Go.Proofs.YtfgdlnidfkjbdaaDoor
