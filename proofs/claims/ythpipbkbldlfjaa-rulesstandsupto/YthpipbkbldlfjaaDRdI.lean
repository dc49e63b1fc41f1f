/-
  WHAT THE PROGRAM's readInclude DOES.
-/
import Derived.Test.YthpipbkbldlfjaaDRd
import Derived.Test.YthpipbkbldlfjaaKit
namespace Go.Proofs.Ythpipbkbldlfjaa
open Go.RowKit

/-- a line's value -/
def lnV (num : Int) (ind : Bool) (v : Value) : Value := .agg #[.int .i64 num, .bool ind, v]
/-- an item that was read: its rows are new -/
structure ItNew (w : World) (base : Nat) (r : RawI) (x : Rl.It) : Prop where
  kind : r.kind = x.kind
  line : r.line = x.line
  name : r.name = x.name
  targets : WdR.Own w base r.targets x.targets
  words : WdR.Own w base r.words x.words
  code : r.ca = none ∧ r.cn = 0 ∧ r.cc = 0 ∧ x.code = []
/-- how the reading of a line ends -/
def RdEnd (ws : List Lx.V) (base : Nat) (e : Ending) (w' : World) : Lx.R (Int × Nat) Rl.It → Prop
  | .bad x => e = .returned (.tuple #[itV noRaw, .agg (whCs x.1 (ws.getD x.2 Lx.noV).line (ws.getD x.2 Lx.noV).col)])
  | .ok x => ∃ r, e = .returned (.tuple #[itV r, .agg (whCs 0 0 0)]) ∧ ItNew w' base r x

/-- the world in which a line is read -/
def rdW (w : World) (num : Int) (ind : Bool) (v : Value) : World := ((w.alloc (.cells #[.int .i64 num, .bool ind, v] 48)).alloc (.cells (itCells noRaw) 33)).alloc (.cells (whCs 0 0 0) 26)
structure RdW (w Y : World) (num : Int) (ind : Bool) (v : Value) : Prop where
  num : Y.cell? ⟨w.heap.size, 0, none⟩ = some (.int .i64 num)
  ind : Y.cell? ⟨w.heap.size, 1, none⟩ = some (.bool ind)
  words : Y.cell? ⟨w.heap.size, 2, none⟩ = some v
  outs : Outs Y (w.heap.size + 1) (w.heap.size + 1 + 1) (itCells noRaw) (whCs 0 0 0)
  below : Below w.heap.size w Y
  size : Y.heap.size = w.heap.size + 3
theorem rdW_is (w : World) (num : Int) (ind : Bool) (v : Value) : RdW w (rdW w num ind v) num ind v := by
  have hz1 : (w.alloc (.cells #[.int .i64 num, .bool ind, v] 48)).heap.size = w.heap.size + 1 := Array.size_push ..
  have h0 := heap_alloc_new w (.cells #[.int .i64 num, .bool ind, v] 48)
  have h1 := heap_alloc_new (w.alloc (.cells #[.int .i64 num, .bool ind, v] 48)) (.cells (itCells noRaw) 33)
  have b1 := below_box w (.cells #[.int .i64 num, .bool ind, v] 48)
  rw [hz1] at h1
  unfold rdW
  generalize w.alloc (.cells #[.int .i64 num, .bool ind, v] 48) = W1 at *
  have hz2 : (W1.alloc (.cells (itCells noRaw) 33)).heap.size = w.heap.size + 1 + 1 := by rw [← hz1]; exact Array.size_push ..
  have b2 := b1.alloc (by omega) (.cells (itCells noRaw) 33)
  have h02 := (Below.heap_alloc W1 (.cells (itCells noRaw) 33) w.heap.size (by omega)).trans h0
  have h2 := heap_alloc_new (W1.alloc (.cells (itCells noRaw) 33)) (.cells (whCs 0 0 0) 26)
  rw [hz2] at h2
  generalize W1.alloc (.cells (itCells noRaw) 33) = W2 at *
  have h03 := (Below.heap_alloc W2 (.cells (whCs 0 0 0) 26) w.heap.size (by omega)).trans h02
  have h13 := (Below.heap_alloc W2 (.cells (whCs 0 0 0) 26) (w.heap.size + 1) (by omega)).trans h1
  refine ⟨?_, ?_, ?_, ⟨h13, h2⟩, b2.alloc (by omega) _, ?_⟩
  · simp [World.cell?, h03]
  · simp [World.cell?, h03]
  · simp [World.cell?, h03]
  · have : (W2.alloc (.cells (whCs 0 0 0) 26)).heap.size = W2.heap.size + 1 := Array.size_push ..
    omega
theorem RdW.after {w Y W : World} {num : Int} {ind : Bool} {v : Value} (h : RdW w Y num ind v) (hb : Below Y.heap.size Y W) : Outs W (w.heap.size + 1) (w.heap.size + 1 + 1) (itCells noRaw) (whCs 0 0 0) ∧ Below w.heap.size w W := by
  have hz := h.size
  exact ⟨h.outs.below hb (by omega) (by omega), h.below.trans (hb.mono (by omega))⟩
/-- both, stored -/
theorem Outs.put {W : World} {g1 g2 : Nat} {r0 : RawI} {e0 l0 c0 : Int} (h : Outs W g1 g2 (itCells r0) (whCs e0 l0 c0)) (hne : g1 ≠ g2) (r : RawI) (e l c : Int) :
    Outs ((((((((((W.setCell ⟨g1, 0, none⟩ (.int .i64 r.kind)).setCell ⟨g1, 1, none⟩ (.int .i64 r.line)).setCell ⟨g1, 2, none⟩ (.string (str r.name))).setCell ⟨g1, 3, none⟩ (.slice r.ta r.tn r.tc)).setCell ⟨g1, 4, none⟩ (.slice r.wa r.wn r.wc)).setCell ⟨g1, 5, none⟩ (.slice r.ca r.cn r.cc)).setCell ⟨g2, 0, none⟩ (.int .i64 e)).setCell ⟨g2, 1, none⟩ (.string .empty)).setCell ⟨g2, 2, none⟩ (.int .i64 l)).setCell ⟨g2, 3, none⟩ (.int .i64 c)) g1 g2 (itCells r) (whCs e l c) := by
  have h1 := h.it
  have h2 := h.wh
  unfold itCells at h1
  unfold whCs at h2
  have q1 := set6 (a0 := .int .i64 r.kind) (a1 := .int .i64 r.line) (a2 := .string (str r.name)) (a3 := .slice r.ta r.tn r.tc) (a4 := .slice r.wa r.wn r.wc) (a5 := .slice r.ca r.cn r.cc) h1
  have hne2 : g2 ≠ g1 := fun e => hne e.symm
  refine ⟨?_, set4 (x0 := .int .i64 e0) (x1 := .string .empty) (x2 := .int .i64 l0) (x3 := .int .i64 c0) ?_⟩
  · rw [heap_setCell_other _ _ _ _ hne, heap_setCell_other _ _ _ _ hne, heap_setCell_other _ _ _ _ hne, heap_setCell_other _ _ _ _ hne]
    exact q1
  · rw [heap_setCell_other _ _ _ _ hne2, heap_setCell_other _ _ _ _ hne2, heap_setCell_other _ _ _ _ hne2, heap_setCell_other _ _ _ _ hne2, heap_setCell_other _ _ _ _ hne2, heap_setCell_other _ _ _ _ hne2]
    exact h2
theorem Outs.put' {W : World} {g1 g2 : Nat} {r0 : RawI} {e0 l0 c0 : Int} (h : Outs W g1 g2 (itCells r0) (whCs e0 l0 c0)) (hne : g1 ≠ g2) (r : RawI) (e l c : Int) :
    Outs ((((((((((W.setCell ⟨g2, 0, none⟩ (.int .i64 e)).setCell ⟨g2, 1, none⟩ (.string .empty)).setCell ⟨g2, 2, none⟩ (.int .i64 l)).setCell ⟨g2, 3, none⟩ (.int .i64 c)).setCell ⟨g1, 0, none⟩ (.int .i64 r.kind)).setCell ⟨g1, 1, none⟩ (.int .i64 r.line)).setCell ⟨g1, 2, none⟩ (.string (str r.name))).setCell ⟨g1, 3, none⟩ (.slice r.ta r.tn r.tc)).setCell ⟨g1, 4, none⟩ (.slice r.wa r.wn r.wc)).setCell ⟨g1, 5, none⟩ (.slice r.ca r.cn r.cc)) g1 g2 (itCells r) (whCs e l c) := by
  have h1 := h.it
  have h2 := h.wh
  unfold itCells at h1
  unfold whCs at h2
  have q2 := set4 (a0 := .int .i64 e) (a1 := .string .empty) (a2 := .int .i64 l) (a3 := .int .i64 c) h2
  have hne2 : g2 ≠ g1 := fun e => hne e.symm
  refine ⟨set6 (x0 := .int .i64 r0.kind) (x1 := .int .i64 r0.line) (x2 := .string (str r0.name)) (x3 := .slice r0.ta r0.tn r0.tc) (x4 := .slice r0.wa r0.wn r0.wc) (x5 := .slice r0.ca r0.cn r0.cc) ?_, ?_⟩
  · rw [heap_setCell_other _ _ _ _ hne, heap_setCell_other _ _ _ _ hne, heap_setCell_other _ _ _ _ hne, heap_setCell_other _ _ _ _ hne]
    exact h1
  · rw [heap_setCell_other _ _ _ _ hne2, heap_setCell_other _ _ _ _ hne2, heap_setCell_other _ _ _ _ hne2, heap_setCell_other _ _ _ _ hne2, heap_setCell_other _ _ _ _ hne2, heap_setCell_other _ _ _ _ hne2]
    exact q2
theorem Outs.free {W : World} {g1 g2 : Nat} {cs ds : Array Value} (h : Outs W g1 g2 cs ds) : (∀ j, W.frozen? ⟨g1, j, none⟩ = false) ∧ ∀ j, W.frozen? ⟨g2, j, none⟩ = false :=
  ⟨fun j => frozen_of_row W g1 j _ _ h.it, fun j => frozen_of_row W g2 j _ _ h.wh⟩
theorem own10 {α : Type} {R : Rc α} {W : World} {base : Nat} {v : Value} {l : List α} {g1 g2 : Nat} (h : R.Own W base v l) (h1 : g1 < base) (h2 : g2 < base) (a0 a1 a2 a3 a4 a5 b0 b1 b2 b3 : Value) :
    R.Own ((((((((((W.setCell ⟨g1, 0, none⟩ a0).setCell ⟨g1, 1, none⟩ a1).setCell ⟨g1, 2, none⟩ a2).setCell ⟨g1, 3, none⟩ a3).setCell ⟨g1, 4, none⟩ a4).setCell ⟨g1, 5, none⟩ a5).setCell ⟨g2, 0, none⟩ b0).setCell ⟨g2, 1, none⟩ b1).setCell ⟨g2, 2, none⟩ b2).setCell ⟨g2, 3, none⟩ b3) base v l := by
  refine Row.turn h (S := [g1, g2]) ?_ fun g hg => ?_
  · exact (((((((((((Turn.refl _ W).set (p := ⟨g1, 0, none⟩) (by simp) a0).set (p := ⟨g1, 1, none⟩) (by simp) a1).set (p := ⟨g1, 2, none⟩) (by simp) a2).set (p := ⟨g1, 3, none⟩) (by simp) a3).set (p := ⟨g1, 4, none⟩) (by simp) a4).set (p := ⟨g1, 5, none⟩) (by simp) a5).set (p := ⟨g2, 0, none⟩) (by simp) b0).set (p := ⟨g2, 1, none⟩) (by simp) b1).set (p := ⟨g2, 2, none⟩) (by simp) b2).set (p := ⟨g2, 3, none⟩) (by simp) b3)
  · have := (World.ownsRow.lt h g hg).1
    simp only [List.mem_cons, List.not_mem_nil, or_false, not_or]
    omega
theorem Outs.cells {W : World} {g1 g2 : Nat} (h : Outs W g1 g2 (itCells noRaw) (whCs 0 0 0)) : W.cell? ⟨g1, 0, none⟩ = some (.int .i64 0) ∧ W.cell? ⟨g1, 1, none⟩ = some (.int .i64 0) ∧ W.cell? ⟨g1, 2, none⟩ = some (.string ⟨#[]⟩) ∧ W.cell? ⟨g1, 3, none⟩ = some (.slice none 0 0) ∧ W.cell? ⟨g1, 4, none⟩ = some (.slice none 0 0) ∧ W.cell? ⟨g1, 5, none⟩ = some (.slice none 0 0) ∧ W.cell? ⟨g2, 0, none⟩ = some (.int .i64 0) ∧ W.cell? ⟨g2, 1, none⟩ = some (.string ⟨#[]⟩) ∧ W.cell? ⟨g2, 2, none⟩ = some (.int .i64 0) ∧ W.cell? ⟨g2, 3, none⟩ = some (.int .i64 0) := by
  have h1 := h.it
  have h2 := h.wh
  refine ⟨?_, ?_, ?_, ?_, ?_, ?_, ?_, ?_, ?_, ?_⟩
  · rw [cell_of_row W g1 0 _ _ _ h1]; rfl
  · rw [cell_of_row W g1 1 _ _ _ h1]; rfl
  · rw [cell_of_row W g1 2 _ _ _ h1]; rfl
  · rw [cell_of_row W g1 3 _ _ _ h1]; rfl
  · rw [cell_of_row W g1 4 _ _ _ h1]; rfl
  · rw [cell_of_row W g1 5 _ _ _ h1]; rfl
  · rw [cell_of_row W g2 0 _ _ _ h2]; rfl
  · rw [cell_of_row W g2 1 _ _ _ h2]; rfl
  · rw [cell_of_row W g2 2 _ _ _ h2]; rfl
  · rw [cell_of_row W g2 3 _ _ _ h2]; rfl
theorem results_iw {fn : Func} {p q : Tmp} (h : fn.results = #[.cell p 33, .cell q 26]) (tmps : Array Value) (W : World) {g1 g2 : Nat} {r : RawI} {e l c : Int} (hO : Outs W g1 g2 (itCells r) (whCs e l c)) (hp : tmps.getD p undef = .pointer (some ⟨g1, 0, none⟩)) (hq : tmps.getD q undef = .pointer (some ⟨g2, 0, none⟩)) :
    (results fn tmps).run Try.prog W = .ok (.tuple #[itV r, .agg (whCs e l c)]) W :=
  results_two_rows h tmps W g1 g2 _ _ (itCells r) (whCs e l c) _ _ _ _ hp hq hO.it hO.wh Try.underlying33 rfl (by kernel_rfl) Try.underlying26 rfl (by kernel_rfl)
theorem below10 {w W : World} {g1 g2 : Nat} (h : Below w.heap.size w W) (h1 : w.heap.size ≤ g1) (h2 : w.heap.size ≤ g2) (a0 a1 a2 a3 a4 a5 b0 b1 b2 b3 : Value) :
    Below w.heap.size w ((((((((((W.setCell ⟨g1, 0, none⟩ a0).setCell ⟨g1, 1, none⟩ a1).setCell ⟨g1, 2, none⟩ a2).setCell ⟨g1, 3, none⟩ a3).setCell ⟨g1, 4, none⟩ a4).setCell ⟨g1, 5, none⟩ a5).setCell ⟨g2, 0, none⟩ b0).setCell ⟨g2, 1, none⟩ b1).setCell ⟨g2, 2, none⟩ b2).setCell ⟨g2, 3, none⟩ b3) :=
  (((((((((h.setCell (p := ⟨g1, 0, none⟩) h1 a0).setCell (p := ⟨g1, 1, none⟩) h1 a1).setCell (p := ⟨g1, 2, none⟩) h1 a2).setCell (p := ⟨g1, 3, none⟩) h1 a3).setCell (p := ⟨g1, 4, none⟩) h1 a4).setCell (p := ⟨g1, 5, none⟩) h1 a5).setCell (p := ⟨g2, 0, none⟩) h2 b0).setCell (p := ⟨g2, 1, none⟩) h2 b1).setCell (p := ⟨g2, 2, none⟩) h2 b2).setCell (p := ⟨g2, 3, none⟩) h2 b3
theorem below10' {w W : World} {g1 g2 : Nat} (h : Below w.heap.size w W) (h1 : w.heap.size ≤ g1) (h2 : w.heap.size ≤ g2) (a0 a1 a2 a3 a4 a5 b0 b1 b2 b3 : Value) :
    Below w.heap.size w ((((((((((W.setCell ⟨g2, 0, none⟩ b0).setCell ⟨g2, 1, none⟩ b1).setCell ⟨g2, 2, none⟩ b2).setCell ⟨g2, 3, none⟩ b3).setCell ⟨g1, 0, none⟩ a0).setCell ⟨g1, 1, none⟩ a1).setCell ⟨g1, 2, none⟩ a2).setCell ⟨g1, 3, none⟩ a3).setCell ⟨g1, 4, none⟩ a4).setCell ⟨g1, 5, none⟩ a5) :=
  (((((((((h.setCell (p := ⟨g2, 0, none⟩) h2 b0).setCell (p := ⟨g2, 1, none⟩) h2 b1).setCell (p := ⟨g2, 2, none⟩) h2 b2).setCell (p := ⟨g2, 3, none⟩) h2 b3).setCell (p := ⟨g1, 0, none⟩) h1 a0).setCell (p := ⟨g1, 1, none⟩) h1 a1).setCell (p := ⟨g1, 2, none⟩) h1 a2).setCell (p := ⟨g1, 3, none⟩) h1 a3).setCell (p := ⟨g1, 4, none⟩) h1 a4).setCell (p := ⟨g1, 5, none⟩) h1 a5

set_option maxRecDepth 100000 in
set_option maxHeartbeats 1000000 in
theorem incl0 (num : Int) (ind : Bool) (ad : Option Addr) (c : Nat) (u : Lx.V) (w : World) (B : Nat) (hW : WdR.Sl w B (.slice ad 1 c) [u]) (hBw : B ≤ w.heap.size) :
    Calls Try.prog 54 #[lnV num ind (.slice ad 1 c)] w fun e w' => RdEnd [u] w.heap.size e w' (.bad (120, 0)) ∧ Below w.heap.size w w' := by
  have hY : RdW w (((w.alloc (.cells #[.int .i64 num, .bool ind, .slice ad 1 c] 48)).alloc (.cells #[.int .i64 0, .int .i64 0, .string ⟨#[]⟩, .slice none 0 0, .slice none 0 0, .slice none 0 0] 33)).alloc (.cells #[.int .i64 0, .string ⟨#[]⟩, .int .i64 0, .int .i64 0] 26)) num ind (.slice ad 1 c) := rdW_is w num ind (.slice ad 1 c)
  unfold lnV
  go_enter Try.func54, Try.ntmps54
  go_upto_region 1 with fail
  generalize ((w.alloc (.cells #[.int .i64 num, .bool ind, .slice ad 1 c] 48)).alloc (.cells #[.int .i64 0, .int .i64 0, .string ⟨#[]⟩, .slice none 0 0, .slice none 0 0, .slice none 0 0] 33)).alloc (.cells #[.int .i64 0, .string ⟨#[]⟩, .int .i64 0, .int .i64 0] 26) = Y at hY ⊢
  have y0 := hY.num
  have y1 := hY.ind
  have y2 := hY.words
  have hWY := hW.below hY.below hBw
  obtain ⟨b, o, c', e, hb, r0, r1, r2, r3, r4⟩ := WdR.at hWY 0 (by simp)
  simp only [Value.slice.injEq] at e
  obtain ⟨rfl, -, rfl⟩ := e
  replace r0 : Y.cell? ⟨b, o, none⟩ = some (.string (str u.text)) := r0
  replace r1 : Y.cell? ⟨b, o + 1, none⟩ = some (.int .i64 u.line) := r1
  replace r2 : Y.cell? ⟨b, o + 2, none⟩ = some (.int .i64 u.col) := r2
  replace r3 : Y.cell? ⟨b, o + 3, none⟩ = some (.bool u.quoted) := r3
  replace r4 : Y.cell? ⟨b, o + 4, none⟩ = some (.bool u.mark) := r4
  have hwr := fun W => rwrong_any 120 u W
  unfold wdV at hwr
  go_wp2_with fail
  refine (hwr _).mono ?_
  rintro e w1 ⟨rfl, hB1⟩
  obtain ⟨hO1, hb1⟩ := hY.after hB1
  obtain ⟨f1, f2⟩ := hO1.free
  obtain ⟨k0, k1, k2, k3, k4, k5, l0, l1, l2, l3⟩ := hO1.cells
  have hfin := hO1.put (by omega) noRaw 120 u.line u.col
  have hbf := below10 hb1 (g1 := w.heap.size + 1) (g2 := w.heap.size + 1 + 1) (by omega) (by omega)
  unfold itV itCells whCs noRaw
  go_wp2
  refine bodyPost_ret (results_iw rfl _ _ hfin rfl rfl) rfl ?_
  exact ⟨rfl, hbf _ _ _ _ _ _ _ _ _ _⟩
set_option maxRecDepth 100000 in
set_option maxHeartbeats 1000000 in
theorem incl1 (num : Int) (ind : Bool) (ad : Option Addr) (c : Nat) (u a : Lx.V) (w : World) (B : Nat) (hW : WdR.Sl w B (.slice ad 2 c) [u, a]) (hBw : B ≤ w.heap.size) :
    Calls Try.prog 54 #[lnV num ind (.slice ad 2 c)] w fun e w' => RdEnd [u, a] w.heap.size e w' (Rl.inclOf num [a]) ∧ Below w.heap.size w w' := by
  have HR : Hid (Rl.inclOf num [a] = if a.mark = true then .bad (120, 1) else .ok ⟨2, num, [], [], [a], []⟩) := rfl
  generalize Rl.inclOf num [a] = R at *
  have hY : RdW w (((w.alloc (.cells #[.int .i64 num, .bool ind, .slice ad 2 c] 48)).alloc (.cells #[.int .i64 0, .int .i64 0, .string ⟨#[]⟩, .slice none 0 0, .slice none 0 0, .slice none 0 0] 33)).alloc (.cells #[.int .i64 0, .string ⟨#[]⟩, .int .i64 0, .int .i64 0] 26)) num ind (.slice ad 2 c) := rdW_is w num ind (.slice ad 2 c)
  unfold lnV
  go_enter Try.func54, Try.ntmps54
  go_upto_region 1 with fail
  generalize ((w.alloc (.cells #[.int .i64 num, .bool ind, .slice ad 2 c] 48)).alloc (.cells #[.int .i64 0, .int .i64 0, .string ⟨#[]⟩, .slice none 0 0, .slice none 0 0, .slice none 0 0] 33)).alloc (.cells #[.int .i64 0, .string ⟨#[]⟩, .int .i64 0, .int .i64 0] 26) = Y at hY ⊢
  have y0 := hY.num
  have y1 := hY.ind
  have y2 := hY.words
  have hWY := hW.below hY.below hBw
  obtain ⟨b, o, c', e, hb, s0, s1, s2, s3, s4⟩ := WdR.at hWY 1 (by simp)
  simp only [Value.slice.injEq] at e
  obtain ⟨rfl, -, rfl⟩ := e
  replace s0 : Y.cell? ⟨b, o + 5, none⟩ = some (.string (str a.text)) := s0
  replace s1 : Y.cell? ⟨b, o + 5 + 1, none⟩ = some (.int .i64 a.line) := s1
  replace s2 : Y.cell? ⟨b, o + 5 + 2, none⟩ = some (.int .i64 a.col) := s2
  replace s3 : Y.cell? ⟨b, o + 5 + 3, none⟩ = some (.bool a.quoted) := s3
  replace s4 : Y.cell? ⟨b, o + 5 + 4, none⟩ = some (.bool a.mark) := s4
  cases hm : a.mark with
  | true =>
    rw [hm] at s4 HR
    have hwr := fun W => rwrong_any 120 a W
    unfold wdV at hwr
    simp only [hm] at hwr; clear hm
    go_wp2_with fail
    refine (hwr _).mono ?_
    rintro e w1 ⟨rfl, hB1⟩
    obtain ⟨hO1, hb1⟩ := hY.after hB1
    obtain ⟨f1, f2⟩ := hO1.free
    obtain ⟨k0, k1, k2, k3, k4, k5, l0, l1, l2, l3⟩ := hO1.cells
    have hfin := hO1.put (by omega) noRaw 120 a.line a.col
    have hbf := below10 hb1 (g1 := w.heap.size + 1) (g2 := w.heap.size + 1 + 1) (by omega) (by omega)
    unfold itV itCells whCs noRaw
    go_wp2
    refine bodyPost_ret (results_iw rfl _ _ hfin rfl rfl) rfl ?_
    rw [HR.out]
    exact ⟨rfl, hbf _ _ _ _ _ _ _ _ _ _⟩
  | false =>
    rw [hm] at s4 HR
    clear hm
    obtain ⟨A, hsl, hT⟩ := Rc.slice_tail hWY 1 (by simp)
    have hsl' : ∀ W : World, (Instr.slice 30 (.slice (some ⟨b, o, none⟩) 2 c) (some (.int .i64 1)) none none).run Try.prog W = .ok (.slice A 1 (c - 1)) W := hsl
    have hT' : WdR.Sl Y B (.slice A 1 (c - 1)) [a] := hT
    have hz := hY.size
    have hcl := fun (W : World) (h : Below Y.heap.size Y W) => CloneW_any [a] (.slice A 1 (c - 1)) B W (hT'.below h (by omega)) (by have := h.size; omega) (by simp)
    have hYa := fun (W : World) (h : Below Y.heap.size Y W) => hY.after h
    have HZ : Hid _ := hz
    clear hsl hT hz
    have far1 : ∀ (W : World) (j : Nat) (v : Value), (W.setCell ⟨w.heap.size + 1, j, none⟩ v).cell? ⟨w.heap.size, 0, none⟩ = W.cell? ⟨w.heap.size, 0, none⟩ := fun W j v => World.cell?_setCell_far _ _ _ _ (by simp)
    have far2 : ∀ (W : World) (j : Nat) (v : Value), (W.setCell ⟨w.heap.size + 1 + 1, j, none⟩ v).cell? ⟨w.heap.size, 0, none⟩ = W.cell? ⟨w.heap.size, 0, none⟩ := fun W j v => World.cell?_setCell_far _ _ _ _ (by show w.heap.size + 1 + 1 ≠ w.heap.size; omega)
    have y0d : Y.drew.cell? ⟨w.heap.size, 0, none⟩ = some (.int .i64 num) := y0
    have hyd : Below Y.heap.size Y Y.drew := (Below.refl _ _).drew
    go_wp2_with fail
    go_region_held3 (fun X : World => X.cell? ⟨w.heap.size, 0, none⟩ = some (.int .i64 num)) (first | with_reducible exact y0 | with_reducible exact y0d | with_reducible exact y0b | (simp only [far1, far2]; with_reducible exact y0b) | fail)
      (first | (go_at_call 83; refine (hcl _ hyd).mono ?_; rintro e w2 ⟨v2, rfl, hO2, hB2⟩; obtain ⟨ad2, n2, c2, rfl⟩ := hO2.isSl; have hB3 := hyd.trans hB2; obtain ⟨hO3, hb3⟩ := hYa _ hB3; obtain ⟨f1, f2⟩ := hO3.free; obtain ⟨k0, k1, k2, k3, k4, k5, l0, l1, l2, l3⟩ := hO3.cells; have y0b : w2.cell? ⟨w.heap.size, 0, none⟩ = some (.int .i64 num) := (hB3.cell (p := ⟨w.heap.size, 0, none⟩) (by have := HZ.out; show w.heap.size < _; omega)).trans y0) | fail)
    have hfin := hO3.put (by omega) ⟨2, num, [], none, 0, 0, ad2, n2, c2, none, 0, 0⟩ 0 0 0
    have hbf := below10 hb3 (g1 := w.heap.size + 1) (g2 := w.heap.size + 1 + 1) (by omega) (by omega)
    have hO5 := own10 hO2 (g1 := w.heap.size + 1) (g2 := w.heap.size + 1 + 1) (by have := HZ.out; show _ < Y.heap.size; omega) (by have := HZ.out; show _ < Y.heap.size; omega)
    clear y0d y0b far1 far2 k0 k1 k2 k3 k4 k5 l0 l1 l2 l3
    go_wp2
    refine bodyPost_ret (results_iw rfl _ _ hfin rfl rfl) rfl ?_
    rw [HR.out]
    exact ⟨⟨_, rfl, rfl, rfl, rfl, Rc.Own.nil _ _, (hO5 _ _ _ _ _ _ _ _ _ _).low (by have := HZ.out; show _ ≤ Y.heap.size; omega), rfl, rfl, rfl, rfl⟩, hbf _ _ _ _ _ _ _ _ _ _⟩
set_option maxRecDepth 100000 in
set_option maxHeartbeats 1000000 in
theorem incl2 (num : Int) (ind : Bool) (ad : Option Addr) (c : Nat) (u a b2 : Lx.V) (r : List Lx.V) (w : World) (B : Nat) (hW : WdR.Sl w B (.slice ad (r.length + 3) c) (u :: a :: b2 :: r)) (hl : r.length ≤ 131072) (hBw : B ≤ w.heap.size) :
    Calls Try.prog 54 #[lnV num ind (.slice ad (r.length + 3) c)] w fun e w' => RdEnd (u :: a :: b2 :: r) w.heap.size e w' (Rl.inclOf num (a :: b2 :: r)) ∧ Below w.heap.size w w' := by
  have HR : Hid (Rl.inclOf num (a :: b2 :: r) = if a.mark = true then .bad (120, 1) else .bad (120, 2)) := rfl
  generalize Rl.inclOf num (a :: b2 :: r) = R at *
  obtain ⟨n, hn⟩ : ∃ n, r.length + 3 = n := ⟨_, rfl⟩
  rw [hn] at hW ⊢
  have n1 : ((n : Int) == 1) = false := by rw [beq_eq_false_iff_ne]; omega
  have n2 : (2 : Int) < (n : Int) := by omega
  have n3 : (1 : Int) < (n : Int) := by omega
  clear hn hl
  have hY : RdW w (((w.alloc (.cells #[.int .i64 num, .bool ind, .slice ad n c] 48)).alloc (.cells #[.int .i64 0, .int .i64 0, .string ⟨#[]⟩, .slice none 0 0, .slice none 0 0, .slice none 0 0] 33)).alloc (.cells #[.int .i64 0, .string ⟨#[]⟩, .int .i64 0, .int .i64 0] 26)) num ind (.slice ad n c) := rdW_is w num ind (.slice ad n c)
  unfold lnV
  go_enter Try.func54, Try.ntmps54
  go_upto_region 1 with fail
  generalize ((w.alloc (.cells #[.int .i64 num, .bool ind, .slice ad n c] 48)).alloc (.cells #[.int .i64 0, .int .i64 0, .string ⟨#[]⟩, .slice none 0 0, .slice none 0 0, .slice none 0 0] 33)).alloc (.cells #[.int .i64 0, .string ⟨#[]⟩, .int .i64 0, .int .i64 0] 26) = Y at hY ⊢
  have y0 := hY.num
  have y1 := hY.ind
  have y2 := hY.words
  have hWY := hW.below hY.below hBw
  obtain ⟨b, o, c', e, hb, s0, s1, s2, s3, s4⟩ := WdR.at hWY 1 (by simp)
  simp only [Value.slice.injEq] at e
  obtain ⟨rfl, -, rfl⟩ := e
  replace s0 : Y.cell? ⟨b, o + 5, none⟩ = some (.string (str a.text)) := s0
  replace s1 : Y.cell? ⟨b, o + 5 + 1, none⟩ = some (.int .i64 a.line) := s1
  replace s2 : Y.cell? ⟨b, o + 5 + 2, none⟩ = some (.int .i64 a.col) := s2
  replace s3 : Y.cell? ⟨b, o + 5 + 3, none⟩ = some (.bool a.quoted) := s3
  replace s4 : Y.cell? ⟨b, o + 5 + 4, none⟩ = some (.bool a.mark) := s4
  obtain ⟨b', o', c', e, -, t0, t1, t2, t3, t4⟩ := WdR.at hWY 2 (by simp)
  simp only [Value.slice.injEq, Option.some.injEq, Addr.mk.injEq, and_true] at e
  obtain ⟨⟨rfl, rfl⟩, -, -⟩ := e
  replace t0 : Y.cell? ⟨b, o + 10, none⟩ = some (.string (str b2.text)) := t0
  replace t1 : Y.cell? ⟨b, o + 10 + 1, none⟩ = some (.int .i64 b2.line) := t1
  replace t2 : Y.cell? ⟨b, o + 10 + 2, none⟩ = some (.int .i64 b2.col) := t2
  replace t3 : Y.cell? ⟨b, o + 10 + 3, none⟩ = some (.bool b2.quoted) := t3
  replace t4 : Y.cell? ⟨b, o + 10 + 4, none⟩ = some (.bool b2.mark) := t4
  cases hm : a.mark with
  | true =>
    rw [hm] at s4 HR
    have hwr := fun W => rwrong_any 120 a W
    unfold wdV at hwr
    simp only [hm] at hwr; clear hm
    go_wp2_with fail
    refine (hwr _).mono ?_
    rintro e w1 ⟨rfl, hB1⟩
    obtain ⟨hO1, hb1⟩ := hY.after hB1
    obtain ⟨f1, f2⟩ := hO1.free
    obtain ⟨k0, k1, k2, k3, k4, k5, l0, l1, l2, l3⟩ := hO1.cells
    have hfin := hO1.put (by omega) noRaw 120 a.line a.col
    have hbf := below10 hb1 (g1 := w.heap.size + 1) (g2 := w.heap.size + 1 + 1) (by omega) (by omega)
    unfold itV itCells whCs noRaw
    go_wp2
    refine bodyPost_ret (results_iw rfl _ _ hfin rfl rfl) rfl ?_
    rw [HR.out]
    exact ⟨rfl, hbf _ _ _ _ _ _ _ _ _ _⟩
  | false =>
    rw [hm] at s4 HR
    clear hm
    have hwr := fun W => rwrong_any 120 b2 W
    unfold wdV at hwr
    go_wp2_with fail
    refine (hwr _).mono ?_
    rintro e w1 ⟨rfl, hB1⟩
    obtain ⟨hO1, hb1⟩ := hY.after hB1
    obtain ⟨f1, f2⟩ := hO1.free
    obtain ⟨k0, k1, k2, k3, k4, k5, l0, l1, l2, l3⟩ := hO1.cells
    have hfin := hO1.put (by omega) noRaw 120 b2.line b2.col
    have hbf := below10 hb1 (g1 := w.heap.size + 1) (g2 := w.heap.size + 1 + 1) (by omega) (by omega)
    unfold itV itCells whCs noRaw
    go_wp2
    refine bodyPost_ret (results_iw rfl _ _ hfin rfl rfl) rfl ?_
    rw [HR.out]
    exact ⟨rfl, hbf _ _ _ _ _ _ _ _ _ _⟩
set_option maxRecDepth 100000 in
set_option maxHeartbeats 1000000 in
theorem readInclude_any (num : Int) (ind : Bool) (ad : Option Addr) (c : Nat) (u : Lx.V) (r : List Lx.V) (w : World) (B : Nat) (hW : WdR.Sl w B (.slice ad (r.length + 1) c) (u :: r)) (hBw : B ≤ w.heap.size) (hl : r.length ≤ 131072) :
    Calls Try.prog 54 #[lnV num ind (.slice ad (r.length + 1) c)] w fun e w' => RdEnd (u :: r) w.heap.size e w' (Rl.inclOf num r) ∧ Below w.heap.size w w' := by
  match r, hW, hl with
  | [], hW, _ => exact incl0 num ind ad c u w B hW hBw
  | [a], hW, _ => exact incl1 num ind ad c u a w B hW hBw
  | a :: b2 :: r, hW, hl => exact incl2 num ind ad c u a b2 r w B hW (by simp at hl; omega) hBw

end Go.Proofs.Ythpipbkbldlfjaa
