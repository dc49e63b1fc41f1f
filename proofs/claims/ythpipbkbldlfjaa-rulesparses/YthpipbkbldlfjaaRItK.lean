/-
  WHAT THE DOCUMENT's Item DOES: how an item lies while it is made.
-/
import Derived.Test.YthpipbkbldlfjaaDName
import Derived.Test.YthpipbkbldlfjaaYQuo2
import Derived.Test.YthpipbkbldlfjaaRName
import Derived.Deep.RegionLaw
namespace Go.Proofs.Ythpipbkbldlfjaa
open Go.RowKit

/-- a result that lies in memory and two that don't -/
theorem results_css {P : Program} {fn : Func} {p q r : Tmp} {ty : TypeId} (h : fn.results = #[.cell p ty, .tmp q, .tmp r]) (tmps : Array Value) (w : World) (g1 : Nat) (t1 : TypeId) (cs : Array Value) (f1 : Nat × Nat) (d1 : TypeDesc) (v1 v2 : Value)
    (hp : tmps.getD p undef = .pointer (some ⟨g1, 0, none⟩)) (hq : tmps.getD q undef = v1) (hr : tmps.getD r undef = v2) (hg1 : w.heap[g1]? = some (.cells cs t1 f1))
    (hu1 : P.underlying ty = some d1) (hd1 : (match d1 with | .struct _ | .array _ _ => true | _ => false) = true) (hi1 : (P.info? ty).map (·.size) = some cs.size) :
    (results fn tmps).run P w = .ok (.tuple #[.agg cs, v1, v2]) w := by
  have hp' : tmps[p]?.getD undef = .pointer (some ⟨g1, 0, none⟩) := by simpa using hp
  have hq' : tmps[q]?.getD undef = v1 := by simpa using hq
  have hr' : tmps[r]?.getD undef = v2 := by simpa using hr
  simp [results, h, hp', hq', hr', asAddr, run_loadVar_row w g1 t1 ty cs f1 d1 hg1 hu1 hd1 hi1]
/-- how Item ends -/
def ItEnd (base : Nat) (e : Ending) (w' : World) : Lx.R (Int × Nat) Rl.It → Prop
  | .bad x => ∃ r, e = .returned (.tuple #[itV r, .int .i64 x.1, .int .i64 (x.2 : Int)])
  | .ok x => ∃ r, e = .returned (.tuple #[itV r, .int .i64 0, .int .i64 0]) ∧ ItNew w' base r x
/-- the result's block and the item's -/
structure XB (W : World) (g : Nat) (r : RawI) : Prop where
  res : W.heap[g + 1]? = some (.cells (itCells noRaw) 33 (0, 0))
  it : W.heap[g + 1 + 1]? = some (.cells (itCells r) 33 (0, 0))
theorem XB.below {W W' : World} {g B : Nat} {r : RawI} (h : XB W g r) (hb : Below B W W') (hB : g + 2 < B) : XB W' g r := ⟨(hb.block _ (by omega)).trans h.res, (hb.block _ (by omega)).trans h.it⟩
theorem XB.cells {W : World} {g : Nat} {r : RawI} (h : XB W g r) : W.cell? ⟨g + 1 + 1, 0, none⟩ = some (.int .i64 r.kind) ∧ W.cell? ⟨g + 1 + 1, 1, none⟩ = some (.int .i64 r.line) ∧ W.cell? ⟨g + 1 + 1, 2, none⟩ = some (.string (str r.name)) ∧ W.cell? ⟨g + 1 + 1, 3, none⟩ = some (.slice r.ta r.tn r.tc) ∧ W.cell? ⟨g + 1 + 1, 4, none⟩ = some (.slice r.wa r.wn r.wc) ∧ W.cell? ⟨g + 1 + 1, 5, none⟩ = some (.slice r.ca r.cn r.cc) ∧ ∀ j, W.frozen? ⟨g + 1 + 1, j, none⟩ = false := by
  have h2 := h.it
  refine ⟨?_, ?_, ?_, ?_, ?_, ?_, fun j => frozen_of_row W _ j _ _ h2⟩
  · rw [cell_of_row W _ 0 _ _ _ h2]; rfl
  · rw [cell_of_row W _ 1 _ _ _ h2]; rfl
  · rw [cell_of_row W _ 2 _ _ _ h2]; rfl
  · rw [cell_of_row W _ 3 _ _ _ h2]; rfl
  · rw [cell_of_row W _ 4 _ _ _ h2]; rfl
  · rw [cell_of_row W _ 5 _ _ _ h2]; rfl
theorem XB.rcells {W : World} {g : Nat} {r : RawI} (h : XB W g r) : W.cell? ⟨g + 1, 0, none⟩ = some (.int .i64 0) ∧ W.cell? ⟨g + 1, 1, none⟩ = some (.int .i64 0) ∧ W.cell? ⟨g + 1, 2, none⟩ = some (.string ⟨#[]⟩) ∧ W.cell? ⟨g + 1, 3, none⟩ = some (.slice none 0 0) ∧ W.cell? ⟨g + 1, 4, none⟩ = some (.slice none 0 0) ∧ W.cell? ⟨g + 1, 5, none⟩ = some (.slice none 0 0) ∧ ∀ j, W.frozen? ⟨g + 1, j, none⟩ = false := by
  have h2 := h.res
  refine ⟨?_, ?_, ?_, ?_, ?_, ?_, fun j => frozen_of_row W _ j _ _ h2⟩
  · rw [cell_of_row W _ 0 _ _ _ h2]; rfl
  · rw [cell_of_row W _ 1 _ _ _ h2]; rfl
  · rw [cell_of_row W _ 2 _ _ _ h2]; rfl
  · rw [cell_of_row W _ 3 _ _ _ h2]; rfl
  · rw [cell_of_row W _ 4 _ _ _ h2]; rfl
  · rw [cell_of_row W _ 5 _ _ _ h2]; rfl
theorem XB.setAt {W : World} {g : Nat} {r : RawI} (h : XB W g r) (j : Nat) (v : Value) (r' : RawI) (he : (itCells r).setIfInBounds j v = itCells r') : XB (W.setCell ⟨g + 1 + 1, j, none⟩ v) g r' := by
  refine ⟨(heap_setCell_other W _ _ _ (by show g + 1 ≠ g + 1 + 1; omega)).trans h.res, ?_⟩
  rw [heap_setCell_same W _ j _ _ v h.it, he]
/-- the item, stored as the result -/
theorem XB.put {W : World} {g : Nat} {r : RawI} (h : XB W g r) : ((((((W.setCell ⟨g + 1, 0, none⟩ (.int .i64 r.kind)).setCell ⟨g + 1, 1, none⟩ (.int .i64 r.line)).setCell ⟨g + 1, 2, none⟩ (.string (str r.name))).setCell ⟨g + 1, 3, none⟩ (.slice r.ta r.tn r.tc)).setCell ⟨g + 1, 4, none⟩ (.slice r.wa r.wn r.wc)).setCell ⟨g + 1, 5, none⟩ (.slice r.ca r.cn r.cc)).heap[g + 1]? = some (.cells (itCells r) 33 (0, 0)) := by
  have h1 := h.res
  unfold itCells noRaw at h1
  exact set6 h1
theorem turn6 (W : World) (g : Nat) (a0 a1 a2 a3 a4 a5 : Value) : Turn [g] W ((((((W.setCell ⟨g, 0, none⟩ a0).setCell ⟨g, 1, none⟩ a1).setCell ⟨g, 2, none⟩ a2).setCell ⟨g, 3, none⟩ a3).setCell ⟨g, 4, none⟩ a4).setCell ⟨g, 5, none⟩ a5) :=
  ((((((Turn.refl _ W).set (p := ⟨g, 0, none⟩) (by simp) a0).set (p := ⟨g, 1, none⟩) (by simp) a1).set (p := ⟨g, 2, none⟩) (by simp) a2).set (p := ⟨g, 3, none⟩) (by simp) a3).set (p := ⟨g, 4, none⟩) (by simp) a4).set (p := ⟨g, 5, none⟩) (by simp) a5
/-- the world in which Item's walk begins -/
structure XW (w Y : World) (num : Int) (v : Value) : Prop where
  n0 : Y.cell? ⟨w.heap.size, 0, none⟩ = some (.int .i64 num)
  words : Y.cell? ⟨w.heap.size, 2, none⟩ = some v
  xb : XB Y w.heap.size ⟨0, num, [], none, 0, 0, none, 0, 0, none, 0, 0⟩
  below : Below w.heap.size w Y
  size : Y.heap.size = w.heap.size + 3
theorem xw_is (w : World) (num : Int) (ind : Bool) (v : Value) : XW w (((w.alloc (.cells #[.int .i64 num, .bool ind, v] 48)).alloc (.cells #[.int .i64 0, .int .i64 0, .string ⟨#[]⟩, .slice none 0 0, .slice none 0 0, .slice none 0 0] 33)).alloc (.cells #[.int .i64 0, .int .i64 num, .string ⟨#[]⟩, .slice none 0 0, .slice none 0 0, .slice none 0 0] 33)) num v := by
  have hz1 : (w.alloc (.cells #[.int .i64 num, .bool ind, v] 48)).heap.size = w.heap.size + 1 := Array.size_push ..
  have h0 := heap_alloc_new w (.cells #[.int .i64 num, .bool ind, v] 48)
  have b1 := below_box w (.cells #[.int .i64 num, .bool ind, v] 48)
  generalize w.alloc (.cells #[.int .i64 num, .bool ind, v] 48) = W1 at *
  have h1 := heap_alloc_new W1 (.cells #[.int .i64 0, .int .i64 0, .string ⟨#[]⟩, .slice none 0 0, .slice none 0 0, .slice none 0 0] 33)
  rw [hz1] at h1
  have hz2 : (W1.alloc (.cells #[.int .i64 0, .int .i64 0, .string ⟨#[]⟩, .slice none 0 0, .slice none 0 0, .slice none 0 0] 33)).heap.size = w.heap.size + 1 + 1 := by rw [← hz1]; exact Array.size_push ..
  have b2 := b1.alloc (by omega) (.cells #[.int .i64 0, .int .i64 0, .string ⟨#[]⟩, .slice none 0 0, .slice none 0 0, .slice none 0 0] 33)
  have h02 := (Below.heap_alloc W1 (.cells #[.int .i64 0, .int .i64 0, .string ⟨#[]⟩, .slice none 0 0, .slice none 0 0, .slice none 0 0] 33) w.heap.size (by omega)).trans h0
  generalize W1.alloc (.cells #[.int .i64 0, .int .i64 0, .string ⟨#[]⟩, .slice none 0 0, .slice none 0 0, .slice none 0 0] 33) = W2 at *
  have h2 := heap_alloc_new W2 (.cells #[.int .i64 0, .int .i64 num, .string ⟨#[]⟩, .slice none 0 0, .slice none 0 0, .slice none 0 0] 33)
  rw [hz2] at h2
  have h03 := (Below.heap_alloc W2 (.cells #[.int .i64 0, .int .i64 num, .string ⟨#[]⟩, .slice none 0 0, .slice none 0 0, .slice none 0 0] 33) w.heap.size (by omega)).trans h02
  have h13 := (Below.heap_alloc W2 (.cells #[.int .i64 0, .int .i64 num, .string ⟨#[]⟩, .slice none 0 0, .slice none 0 0, .slice none 0 0] 33) (w.heap.size + 1) (by omega)).trans h1
  have b3 := b2.alloc (by omega) (.cells #[.int .i64 0, .int .i64 num, .string ⟨#[]⟩, .slice none 0 0, .slice none 0 0, .slice none 0 0] 33)
  have hz3 : (W2.alloc (.cells #[.int .i64 0, .int .i64 num, .string ⟨#[]⟩, .slice none 0 0, .slice none 0 0, .slice none 0 0] 33)).heap.size = W2.heap.size + 1 := Array.size_push ..
  generalize W2.alloc (.cells #[.int .i64 0, .int .i64 num, .string ⟨#[]⟩, .slice none 0 0, .slice none 0 0, .slice none 0 0] 33) = W3 at *
  exact ⟨by rw [cell_of_row W3 _ 0 _ _ _ h03]; rfl, by rw [cell_of_row W3 _ 2 _ _ _ h03]; rfl, ⟨h13, h2⟩, b3, by omega⟩

end Go.Proofs.Ythpipbkbldlfjaa
