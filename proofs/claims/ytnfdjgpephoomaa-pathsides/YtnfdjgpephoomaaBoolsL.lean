/-
  ROWS OF BOOLEANS: made, read, written.
-/
import Derived.Test.YtnfdjgpephoomaaBytesL
namespace Go.Proofs.Ytnfdjgpephoomaa
open Go.RowKit

theorem info4b : (Try.prog.info? 4).map (fun i => (i.zero, i.size, i.bytes)) = some (some (.bool false), 1, 1) := by kernel_rfl
def oV (l : List Bool) : List Value := l.map Value.bool
/-- block g holds just the Booleans X, and may be written -/
def BBlk (w : World) (g : Nat) (X : List Bool) : Prop := w.heap[g]? = some (.cells (oV X).toArray 4 (0, 0))
theorem BBlk.cell {w : World} {g : Nat} {X : List Bool} (h : BBlk w g X) (j : Nat) (hj : j < X.length) : w.cell? ⟨g, j, none⟩ = some (.bool (X.getD j false)) := by
  rw [cell_of_row w g j _ 4 (0, 0) h]
  simp [oV, List.getD, List.getElem?_eq_getElem hj]
theorem BBlk.free {w : World} {g : Nat} {X : List Bool} (h : BBlk w g X) (j : Nat) : w.frozen? ⟨g, j, none⟩ = false := by
  unfold BBlk at h
  simp [World.frozen?, h]
theorem BBlk.lt {w : World} {g : Nat} {X : List Bool} (h : BBlk w g X) : g < w.heap.size := by
  unfold BBlk at h
  rcases Nat.lt_or_ge g w.heap.size with h1 | h1
  · exact h1
  · rw [Array.getElem?_eq_none h1] at h; cases h
theorem BBlk.set {w : World} {g : Nat} {X : List Bool} (h : BBlk w g X) (j : Nat) (b : Bool) : BBlk (w.setCell ⟨g, j, none⟩ (.bool b)) g (X.set j b) := by
  have hlt := h.lt
  unfold BBlk at h ⊢
  have h1 : w.heap[g] = .cells (oV X).toArray 4 (0, 0) := by
    rw [Array.getElem?_eq_getElem hlt] at h
    exact Option.some.inj h
  have h2 : oV (X.set j b) = (oV X).set j (.bool b) := by simp [oV, List.map_set]
  rw [h2]
  simp [World.setCell, hlt]
  rw [Array.getElem_modify_self, h1]
  simp
theorem BBlk.below {w w' : World} {B g : Nat} {X : List Bool} (h : BBlk w g X) (hb : Below B w w') (hg : g < B) : BBlk w' g X := (hb.block g hg).trans h
theorem falses_cells (n : Nat) : madeCells (Value.bool false).cells n = (oV (List.replicate n false)).toArray := by
  apply Array.ext
  · simp [size_madeCells, oV]
  · intro j h1 h2
    have hz : (Value.bool false).cells = #[Value.bool false] := rfl
    simp [madeCells, oV, hz, Nat.mod_one]
/-- 'make([]bool, n)' -/
theorem make_bools (z : Int) (n : Nat) (hz : z = (n : Int)) (hn : n ≤ 1099511627800) (W : World) :
    (Instr.makeSlice 55 (.int .i64 z) (.int .i64 z)).run Try.prog W = .ok (.slice (some ⟨W.heap.size, 0, none⟩) n n) (W.alloc (.cells (oV (List.replicate n false)).toArray 4)) := by
  obtain ⟨i0, hi, hz0, hz1, hz2⟩ := info_parts info4b
  subst hz
  rw [run_make W 55 4 i0 (.bool false) Try.underlying55 hi hz0 .i64 .i64 (n : Int) (n : Int) (by omega) (by omega) (by rw [hz2]; omega) (by omega), hz1]
  simp only [Int.toNat_natCast, Nat.mul_one, falses_cells]
theorem BBlk.made (W : World) (X : List Bool) : BBlk (W.alloc (.cells (oV X).toArray 4)) W.heap.size X := heap_alloc_new W _
/-- a write into one block leaves another as it is -/
theorem BBlk.other {w : World} {g g' : Nat} {X : List Bool} (h : BBlk w g X) (j : Nat) (v : Value) (hne : g' ≠ g) : BBlk (w.setCell ⟨g', j, none⟩ v) g X := by
  unfold BBlk at h ⊢
  rw [← h]
  simp only [World.setCell]
  split <;> simp_all [Array.getElem?_modify]

end Go.Proofs.Ytnfdjgpephoomaa
