/-
  A CURSOR IN MEMORY; variables of one cell.
-/
import Derived.Test.YtohdakjfacalbaaWKit
namespace Go.Proofs.Ytohdakjfacalbaa
open Go.RowKit

/-- block p is a cursor over the slice v at the place a -/
def HasCur (w : World) (p : Nat) (v : Value) (a : Nat) : Prop := w.heap[p]? = some (.cells #[v, .int .i64 (a : Int)] 89 (0, 0))

theorem HasCur.cell0 {w : World} {p : Nat} {v : Value} {a : Nat} (h : HasCur w p v a) : w.cell? ⟨p, 0, none⟩ = some v := by
  rw [cell_of_row w p 0 _ 89 (0, 0) h]; rfl
theorem HasCur.cell1 {w : World} {p : Nat} {v : Value} {a : Nat} (h : HasCur w p v a) : w.cell? ⟨p, 1, none⟩ = some (.int .i64 (a : Int)) := by
  rw [cell_of_row w p 1 _ 89 (0, 0) h]; rfl
theorem HasCur.free {w : World} {p : Nat} {v : Value} {a : Nat} (h : HasCur w p v a) (j : Nat) : w.frozen? ⟨p, j, none⟩ = false := frozen_of_row w p j _ 89 h
theorem HasCur.lt {w : World} {p : Nat} {v : Value} {a : Nat} (h : HasCur w p v a) : p < w.heap.size := (Array.getElem?_eq_some_iff.1 h).1
theorem HasCur.set {w : World} {p : Nat} {v : Value} {a : Nat} (h : HasCur w p v a) (a' : Nat) : HasCur (w.setCell ⟨p, 1, none⟩ (.int .i64 (a' : Int))) p v a' := by
  unfold HasCur
  rw [heap_setCell_same w p 1 _ 89 _ h]
  rfl
theorem HasCur.kept {w w' : World} {p : Nat} {v : Value} {a : Nat} {row : Option Nat} (h : HasCur w p v a) (hg : w.grownBy w' row) (hne : some p ≠ row) : HasCur w' p v a :=
  (hg.block p h.lt hne).trans h
theorem HasCur.below {w w' : World} {B p : Nat} {v : Value} {a : Nat} (h : HasCur w p v a) (hb : Below B w w') (hp : p < B) : HasCur w' p v a :=
  (hb.block p hp).trans h
theorem HasCur.drewN {w : World} {p : Nat} {v : Value} {a : Nat} (h : HasCur w p v a) (q : Nat) : HasCur (w.drewN q) p v a := by
  unfold HasCur at *
  simpa using h

theorem grownBy_refl (w : World) (row : Option Nat) : w.grownBy w row := ⟨rfl, rfl, rfl, Nat.le_refl _, fun _ _ _ => rfl⟩
theorem grownBy_trans {a b c : World} {row : Option Nat} (h : a.grownBy b row) (k : b.grownBy c row) : a.grownBy c row :=
  ⟨k.os.trans h.os, k.tape.trans h.tape, k.output.trans h.output, Nat.le_trans h.size k.size, fun i hi hne => (k.block i (Nat.lt_of_lt_of_le hi h.size) hne).trans (h.block i hi hne)⟩
theorem grownBy_set (w : World) (p j : Nat) (u : Value) : w.grownBy (w.setCell ⟨p, j, none⟩ u) (some p) :=
  ⟨rfl, rfl, rfl, by simp [World.setCell], fun k _ hk => Below.heap_setCell _ _ _ _ (fun e => hk (by simp [e]))⟩
theorem grownBy_drewN (w : World) (row : Option Nat) (q : Nat) : w.grownBy (w.drewN q) row :=
  ⟨rfl, rfl, rfl, Nat.le_refl _, fun _ _ _ => rfl⟩

theorem grow_alloc {w w1 : World} {row : Option Nat} (h : w.grownBy w1 row) (o : Obj) : w.grownBy (w1.alloc o) row := grownBy_trans h (World.grownBy_alloc w1 o row)
theorem grow_set {w w1 : World} {p : Nat} (h : w.grownBy w1 (some p)) (j : Nat) (u : Value) : w.grownBy (w1.setCell ⟨p, j, none⟩ u) (some p) := grownBy_trans h (grownBy_set _ _ _ _)
theorem grow_set_new {w w1 : World} {row : Option Nat} (h : w.grownBy w1 row) {q : Nat} (hq : w.heap.size ≤ q) (j : Nat) (u : Value) : w.grownBy (w1.setCell ⟨q, j, none⟩ u) row :=
  ⟨h.os, h.tape, h.output, by have := h.size; simp [World.setCell]; exact this, fun k hk hne => by rw [Below.heap_setCell _ _ _ _ (by show k ≠ q; omega)]; exact h.block k hk hne⟩
theorem grow_drewN {w w1 : World} {row : Option Nat} (h : w.grownBy w1 row) (q : Nat) : w.grownBy (w1.drewN q) row := grownBy_trans h (grownBy_drewN _ _ q)
theorem grow_drew {w w1 : World} {row : Option Nat} (h : w.grownBy w1 row) : w.grownBy w1.drew row := grow_drewN h 1
theorem grow_mono {w w1 w' : World} {row : Option Nat} (h : w.grownBy w1 row) (k : w1.grownBy w' none) : w.grownBy w' row :=
  ⟨k.os.trans h.os, k.tape.trans h.tape, k.output.trans h.output, Nat.le_trans h.size k.size, fun i hi hne => (k.block i (Nat.lt_of_lt_of_le hi h.size) (by simp)).trans (h.block i hi hne)⟩

/-- block q is a variable of one cell that holds x -/
def Box (w : World) (q : Nat) (x : Value) (t : TypeId) : Prop := w.heap[q]? = some (.cells #[x] t (0, 0))
theorem Box.cell {w : World} {q : Nat} {x : Value} {t : TypeId} (h : Box w q x t) : w.cell? ⟨q, 0, none⟩ = some x := by
  rw [cell_of_row w q 0 _ t (0, 0) h]; rfl
theorem Box.free {w : World} {q : Nat} {x : Value} {t : TypeId} (h : Box w q x t) : w.frozen? ⟨q, 0, none⟩ = false := frozen_of_row w q 0 _ t h
theorem Box.lt {w : World} {q : Nat} {x : Value} {t : TypeId} (h : Box w q x t) : q < w.heap.size := (Array.getElem?_eq_some_iff.1 h).1
theorem Box.kept {w w' : World} {q : Nat} {x : Value} {t : TypeId} {row : Option Nat} (h : Box w q x t) (hg : w.grownBy w' row) (hne : some q ≠ row) : Box w' q x t := (hg.block q h.lt hne).trans h
theorem Box.set {w : World} {q : Nat} {x : Value} {t : TypeId} (h : Box w q x t) (y : Value) : Box (w.setCell ⟨q, 0, none⟩ y) q y t := by
  unfold Box
  rw [heap_setCell_same w q 0 _ t _ h]
  rfl
theorem Box.set_other {w : World} {q r j : Nat} {x : Value} {t : TypeId} (h : Box w q x t) (hne : q ≠ r) (y : Value) : Box (w.setCell ⟨r, j, none⟩ y) q x t := by
  unfold Box
  rw [Below.heap_setCell _ _ _ _ hne]
  exact h
theorem Box.alloc {w : World} {q : Nat} {x : Value} {t : TypeId} (h : Box w q x t) (o : Obj) : Box (w.alloc o) q x t := h.kept (World.grownBy_alloc w o none) (by simp)
theorem Box.new (w : World) (x : Value) (t : TypeId) : Box (w.alloc (.cells #[x] t)) w.heap.size x t := heap_alloc_new w _
theorem HasCur.set_other {w : World} {p r j : Nat} {v : Value} {a : Nat} (h : HasCur w p v a) (hne : p ≠ r) (y : Value) : HasCur (w.setCell ⟨r, j, none⟩ y) p v a := by
  unfold HasCur
  rw [Below.heap_setCell _ _ _ _ hne]
  exact h
theorem HasCur.alloc {w : World} {p : Nat} {v : Value} {a : Nat} (h : HasCur w p v a) (o : Obj) : HasCur (w.alloc o) p v a := h.kept (World.grownBy_alloc w o none) (by simp)

/-- the bytes that a cursor reads: a row that is not the cursor itself -/
theorem Own.ne_cur {w : World} {base p : Nat} {v : Value} {l : List UInt8} {a : Nat} (h : Own w base v l) (hc : HasCur w p v a) : v.ownBlock ≠ some p := by
  intro e
  rcases h.2 with ⟨rfl, _⟩ | ⟨g, cap, cur, rfl, _, hg, _⟩
  · simp [Value.ownBlock] at e
  · simp only [Value.ownBlock, Option.some.injEq] at e
    subst e
    unfold HasCur at hc
    rw [hg] at hc
    simp at hc
theorem Own.kept {w w' : World} {base p : Nat} {v : Value} {l : List UInt8} {a : Nat} (h : Own w base v l) (hc : HasCur w p v a) (hg : w.grownBy w' (some p)) : Own w' base v l :=
  World.ownsRow.kept h hg (.inr (h.ne_cur hc))

end Go.Proofs.Ytohdakjfacalbaa
