/-
  THE READER IN MEMORY, AND ITS SMALL STEPS.
-/
import Derived.Test.YthpipbkbldlfjaaZBare
import Derived.Test.YthpipbkbldlfjaaKit
namespace Go.Proofs.Ythpipbkbldlfjaa
open Go.RowKit

/-- block p is a reader -/
def RdC (w : World) (p : Nat) (s : ByteArray) (k l c : Int) : Prop := w.heap[p]? = some (.cells #[.string s, .int .i64 k, .int .i64 l, .int .i64 c] 73 (0, 0))
/-- it stands at the k-th byte -/
def Rd (w : World) (p : Nat) (s : ByteArray) (k : Nat) : Prop := RdC w p s (k : Int) ((Lx.place (bs s) k).1 : Int) ((k - (Lx.place (bs s) k).2 : Nat) : Int)

theorem RdC.cell0 {w : World} {p : Nat} {s : ByteArray} {k l c : Int} (h : RdC w p s k l c) : w.cell? ⟨p, 0, none⟩ = some (.string s) := by
  rw [cell_of_row w p 0 _ 73 (0, 0) h]; rfl
theorem RdC.cell1 {w : World} {p : Nat} {s : ByteArray} {k l c : Int} (h : RdC w p s k l c) : w.cell? ⟨p, 1, none⟩ = some (.int .i64 k) := by
  rw [cell_of_row w p 1 _ 73 (0, 0) h]; rfl
theorem RdC.cell2 {w : World} {p : Nat} {s : ByteArray} {k l c : Int} (h : RdC w p s k l c) : w.cell? ⟨p, 2, none⟩ = some (.int .i64 l) := by
  rw [cell_of_row w p 2 _ 73 (0, 0) h]; rfl
theorem RdC.cell3 {w : World} {p : Nat} {s : ByteArray} {k l c : Int} (h : RdC w p s k l c) : w.cell? ⟨p, 3, none⟩ = some (.int .i64 c) := by
  rw [cell_of_row w p 3 _ 73 (0, 0) h]; rfl
theorem RdC.free {w : World} {p : Nat} {s : ByteArray} {k l c : Int} (h : RdC w p s k l c) (j : Nat) : w.frozen? ⟨p, j, none⟩ = false := frozen_of_row w p j _ 73 h
theorem RdC.lt {w : World} {p : Nat} {s : ByteArray} {k l c : Int} (h : RdC w p s k l c) : p < w.heap.size := (Array.getElem?_eq_some_iff.1 h).1
theorem RdC.set1 {w : World} {p : Nat} {s : ByteArray} {k l c : Int} (h : RdC w p s k l c) (k' : Int) : RdC (w.setCell ⟨p, 1, none⟩ (.int .i64 k')) p s k' l c := by
  unfold RdC
  rw [heap_setCell_same w p 1 _ 73 _ h]
  rfl
theorem RdC.set2 {w : World} {p : Nat} {s : ByteArray} {k l c : Int} (h : RdC w p s k l c) (k' : Int) : RdC (w.setCell ⟨p, 2, none⟩ (.int .i64 k')) p s k k' c := by
  unfold RdC
  rw [heap_setCell_same w p 2 _ 73 _ h]
  rfl
theorem RdC.set3 {w : World} {p : Nat} {s : ByteArray} {k l c : Int} (h : RdC w p s k l c) (k' : Int) : RdC (w.setCell ⟨p, 3, none⟩ (.int .i64 k')) p s k l k' := by
  unfold RdC
  rw [heap_setCell_same w p 3 _ 73 _ h]
  rfl
theorem Rd.lt {w : World} {p : Nat} {s : ByteArray} {k : Nat} (h : Rd w p s k) : p < w.heap.size := RdC.lt h
theorem Rd.turn {w w' : World} {p : Nat} {s : ByteArray} {k : Nat} {S : List Nat} (h : Rd w p s k) (ht : Turn S w w') (hs : p ∉ S) : Rd w' p s k := (ht.block p h.lt hs).trans h
theorem Rd.below {w w' : World} {p : Nat} {s : ByteArray} {k : Nat} {B : Nat} (h : Rd w p s k) (ht : Below B w w') (hs : p < B) : Rd w' p s k := (ht.block p hs).trans h
theorem Rd.alloc {w : World} {p : Nat} {s : ByteArray} {k : Nat} (h : Rd w p s k) (o : Obj) : Rd (w.alloc o) p s k := h.turn ((Turn.refl [] w).alloc o) (by simp)
theorem Rd.drewN {w : World} {p : Nat} {s : ByteArray} {k : Nat} (h : Rd w p s k) (q : Nat) : Rd (w.drewN q) p s k := h
theorem Rd.set_other {w : World} {p r j : Nat} {s : ByteArray} {k : Nat} (h : Rd w p s k) (hne : p ≠ r) (y : Value) : Rd (w.setCell ⟨r, j, none⟩ y) p s k := by
  unfold Rd RdC
  rw [Below.heap_setCell _ _ _ _ hne]
  exact h

set_option maxRecDepth 100000 in
set_option maxHeartbeats 1000000 in
theorem pass_any (w : World) (p : Nat) (s : ByteArray) (k : Nat) (h : Rd w p s k) (hk : k < s.size) (hs : s.size ≤ 32768) :
    Calls Try.prog 77 #[.pointer (some ⟨p, 0, none⟩)] w fun e w' => e = .returned (.tuple #[]) ∧ Rd w' p s (k + 1) ∧ Turn [p] w w' := by
  have HST : Hid _ := place_step s k hk
  have hpl := place_le s k
  unfold Rd at h
  obtain ⟨l, hl⟩ : ∃ l, (Lx.place (bs s) k).1 = l := ⟨_, rfl⟩
  obtain ⟨c, hc⟩ : ∃ c, (Lx.place (bs s) k).2 = c := ⟨_, rfl⟩
  rw [hl, hc] at h hpl HST
  obtain ⟨hp1, hp2⟩ := hpl
  clear hl hc
  have c0 := h.cell0
  have c1 := h.cell1
  have c2 := h.cell2
  have c3 := h.cell3
  have f1 := h.free 1
  have f2 := h.free 2
  have f3 := h.free 3
  have i1 : (k : Int) < (s.size : Int) := by omega
  by_cases hx : s[k] = 10
  · rw [if_pos hx] at HST
    have hx' : ((s[k].toNat : Int) == 10) = true := by rw [hx]; rfl
    clear hx
    go_enter Try.func77, Try.ntmps77
    go_wp2_with fail
    go_quiet (fail)
    go_wp2
    go_end0
    refine ⟨rfl, ?_, ((((Turn.refl [p] w).drewN _).set (by simp) _).set (by simp) _).set (by simp) _⟩
    unfold Rd
    rw [HST.out, show ((k + 1 : Nat) : Int) = (k : Int) + 1 by omega]
    exact ((RdC.set2 (w := w.drewN _) h ((l : Int) + 1)).set3 ((k : Int) + 1)).set1 ((k : Int) + 1)
  · rw [if_neg hx] at HST
    have hx' : ((s[k].toNat : Int) == 10) = false := by
      rw [beq_eq_false_iff_ne]
      intro e
      exact hx (UInt8.toNat_inj.1 (by show s[k].toNat = 10; omega))
    clear hx
    go_enter Try.func77, Try.ntmps77
    go_wp2_with fail
    go_quiet (fail)
    go_wp2
    go_end0
    refine ⟨rfl, ?_, ((Turn.refl [p] w).drewN _).set (by simp) _⟩
    unfold Rd
    rw [HST.out]
    show RdC _ _ _ ((k + 1 : Nat) : Int) (l : Int) ((k + 1 - (c + 1) : Nat) : Int)
    rw [show k + 1 - (c + 1) = k - c by omega, show ((k + 1 : Nat) : Int) = (k : Int) + 1 by omega]
    exact RdC.set1 (w := w.drewN _) h ((k : Int) + 1)

set_option maxRecDepth 100000 in
theorem wrong_any (w : World) (k : Nat) : Calls Try.prog 94 #[.int .i64 (k : Int)] w fun e w' => e = .panicked [{ v := .iface 71 (.agg #[.int .i64 6, .int .i64 (k : Int)]), recovered := false }] ∧ w' = w := by
  go_enter Try.func94, Try.ntmps94
  go_wp2
  exact ⟨rfl, rfl, rfl⟩

end Go.Proofs.Ythpipbkbldlfjaa
