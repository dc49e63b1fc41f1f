/-
  BLOCKS BY NAME: what a block holds, kept, written.
-/
import Derived.Test.YtppcfidaalejfaaPBs
namespace Go.Proofs.Ytppcfidaalejfaa
open Go.RowKit

/-- block g holds just these cells and may be written -/
def Rw (W : World) (g : Nat) (cs : Array Value) (t : TypeId) : Prop := W.heap[g]? = some (.cells cs t (0, 0))
theorem Rw.lt {W : World} {g : Nat} {cs : Array Value} {t : TypeId} (h : Rw W g cs t) : g < W.heap.size := by
  rcases Nat.lt_or_ge g W.heap.size with h1 | h1
  · exact h1
  · unfold Rw at h
    rw [Array.getElem?_eq_none h1] at h
    cases h
theorem Rw.cell {W : World} {g : Nat} {cs : Array Value} {t : TypeId} (h : Rw W g cs t) (j : Nat) : W.cell? ⟨g, j, none⟩ = cs[j]? := cell_of_row W g j cs t (0, 0) h
theorem Rw.free {W : World} {g : Nat} {cs : Array Value} {t : TypeId} (h : Rw W g cs t) (j : Nat) : W.frozen? ⟨g, j, none⟩ = false := frozen_of_row W g j cs t h
theorem Rw.below {W W' : World} {B g : Nat} {cs : Array Value} {t : TypeId} (h : Rw W g cs t) (hb : Below B W W') (hB : g < B) : Rw W' g cs t := (hb.block g hB).trans h
theorem Rw.turn {W W' : World} {S : List Nat} {g : Nat} {cs : Array Value} {t : TypeId} (h : Rw W g cs t) (hT : Turn S W W') (hg : g ∉ S) : Rw W' g cs t := (hT.block g h.lt hg).trans h
theorem Rw.new (W : World) (cs : Array Value) (t : TypeId) : Rw (W.alloc (.cells cs t)) W.heap.size cs t := heap_alloc_new W (.cells cs t)
theorem Rw.alloc {W : World} {g : Nat} {cs : Array Value} {t : TypeId} (h : Rw W g cs t) (o : Obj) : Rw (W.alloc o) g cs t := h.below ((Below.refl W.heap.size W).alloc (Nat.le_refl _) o) h.lt
theorem Rw.drewN {W : World} {g : Nat} {cs : Array Value} {t : TypeId} (h : Rw W g cs t) (n : Nat) : Rw (W.drewN n) g cs t := h
theorem Rw.set {W : World} {g : Nat} {cs : Array Value} {t : TypeId} (h : Rw W g cs t) (j : Nat) (v : Value) (hj : j < cs.size) : Rw (W.setCell ⟨g, j, none⟩ v) g (cs.set j v) t := by
  unfold Rw World.setCell
  simp only [Array.getElem?_modify]
  unfold Rw at h
  simp [h, Array.setIfInBounds, hj]
theorem Rw.other {W : World} {g : Nat} {cs : Array Value} {t : TypeId} (h : Rw W g cs t) (p : Addr) (v : Value) (hp : p.block ≠ g) : Rw (W.setCell p v) g cs t := (Below.heap_setCell W p v g (fun e => hp e.symm)).trans h
theorem size_alloc (W : World) (o : Obj) : (W.alloc o).heap.size = W.heap.size + 1 := Array.size_push ..
theorem size_setCell (W : World) (p : Addr) (v : Value) : (W.setCell p v).heap.size = W.heap.size := by simp [World.setCell]
/-- a block of one type is not a row of another -/
theorem Rw.ne_row {w : World} {base : Nat} {e : TypeId} {size : Nat} {v : Value} {n : Nat} {xs : List Value} {p : Nat} {cs : Array Value} {t : TypeId} (hp : Rw w p cs t) (h : w.ownsRow base e size v n xs) (ht : t ≠ e) {g : Nat} (hg : v.ownBlock = some g) : g ≠ p := Row.ne h hp ht hg
theorem Rw.two (w : World) (c0 c1 : Array Value) (t0 t1 : TypeId) : Rw ((w.alloc (.cells c0 t0)).alloc (.cells c1 t1)) w.heap.size c0 t0 ∧ Rw ((w.alloc (.cells c0 t0)).alloc (.cells c1 t1)) (w.heap.size + 1) c1 t1 ∧ Below w.heap.size w ((w.alloc (.cells c0 t0)).alloc (.cells c1 t1)) ∧ ((w.alloc (.cells c0 t0)).alloc (.cells c1 t1)).heap.size = w.heap.size + 1 + 1 := by
  have z1 := size_alloc w (.cells c0 t0)
  refine ⟨(Rw.new w c0 t0).alloc _, ?_, (((Below.refl w.heap.size w).alloc (Nat.le_refl _) _).alloc (by omega) _), by rw [size_alloc, z1]⟩
  have := Rw.new (w.alloc (.cells c0 t0)) c1 t1
  rwa [z1] at this
theorem Rw.three (w : World) (c0 c1 c2 : Array Value) (t0 t1 t2 : TypeId) : Rw (((w.alloc (.cells c0 t0)).alloc (.cells c1 t1)).alloc (.cells c2 t2)) w.heap.size c0 t0 ∧ Rw (((w.alloc (.cells c0 t0)).alloc (.cells c1 t1)).alloc (.cells c2 t2)) (w.heap.size + 1) c1 t1 ∧ Rw (((w.alloc (.cells c0 t0)).alloc (.cells c1 t1)).alloc (.cells c2 t2)) (w.heap.size + 1 + 1) c2 t2 ∧
    Below w.heap.size w (((w.alloc (.cells c0 t0)).alloc (.cells c1 t1)).alloc (.cells c2 t2)) ∧ (((w.alloc (.cells c0 t0)).alloc (.cells c1 t1)).alloc (.cells c2 t2)).heap.size = w.heap.size + 1 + 1 + 1 := by
  obtain ⟨h1, h2, h3, h4⟩ := Rw.two w c0 c1 t0 t1
  refine ⟨h1.alloc _, h2.alloc _, ?_, h3.alloc (by omega) _, by rw [size_alloc, h4]⟩
  have := Rw.new ((w.alloc (.cells c0 t0)).alloc (.cells c1 t1)) c2 t2
  rwa [h4] at this
theorem Rw.put2 {W : World} {g : Nat} {t : TypeId} {x0 x1 : Value} (h : Rw W g #[x0, x1] t) (a0 a1 : Value) : Rw ((W.setCell ⟨g, 0, none⟩ a0).setCell ⟨g, 1, none⟩ a1) g #[a0, a1] t := (h.set 0 a0 (by simp)).set 1 a1 (by simp)
theorem Rw.put4 {W : World} {g : Nat} {t : TypeId} {x0 x1 x2 x3 : Value} (h : Rw W g #[x0, x1, x2, x3] t) (a0 a1 a2 a3 : Value) : Rw ((((W.setCell ⟨g, 0, none⟩ a0).setCell ⟨g, 1, none⟩ a1).setCell ⟨g, 2, none⟩ a2).setCell ⟨g, 3, none⟩ a3) g #[a0, a1, a2, a3] t :=
  (((h.set 0 a0 (by simp)).set 1 a1 (by simp)).set 2 a2 (by simp)).set 3 a3 (by simp)
theorem Turn.put2 (W : World) (g : Nat) (a0 a1 : Value) : Turn [g] W ((W.setCell ⟨g, 0, none⟩ a0).setCell ⟨g, 1, none⟩ a1) := ((Turn.refl [g] W).set (fun _ => by simp) a0).set (fun _ => by simp) a1
theorem Turn.put4 (W : World) (g : Nat) (a0 a1 a2 a3 : Value) : Turn [g] W ((((W.setCell ⟨g, 0, none⟩ a0).setCell ⟨g, 1, none⟩ a1).setCell ⟨g, 2, none⟩ a2).setCell ⟨g, 3, none⟩ a3) :=
  ((((Turn.refl [g] W).set (fun _ => by simp) a0).set (fun _ => by simp) a1).set (fun _ => by simp) a2).set (fun _ => by simp) a3
theorem Turn.put1 (W : World) (g j : Nat) (a : Value) : Turn [g] W (W.setCell ⟨g, j, none⟩ a) := (Turn.refl [g] W).set (fun _ => by simp) a
theorem Turn.bel {S : List Nat} {w W W' : World} (hT : Turn S W W') (h : Below w.heap.size w W) (hs : ∀ x ∈ S, w.heap.size ≤ x) : Below w.heap.size w W' := h.trans (hT.below' h.size hs)
/-- a result that lies in memory, and one in a slot -/
theorem results_row_slot {P : Program} {fn : Func} {p q : Tmp} {ty : TypeId} (h : fn.results = #[.cell p ty, .tmp q]) (tmps : Array Value) (w : World) (g1 : Nat) (t1 : TypeId) (cs : Array Value) (d1 : TypeDesc) (v : Value)
    (hp : tmps.getD p undef = .pointer (some ⟨g1, 0, none⟩)) (hq : tmps.getD q undef = v) (hg1 : Rw w g1 cs t1)
    (hu1 : P.underlying ty = some d1) (hd1 : (match d1 with | .struct _ | .array _ _ => true | _ => false) = true) (hi1 : (P.info? ty).map (·.size) = some cs.size) :
    (results fn tmps).run P w = .ok (.tuple #[.agg cs, v]) w := by
  have hp' : tmps[p]?.getD undef = .pointer (some ⟨g1, 0, none⟩) := by simpa using hp
  have hq' : tmps[q]?.getD undef = v := by simpa using hq
  simp [results, h, hp', hq', asAddr, run_loadVar_row w g1 t1 ty cs (0, 0) d1 hg1 hu1 hd1 hi1]
theorem results_slot_row {P : Program} {fn : Func} {p q : Tmp} {ty : TypeId} (h : fn.results = #[.tmp q, .cell p ty]) (tmps : Array Value) (w : World) (g1 : Nat) (t1 : TypeId) (cs : Array Value) (d1 : TypeDesc) (v : Value)
    (hp : tmps.getD p undef = .pointer (some ⟨g1, 0, none⟩)) (hq : tmps.getD q undef = v) (hg1 : Rw w g1 cs t1)
    (hu1 : P.underlying ty = some d1) (hd1 : (match d1 with | .struct _ | .array _ _ => true | _ => false) = true) (hi1 : (P.info? ty).map (·.size) = some cs.size) :
    (results fn tmps).run P w = .ok (.tuple #[v, .agg cs]) w := by
  have hp' : tmps[p]?.getD undef = .pointer (some ⟨g1, 0, none⟩) := by simpa using hp
  have hq' : tmps[q]?.getD undef = v := by simpa using hq
  simp [results, h, hp', hq', asAddr, run_loadVar_row w g1 t1 ty cs (0, 0) d1 hg1 hu1 hd1 hi1]

end Go.Proofs.Ytppcfidaalejfaa
