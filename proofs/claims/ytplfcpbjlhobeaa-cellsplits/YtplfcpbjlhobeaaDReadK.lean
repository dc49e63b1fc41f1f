/-
  WHAT LIES IN MEMORY WHILE A PAGE IS READ.
-/
import Derived.Test.YtplfcpbjlhobeaaDRdr
import Derived.Test.YtplfcpbjlhobeaaRCopied
namespace Go.Proofs.Ytplfcpbjlhobeaa
open Go.RowKit

/-- read's variables: the place of its result, the reader, the node -/
structure RInv (w wr : World) (r p nb : Nat) (rho : List UInt8) (bad lf : Bool) (vi vk : Value) (l : List Cm.It) (ks : List Int) : Prop where
  rd : RdS wr r p w.heap.size rho bad
  res : wr.heap[w.heap.size]? = some (.cells #[.bool false, .slice none 0 0, .slice none 0 0] 28 (0, 0))
  nd : wr.heap[nb]? = some (.cells #[.bool lf, vi, vk] 28 (0, 0))
  its : OwnC wr w.heap.size vi l
  ids : OwnN wr w.heap.size vk ks
  be : Below w.heap.size w wr
  lt : w.heap.size < nb

theorem RInv.turn {w wr w' : World} {r p p' nb : Nat} {rho rho' : List UInt8} {bad bad' lf : Bool} {vi vk : Value} {l : List Cm.It} {ks : List Int} {S : List Nat} (h : RInv w wr r p nb rho bad lf vi vk l ks) (ht : Turn S wr w') (hR : RdS w' r p' w.heap.size rho' bad')
    (hS : ∀ x ∈ S, x = r ∨ x = p ∨ (w.heap.size < x ∧ x ≠ nb ∧ vi.ownBlock ≠ some x ∧ vk.ownBlock ≠ some x)) : RInv w w' r p' nb rho' bad' lf vi vk l ks := by
  have h1 := h.rd
  obtain ⟨v, vr, bs, a, e1, e2, -⟩ := id h1
  have hlt := h1.lt
  have n1 := h1.ne h.res (by decide) (by decide)
  have n2 := h1.ne h.nd (by decide) (by decide)
  refine ⟨hR, (ht.block _ (lt_of_heap h.res) fun hx => ?_).trans h.res, (ht.block _ (lt_of_heap h.nd) fun hx => ?_).trans h.nd, Row.turn h.its ht fun g hg hx => ?_, Row.turn h.ids ht fun g hg hx => ?_, h.be.trans ⟨ht.os, ht.tape, ht.output, ht.size, fun k hk => ht.block k (by have := h.be.size; omega) fun hx => ?_⟩, h.lt⟩
  · rcases hS _ hx with h | h | h <;> omega
  · rcases hS _ hx with h | h | h <;> omega
  · rcases hS _ hx with h' | h' | h'
    · exact Row.ne h.its e1 (by decide) hg h'
    · exact Row.ne h.its e2 (by decide) hg h'
    · exact h'.2.2.1 hg
  · rcases hS _ hx with h' | h' | h'
    · exact Row.ne h.ids e1 (by decide) hg h'
    · exact Row.ne h.ids e2 (by decide) hg h'
    · exact h'.2.2.2 hg
  · rcases hS _ hx with h | h | h <;> omega
theorem RInv.alloc {w wr : World} {r p nb : Nat} {rho : List UInt8} {bad lf : Bool} {vi vk : Value} {l : List Cm.It} {ks : List Int} (h : RInv w wr r p nb rho bad lf vi vk l ks) (o : Obj) : RInv w (wr.alloc o) r p nb rho bad lf vi vk l ks :=
  h.turn (S := []) ((Turn.refl [] wr).alloc o) (h.rd.turn (S := []) ((Turn.refl [] wr).alloc o) (by simp) (by simp) (by simp)) (by simp)
theorem RInv.drew {w wr : World} {r p nb : Nat} {rho : List UInt8} {bad lf : Bool} {vi vk : Value} {l : List Cm.It} {ks : List Int} (h : RInv w wr r p nb rho bad lf vi vk l ks) : RInv w wr.drew r p nb rho bad lf vi vk l ks :=
  ⟨h.rd, h.res, h.nd, h.its, h.ids, ⟨h.be.os, h.be.tape, h.be.output, h.be.size, h.be.block⟩, h.lt⟩
theorem RInv.drewN {w wr : World} {r p nb : Nat} {rho : List UInt8} {bad lf : Bool} {vi vk : Value} {l : List Cm.It} {ks : List Int} (h : RInv w wr r p nb rho bad lf vi vk l ks) (q : Nat) : RInv w (wr.drewN q) r p nb rho bad lf vi vk l ks :=
  ⟨h.rd, h.res, h.nd, h.its, h.ids, ⟨h.be.os, h.be.tape, h.be.output, h.be.size, h.be.block⟩, h.lt⟩
theorem heap_row {w : World} {base : Nat} {e : TypeId} {size : Nat} {v : Value} {n : Nat} {xs : List Value} (h : w.ownsRow base e size v n xs) {g : Nat} (hg : v.ownBlock = some g) : base ≤ g ∧ ∃ cur, w.heap[g]? = some (.cells cur e (0, 0)) := by
  refine ⟨(World.ownsRow.lt h g hg).1, ?_⟩
  rcases h.2 with ⟨rfl, _⟩ | ⟨k, cap, cur, rfl, _, hgg, _⟩
  · simp [Value.ownBlock] at hg
  · simp only [Value.ownBlock, Option.some.injEq] at hg
    subst hg
    exact ⟨cur, hgg⟩
/-- a kid more -/
theorem RInv.kids {w wr w2 : World} {r p nb : Nat} {rho : List UInt8} {bad lf : Bool} {vi vk vk' : Value} {l : List Cm.It} {ks ks' : List Int} (h : RInv w wr r p nb rho bad lf vi vk l ks) (hg : wr.grownBy w2 vk.ownBlock) (ho : OwnN w2 w.heap.size vk' ks') :
    RInv w (w2.setCell ⟨nb, 2, none⟩ vk') r p nb rho bad lf vi vk' l ks' ∧ w2.cell? ⟨nb, 2, none⟩ = some vk ∧ w2.frozen? ⟨nb, 2, none⟩ = false := by
  have ht := Turn.of_grown hg
  obtain ⟨v, vr, bs, a, e1, e2, -⟩ := id h.rd
  have hlt := h.rd.lt
  have hty : ∀ x ∈ vk.ownBlock.toList, w.heap.size ≤ x ∧ ∃ cur, wr.heap[x]? = some (.cells cur 3 (0, 0)) := fun x hx => heap_row h.ids (Option.mem_toList.1 hx)
  have hne : ∀ {y : Nat} {cs : Array Value} {t : TypeId} {f : Nat × Nat}, wr.heap[y]? = some (.cells cs t f) → t ≠ 3 → y ∉ vk.ownBlock.toList := fun hy ht hx => by
    obtain ⟨_, cur, hc⟩ := hty _ hx
    rw [hy] at hc
    simp only [Option.some.injEq, Obj.cells.injEq] at hc
    exact ht hc.2.1
  have hR2 : RdS w2 r p w.heap.size rho bad := h.rd.turn ht (hne e1 (by decide)) (hne e2 (by decide)) fun x hx => ⟨(hty x hx).1, fun cs f hy => by
    obtain ⟨_, cur, hc⟩ := hty _ hx
    rw [hy] at hc
    simp at hc⟩
  have hnd := (ht.block _ (lt_of_heap h.nd) (hne h.nd (by decide))).trans h.nd
  have hres := (ht.block _ (lt_of_heap h.res) (hne h.res (by decide))).trans h.res
  have hits : OwnC w2 w.heap.size vi l := Row.turn h.its ht fun g hg' hx => by
    obtain ⟨_, cur, hc⟩ := heap_row h.its hg'
    exact hne hc (by decide) hx
  have hbe : Below w.heap.size w w2 := h.be.trans ⟨ht.os, ht.tape, ht.output, ht.size, fun k hk => ht.block k (by have := h.be.size; omega) fun hx => by have := (hty _ hx).1; omega⟩
  have ht2 : Turn [nb] w2 (w2.setCell ⟨nb, 2, none⟩ vk') := (Turn.refl [nb] w2).set (by simp) _
  have n2 := hR2.ne hnd (by decide) (by decide)
  refine ⟨⟨hR2.turn ht2 (by simpa using n2.1.symm) (by simpa using n2.2.symm) ?_, (ht2.block _ (lt_of_heap hres) (by simp; have := h.lt; omega)).trans hres, heap_setCell_same w2 nb 2 _ _ vk' hnd, Row.turn hits ht2 ?_, Row.turn ho ht2 ?_, hbe.setCell (by have := h.lt; show w.heap.size ≤ nb; omega) _, h.lt⟩, (cells3_of hnd).2.2, frozen_of_row w2 nb 2 _ _ hnd⟩
  · intro x hx
    simp only [List.mem_singleton] at hx
    subst hx
    refine ⟨by have := h.lt; omega, fun cs f hy => ?_⟩
    rw [hnd] at hy
    simp at hy
  · intro g hg' hx
    simp only [List.mem_singleton] at hx
    exact Row.ne hits hnd (by decide) hg' hx
  · intro g hg' hx
    simp only [List.mem_singleton] at hx
    exact Row.ne ho hnd (by decide) hg' hx
theorem RInv.kids_other {w wr w2 : World} {r p nb y : Nat} {rho : List UInt8} {bad lf : Bool} {vi vk : Value} {l : List Cm.It} {ks : List Int} {cs : Array Value} {t : TypeId} {f : Nat × Nat} (h : RInv w wr r p nb rho bad lf vi vk l ks) (hg : wr.grownBy w2 vk.ownBlock) (hy : wr.heap[y]? = some (.cells cs t f)) (ht : t ≠ 3) (hne : y ≠ nb) (u : Value) :
    (w2.setCell ⟨nb, 2, none⟩ u).heap[y]? = some (.cells cs t f) := by
  refine (Below.heap_setCell w2 ⟨nb, 2, none⟩ u y hne).trans ((hg.block y (lt_of_heap hy) fun e => ?_).trans hy)
  obtain ⟨_, cur, hc⟩ := heap_row h.ids e.symm
  rw [hy] at hc
  simp only [Option.some.injEq, Obj.cells.injEq] at hc
  exact ht hc.2.1
theorem heap_keep {w w' : World} {q : Nat} {S : List Nat} {o : Obj} (h : w.heap[q]? = some o) (ht : Turn S w w') (hq : q ∉ S) (o2 : Obj) : (w'.alloc o2).heap[q]? = some o :=
  (Below.heap_alloc w' o2 q (Nat.lt_of_lt_of_le (lt_of_heap h) ht.size)).trans ((ht.block q (lt_of_heap h) hq).trans h)
/-- an item more -/
theorem RInv.items {w wr w2 : World} {r p nb : Nat} {rho : List UInt8} {bad lf : Bool} {vi vi' vk : Value} {l l' : List Cm.It} {ks : List Int} (h : RInv w wr r p nb rho bad lf vi vk l ks) (hg : wr.grownBy w2 vi.ownBlock) (ho : OwnC w2 w.heap.size vi' l') :
    RInv w (w2.setCell ⟨nb, 1, none⟩ vi') r p nb rho bad lf vi' vk l' ks ∧ w2.cell? ⟨nb, 1, none⟩ = some vi ∧ w2.frozen? ⟨nb, 1, none⟩ = false := by
  have ht := Turn.of_grown hg
  obtain ⟨v, vr, bs, a, e1, e2, -⟩ := id h.rd
  have hlt := h.rd.lt
  have hty : ∀ x ∈ vi.ownBlock.toList, w.heap.size ≤ x ∧ ∃ cur, wr.heap[x]? = some (.cells cur 24 (0, 0)) := fun x hx => heap_row h.its (Option.mem_toList.1 hx)
  have hne : ∀ {y : Nat} {cs : Array Value} {t : TypeId} {f : Nat × Nat}, wr.heap[y]? = some (.cells cs t f) → t ≠ 24 → y ∉ vi.ownBlock.toList := fun hy ht hx => by
    obtain ⟨_, cur, hc⟩ := hty _ hx
    rw [hy] at hc
    simp only [Option.some.injEq, Obj.cells.injEq] at hc
    exact ht hc.2.1
  have hR2 : RdS w2 r p w.heap.size rho bad := h.rd.turn ht (hne e1 (by decide)) (hne e2 (by decide)) fun x hx => ⟨(hty x hx).1, fun cs f hy => by
    obtain ⟨_, cur, hc⟩ := hty _ hx
    rw [hy] at hc
    simp at hc⟩
  have hnd := (ht.block _ (lt_of_heap h.nd) (hne h.nd (by decide))).trans h.nd
  have hres := (ht.block _ (lt_of_heap h.res) (hne h.res (by decide))).trans h.res
  have hids : OwnN w2 w.heap.size vk ks := Row.turn h.ids ht fun g hg' hx => by
    obtain ⟨_, cur, hc⟩ := heap_row h.ids hg'
    exact hne hc (by decide) hx
  have hbe : Below w.heap.size w w2 := h.be.trans ⟨ht.os, ht.tape, ht.output, ht.size, fun k hk => ht.block k (by have := h.be.size; omega) fun hx => by have := (hty _ hx).1; omega⟩
  have ht2 : Turn [nb] w2 (w2.setCell ⟨nb, 1, none⟩ vi') := (Turn.refl [nb] w2).set (by simp) _
  have n2 := hR2.ne hnd (by decide) (by decide)
  refine ⟨⟨hR2.turn ht2 (by simpa using n2.1.symm) (by simpa using n2.2.symm) ?_, (ht2.block _ (lt_of_heap hres) (by simp; have := h.lt; omega)).trans hres, heap_setCell_same w2 nb 1 _ _ vi' hnd, Row.turn ho ht2 ?_, Row.turn hids ht2 ?_, hbe.setCell (by have := h.lt; show w.heap.size ≤ nb; omega) _, h.lt⟩, (cells3_of hnd).2.1, frozen_of_row w2 nb 1 _ _ hnd⟩
  · intro x hx
    simp only [List.mem_singleton] at hx
    subst hx
    refine ⟨by have := h.lt; omega, fun cs f hy => ?_⟩
    rw [hnd] at hy
    simp at hy
  · intro g hg' hx
    simp only [List.mem_singleton] at hx
    exact Row.ne ho hnd (by decide) hg' hx
  · intro g hg' hx
    simp only [List.mem_singleton] at hx
    exact Row.ne hids hnd (by decide) hg' hx

/-- the result is laid -/
theorem RInv.fin {w wr : World} {r p nb : Nat} {rho : List UInt8} {bad lf : Bool} {vi vk : Value} {l : List Cm.It} {ks : List Int} (h : RInv w wr r p nb rho bad lf vi vk l ks) {Wf : World} (hW : Wf = ((wr.setCell ⟨w.heap.size, 0, none⟩ (.bool lf)).setCell ⟨w.heap.size, 1, none⟩ vi).setCell ⟨w.heap.size, 2, none⟩ vk) :
    Wf.heap[w.heap.size]? = some (.cells #[.bool lf, vi, vk] 28 (0, 0)) ∧ OwnC Wf w.heap.size vi l ∧ OwnN Wf w.heap.size vk ks ∧ Below w.heap.size w Wf := by
  subst hW
  have ht : Turn [w.heap.size] wr (((wr.setCell ⟨w.heap.size, 0, none⟩ (.bool lf)).setCell ⟨w.heap.size, 1, none⟩ vi).setCell ⟨w.heap.size, 2, none⟩ vk) :=
    (((Turn.refl [w.heap.size] wr).set (by simp) _).set (by simp) _).set (by simp) _
  refine ⟨heap_set3 h.res _ _ _, Row.turn h.its ht fun g hg hx => ?_, Row.turn h.ids ht fun g hg hx => ?_, ((h.be.setCell (Nat.le_refl _) _).setCell (Nat.le_refl _) _).setCell (Nat.le_refl _) _⟩
  · simp only [List.mem_singleton] at hx
    exact Row.ne h.its h.res (by decide) hg hx
  · simp only [List.mem_singleton] at hx
    exact Row.ne h.ids h.res (by decide) hg hx

end Go.Proofs.Ytplfcpbjlhobeaa
