/-
  THE DOCUMENT's Lines: the line that is being read; an append in a region that draws.
-/
import Derived.Test.YtdknggccjhillaaYQuo2
import Derived.Test.YtdknggccjhillaaZLines
namespace Go.Proofs.Ytdknggccjhillaa
open Go.RowKit

/-- the line that is being read: block g; its words lie above it -/
def LW (W0 : World) (g num : Nat) (ind : Bool) (v : Value) (V : List Lx.V) (w : World) : Prop :=
  w.heap[g]? = some (.cells #[.int .i64 (num : Int), .bool ind, v] 33 (0, 0)) ∧ WdR.Own w (g + 1) v V ∧ Below W0.heap.size W0 w
variable {W0 : World} {g num : Nat} {ind : Bool} {v : Value} {V : List Lx.V} {w : World}
theorem LW.lt (h : LW W0 g num ind v V w) : g < w.heap.size := (Array.getElem?_eq_some_iff.1 h.1).1
theorem LW.size (h : LW W0 g num ind v V w) : g + 1 ≤ w.heap.size := h.lt
theorem LW.below {w' : World} (h : LW W0 g num ind v V w) (hb : Below w.heap.size w w') : LW W0 g num ind v V w' :=
  ⟨(hb.block g h.lt).trans h.1, h.2.1.below hb (Nat.le_refl _), h.2.2.trans (hb.mono h.2.2.size)⟩
theorem LW.alloc (h : LW W0 g num ind v V w) (o : Obj) : LW W0 g num ind v V (w.alloc o) := h.below ((Below.refl _ w).alloc (Nat.le_refl _) o)
theorem LW.drew (h : LW W0 g num ind v V w) : LW W0 g num ind v V w.drew := ⟨h.1, h.2.1, h.2.2.trans ⟨rfl, rfl, rfl, Nat.le_refl _, fun _ _ => rfl⟩⟩
theorem LW.drewN (h : LW W0 g num ind v V w) (q : Nat) : LW W0 g num ind v V (w.drewN q) := ⟨h.1, h.2.1, below_drewN h.2.2 q⟩
theorem LW.cell2 (h : LW W0 g num ind v V w) : w.cell? ⟨g, 2, none⟩ = some v := by have := h.1; simp [World.cell?, this]
theorem LW.cells (h : LW W0 g num ind v V w) : w.cell? ⟨g, 0, none⟩ = some (.int .i64 (num : Int)) ∧ w.cell? ⟨g, 1, none⟩ = some (.bool ind) ∧ w.cell? ⟨g, 2, none⟩ = some v := by
  have := h.1
  exact ⟨by simp [World.cell?, this], by simp [World.cell?, this], by simp [World.cell?, this]⟩
/-- a word more -/
theorem LW.pushed {w7 : World} {v' : Value} {V' : List Lx.V} (h : LW W0 g num ind v V w) (hg : w.grownBy w7 v.ownBlock) (hO : WdR.Own w7 (g + 1) v' V') (hW : W0.heap.size ≤ g) :
    w7.cell? ⟨g, 2, none⟩ = some v ∧ w7.frozen? ⟨g, 2, none⟩ = false ∧ LW W0 g num ind v' V' (w7.setCell ⟨g, 2, none⟩ v') := by
  have hne : some g ≠ v.ownBlock := fun e => by have := (h.2.1.lt g e.symm).1; omega
  have h7 := (hg.block g h.lt hne).trans h.1
  refine ⟨by simp [World.cell?, h7], frozen_of_row w7 g 2 _ _ h7, ?_, ?_, ?_⟩
  · rw [heap_setCell_same w7 g 2 _ 33 v' h7]; rfl
  · exact row_turn hO (Turn.set1 w7 g 2 v') (Nat.lt_succ_self _)
  · have hb : Below W0.heap.size W0 w7 := h.2.2.grown hg h.2.2.size fun k e => by have := (h.2.1.lt k e).1; omega
    exact (Turn.setn (Turn.of_below hb) hW 2 v').below (by simp)

theorem told_eq {s : ByteArray} {av pl pc : Nat} (hpl : (Lx.place (bs s) av).1 = pl) (hpc : (Lx.place (bs s) av).2 = pc) {tx : List UInt8} {q m : Bool} : Lx.told (bs s) ⟨tx, av, q, m⟩ = ⟨tx, (pl : Int), (pc : Int), q, m⟩ := by
  simp only [Lx.told, hpl, hpc]
theorem wordT_at (s u : ByteArray) (n : Nat) (q m : Bool) (w : World) (hs : s.size ≤ 1099511627) (pl pc : Nat) (hpl : (Lx.place (bs s) n).1 = pl) (hpc : (Lx.place (bs s) n).2 = pc) :
    Calls Try.prog 34 #[.string s, .int .i64 (n : Int), .string u, .bool q, .bool m] w fun e w' => e = .returned (.agg #[.string u, .int .i64 (pl : Int), .int .i64 (pc : Int), .bool q, .bool m]) ∧ Below w.heap.size w w' := by
  refine (wordT_any s u n q m w hs).mono ?_
  rintro e w' ⟨rfl, hb⟩
  refine ⟨?_, hb⟩
  simp only [wdV, Lx.told, str_of, hpl, hpc]

/-- an append in a region that draws -/
theorem Rc.step_append {α : Type} {ops : Array Oper} {o : Oper} {a : Act} {K : Act → World → Prop} {Q : Exit → Act → World → Prop} {E : Prop} {w : World} (R : Rc α) (hgd : o.guard = none) (s x : Operand)
    (ho : o.op = .call { callee := .builtin .append, args := #[s, x], argTypes := #[R.st, R.st] }) (base B : Nat) (v vx : Value) (l m : List α)
    (hs : a.eval s = v) (hown : R.Own w base v l) (hx : a.eval x = vx) (hb : R.Sl w B vx m) (hm : m ≠ []) (hlen : Hid (l.length + m.length ≤ 1099511627)) (hbase : base ≤ w.heap.size)
    (h : ∀ g cap w', R.Own w' base (.slice (some ⟨g, 0, none⟩) (l.length + m.length) cap) (l ++ m) → w.grownBy w' v.ownBlock → K (a.put o.dst (.slice (some ⟨g, 0, none⟩) (l.length + m.length) cap)) w') :
    if Region.wanted o (yielded ops a.tmps) = true then Oper.wp Try.prog o a w K Q else E := by
  obtain ⟨i0, hi, hz0, hz1, hz2⟩ := info_parts R.info
  have hl := hlen.out
  obtain ⟨ad, c, rfl, hle, hn, hcells⟩ := hb
  obtain ⟨b, o', rfl, _, hcell⟩ := hcells hm
  have hm1 : 0 < m.length := List.length_pos_iff.2 hm
  refine step_append_lies _ hgd s x R.st ho base R.e i0 _ R.k R.bytes R.under hi hz0 hz1 hz2 R.zk R.pos v l.length (R.vals l) hs hown ⟨b, o', none⟩ m.length c (R.vals m) hx (R.vals_length m) ?_ (R.vals_one m) hm1 ?_ ?_ hbase w.heap.size rfl ?_
  · intro j u hu
    rw [addr_at]
    exact hcell j u hu
  · unfold maxLen; omega
  · have h1 : (l.length + m.length) * R.bytes ≤ 1099511627 * 1024 := Nat.mul_le_mul hl R.small
    omega
  · intro g cap w' h1 h2 _ _
    refine h g cap w' ?_ h2
    unfold Own; rw [R.vals_append, List.length_append]; exact h1

end Go.Proofs.Ytdknggccjhillaa
