/-
  WHOLE ARRAYS of 256 bytes, by value: into and out of a block that was just made.
-/
import Derived.Test.YtccfoafcfnhejaaSmall
import Derived.Deep.WholeRow
namespace Go.Proofs.Ytccfoafcfnhejaa
open Go.RowKit Go.Maps Go.ChangeMaps

theorem info78z : (Try.prog.info? 78).map (fun i => (i.zero, i.size)) = some (some (.agg (bV Dk.zeroB).toArray), 256) := by kernel_rfl
theorem zero78 (w : World) : (zeroValue 78).run Try.prog w = .ok (.agg (bV Dk.zeroB).toArray) w := (zero_of_info info78z).1 w
theorem size_bV (b : List UInt8) : (bV b).toArray.size = b.length := by simp [bV]
theorem one_bV (b : List UInt8) : (bV b).toArray.all (·.oneCell') = true := all_oneCell_toArray (bV_oneCell b)

/-- a block's bytes go into the variable that was just made -/
theorem wpList_store_blk {ops : Array Oper} {rest : List Oper} {op : Oper} {a : Act} {Q : Exit → Act → World → Prop} (w : World) (hgd : op.guard = none) (x y : Operand) (ho : op.op = .store 78 x y)
    (b c : List UInt8) (hb : b.length = 256) (hc : c.length = 256) (hx : a.eval x = .pointer (some ⟨w.heap.size, 0, none⟩)) (hy : a.eval y = .agg (bV b).toArray)
    (h : wpList Try.prog ops Q rest (a.put op.dst undef) (w.alloc (.cells (bV b).toArray 78))) : wpList Try.prog ops Q (op :: rest) a (w.alloc (.cells (bV c).toArray 78)) :=
  wpList_plain hgd fun K hK => by
    unfold Oper.wp execOp
    have := run_storeAt_new (P := Try.prog) w 78 (bV c).toArray (bV b).toArray (by rw [size_bV, hb]; exact info78) (by rw [size_bV, size_bV, hb, hc]) (one_bV b)
    simp only [ho, hx, hy, Sem.run_bind, this, Result.andThen_ok]
    exact hK _ _ h

/-- the bytes of a block as a slice, in the variable that was just made -/
theorem byts_blk (w : World) (b : List UInt8) (hb : b.length = 256) : Byts (w.alloc (.cells (bV b).toArray 78)) (w.heap.size + 1) (.slice (some ⟨w.heap.size, 0, none⟩) 256 256) b := by
  refine ⟨_, _, by rw [hb], by omega, (fun h => by cases h), fun _ => ⟨w.heap.size, 0, rfl, by omega, fun j hj => ?_⟩⟩
  rw [cell_of_row _ w.heap.size (0 + j) _ 78 (0, 0) (heap_alloc_new w _)]
  simp [bV, List.getD, List.getElem?_eq_getElem hj]

theorem Own.low {w : World} {B B' : Nat} {v : Value} {l : List UInt8} (h : Own w B v l) (hB : B' ≤ B) : Own w B' v l := by
  rcases h.2 with ⟨rfl, h0⟩ | ⟨g, cap, cur, rfl, hb, r⟩
  · exact ⟨h.1, .inl ⟨rfl, h0⟩⟩
  · exact ⟨h.1, .inr ⟨g, cap, cur, rfl, Nat.le_trans hB hb, r⟩⟩
end Go.Proofs.Ytccfoafcfnhejaa
