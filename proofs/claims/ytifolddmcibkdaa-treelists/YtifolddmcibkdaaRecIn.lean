/-
  ROWS OF RECORDS INSIDE A FENCE: append in the body of a range over a function, into a box.
-/
import Derived.Test.YtifolddmcibkdaaRec
import Derived.Test.YtifolddmcibkdaaTurn
import Derived.Test.YtifolddmcibkdaaSeqOf
import Derived.RangeFuncFrom
import Derived.RangeFuncBox
namespace Go.Proofs.Ytifolddmcibkdaa
open Go.RowKit Go.Shelf

theorem boxed_below {W W' : World} {B b : Nat} {t : TypeId} {v : Value} (h : Boxed W b t v) (hb : Below B W W') (hB : b < B) : Boxed W' b t v := (hb.block b hB).trans h
theorem boxed_turn {W W' : World} {S : List Nat} {b : Nat} {t : TypeId} {v : Value} (h : Boxed W b t v) (hT : Turn S W W') (hb : b ∉ S) : Boxed W' b t v := (hT.block b h.lt hb).trans h

namespace Rc
variable {α : Type} {R : Rc α}

theorem appendIn {F : Fence} {n : Nat} {ops : Array Oper} {rest : List Oper} {o : Oper} {a : Act} {Q : Exit → Act → World → Prop} {w : World} (R : Rc α) (hgd : o.guard = none) (s x : Operand)
    (ho : o.op = .call { callee := .builtin .append, args := #[s, x], argTypes := #[R.st, R.st] }) (base B : Nat) (v vx : Value) (l m : List α)
    (hs : a.eval s = v) (hown : R.Own w base v l) (hx : a.eval x = vx) (hb : R.Sl w B vx m) (hm : m ≠ []) (hlen : Hid (l.length + m.length ≤ 1099511627)) (hbase : base ≤ w.heap.size)
    (h : ∀ v' w', R.Own w' base v' (l ++ m) → w.grownBy w' v.ownBlock → wpListIn F n Try.prog ops Q rest (a.put o.dst v') w') :
    wpListIn F n Try.prog ops Q (o :: rest) a w := by
  obtain ⟨i0, hi, hz0, hz1, hz2⟩ := info_parts R.info
  have hl := hlen.out
  obtain ⟨ad, c, rfl, hle, hn, hcells⟩ := hb
  obtain ⟨b, o', rfl, _, hcell⟩ := hcells hm
  refine wpListIn_append_own _ hgd s x R.st ho base R.e i0 _ R.k R.bytes R.under hi hz0 hz1 hz2 R.zk R.pos v l.length (R.vals l) hs hown ⟨b, o', none⟩ m.length c (R.vals m) hx (R.vals_length m) ?_ (R.vals_one m) ?_ ?_ hbase ?_
  · intro j u hu
    rw [addr_at]
    exact hcell j u hu
  · unfold maxLen; omega
  · have h1 : (l.length + m.length) * R.bytes ≤ 1099511627 * 1024 := Nat.mul_le_mul hl R.small
    omega
  · intro v' w' h1 h2 _
    refine h v' w' ?_ h2
    unfold Own; rw [R.vals_append, List.length_append]; exact h1

/-- 'out = append(out, x)', out in a box: what lies behind it -/
theorem boxAppended {W w1 : World} {n0 ob : Nat} {t : TypeId} {v v' : Value} {l m : List α} {tmp : Obj} (hv : Boxed W ob t v) (hte : t ≠ R.e) (hrow : R.Own W n0 v l) (hown : R.Own w1 n0 v' m) (hg : (W.alloc tmp).grownBy w1 v.ownBlock) :
    Boxed w1 ob t v ∧ Boxed (w1.setCell ⟨ob, 0, none⟩ v') ob t v' ∧ R.Own (w1.setCell ⟨ob, 0, none⟩ v') n0 v' m ∧ KeepsOthers W (w1.setCell ⟨ob, 0, none⟩ v') := by
  obtain ⟨h1, h2, h3, h4, -⟩ := Boxed.appended (n₀ := 0) hv hte (Own.low hrow (Nat.zero_le _)) (Nat.zero_le _) (Nat.zero_le _) (Own.low hown (Nat.zero_le _)) hg
  refine ⟨h1, h2, ?_, h4⟩
  exact Row.turn hown ((Turn.refl [ob] w1).set (fun _ => by simp) v') (fun k e hm => by
    simp only [List.mem_singleton] at hm
    subst hm
    exact Boxed.not_row h1 hte hown e.symm)
end Rc
end Go.Proofs.Ytifolddmcibkdaa
