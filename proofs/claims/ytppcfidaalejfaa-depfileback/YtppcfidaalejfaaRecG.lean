/-
  'append' under a guard ('&&', '||'), onto a row of the call's own.
-/
import Derived.Test.YtppcfidaalejfaaRec
import Derived.Laws.OwnMore
namespace Go.Proofs.Ytppcfidaalejfaa
open Go.RowKit

theorem Rc.appendG {α : Type} {ops : Array Oper} {rest : List Oper} {o : Oper} {a : Act} {Q : Exit → Act → World → Prop} {w : World} (R : Rc α) (hgd : Region.wanted o (yielded ops a.tmps) = true) (s x : Operand)
    (ho : o.op = .call { callee := .builtin .append, args := #[s, x], argTypes := #[R.st, R.st] }) (base B : Nat) (v vx : Value) (l m : List α)
    (hs : a.eval s = v) (hown : R.Own w base v l) (hx : a.eval x = vx) (hb : R.Sl w B vx m) (hlen : Hid (l.length + m.length ≤ 1099511627)) (hbase : base ≤ w.heap.size)
    (h : ∀ v' w', R.Own w' base v' (l ++ m) → w.grownBy w' v.ownBlock → wpList Try.prog ops Q rest (a.put o.dst v') w') :
    wpList Try.prog ops Q (o :: rest) a w := by
  obtain ⟨i0, hi, hz0, hz1, hz2⟩ := info_parts R.info
  have hl := hlen.out
  obtain ⟨ad, c, rfl, hle, hn, hcells⟩ := hb
  refine wpList_step fun K hK => ?_
  rw [if_pos hgd]
  cases ad with
  | none =>
    have hc0 := hn rfl
    subst hc0
    have hm : m = [] := List.eq_nil_of_length_eq_zero (by omega)
    subst hm
    have hrun := run_append_owned_none (P := Try.prog) (w := w) base R.st o.type R.e i0 R.k R.under hi v l.length (R.vals l) hown
    rw [List.length_nil] at hx
    unfold Oper.wp
    simp [execOp, ho, resolve, invoke, builtin, hs, hx, hrun, Result.andThen]
    refine hK _ _ (h v w ?_ ⟨rfl, rfl, rfl, Nat.le_refl _, fun _ _ _ => rfl⟩)
    rw [List.append_nil]; exact hown
  | some ad =>
    refine wp_append_own _ s x R.st ho base R.e i0 _ R.k R.bytes R.under hi hz0 hz1 hz2 R.zk R.pos v l.length (R.vals l) hs hown ad m.length c (R.vals m) hx (R.vals_length m) ?_ (R.vals_one m) ?_ ?_ hbase ?_
    · by_cases hne : m = []
      · subst hne; intro j u hu; simp [Rc.vals] at hu
      · obtain ⟨b, o', e, _, hcell⟩ := hcells hne
        simp only [Option.some.injEq] at e
        subst e
        intro j u hu
        rw [addr_at]
        exact hcell j u hu
    · unfold maxLen; omega
    · have := R.small
      have h1 : (l.length + m.length) * R.bytes ≤ 1099511627 * 1024 := Nat.mul_le_mul hl this
      omega
    · intro v' w' h1 h2 _
      refine hK _ _ (h v' w' ?_ h2)
      unfold Rc.Own; rw [R.vals_append, List.length_append]; exact h1

end Go.Proofs.Ytppcfidaalejfaa
