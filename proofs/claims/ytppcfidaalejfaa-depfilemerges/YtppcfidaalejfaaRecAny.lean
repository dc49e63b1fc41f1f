/-
  'append' in a drawn region, of any row, an empty one too, and where what is new then lies.
-/
import Derived.Test.YtppcfidaalejfaaRecStep
namespace Go.Proofs.Ytppcfidaalejfaa
open Go.RowKit

/-- nothing is put behind a row -/
theorem Rc.run_app_nil {α : Type} {w : World} (R : Rc α) (ty : TypeId) (base : Nat) (v : Value) (l : List α) (hown : R.Own w base v l) (ad : Option Addr) (c : Nat) :
    (Builtin.append_ #[R.st, R.st] ty #[v, .slice ad 0 c]).run Try.prog w = .ok v w := by
  obtain ⟨i, hi, hz0, hz1, hz2⟩ := info_parts R.info
  rcases hown.2 with ⟨rfl, -⟩ | ⟨g, cap, cur, rfl, -, -, hnc, -⟩
  · cases ad <;> simp [Builtin.append_, run_underlying R.under, sizeOf, typeInfo, hi, Builtin.lenOf, Builtin.firstCells, loadCells, loadCellsFrom]
  · cases ad <;> simp [Builtin.append_, run_underlying R.under, sizeOf, typeInfo, hi, Builtin.lenOf, Builtin.firstCells, loadCells, loadCellsFrom, hnc, storeCells]
theorem Rc.step_any {α : Type} {ops : Array Oper} {o : Oper} {a : Act} {K : Act → World → Prop} {Q : Exit → Act → World → Prop} {E : Prop} {w : World} (R : Rc α) (hgd : o.guard = none) (s x : Operand)
    (ho : o.op = .call { callee := .builtin .append, args := #[s, x], argTypes := #[R.st, R.st] }) (base B : Nat) (v vx : Value) (l m : List α)
    (hs : a.eval s = v) (hown : R.Own w base v l) (hx : a.eval x = vx) (hb : R.Sl w B vx m) (hlen : Hid (l.length + m.length ≤ 1099511627)) (hbase : base ≤ w.heap.size)
    (h : ∀ v' w', R.Own w' base v' (l ++ m) → w.grownBy w' v.ownBlock → (∀ g, v'.ownBlock = some g → v.ownBlock = some g ∨ g = w.heap.size) → K (a.put o.dst v') w') :
    if Region.wanted o (yielded ops a.tmps) = true then Oper.wp Try.prog o a w K Q else E := by
  by_cases hm : m = []
  · subst hm
    have hw : Region.wanted o (yielded ops a.tmps) = true := by simp [Region.wanted, hgd]
    rw [if_pos hw]
    obtain ⟨ad, c, rfl, -, -⟩ := hb
    rw [List.length_nil] at hx
    have hr := Rc.run_app_nil R o.type base v l hown ad c
    unfold Oper.wp execOp
    simp only [ho, resolve, invoke, builtin, Sem.run_bind, Sem.run_pure, Result.andThen_ok, List.map_toArray, List.map_cons, List.map_nil, hs, hx, hr]
    exact h v w (by rw [List.append_nil]; exact hown) ⟨rfl, rfl, rfl, Nat.le_refl _, fun _ _ _ => rfl⟩ fun g hg => .inl hg
  · exact Rc.step_app_at R hgd s x ho base B v vx l m hs hown hx hb hm hlen hbase fun g cap w' h1 h2 h3 => h _ w' h1 h2 fun g' hg' => by
      simp only [Value.ownBlock, Option.some.injEq] at hg'
      subst hg'
      exact h3

end Go.Proofs.Ytppcfidaalejfaa
