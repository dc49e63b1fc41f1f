/-
  'append' in a drawn region: onto a row of the call's own, onto nothing.
-/
import Derived.Test.YtppcfidaalejfaaRec
import Derived.Deep.AppendLies
namespace Go.Proofs.Ytppcfidaalejfaa
open Go.RowKit

theorem Rc.step_app {α : Type} {ops : Array Oper} {o : Oper} {a : Act} {K : Act → World → Prop} {Q : Exit → Act → World → Prop} {E : Prop} {w : World} (R : Rc α) (hgd : o.guard = none) (s x : Operand)
    (ho : o.op = .call { callee := .builtin .append, args := #[s, x], argTypes := #[R.st, R.st] }) (base B : Nat) (v vx : Value) (l m : List α)
    (hs : a.eval s = v) (hown : R.Own w base v l) (hx : a.eval x = vx) (hb : R.Sl w B vx m) (hm : m ≠ []) (hlen : Hid (l.length + m.length ≤ 1099511627)) (hbase : base ≤ w.heap.size)
    (h : ∀ g cap w', R.Own w' base (.slice (some ⟨g, 0, none⟩) (l.length + m.length) cap) (l ++ m) → w.grownBy w' v.ownBlock → K (a.put o.dst (.slice (some ⟨g, 0, none⟩) (l.length + m.length) cap)) w') :
    if Region.wanted o (yielded ops a.tmps) = true then Oper.wp Try.prog o a w K Q else E := by
  obtain ⟨i0, hi, hz0, hz1, hz2⟩ := info_parts R.info
  have hl := hlen.out
  obtain ⟨ad, c, rfl, hle, hn, hcells⟩ := hb
  obtain ⟨b, o', rfl, _, hcell⟩ := hcells hm
  have hm1 : 0 < m.length := List.length_pos_iff.2 hm
  refine step_append_lies _ hgd s x R.st ho base R.e i0 _ R.k R.bytes R.under hi hz0 hz1 hz2 R.zk R.pos v l.length (R.vals l) hs hown ⟨b, o', none⟩ m.length c (R.vals m) hx (R.vals_length m) ?_ (R.vals_one m) hm1 ?_ ?_ hbase w.heap.size rfl ?_
  · intro j u hu
    rw [addr_at]
    exact hcell j u hu
  · unfold maxLen; omega
  · have h1 : (l.length + m.length) * R.bytes ≤ 1099511627 * 1024 := Nat.mul_le_mul hl R.small
    omega
  · intro g cap w' h1 h2 _ _
    refine h g cap w' ?_ h2
    unfold Own; rw [R.vals_append, List.length_append]; exact h1

/-- and where the row then lies -/
theorem Rc.step_app_at {α : Type} {ops : Array Oper} {o : Oper} {a : Act} {K : Act → World → Prop} {Q : Exit → Act → World → Prop} {E : Prop} {w : World} (R : Rc α) (hgd : o.guard = none) (s x : Operand)
    (ho : o.op = .call { callee := .builtin .append, args := #[s, x], argTypes := #[R.st, R.st] }) (base B : Nat) (v vx : Value) (l m : List α)
    (hs : a.eval s = v) (hown : R.Own w base v l) (hx : a.eval x = vx) (hb : R.Sl w B vx m) (hm : m ≠ []) (hlen : Hid (l.length + m.length ≤ 1099511627)) (hbase : base ≤ w.heap.size)
    (h : ∀ g cap w', R.Own w' base (.slice (some ⟨g, 0, none⟩) (l.length + m.length) cap) (l ++ m) → w.grownBy w' v.ownBlock → (v.ownBlock = some g ∨ g = w.heap.size) → K (a.put o.dst (.slice (some ⟨g, 0, none⟩) (l.length + m.length) cap)) w') :
    if Region.wanted o (yielded ops a.tmps) = true then Oper.wp Try.prog o a w K Q else E := by
  obtain ⟨i0, hi, hz0, hz1, hz2⟩ := info_parts R.info
  have hl := hlen.out
  obtain ⟨ad, c, rfl, hle, hn, hcells⟩ := hb
  obtain ⟨b, o', rfl, _, hcell⟩ := hcells hm
  have hm1 : 0 < m.length := List.length_pos_iff.2 hm
  refine step_append_lies _ hgd s x R.st ho base R.e i0 _ R.k R.bytes R.under hi hz0 hz1 hz2 R.zk R.pos v l.length (R.vals l) hs hown ⟨b, o', none⟩ m.length c (R.vals m) hx (R.vals_length m) ?_ (R.vals_one m) hm1 ?_ ?_ hbase w.heap.size rfl ?_
  · intro j u hu
    rw [addr_at]
    exact hcell j u hu
  · unfold maxLen; omega
  · have h1 : (l.length + m.length) * R.bytes ≤ 1099511627 * 1024 := Nat.mul_le_mul hl R.small
    omega
  · intro g cap w' h1 h2 h3 _
    refine h g cap w' ?_ h2 h3
    unfold Own; rw [R.vals_append, List.length_append]; exact h1

/-- 'append(nil, x...)' -/
theorem Rc.step_nil {α : Type} {ops : Array Oper} {o : Oper} {a : Act} {K : Act → World → Prop} {Q : Exit → Act → World → Prop} {E : Prop} {w : World} (R : Rc α) (hgd : o.guard = none) (s x : Operand)
    (ho : o.op = .call { callee := .builtin .append, args := #[s, x], argTypes := #[R.st, R.st] }) (B : Nat) (vx : Value) (m : List α)
    (hs : a.eval s = .slice none 0 0) (hx : a.eval x = vx) (hb : R.Sl w B vx m) (hlen : Hid (m.length ≤ 1099511627))
    (h : ∀ va vn vc w', R.Own w' w.heap.size (.slice va vn vc) m → Below w.heap.size w w' → K (a.put o.dst (.slice va vn vc)) w') :
    if Region.wanted o (yielded ops a.tmps) = true then Oper.wp Try.prog o a w K Q else E := by
  by_cases hm : m = []
  · subst hm
    have hw : Region.wanted o (yielded ops a.tmps) = true := by simp [Region.wanted, hgd]
    rw [if_pos hw]
    obtain ⟨i, hi, hz0, hz1, hz2⟩ := info_parts R.info
    obtain ⟨ad, c, rfl, hle, hn, hv⟩ := hb
    rw [List.length_nil] at hx
    have hr : (Builtin.append_ #[R.st, R.st] o.type #[.slice none 0 0, .slice ad 0 c]).run Try.prog w = .ok (.slice none 0 0) w := by
      cases ad <;> simp [Builtin.append_, run_underlying R.under, sizeOf, typeInfo, hi, Builtin.lenOf, Builtin.firstCells, loadCells, loadCellsFrom]
    unfold Oper.wp execOp
    simp only [ho, resolve, invoke, builtin, Sem.run_bind, Sem.run_pure, Result.andThen_ok, List.map_toArray, List.map_cons, List.map_nil, hs, hx, hr]
    exact h none 0 0 w (Rc.Own.nil _ _) (Below.refl _ _)
  · refine Rc.step_app R hgd s x ho w.heap.size B (.slice none 0 0) vx [] m hs (Rc.Own.nil _ _) hx hb hm ?_ (Nat.le_refl _) ?_
    · show _ ≤ _
      rw [List.length_nil, Nat.zero_add]
      exact hlen.out
    · intro g cap w' h1 h2
      exact h _ _ _ w' h1 ⟨h2.os, h2.tape, h2.output, h2.size, fun k hk => h2.block k hk (by simp [Value.ownBlock])⟩

end Go.Proofs.Ytppcfidaalejfaa
