/-
  'append' in a drawn region: onto a row of the call's own, onto nothing.
-/
import Derived.Test.YtppcfidaalejfaaRec
import Derived.Deep.AppendLies
namespace Go.Proofs.Ytppcfidaalejfaa
open Go.RowKit

theorem Rc.step_app {α : Type} {ops : Array Oper} {o : Oper} {a : Act} {K : Act → World → Prop} {Q : Exit → Act → World → Prop} {E : Prop} {w : World} (R : Rc α) (hgd : o.guard = none) (s x : Operand)
    (ho : o.op = .call { callee := .builtin .append, args := #[s, x], argTypes := #[R.st, R.st] }) (base B : Nat) (v vx : Value) (l m : List α)
    (hs : a.eval s = v) (hown : R.Own w base v l) (hx : a.eval x = vx) (hb : R.Sl w B vx m) (hm : m ≠ []) (hlen : Hid (l.length + m.length ≤ 1099511627)) (hbase : base ≤ w.heap.size)
    (h : ∀ g cap w', R.Own w' base (.slice (some ⟨g, 0, none⟩) (l.length + m.length) cap) (l ++ m) → w.grownBy w' v.ownBlock → K (a.put o.dst (.slice (some ⟨g, 0, none⟩) (l.length + m.length) cap)) w') :
    if Region.wanted o (yielded ops a.tmps) = true then Oper.wp Try.prog o a w K Q else E := by
  obtain ⟨i0, hi, hz0, hz1, hz2⟩ := info_parts R.info
  have hl := hlen.out
  obtain ⟨ad, c, rfl, hle, hn, hcells⟩ := hb
  obtain ⟨b, o', rfl, _, hcell⟩ := hcells hm
  have hm1 : 0 < m.length := List.length_pos_iff.2 hm
  refine step_append_lies _ hgd s x R.st ho base R.e i0 _ R.k R.bytes R.under hi hz0 hz1 hz2 R.zk R.pos v l.length (R.vals l) hs hown ⟨b, o', none⟩ m.length c (R.vals m) hx (R.vals_length m) ?_ (R.vals_one m) hm1 ?_ ?_ hbase w.heap.size rfl ?_
  · intro j u hu
    rw [addr_at]
    exact hcell j u hu
  · unfold maxLen; omega
  · have h1 : (l.length + m.length) * R.bytes ≤ 1099511627 * 1024 := Nat.mul_le_mul hl R.small
    omega
  · intro g cap w' h1 h2 _ _
    refine h g cap w' ?_ h2
    unfold Own; rw [R.vals_append, List.length_append]; exact h1

/-- and where the row then lies -/
theorem Rc.step_app_at {α : Type} {ops : Array Oper} {o : Oper} {a : Act} {K : Act → World → Prop} {Q : Exit → Act → World → Prop} {E : Prop} {w : World} (R : Rc α) (hgd : o.guard = none) (s x : Operand)
    (ho : o.op = .call { callee := .builtin .append, args := #[s, x], argTypes := #[R.st, R.st] }) (base B : Nat) (v vx : Value) (l m : List α)
    (hs : a.eval s = v) (hown : R.Own w base v l) (hx : a.eval x = vx) (hb : R.Sl w B vx m) (hm : m ≠ []) (hlen : Hid (l.length + m.length ≤ 1099511627)) (hbase : base ≤ w.heap.size)
    (h : ∀ g cap w', R.Own w' base (.slice (some ⟨g, 0, none⟩) (l.length + m.length) cap) (l ++ m) → w.grownBy w' v.ownBlock → (v.ownBlock = some g ∨ g = w.heap.size) → K (a.put o.dst (.slice (some ⟨g, 0, none⟩) (l.length + m.length) cap)) w') :
    if Region.wanted o (yielded ops a.tmps) = true then Oper.wp Try.prog o a w K Q else E := by
  obtain ⟨i0, hi, hz0, hz1, hz2⟩ := info_parts R.info
  have hl := hlen.out
  obtain ⟨ad, c, rfl, hle, hn, hcells⟩ := hb
  obtain ⟨b, o', rfl, _, hcell⟩ := hcells hm
  have hm1 : 0 < m.length := List.length_pos_iff.2 hm
  refine step_append_lies _ hgd s x R.st ho base R.e i0 _ R.k R.bytes R.under hi hz0 hz1 hz2 R.zk R.pos v l.length (R.vals l) hs hown ⟨b, o', none⟩ m.length c (R.vals m) hx (R.vals_length m) ?_ (R.vals_one m) hm1 ?_ ?_ hbase w.heap.size rfl ?_
  · intro j u hu
    rw [addr_at]
    exact hcell j u hu
  · unfold maxLen; omega
  · have h1 : (l.length + m.length) * R.bytes ≤ 1099511627 * 1024 := Nat.mul_le_mul hl R.small
    omega
  · intro g cap w' h1 h2 h3 _
    refine h g cap w' ?_ h2 h3
    unfold Own; rw [R.vals_append, List.length_append]; exact h1

/-- 'append(nil, x...)' -/
theorem Rc.step_nil {α : Type} {ops : Array Oper} {o : Oper} {a : Act} {K : Act → World → Prop} {Q : Exit → Act → World → Prop} {E : Prop} {w : World} (R : Rc α) (hgd : o.guard = none) (s x : Operand)
    (ho : o.op = .call { callee := .builtin .append, args := #[s, x], argTypes := #[R.st, R.st] }) (B : Nat) (vx : Value) (m : List α)
    (hs : a.eval s = .slice none 0 0) (hx : a.eval x = vx) (hb : R.Sl w B vx m) (hlen : Hid (m.length ≤ 1099511627))
    (h : ∀ va vn vc w', R.Own w' w.heap.size (.slice va vn vc) m → Below w.heap.size w w' → K (a.put o.dst (.slice va vn vc)) w') :
    if Region.wanted o (yielded ops a.tmps) = true then Oper.wp Try.prog o a w K Q else E := by
  by_cases hm : m = []
  · subst hm
    have hw : Region.wanted o (yielded ops a.tmps) = true := by simp [Region.wanted, hgd]
    rw [if_pos hw]
    obtain ⟨i, hi, hz0, hz1, hz2⟩ := info_parts R.info
    obtain ⟨ad, c, rfl, hle, hn, hv⟩ := hb
    rw [List.length_nil] at hx
    have hr : (Builtin.append_ #[R.st, R.st] o.type #[.slice none 0 0, .slice ad 0 c]).run Try.prog w = .ok (.slice none 0 0) w := by
      cases ad <;> simp [Builtin.append_, run_underlying R.under, sizeOf, typeInfo, hi, Builtin.lenOf, Builtin.firstCells, loadCells, loadCellsFrom]
    unfold Oper.wp execOp
    simp only [ho, resolve, invoke, builtin, Sem.run_bind, Sem.run_pure, Result.andThen_ok, List.map_toArray, List.map_cons, List.map_nil, hs, hx, hr]
    exact h none 0 0 w (Rc.Own.nil _ _) (Below.refl _ _)
  · refine Rc.step_app R hgd s x ho w.heap.size B (.slice none 0 0) vx [] m hs (Rc.Own.nil _ _) hx hb hm ?_ (Nat.le_refl _) ?_
    · show _ ≤ _
      rw [List.length_nil, Nat.zero_add]
      exact hlen.out
    · intro g cap w' h1 h2
      exact h _ _ _ w' h1 ⟨h2.os, h2.tape, h2.output, h2.size, fun k hk => h2.block k hk (by simp [Value.ownBlock])⟩

end Go.Proofs.Ytppcfidaalejfaa

namespace Go.Proofs.Ytppcfidaalejfaa
open Go.RowKit

/-- all blocks of w are in w' what they were -/
def AllKept (w w' : World) : Prop := ∀ (k : Nat) (o : Obj), w.heap[k]? = some o → w'.heap[k]? = some o
theorem kept_alloc {w : World} {k : Nat} {o : Obj} (q : Obj) (h : w.heap[k]? = some o) : (w.alloc q).heap[k]? = some o := by
  rw [Below.heap_alloc w q k (by
    rcases Nat.lt_or_ge k w.heap.size with hlt | hge
    · exact hlt
    · rw [Array.getElem?_eq_none hge] at h; cases h)]
  exact h
theorem kept_drew {w : World} {k : Nat} {o : Obj} (h : w.heap[k]? = some o) : w.drew.heap[k]? = some o := h
theorem belowA {w0 w : World} (h : Below w0.heap.size w0 w) (o : Obj) : Below w0.heap.size w0 (w.alloc o) := h.alloc h.size o
theorem belowD {w0 w : World} (h : Below w0.heap.size w0 w) : Below w0.heap.size w0 w.drew := h.drew
theorem Rc.Own.kept {α : Type} {R : Rc α} {w w' : World} {base : Nat} {v : Value} {l : List α} (h : R.Own w base v l) (hk : AllKept w w') : R.Own w' base v l := by
  refine ⟨h.1, ?_⟩
  rcases h.2 with h | ⟨g, cap, cur, rfl, h2, h3, h4⟩
  · exact .inl h
  · exact .inr ⟨g, cap, cur, rfl, h2, hk _ _ h3, h4⟩
theorem AllKept.refl (w : World) : AllKept w w := fun _ _ h => h
theorem AllKept.alloc {w w' : World} (h : AllKept w w') (o : Obj) : AllKept w (w'.alloc o) := fun k q hq => kept_alloc _ (h k q hq)
theorem AllKept.trans {a b c : World} (h : AllKept a b) (k : AllKept b c) : AllKept a c := fun i q hq => k i q (h i q hq)

theorem Rc.dup {α : Type} (R : Rc α) {ops : Array Oper} {o : Oper} {a : Act} {w : World} {K : Act → World → Prop} {Q : Exit → Act → World → Prop} {E : Prop} (hgd : o.guard = none) (s x : Operand)
    (ho : o.op = .call { callee := .builtin .append, args := #[s, x], argTypes := #[R.st, R.st] }) (w0 : World)
    (hs' : ∃ b, a.eval s = .slice (some ⟨b, 0, none⟩) 0 0 ∧ w0.heap.size ≤ b ∧ w.heap[b]? = some (.cells #[] R.e (0, 0)))
    (v : Value) (l : List α) (hx : a.eval x = v) (hv : R.Sl w0 w0.heap.size v l) (hlen : l.length ≤ 10000000) (hS : Below w0.heap.size w0 w)
    (h : ∀ g cap w', R.Own w' w0.heap.size (.slice (some ⟨g, 0, none⟩) l.length cap) l → AllKept w w' → Below w0.heap.size w0 w' → K (a.put o.dst (.slice (some ⟨g, 0, none⟩) l.length cap)) w') :
    if Region.wanted o (yielded ops a.tmps) = true then Oper.wp Try.prog o a w K Q else E := by
  have hw : Region.wanted o (yielded ops a.tmps) = true := by simp [Region.wanted, hgd]
  rw [if_pos hw]
  obtain ⟨b, hs, hb, hlit⟩ := hs'
  obtain ⟨i, hi, hz0, hz1, hz2⟩ := info_parts R.info
  obtain ⟨ad, c, rfl, hle, hn, hv⟩ := hv
  by_cases hne : l = []
  · subst hne
    have hr : (Builtin.append_ #[R.st, R.st] o.type #[.slice (some ⟨b, 0, none⟩) 0 0, .slice ad 0 c]).run Try.prog w = .ok (.slice (some ⟨b, 0, none⟩) 0 0) w := by
      cases ad <;> simp [Builtin.append_, run_underlying R.under, sizeOf, typeInfo, hi, Builtin.lenOf, Builtin.firstCells, loadCells, loadCellsFrom, storeCells]
    unfold Oper.wp execOp
    rw [List.length_nil] at hx
    simp only [ho, resolve, invoke, builtin, Sem.run_bind, Sem.run_pure, Result.andThen_ok, List.map_toArray, List.map_cons, List.map_nil, hs, hx, hr]
    exact h b 0 w ⟨by simp [Rc.vals], .inr ⟨b, 0, #[], rfl, hb, hlit, Nat.le_refl _, by simp, by simp, by simp [Rc.vals]⟩⟩ (AllKept.refl w) hS
  · obtain ⟨bb, oo, rfl, hlt, hcell⟩ := hv hne
    have hm : 0 < l.length := List.length_pos_iff.2 hne
    have hmb : l.length * i.bytes ≤ 281474976710656 := Nat.le_trans (Nat.mul_le_mul hlen (hz2 ▸ R.small)) (by decide)
    have hr := run_append_grow (P := Try.prog) w R.st o.type R.e i R.z R.under hi hz0 ⟨b, 0, none⟩ 0 0 [] (by simp) (by intro j v hv; simp at hv) ⟨bb, oo, none⟩ l.length c (R.vals l) (by rw [hz1]; exact R.vals_length l)
      (fun j u hu => by rw [addr_at]; exact (hS.cell (p := ⟨bb, oo + j, none⟩) hlt).trans (hcell j u hu)) (by omega) (by omega) (by rw [Nat.zero_add, nextslicecap_zero hm]; exact hmb)
    simp only [Nat.zero_add] at hr
    unfold Oper.wp execOp
    simp only [ho, resolve, invoke, builtin, Sem.run_bind, Sem.run_pure, Result.andThen_ok, List.map_toArray, List.map_cons, List.map_nil, hs, hx, hr]
    have hge := grownCap_ge w l.length 0 R.e
    refine h _ _ _ ⟨R.vals_length l, .inr ⟨_, _, _, rfl, hS.size, heap_alloc_new w.drew _, hge, grownCap_le_maxLen w l.length 0 R.e (by unfold maxLen; omega), ?_, ?_⟩⟩ (fun k q hk => kept_alloc _ (kept_drew hk)) (belowA (belowD hS) _)
    · simp only [Array.size_append, List.size_toArray, size_zeroCells, R.zk, R.vals_length, List.length_nil]
      rw [Nat.zero_add, ← Nat.add_mul, Nat.add_sub_cancel' hge]
    · simp only [Array.toList_append, List.nil_append]
      rw [← R.vals_length l]
      exact List.take_left
end Go.Proofs.Ytppcfidaalejfaa
