/-
  'append([]T{}, x...)' in a drawn region: a row's own copy, x empty or not.
-/
import Derived.Test.YtppcfidaalejfaaRec
namespace Go.Proofs.Ytppcfidaalejfaa
open Go.RowKit

/-- all blocks of w are in w' what they were -/
def AllKept (w w' : World) : Prop := ∀ (k : Nat) (o : Obj), w.heap[k]? = some o → w'.heap[k]? = some o
theorem kept_alloc {w : World} {k : Nat} {o : Obj} (q : Obj) (h : w.heap[k]? = some o) : (w.alloc q).heap[k]? = some o := by
  rw [Below.heap_alloc w q k (by
    rcases Nat.lt_or_ge k w.heap.size with hlt | hge
    · exact hlt
    · rw [Array.getElem?_eq_none hge] at h; cases h)]
  exact h
theorem kept_drew {w : World} {k : Nat} {o : Obj} (h : w.heap[k]? = some o) : w.drew.heap[k]? = some o := h
theorem belowA {w0 w : World} (h : Below w0.heap.size w0 w) (o : Obj) : Below w0.heap.size w0 (w.alloc o) := h.alloc h.size o
theorem belowD {w0 w : World} (h : Below w0.heap.size w0 w) : Below w0.heap.size w0 w.drew := h.drew
theorem Rc.Own.kept {α : Type} {R : Rc α} {w w' : World} {base : Nat} {v : Value} {l : List α} (h : R.Own w base v l) (hk : AllKept w w') : R.Own w' base v l := by
  refine ⟨h.1, ?_⟩
  rcases h.2 with h | ⟨g, cap, cur, rfl, h2, h3, h4⟩
  · exact .inl h
  · exact .inr ⟨g, cap, cur, rfl, h2, hk _ _ h3, h4⟩
theorem AllKept.refl (w : World) : AllKept w w := fun _ _ h => h
theorem AllKept.alloc {w w' : World} (h : AllKept w w') (o : Obj) : AllKept w (w'.alloc o) := fun k q hq => kept_alloc _ (h k q hq)
theorem AllKept.trans {a b c : World} (h : AllKept a b) (k : AllKept b c) : AllKept a c := fun i q hq => k i q (h i q hq)

theorem Rc.dup {α : Type} (R : Rc α) {ops : Array Oper} {o : Oper} {a : Act} {w : World} {K : Act → World → Prop} {Q : Exit → Act → World → Prop} {E : Prop} (hgd : o.guard = none) (s x : Operand)
    (ho : o.op = .call { callee := .builtin .append, args := #[s, x], argTypes := #[R.st, R.st] }) (w0 : World)
    (hs' : ∃ b, a.eval s = .slice (some ⟨b, 0, none⟩) 0 0 ∧ w0.heap.size ≤ b ∧ w.heap[b]? = some (.cells #[] R.e (0, 0)))
    (v : Value) (l : List α) (hx : a.eval x = v) (hv : R.Sl w0 w0.heap.size v l) (hlen : l.length ≤ 10000000) (hS : Below w0.heap.size w0 w)
    (h : ∀ g cap w', R.Own w' w0.heap.size (.slice (some ⟨g, 0, none⟩) l.length cap) l → AllKept w w' → Below w0.heap.size w0 w' → K (a.put o.dst (.slice (some ⟨g, 0, none⟩) l.length cap)) w') :
    if Region.wanted o (yielded ops a.tmps) = true then Oper.wp Try.prog o a w K Q else E := by
  have hw : Region.wanted o (yielded ops a.tmps) = true := by simp [Region.wanted, hgd]
  rw [if_pos hw]
  obtain ⟨b, hs, hb, hlit⟩ := hs'
  obtain ⟨i, hi, hz0, hz1, hz2⟩ := info_parts R.info
  obtain ⟨ad, c, rfl, hle, hn, hv⟩ := hv
  by_cases hne : l = []
  · subst hne
    have hr : (Builtin.append_ #[R.st, R.st] o.type #[.slice (some ⟨b, 0, none⟩) 0 0, .slice ad 0 c]).run Try.prog w = .ok (.slice (some ⟨b, 0, none⟩) 0 0) w := by
      cases ad <;> simp [Builtin.append_, run_underlying R.under, sizeOf, typeInfo, hi, Builtin.lenOf, Builtin.firstCells, loadCells, loadCellsFrom, storeCells]
    unfold Oper.wp execOp
    rw [List.length_nil] at hx
    simp only [ho, resolve, invoke, builtin, Sem.run_bind, Sem.run_pure, Result.andThen_ok, List.map_toArray, List.map_cons, List.map_nil, hs, hx, hr]
    exact h b 0 w ⟨by simp [Rc.vals], .inr ⟨b, 0, #[], rfl, hb, hlit, Nat.le_refl _, by simp, by simp, by simp [Rc.vals]⟩⟩ (AllKept.refl w) hS
  · obtain ⟨bb, oo, rfl, hlt, hcell⟩ := hv hne
    have hm : 0 < l.length := List.length_pos_iff.2 hne
    have hmb : l.length * i.bytes ≤ 281474976710656 := Nat.le_trans (Nat.mul_le_mul hlen (hz2 ▸ R.small)) (by decide)
    have hr := run_append_grow (P := Try.prog) w R.st o.type R.e i R.z R.under hi hz0 ⟨b, 0, none⟩ 0 0 [] (by simp) (by intro j v hv; simp at hv) ⟨bb, oo, none⟩ l.length c (R.vals l) (by rw [hz1]; exact R.vals_length l)
      (fun j u hu => by rw [addr_at]; exact (hS.cell (p := ⟨bb, oo + j, none⟩) hlt).trans (hcell j u hu)) (by omega) (by omega) (by rw [Nat.zero_add, nextslicecap_zero hm]; exact hmb)
    simp only [Nat.zero_add] at hr
    unfold Oper.wp execOp
    simp only [ho, resolve, invoke, builtin, Sem.run_bind, Sem.run_pure, Result.andThen_ok, List.map_toArray, List.map_cons, List.map_nil, hs, hx, hr]
    have hge := grownCap_ge w l.length 0 R.e
    refine h _ _ _ ⟨R.vals_length l, .inr ⟨_, _, _, rfl, hS.size, heap_alloc_new w.drew _, hge, grownCap_le_maxLen w l.length 0 R.e (by unfold maxLen; omega), ?_, ?_⟩⟩ (fun k q hk => kept_alloc _ (kept_drew hk)) (belowA (belowD hS) _)
    · simp only [Array.size_append, List.size_toArray, size_zeroCells, R.zk, R.vals_length, List.length_nil]
      rw [Nat.zero_add, ← Nat.add_mul, Nat.add_sub_cancel' hge]
    · simp only [Array.toList_append, List.nil_append]
      rw [← R.vals_length l]
      exact List.take_left
end Go.Proofs.Ytppcfidaalejfaa
