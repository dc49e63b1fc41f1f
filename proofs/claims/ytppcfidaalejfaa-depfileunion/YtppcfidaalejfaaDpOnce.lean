/-
  RULES PUT TOGETHER, target by target (pure). No program here.
-/
import Derived.Test.YtppcfidaalejfaaDpDeps
import Derived.Test.YtppcfidaalejfaaRecStep
namespace Go.Proofs.Ytppcfidaalejfaa.Dp

/-- the deps of a target, from all its rules -/
def dof (t : B) (A : List Rule) : List B := (A.filter fun r => decide (r.1 = t)).flatMap Prod.snd
theorem dof_snoc (t : B) (A : List Rule) (u : Rule) : dof t (A ++ [u]) = dof t A ++ (if u.1 = t then u.2 else []) := by
  unfold dof
  rw [List.filter_append, List.flatMap_append]
  by_cases h : u.1 = t
  · rw [if_pos h, List.filter_cons_of_pos (by simpa using h)]; simp
  · rw [if_neg h, List.filter_cons_of_neg (by simpa using h)]; simp
theorem dof_none {t : B} {A : List Rule} (h : t ∉ A.map Prod.fst) : dof t A = [] := by
  unfold dof
  rw [List.filter_eq_nil_iff.2]
  · rfl
  · intro r hr
    rw [decide_eq_true_eq]
    rintro rfl
    exact h (List.mem_map_of_mem hr)
theorem adds_snoc (l d : List B) (s : B) : adds l (d ++ [s]) = add (adds l d) s := by simp [adds, List.foldl_append]
theorem nodup_add {l : List B} {s : B} (h : l.Nodup) : (add l s).Nodup := by
  unfold add
  split
  · exact h
  · rename_i hs
    rw [List.nodup_append]
    exact ⟨h, by simp, fun a ha b hb e => hs (by rw [List.mem_singleton] at hb; rw [← hb, ← e]; exact ha)⟩
theorem nodup_adds : ∀ {d l : List B}, l.Nodup → (adds l d).Nodup
  | [], _, h => h
  | s :: d, l, h => by
    show (adds (add l s) d).Nodup
    exact nodup_adds (nodup_add h)
theorem put_map (f : B → List B) (u : Rule) : ∀ (L : List B), L.Nodup → put (L.map fun t => (t, f t)) u = if u.1 ∈ L then L.map (fun t => (t, if t = u.1 then adds (f t) u.2 else f t)) else L.map (fun t => (t, f t)) ++ [(u.1, adds [] u.2)]
  | [], _ => rfl
  | a :: L, h => by
    rw [List.nodup_cons] at h
    rw [List.map_cons, put]
    by_cases ha : a = u.1
    · rw [if_pos ha, if_pos (by rw [ha]; exact List.mem_cons_self ..), List.map_cons, if_pos ha]
      congr 1
      refine List.map_congr_left fun t ht => ?_
      rw [if_neg]
      rintro rfl
      exact h.1 (ha ▸ ht)
    · rw [if_neg ha, put_map f u L h.2]
      by_cases hu : u.1 ∈ L
      · rw [if_pos hu, if_pos (List.mem_cons_of_mem _ hu), List.map_cons, if_neg ha]
      · rw [if_neg hu, if_neg (by rw [List.mem_cons, not_or]; exact ⟨fun e => ha e.symm, hu⟩)]
        rfl
theorem snoc_ind {α : Type} {P : List α → Prop} (h0 : P []) (hs : ∀ l x, P l → P (l ++ [x])) (l : List α) : P l := by
  rw [← List.reverse_reverse l]
  induction l.reverse with
  | nil => exact h0
  | cons x t ih => rw [List.reverse_cons]; exact hs _ _ ih
theorem merge_snoc (A : List Rule) (u : Rule) : merge (A ++ [u]) = put (merge A) u := by simp [merge, List.foldl_append]
/-- one rule for each target -/
theorem merge_eq (A : List Rule) : merge A = (adds [] (A.map Prod.fst)).map fun t => (t, adds [] (dof t A)) := by
  induction A using snoc_ind with
  | h0 => rfl
  | hs A u ih =>
    have hm : ∀ t, t ∈ adds [] (A.map Prod.fst) ↔ t ∈ A.map Prod.fst := fun t => by rw [mem_adds]; simp
    rw [merge_snoc, ih, put_map _ u _ (nodup_adds .nil), List.map_append, List.map_cons, List.map_nil, adds_snoc]
    unfold add
    by_cases hu : u.1 ∈ adds [] (A.map Prod.fst)
    · rw [if_pos hu, if_pos hu]
      refine List.map_congr_left fun t _ => ?_
      rw [dof_snoc]
      by_cases ht : t = u.1
      · rw [if_pos ht, if_pos ht.symm, adds_app]
      · rw [if_neg ht, if_neg (Ne.symm ht), List.append_nil]
    · rw [if_neg hu, if_neg hu, List.map_append]
      congr 1
      · refine List.map_congr_left fun t ht => ?_
        have hne : ¬ u.1 = t := fun e => hu (e ▸ ht)
        rw [dof_snoc, if_neg hne, List.append_nil]
      · rw [List.map_cons, List.map_nil, dof_snoc, if_pos rfl, dof_none (fun h => hu ((hm _).2 h)), List.nil_append]
theorem dof_len (t : B) (A : List Rule) : (dof t A).length ≤ (A.flatMap Prod.snd).length := by
  induction A with
  | nil => simp [dof]
  | cons u A ih =>
    unfold dof at *
    by_cases h : u.1 = t
    · rw [List.filter_cons_of_pos (by simpa using h)]
      simp only [List.flatMap_cons, List.length_append]
      omega
    · rw [List.filter_cons_of_neg (by simpa using h)]
      simp only [List.flatMap_cons, List.length_append]
      omega
theorem dof_mem {t x : B} {A : List Rule} (h : x ∈ dof t A) : ∃ u ∈ A, x ∈ u.2 := by
  unfold dof at h
  rw [List.mem_flatMap] at h
  obtain ⟨u, hu, hx⟩ := h
  exact ⟨u, (List.mem_filter.1 hu).1, hx⟩

end Go.Proofs.Ytppcfidaalejfaa.Dp

namespace Go.Proofs.Ytppcfidaalejfaa
open Go.RowKit

/-- nothing is put behind a row -/
theorem Rc.run_app_nil {α : Type} {w : World} (R : Rc α) (ty : TypeId) (base : Nat) (v : Value) (l : List α) (hown : R.Own w base v l) (ad : Option Addr) (c : Nat) :
    (Builtin.append_ #[R.st, R.st] ty #[v, .slice ad 0 c]).run Try.prog w = .ok v w := by
  obtain ⟨i, hi, hz0, hz1, hz2⟩ := info_parts R.info
  rcases hown.2 with ⟨rfl, -⟩ | ⟨g, cap, cur, rfl, -, -, hnc, -⟩
  · cases ad <;> simp [Builtin.append_, run_underlying R.under, sizeOf, typeInfo, hi, Builtin.lenOf, Builtin.firstCells, loadCells, loadCellsFrom]
  · cases ad <;> simp [Builtin.append_, run_underlying R.under, sizeOf, typeInfo, hi, Builtin.lenOf, Builtin.firstCells, loadCells, loadCellsFrom, hnc, storeCells]
theorem Rc.step_any {α : Type} {ops : Array Oper} {o : Oper} {a : Act} {K : Act → World → Prop} {Q : Exit → Act → World → Prop} {E : Prop} {w : World} (R : Rc α) (hgd : o.guard = none) (s x : Operand)
    (ho : o.op = .call { callee := .builtin .append, args := #[s, x], argTypes := #[R.st, R.st] }) (base B : Nat) (v vx : Value) (l m : List α)
    (hs : a.eval s = v) (hown : R.Own w base v l) (hx : a.eval x = vx) (hb : R.Sl w B vx m) (hlen : Hid (l.length + m.length ≤ 1099511627)) (hbase : base ≤ w.heap.size)
    (h : ∀ v' w', R.Own w' base v' (l ++ m) → w.grownBy w' v.ownBlock → (∀ g, v'.ownBlock = some g → v.ownBlock = some g ∨ g = w.heap.size) → K (a.put o.dst v') w') :
    if Region.wanted o (yielded ops a.tmps) = true then Oper.wp Try.prog o a w K Q else E := by
  by_cases hm : m = []
  · subst hm
    have hw : Region.wanted o (yielded ops a.tmps) = true := by simp [Region.wanted, hgd]
    rw [if_pos hw]
    obtain ⟨ad, c, rfl, -, -⟩ := hb
    rw [List.length_nil] at hx
    have hr := Rc.run_app_nil R o.type base v l hown ad c
    unfold Oper.wp execOp
    simp only [ho, resolve, invoke, builtin, Sem.run_bind, Sem.run_pure, Result.andThen_ok, List.map_toArray, List.map_cons, List.map_nil, hs, hx, hr]
    exact h v w (by rw [List.append_nil]; exact hown) ⟨rfl, rfl, rfl, Nat.le_refl _, fun _ _ _ => rfl⟩ fun g hg => .inl hg
  · exact Rc.step_app_at R hgd s x ho base B v vx l m hs hown hx hb hm hlen hbase fun g cap w' h1 h2 h3 => h _ w' h1 h2 fun g' hg' => by
      simp only [Value.ownBlock, Option.some.injEq] at hg'
      subst hg'
      exact h3

end Go.Proofs.Ytppcfidaalejfaa
