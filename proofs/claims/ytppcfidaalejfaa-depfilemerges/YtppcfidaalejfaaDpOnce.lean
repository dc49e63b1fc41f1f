/-
  RULES PUT TOGETHER, target by target (pure). No program here.
-/
import Derived.Test.YtppcfidaalejfaaDpDeps
namespace Go.Proofs.Ytppcfidaalejfaa.Dp

/-- the deps of a target, from all its rules -/
def dof (t : B) (A : List Rule) : List B := (A.filter fun r => decide (r.1 = t)).flatMap Prod.snd
theorem dof_snoc (t : B) (A : List Rule) (u : Rule) : dof t (A ++ [u]) = dof t A ++ (if u.1 = t then u.2 else []) := by
  unfold dof
  rw [List.filter_append, List.flatMap_append]
  by_cases h : u.1 = t
  · rw [if_pos h, List.filter_cons_of_pos (by simpa using h)]; simp
  · rw [if_neg h, List.filter_cons_of_neg (by simpa using h)]; simp
theorem dof_none {t : B} {A : List Rule} (h : t ∉ A.map Prod.fst) : dof t A = [] := by
  unfold dof
  rw [List.filter_eq_nil_iff.2]
  · rfl
  · intro r hr
    rw [decide_eq_true_eq]
    rintro rfl
    exact h (List.mem_map_of_mem hr)
theorem adds_snoc (l d : List B) (s : B) : adds l (d ++ [s]) = add (adds l d) s := by simp [adds, List.foldl_append]
theorem nodup_add {l : List B} {s : B} (h : l.Nodup) : (add l s).Nodup := by
  unfold add
  split
  · exact h
  · rename_i hs
    rw [List.nodup_append]
    exact ⟨h, by simp, fun a ha b hb e => hs (by rw [List.mem_singleton] at hb; rw [← hb, ← e]; exact ha)⟩
theorem nodup_adds : ∀ {d l : List B}, l.Nodup → (adds l d).Nodup
  | [], _, h => h
  | s :: d, l, h => by
    show (adds (add l s) d).Nodup
    exact nodup_adds (nodup_add h)
theorem put_map (f : B → List B) (u : Rule) : ∀ (L : List B), L.Nodup → put (L.map fun t => (t, f t)) u = if u.1 ∈ L then L.map (fun t => (t, if t = u.1 then adds (f t) u.2 else f t)) else L.map (fun t => (t, f t)) ++ [(u.1, adds [] u.2)]
  | [], _ => rfl
  | a :: L, h => by
    rw [List.nodup_cons] at h
    rw [List.map_cons, put]
    by_cases ha : a = u.1
    · rw [if_pos ha, if_pos (by rw [ha]; exact List.mem_cons_self ..), List.map_cons, if_pos ha]
      congr 1
      refine List.map_congr_left fun t ht => ?_
      rw [if_neg]
      rintro rfl
      exact h.1 (ha ▸ ht)
    · rw [if_neg ha, put_map f u L h.2]
      by_cases hu : u.1 ∈ L
      · rw [if_pos hu, if_pos (List.mem_cons_of_mem _ hu), List.map_cons, if_neg ha]
      · rw [if_neg hu, if_neg (by rw [List.mem_cons, not_or]; exact ⟨fun e => ha e.symm, hu⟩)]
        rfl
theorem snoc_ind {α : Type} {P : List α → Prop} (h0 : P []) (hs : ∀ l x, P l → P (l ++ [x])) (l : List α) : P l := by
  rw [← List.reverse_reverse l]
  induction l.reverse with
  | nil => exact h0
  | cons x t ih => rw [List.reverse_cons]; exact hs _ _ ih
theorem merge_snoc (A : List Rule) (u : Rule) : merge (A ++ [u]) = put (merge A) u := by simp [merge, List.foldl_append]
/-- one rule for each target -/
theorem merge_eq (A : List Rule) : merge A = (adds [] (A.map Prod.fst)).map fun t => (t, adds [] (dof t A)) := by
  induction A using snoc_ind with
  | h0 => rfl
  | hs A u ih =>
    have hm : ∀ t, t ∈ adds [] (A.map Prod.fst) ↔ t ∈ A.map Prod.fst := fun t => by rw [mem_adds]; simp
    rw [merge_snoc, ih, put_map _ u _ (nodup_adds .nil), List.map_append, List.map_cons, List.map_nil, adds_snoc]
    unfold add
    by_cases hu : u.1 ∈ adds [] (A.map Prod.fst)
    · rw [if_pos hu, if_pos hu]
      refine List.map_congr_left fun t _ => ?_
      rw [dof_snoc]
      by_cases ht : t = u.1
      · rw [if_pos ht, if_pos ht.symm, adds_app]
      · rw [if_neg ht, if_neg (Ne.symm ht), List.append_nil]
    · rw [if_neg hu, if_neg hu, List.map_append]
      congr 1
      · refine List.map_congr_left fun t ht => ?_
        have hne : ¬ u.1 = t := fun e => hu (e ▸ ht)
        rw [dof_snoc, if_neg hne, List.append_nil]
      · rw [List.map_cons, List.map_nil, dof_snoc, if_pos rfl, dof_none (fun h => hu ((hm _).2 h)), List.nil_append]
theorem dof_len (t : B) (A : List Rule) : (dof t A).length ≤ (A.flatMap Prod.snd).length := by
  induction A with
  | nil => simp [dof]
  | cons u A ih =>
    unfold dof at *
    by_cases h : u.1 = t
    · rw [List.filter_cons_of_pos (by simpa using h)]
      simp only [List.flatMap_cons, List.length_append]
      omega
    · rw [List.filter_cons_of_neg (by simpa using h)]
      simp only [List.flatMap_cons, List.length_append]
      omega
theorem dof_mem {t x : B} {A : List Rule} (h : x ∈ dof t A) : ∃ u ∈ A, x ∈ u.2 := by
  unfold dof at h
  rw [List.mem_flatMap] at h
  obtain ⟨u, hu, hx⟩ := h
  exact ⟨u, (List.mem_filter.1 hu).1, hx⟩

end Go.Proofs.Ytppcfidaalejfaa.Dp
