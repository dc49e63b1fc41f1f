/-
  WHAT Deps TELLS OF TWO LISTS AND OF BOTH. No program here.
-/
import Derived.Test.YtppcfidaalejfaaDpC
import Derived.Test.YtppcfidaalejfaaDpVol
namespace Go.Proofs.Ytppcfidaalejfaa
open Go.RowKit
namespace Dp
def lst : Int ⊕ List B → List B
  | .inl _ => []
  | .inr d => d
def err : Int ⊕ List B → Int
  | .inl e => e
  | .inr _ => 0
theorem norm_code (s : B) : (Pm.norm s).2 = 0 ∨ (Pm.norm s).2 = 2 ∨ (Pm.norm s).2 = 3 := by
  unfold Pm.norm
  cases Pm.kept (Pm.cut s) with
  | none => exact .inr (.inl rfl)
  | some K =>
    cases K with
    | nil => exact .inr (.inl rfl)
    | cons a r =>
      unfold Pm.told
      simp only
      split
      · exact .inr (.inr rfl)
      · exact .inl rfl
theorem nm_err {s : B} {e : Int} (h : nm s = .inl e) : e = 2 ∨ e = 3 := by
  unfold nm at h
  split at h
  · cases h
  · have := norm_code s
    have h2 := Sum.inl.inj h
    omega
theorem paths_err : ∀ {a : List B} {e : Int}, paths nm a = .inl e → e = 2 ∨ e = 3
  | [], e, h => by cases h
  | s :: r, e, h => by
    rw [paths] at h
    cases hs : nm s with
    | inl k =>
      rw [hs] at h
      have : k = e := Sum.inl.inj h
      subst this
      exact nm_err hs
    | inr q =>
      rw [hs] at h
      simp only at h
      cases hr : paths nm r with
      | inl k =>
        rw [hr] at h
        have : k = e := Sum.inl.inj h
        subst this
        exact paths_err hr
      | inr x => rw [hr] at h; cases h
/-- an error of a dep -/
def Bad (e : Int) : Prop := e = 2 ∨ e = 3
structure Uni (r1 r2 r3 r4 : Int ⊕ List B) : Prop where
  c1 : err r1 = 0 ∨ err r1 = 4 ∨ Bad (err r1)
  c2 : err r2 = 0 ∨ err r2 = 4 ∨ Bad (err r2)
  c3 : err r3 = 0 ∨ err r3 = 4 ∨ Bad (err r3)
  ok : err r3 = 0 ↔ err r4 = 0
  len : (lst r4).length = (lst r3).length
  mem : ∀ s ∈ lst r4, s ∈ lst r3
  bad : Bad (err r1) ∨ Bad (err r2) → Bad (err r3) ∧ lst r3 = []
  both : ¬ (Bad (err r1) ∨ Bad (err r2)) → (err r3 = 0 ↔ (err r1 = 0 ∨ err r2 = 0)) ∧ lst r3 = lst r1 ++ (lst r2).filter (fun s => decide (s ∉ lst r1))
theorem hangs_code (p : B) (l : List Rule) : err (hangs nm p l) = 0 ∨ err (hangs nm p l) = 4 ∨ Bad (err (hangs nm p l)) := by
  unfold hangs
  cases h : paths nm (ws nm p l) with
  | inl e => exact .inr (.inr (paths_err h))
  | inr x =>
    simp only
    split
    · exact .inl rfl
    · exact .inr (.inl rfl)
theorem hangs_ok {p : B} {l : List Rule} : err (hangs nm p l) = 0 ↔ ∃ x, hangs nm p l = .inr x := by
  cases h : hangs nm p l with
  | inr x => exact ⟨fun _ => ⟨x, rfl⟩, fun _ => rfl⟩
  | inl e =>
    refine ⟨fun h0 => ?_, fun ⟨_, h0⟩ => by cases h0⟩
    exfalso
    unfold hangs at h
    cases hp : paths nm (ws nm p l) with
    | inl k =>
      rw [hp] at h
      have hk : k = e := Sum.inl.inj h
      have := paths_err hp
      have he : e = 0 := h0
      omega
    | inr x =>
      rw [hp] at h
      simp only at h
      split at h
      · cases h
      · have hk : (4 : Int) = e := Sum.inl.inj h
        have he : e = 0 := h0
        omega
theorem uni (p : B) (l m : List Rule) : Uni (hangs nm p l) (hangs nm p m) (hangs nm p (l ++ m)) (hangs nm p (merge (l ++ m))) := by
  obtain ⟨m1, m2⟩ := hangs_merge nm p (l ++ m)
  have hc := hangs_code p (l ++ m)
  have hlm : (lst (hangs nm p (merge (l ++ m)))).length = (lst (hangs nm p (l ++ m))).length ∧ ∀ s ∈ lst (hangs nm p (merge (l ++ m))), s ∈ lst (hangs nm p (l ++ m)) := by
    cases h3 : hangs nm p (l ++ m) with
    | inl e =>
      cases h4 : hangs nm p (merge (l ++ m)) with
      | inl e2 => exact ⟨rfl, fun s h => h⟩
      | inr y =>
        obtain ⟨x, hx⟩ := m1.2 ⟨y, h4⟩
        rw [h3] at hx; cases hx
    | inr x =>
      obtain ⟨y, hy⟩ := m1.1 ⟨x, h3⟩
      rw [hy]
      obtain ⟨k1, k2⟩ := m2 x y h3 hy
      exact ⟨k1, fun s h => (k2 s).1 h⟩
  refine ⟨hangs_code p l, hangs_code p m, hc, by rw [hangs_ok, hangs_ok]; exact m1, hlm.1, hlm.2, ?_, ?_⟩
  · intro hb
    rw [hangs_app]
    unfold hangs at hb
    cases h1 : paths nm (ws nm p l) with
    | inl e => exact ⟨paths_err h1, rfl⟩
    | inr x =>
      rw [h1] at hb
      simp only at hb ⊢
      cases h2 : paths nm (ws nm p m) with
      | inl e => exact ⟨paths_err h2, rfl⟩
      | inr y =>
        rw [h2] at hb
        exfalso
        simp only at hb
        rcases hb with hb | hb
        · split at hb <;> (rcases hb with hb | hb <;> (simp [err] at hb))
        · split at hb <;> (rcases hb with hb | hb <;> (simp [err] at hb))
  · intro hb
    rw [hangs_app]
    cases h1 : paths nm (ws nm p l) with
    | inl e =>
      exfalso
      refine hb (.inl ?_)
      unfold hangs
      rw [h1]
      exact paths_err h1
    | inr x =>
      cases h2 : paths nm (ws nm p m) with
      | inl e =>
        exfalso
        refine hb (.inr ?_)
        unfold hangs
        rw [h2]
        exact paths_err h2
      | inr y =>
        have e1 : hangs nm p l = if there nm p l = true then .inr (adds [] x) else .inl 4 := by unfold hangs; rw [h1]
        have e2 : hangs nm p m = if there nm p m = true then .inr (adds [] y) else .inl 4 := by unfold hangs; rw [h2]
        rw [e1, e2]
        have hx : there nm p l = false → x = [] := fun h => by
          rw [ws_none nm h] at h1
          exact (Sum.inr.inj h1).symm
        have hy : there nm p m = false → y = [] := fun h => by
          rw [ws_none nm h] at h2
          exact (Sum.inr.inj h2).symm
        cases ht1 : there nm p l <;> cases ht2 : there nm p m
        · rw [hx ht1, hy ht2]
          simp [err, lst]
        · rw [hx ht1]
          simp [err, lst, adds]
        · rw [hy ht2]
          simp [err, lst, adds]
        · simp [err, lst]
theorem asked_is {p : B} (h : Pm.isP p = true) (l : List Rule) : asked p l = hangs nm p l := by unfold asked; rw [if_pos h]
end Dp
/-- both ends of Deps in one -/
theorem DepsEnd.uni {w w' : World} {e : Ending} {r : Int ⊕ List (List UInt8)} (h : DepsEnd w w' e r) : ∃ v, e = .returned (.tuple #[v, .int .i64 (Dp.err r)]) ∧ BR.Own w' w.heap.size v (Dp.lst r) ∧ Below w.heap.size w w' := by
  cases r with
  | inl x => exact ⟨_, h.1, Rc.Own.nil _ _, h.2⟩
  | inr d => exact h
end Go.Proofs.Ytppcfidaalejfaa
