/-
  slices.Clone of a list of bools.
-/
import Derived.Test.YtccfoafcfnhejaaRefNew
namespace Go.Proofs.Ytccfoafcfnhejaa
open Go.RowKit

def boV (l : List Bool) : List Value := l.map Value.bool
theorem info4 : (Try.prog.info? 4).map (fun i => (i.zero, i.size, i.bytes)) = some (some (.bool false), 1, 1) := by kernel_rfl
theorem boV_get (l : List Bool) {j : Nat} (hj : j < l.length) : (boV l)[j]? = some (.bool (l.getD j false)) := by simp [boV, List.getD, List.getElem?_eq_getElem hj]

/-- the clone: a row of its own, or nil -/
theorem bols_of {w : World} {base : Nat} {v : Value} {l : List Bool} (h : w.ownsRow base 4 1 v l.length (boV l)) : Bols w w.heap.size v l ∧ ∀ k, v.ownBlock = some k → base ≤ k ∧ k < w.heap.size := by
  have hlt := World.ownsRow.lt h
  have hcs := fun g hg => World.ownsRow.cells (g := g) h hg
  refine ⟨?_, hlt⟩
  rcases h.2 with ⟨rfl, h0⟩ | ⟨g, cap, cur, rfl, _, _, hle, _⟩
  · exact ⟨none, 0, by rw [h0], by omega, fun hne => absurd (List.eq_nil_of_length_eq_zero h0) hne⟩
  · refine ⟨_, _, rfl, hle, fun _ => ⟨g, 0, rfl, (hlt g rfl).2, fun j hj => ?_⟩⟩
    have := hcs g rfl j _ (boV_get l hj)
    rwa [addr_add] at this

set_option maxRecDepth 100000 in
theorem CloneBo_any (l : List Bool) (v : Value) (B : Nat) (w : World) (hv : Bols w B v l) (hB : B ≤ w.heap.size) (hl : l.length ≤ 140737488355328) :
    Calls Try.prog 47 #[v] w fun e w' => ∃ v', e = .returned v' ∧ Bols w' w'.heap.size v' l ∧ (∀ k, v'.ownBlock = some k → w.heap.size ≤ k) ∧ Below w.heap.size w w' := by
  obtain ⟨ad, c, rfl, hlc, hcells⟩ := hv
  obtain ⟨i0, hi, hz0, hz1, hz2⟩ := info_parts info4
  cases ad with
  | none =>
    have hm : l = [] := by
      cases l with
      | nil => rfl
      | cons a l => obtain ⟨b, o, e, _⟩ := hcells (by simp); cases e
    subst hm
    have hnil := fun W : World => Lib.run_eql_slice_nil (P := Try.prog) W 31 4 none 0 c 0 0 Try.underlying31
    simp only [List.length_nil]
    go_enter Try.func47, Try.ntmps47
    go_wp2
    go_ret
    exact ⟨_, rfl, ⟨none, 0, rfl, Nat.le_refl _, fun h => absurd rfl h⟩, (fun k e => by cases e), Below.refl _ _⟩
  | some x =>
    have HL : Hid (l.length ≤ 140737488355328) := hl
    have hown : (w.alloc (.cells #[] 4)).ownsRow w.heap.size 4 1 (.slice (some ⟨w.heap.size, 0, none⟩) 0 0) 0 [] := World.ownsRow_lit (size := 1) w #[] 0 (Nat.le_refl _) (by decide) rfl
    have hnil := fun W : World => Lib.run_eql_slice_nil (P := Try.prog) W 31 4 (some x) l.length c 0 0 Try.underlying31
    have hnews : ∀ j u, (boV l)[j]? = some u → (w.alloc (.cells #[] 4)).cell? (x.add j) = some u := by
      intro j u hu
      have hj : j < l.length := by have := (List.getElem?_eq_some_iff.1 hu).1; simpa [boV] using this
      obtain ⟨b, o, e, hb, hc⟩ := hcells (by intro e; rw [e] at hj; simp at hj)
      simp only [Option.some.injEq] at e
      subst e
      rw [addr_add, World.cell?_of_block (a := ⟨b, o + j, none⟩) (Below.heap_alloc w _ b (by omega)), hc j hj, ← hu, boV_get l hj]
    have hone : ∀ u ∈ boV l, u.oneCell' = true := by
      intro u hu
      simp only [boV, List.mem_map] at hu
      obtain ⟨a, _, rfl⟩ := hu
      rfl
    clear hl hcells
    go_enter Try.func47, Try.ntmps47
    go_wp2_with (at_builtin; go_must (refine wpList_append_own _ rfl (.tmp 5) (.tmp 6) 31 rfl w.heap.size 4 i0 (.bool false) 1 1 Try.underlying31 hi hz0 hz1 hz2 rfl (by decide) _ 0 [] rfl hown x l.length c (boV l) rfl (by simp [boV]) hnews hone (by have := HL.out; unfold maxLen; omega) (by have := HL.out; omega) (by simp) ?_))
    intro v' w' h2 h3 h4
    have h2' : w'.ownsRow w.heap.size 4 1 v' l.length (boV l) := by simpa using h2
    obtain ⟨hb1, hb2⟩ := bols_of h2'
    have hB' : Below w.heap.size w w' := ((Below.refl _ w).alloc (Nat.le_refl _) _).grown h3 (by simp) fun k hk => (World.ownsRow.lt hown k hk).1
    go_wp2
    go_ret
    exact ⟨_, rfl, hb1, fun k hk => (hb2 k hk).1, hB'⟩
end Go.Proofs.Ytccfoafcfnhejaa
