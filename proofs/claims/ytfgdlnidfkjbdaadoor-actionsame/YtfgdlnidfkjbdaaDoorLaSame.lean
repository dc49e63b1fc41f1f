/-
  ActionSame's walk.
-/
import Derived.Test.YtfgdlnidfkjbdaaDoorAGreat
namespace Go.Proofs.YtfgdlnidfkjbdaaDoor
open Go.RowKit

set_option maxRecDepth 100000 in
set_option maxHeartbeats 1000000 in
theorem asame_walk (va : Value) (f : Ac.Fo) (vb : Value) (g : Ac.Fo) (w : World) (hL : Laid w) (h1 : FoS w w.heap.size va f) (hn1 : f.len ≤ reachBytes) (hz1 : Ac.SzE f) (h2 : FoS w w.heap.size vb g) (hn2 : g.len ≤ reachBytes) (hz2 : Ac.SzE g) :
    Calls Tryd.prog 4 #[va, vb] w fun e w' => e = .returned (.bool true) ∧ Below w.heap.size w w' := by
  have hW := works_any w hL
  have hG1 := fun W (h : Below w.heap.size w W) => great_any f va W w.heap.size (h1.below h (Nat.le_refl _)) hn1 hz1
  have hG2 := fun W (h : Below w.heap.size w W) => great_any g vb W w.heap.size (h2.below h (Nat.le_refl _)) hn2 hz2
  have hS : ∀ (x y : Ac.Fo) (vx vy : Value) W (h : Below w.heap.size w W), FoS w w.heap.size vx x → FoS w w.heap.size vy y → Small x → Small y → Calls Tryd.prog 15 #[vx, vy] W fun e w' => e = .returned (.bool (decide (x = y))) ∧ Below w.heap.size w w' := by
    intro x y vx vy W h hx hy sx sy
    refine (Same_any x y vx vy w.heap.size W (hx.below h (Nat.le_refl _)) (hy.below h (Nat.le_refl _)) h.size (by have := sx.ht; omega) (by have := sy.ht; omega) (by have := sx.size; omega) sx.nar).mono ?_
    rintro e w' ⟨rfl, hb⟩
    exact ⟨rfl, h.trans (hb.mono h.size)⟩
  have hT : ∀ W (_ : Below w.heap.size w W), Small f → Calls Tryd.prog 13 #[va, vb] W fun e w' => e = .returned (.bool (decide (f = g))) ∧ Below w.heap.size w w' := by
    intro W h sx
    refine (SameT_any f g va vb W w.heap.size (h1.below h (Nat.le_refl _)) (h2.below h (Nat.le_refl _)) h.size (by have := sx.size; omega) sx.nar).mono ?_
    rintro e w' ⟨rfl, hb⟩
    exact ⟨rfl, h.trans (hb.mono h.size)⟩
  have hSab := fun W h => hS f g va vb W h h1 h2
  have hSba := fun W h => hS g f vb va W h h2 h1
  have hSaa := fun W h s => hS f f va va W h h1 h1 s s
  have e1 : decide (g = f) = decide (f = g) := decide_eq_decide.2 ⟨fun h => h.symm, fun h => h.symm⟩
  simp only [e1] at hSba
  simp only [decide_true] at hSaa
  clear hS e1
  obtain ⟨ad, c, rfl, hle⟩ := h1.shape
  obtain ⟨bd, d, rfl, hld⟩ := h2.shape
  generalize decide (f = g) = R at *
  have hRR : (R == R) = true := beq_self_eq_true R
  go_enter Tryd.func4, Tryd.ntmps4
  go_upto_region 3 with (first | (go_at_call 9; refine hW.mono ?_; rintro e w1 ⟨rfl, hb1⟩) | fail)
  go_wp2_with (first
    | (go_at_call 14; refine (hG1 _ hb1).mono ?_; rintro e w2 ⟨rfl | ⟨rfl, s1⟩, rfl⟩)
    | (go_at_call 14; refine (hG2 _ hb1).mono ?_; rintro e w2 ⟨rfl | ⟨rfl, s2⟩, rfl⟩)
    | fail)
  · go_ret
    exact ⟨rfl, hb1⟩
  · go_ret
    exact ⟨rfl, hb1⟩
  · go_wp2_with (first
      | (go_at_call 15; (with_reducible refine (hSab _ (by assumption) s1 s2).mono ?_); rintro e w3 ⟨rfl, hb3⟩)
      | (go_at_call 15; (with_reducible refine (hSba _ (by assumption) s2 s1).mono ?_); rintro e w3 ⟨rfl, hb3⟩)
      | (go_at_call 15; (with_reducible refine (hSaa _ (by assumption) s1).mono ?_); rintro e w3 ⟨rfl, hb3⟩)
      | (go_at_call 13; (with_reducible refine (hT _ (by assumption) s1).mono ?_); rintro e w3 ⟨rfl, hb3⟩)
      | fail)
    go_ret
    exact ⟨rfl, by assumption⟩

end Go.Proofs.YtfgdlnidfkjbdaaDoor
