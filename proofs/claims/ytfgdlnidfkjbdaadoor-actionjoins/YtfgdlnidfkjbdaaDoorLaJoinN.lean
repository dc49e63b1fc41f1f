/-
  ActionJoins' walk, where a list may not be.
-/
import Derived.Test.YtfgdlnidfkjbdaaDoorAJoin
import Derived.Test.YtfgdlnidfkjbdaaDoorAWorks
namespace Go.Proofs.YtfgdlnidfkjbdaaDoor
open Go.RowKit

set_option maxRecDepth 100000 in
set_option maxHeartbeats 1000000 in
theorem joins_not (va : Value) (f : Ac.Fo) (vb : Value) (g : Ac.Fo) (n : Int) (w : World) (hL : Laid w) (h1 : FoS w w.heap.size va f) (hn1 : f.len ≤ reachBytes) (hz1 : Ac.SzE f) (h2 : FoS w w.heap.size vb g) (hn2 : g.len ≤ reachBytes) (hz2 : Ac.SzE g) (hm : (Ac.may f && Ac.may g) = false) :
    Calls Tryd.prog 6 #[va, vb, .int .i64 n] w fun e w' => e = .returned (.bool true) ∧ Below w.heap.size w w' := by
  have hW := works_any w hL
  have hG1 := fun W (h : Below w.heap.size w W) => great_any f va W w.heap.size (h1.below h (Nat.le_refl _)) hn1 hz1
  have hG2 := fun W (h : Below w.heap.size w W) => great_any g vb W w.heap.size (h2.below h (Nat.le_refl _)) hn2 hz2
  have hM1 := fun W (h : Below w.heap.size w W) (s : Small f) => May_any f va W w.heap.size (h1.below h (Nat.le_refl _)) h.size (hL.below h hL.size) (by have := s.size; omega) s.nar
  have hM2 := fun W (h : Below w.heap.size w W) (s : Small g) => May_any g vb W w.heap.size (h2.below h (Nat.le_refl _)) h.size (hL.below h hL.size) (by have := s.size; omega) s.nar
  obtain ⟨ad, c, rfl, hle⟩ := h1.shape
  obtain ⟨bd, d, rfl, hld⟩ := h2.shape
  clear h1 h2 hle hld hn1 hz1 hn2 hz2
  cases hf : Ac.may f with
  | false =>
    rw [hf] at hM1
    clear hm
    go_enter Tryd.func6, Tryd.ntmps6
    go_upto_region 3 with (first | (go_at_call 9; refine hW.mono ?_; rintro e w1 ⟨rfl, hb1⟩) | fail)
    go_wp2_with (first
      | (go_at_call 14; (with_reducible refine (hG1 _ hb1).mono ?_); rintro e w2 ⟨rfl | ⟨rfl, s1⟩, rfl⟩)
      | (go_at_call 14; (with_reducible refine (hG2 _ hb1).mono ?_); rintro e w2 ⟨rfl | ⟨rfl, s2⟩, rfl⟩)
      | (go_at_call 18; (with_reducible refine (hM1 _ hb1 s1).mono ?_); rintro e w3 ⟨rfl, hb3⟩)
      | fail)
    · go_ret
      exact ⟨rfl, hb1⟩
    · go_ret
      exact ⟨rfl, hb1⟩
    · go_ret
      exact ⟨rfl, hb1.trans (hb3.mono hb1.size)⟩
  | true =>
    rw [hf] at hM1 hm
    have hg : Ac.may g = false := by simpa using hm
    rw [hg] at hM2
    clear hm
    go_enter Tryd.func6, Tryd.ntmps6
    go_upto_region 3 with (first | (go_at_call 9; refine hW.mono ?_; rintro e w1 ⟨rfl, hb1⟩) | fail)
    go_wp2_with (first
      | (go_at_call 14; (with_reducible refine (hG1 _ hb1).mono ?_); rintro e w2 ⟨rfl | ⟨rfl, s1⟩, rfl⟩)
      | (go_at_call 14; (with_reducible refine (hG2 _ hb1).mono ?_); rintro e w2 ⟨rfl | ⟨rfl, s2⟩, rfl⟩)
      | (go_at_call 18; (with_reducible refine (hM1 _ hb1 s1).mono ?_); rintro e w3 ⟨rfl, hb3⟩; have hb4 := hb1.trans (hb3.mono hb1.size))
      | (go_at_call 18; (with_reducible refine (hM2 _ hb4 s2).mono ?_); rintro e w5 ⟨rfl, hb5⟩)
      | fail)
    · go_ret
      exact ⟨rfl, hb1⟩
    · go_ret
      exact ⟨rfl, hb1⟩
    · go_ret
      exact ⟨rfl, hb4.trans (hb5.mono hb4.size)⟩

end Go.Proofs.YtfgdlnidfkjbdaaDoor
