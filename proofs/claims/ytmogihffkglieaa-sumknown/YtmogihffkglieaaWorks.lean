/-
  works: the sum of the document's nine digits; what is opened.
-/
import Derived.Test.YtmogihffkglieaaRef
import Derived.Lib.SlBytesConst
namespace Go.Proofs.Ytmogihffkglieaa
open Go.RowKit

theorem of_digits : Sm.of [49, 50, 51, 52, 53, 54, 55, 56, 57] = 3421780262 := by kernel_rfl
theorem whole_a : Sm.whole [97, 67, 190, 183, 232] = true := by kernel_rfl

/-- bytes of a constant text -/
theorem byts_mark (w : World) (cs : Array Value) (l : List UInt8) (n : Nat) (fr : Nat × Nat) (h : cs.toList = bV l) (hn : n = l.length) : Byts (w.alloc (.cells cs 5 fr)) (w.heap.size + 1) (.slice (some ⟨w.heap.size, 0, none⟩) n n) l := by
  subst hn
  refine ⟨_, _, rfl, Nat.le_refl _, (fun h => by cases h), fun _ => ⟨w.heap.size, 0, rfl, by omega, fun j hj => ?_⟩⟩
  have h1 := cell_of_row (w.alloc (.cells cs 5 fr)) w.heap.size (0 + j) cs 5 fr (heap_alloc_new w _)
  rw [h1, ← Array.getElem?_toList, h]
  simp [bV, List.getD, List.getElem?_eq_getElem hj]

set_option maxRecDepth 100000 in
set_option maxHeartbeats 2000000 in
theorem works_any (w : World) : Calls Try.prog 9 #[] w fun e w' => e = .returned (.bool true) ∧ Below w.heap.size w w' := by
  have kc := fun (w : World) (C : Array Value) (n c : Nat) => Lib.run_convert_bytes_const (P := Try.prog) w 23 5 C n c Try.underlying23 Try.underlying5
  go_enter Try.func9, Try.ntmps9
  go_wp2_with fail
  refine (Open_yes _ [97, 67, 190, 183, 232] _ (w.heap.size + 1) (by simp) (byts_lit w _ _ _ rfl rfl) (show _ ≤ _ by decide) whole_a).mono ?_
  rintro e w1 ⟨hh, hb1⟩
  obtain ⟨g, rfl, hg, hk⟩ : ∃ g, e = .returned (.tuple #[.slice (some ⟨g, 0, none⟩) 1 1, .bool true]) ∧ w.heap.size + 1 ≤ g ∧ Blk w1 g [97] := by
    rcases hh with ⟨h, _⟩ | ⟨_, g, he, hg, hk⟩
    · simp at h
    · exact ⟨g, he, by simpa using hg, hk⟩
  clear hh
  have hb1' : Below w.heap.size w w1 := ((Below.refl _ w).alloc (Nat.le_refl _) _).trans (hb1.mono (by simp))
  go_wp2_with fail
  refine (Of_any _ [49, 50, 51, 52, 53, 54, 55, 56, 57] _ (w1.heap.size + 1) (by simp) (byts_mark w1 _ _ _ _ rfl rfl) (show _ ≤ _ by decide)).mono ?_
  rintro e w2 ⟨rfl, hb2⟩
  rw [of_digits]
  have hb2' : Below w.heap.size w w2 := (hb1'.alloc hb1'.size _).trans (hb2.mono (by have := hb1'.size; simp; omega))
  have hk2 : Blk w2 g [97] := (hk.below ((Below.refl _ w1).alloc (Nat.le_refl _) _) hk.lt).below hb2 (by have := hk.lt; simp; omega)
  clear hb1 hb2
  go_wp2_with fail
  refine (Equal_any _ _ [97] [97] (g + 1) (w2.heap.size + 1) _ ((hk2.byts 0 1 1 (by simp) (by omega)).below ((Below.refl (g + 1) w2).alloc (by have := hk2.lt; omega) _) (Nat.le_refl _)) (byts_mark w2 _ _ _ _ rfl rfl)).mono ?_
  rintro e w3 ⟨rfl, rfl⟩
  go_wp2
  go_ret
  exact ⟨rfl, hb2'.alloc hb2'.size _⟩
end Go.Proofs.Ytmogihffkglieaa
