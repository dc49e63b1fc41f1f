/-
  ActionJoins: what its lists and lines are, ahead of the walk.
-/
import Derived.Test.YtfgdlnidfkjbdaaDoorALines
import Derived.Test.YtfgdlnidfkjbdaaDoorAGreat
namespace Go.Proofs.YtfgdlnidfkjbdaaDoor
open Go.RowKit

theorem Ac.digits_len4 (n : Nat) : (Ac.digits n).length ≤ 4 := by
  unfold Ac.digits
  split
  · simp
  · split
    · simp
    · split <;> simp
theorem Ac.word_len (op : Int) : (Ac.word op).length ≤ 6 := by
  by_cases h : Ac.word op = []
  · rw [h]; simp
  · have h1 := Ac.word_of h
    rcases h1 with h | h | h | h | h | h | h | h | h | h | h | h <;> (rw [h]; decide)
/-- a line is not too great -/
def LineFit (l : List (List UInt8)) : Prop := l.length ≤ 262146 ∧ ∀ s ∈ l, s.length ≤ 262144
theorem lineOf_fit {op n : Int} {a : List (List UInt8)} (h : Ac.bulkL a ≤ 262144) : LineFit (Ac.lineOf op a n) := by
  have h1 := Ac.bulkL_len a
  refine ⟨?_, fun s hs => ?_⟩
  · rw [Ac.lineOf]
    split <;> (simp only [List.length_cons, List.length_append, List.length_nil]; omega)
  · rw [Ac.lineOf] at hs
    rcases List.mem_cons.1 hs with rfl | hs
    · have := Ac.word_len op
      omega
    · rcases List.mem_append.1 hs with hs | hs
      · have := Ac.bulkL_mem hs
        omega
      · split at hs
        · simp only [List.mem_cons, List.not_mem_nil, or_false] at hs
          subst hs
          have := Ac.digits_len4 n.toNat
          omega
        · cases hs
theorem end_fit : LineFit [Ac.sEnd] := ⟨by simp, fun s hs => by simp only [List.mem_cons, List.not_mem_nil, or_false] at hs; subst hs; decide⟩
theorem all_fit : ∀ f : Ac.Fo, Ac.wgt f ≤ 262144 → ∀ l ∈ Ac.all f, LineFit l
  | .nil, _, _, hl => by cases hl
  | .cons op a n b r, h, l, hl => by
    rw [Ac.wgt] at h
    rw [Ac.all] at hl
    rcases List.mem_cons.1 hl with rfl | hl
    · exact lineOf_fit (by omega)
    · rcases List.mem_append.1 hl with hl | hl
      · split at hl
        · rcases List.mem_append.1 hl with hl | hl
          · exact all_fit b (by omega) l hl
          · simp only [List.mem_cons, List.not_mem_nil, or_false] at hl
            subst hl
            exact end_fit
        · cases hl
      · exact all_fit r (by omega) l hl
theorem fit_lines {ls : List (List (List UInt8))} (h1 : ls.length ≤ 1099511) (h2 : ∀ l ∈ ls, LineFit l) : Fit ls :=
  ⟨h1, fun l hl => by have := (h2 l hl).1; omega, fun l hl s hs => by have := (h2 l hl).2 s hs; omega⟩
theorem Small.nar2 {f : Ac.Fo} (h : Small f) : Ac.nar 1099511600 f := Ac.wgt_nar f (by have := h.wgt; omega)
theorem fit_join {f g : Ac.Fo} (hf : Small f) (hg : Small g) (mf : Ac.may f = true) (mg : Ac.may g = true) : Fit (Ac.all f ++ Ac.all g) := by
  have h1 := Ac.all_len f
  have h2 := Ac.all_len g
  have h3 := (Ac.may_iff.1 mf).2.1
  have h4 := (Ac.may_iff.1 mg).2.1
  refine fit_lines (by rw [List.length_append]; omega) fun l hl => ?_
  rcases List.mem_append.1 hl with hl | hl
  · exact all_fit f hf.wgt l hl
  · exact all_fit g hg.wgt l hl
theorem fit_body {f : Ac.Fo} {n : Nat} (hf : Small f) (mf : Ac.may f = true) : Fit ([Ac.word 10, Ac.digits n] :: (Ac.all f ++ [[Ac.sEnd]])) := by
  have h1 := Ac.all_len f
  have h3 := (Ac.may_iff.1 mf).2.1
  refine fit_lines (by simp only [List.length_cons, List.length_append, List.length_nil]; omega) fun l hl => ?_
  rcases List.mem_cons.1 hl with rfl | hl
  · refine ⟨by simp, fun s hs => ?_⟩
    simp only [List.mem_cons, List.not_mem_nil, or_false] at hs
    rcases hs with rfl | rfl
    · have := Ac.word_len 10
      omega
    · have := Ac.digits_len4 n
      omega
  · rcases List.mem_append.1 hl with hl | hl
    · exact all_fit f hf.wgt l hl
    · simp only [List.mem_cons, List.not_mem_nil, or_false] at hl
      subst hl
      exact end_fit
theorem FoRow.app {w : World} {B : Nat} : ∀ {f g : Ac.Fo} {rs qs : List RawS}, FoRow w B f rs → FoRow w B g qs → FoRow w B (f.app g) (rs ++ qs)
  | .nil, _, _, _, h, k => by rw [show _ = _ from h]; exact k
  | .cons _ _ _ _ _, _, _, _, ⟨r, rs', h1, h2, h3, h4, h5, h7⟩, k => by
    rw [h1]
    exact ⟨r, rs' ++ _, rfl, h2, h3, h4, h5, FoRow.app h7 k⟩
theorem Ac.nar_app {N : Nat} : ∀ {f g : Ac.Fo}, Ac.nar N f → Ac.nar N g → Ac.nar N (f.app g)
  | .nil, _, _, k => k
  | .cons _ _ _ _ _, _, ⟨h1, h2, h3⟩, k => ⟨h1, h2, Ac.nar_app h3 k⟩
theorem Ac.ht_app : ∀ f g : Ac.Fo, Ac.ht (f.app g) = max (Ac.ht f) (Ac.ht g)
  | .nil, g => by simp [Ac.Fo.app, Ac.ht]
  | .cons o a n b r, g => by
    rw [Ac.Fo.app, Ac.ht, Ac.ht, Ac.ht_app r g]
    omega

end Go.Proofs.YtfgdlnidfkjbdaaDoor
