/-
  LINES OF TWO TEXTS, ONE BEHIND THE OTHER, AS THEY ARE TOLD. No program here.
-/
import Derived.Test.YthpipbkbldlfjaaYRow
import Derived.Test.YthpipbkbldlfjaaXMath
namespace Go.Proofs.Ythpipbkbldlfjaa

/-- so many lines further down -/
def Lx.shiftV (d : Int) (v : Lx.V) : Lx.V := ⟨v.text, v.line + d, v.col, v.quoted, v.mark⟩
def Lx.shiftL (d : Int) (x : Lx.L) : Lx.L := ⟨x.num + d, x.ind, x.words.map (Lx.shiftV d)⟩
theorem row_lt {t : List UInt8} : ∀ {p : Nat} {ws : List (Lx.W Nat)}, Lx.Row t p ws → ∀ w ∈ ws, w.at_ < t.length
  | _, [], _, _, h => by cases h
  | _, u :: r, h, w, hw => by
    rcases List.mem_cons.1 hw with rfl | hw
    · exact h.2.1.lt
    · exact row_lt h.2.2 w hw
theorem rows_lt {t : List UInt8} : ∀ {p : Nat} {ls : List (Lx.Ln Nat)}, Lx.Rows t p ls → ∀ x ∈ ls, x.at_ < t.length ∧ (∀ w ∈ x.words, w.at_ < t.length) ∧ x.words ≠ []
  | _, [], _, _, h => by cases h
  | _, l :: r, h, x, hx => by
    obtain ⟨-, -, h3, -, h5, h6, q, -, -, h9⟩ := h
    rcases List.mem_cons.1 hx with rfl | hx
    · exact ⟨h3, row_lt h6, h5.1⟩
    · exact rows_lt h9 x hx
theorem told_low {a c : List UInt8} {x : Lx.Ln Nat} (h : x.at_ < a.length ∧ (∀ w ∈ x.words, w.at_ < a.length) ∧ x.words ≠ []) : Lx.toldL (a ++ c) x = Lx.toldL a x := by
  unfold Lx.toldL
  rw [Lx.place_low (by omega)]
  congr 1
  apply List.map_congr_left
  intro w hw
  unfold Lx.told
  rw [Lx.place_low (by have := h.2.1 w hw; omega)]
theorem told_high (a b : List UInt8) (x : Lx.Ln Nat) : Lx.toldL (a ++ 10 :: b) (x.map (· + (a.length + 1))) = Lx.shiftL ((a.count 10 + 1 : Nat) : Int) (Lx.toldL b x) := by
  unfold Lx.toldL Lx.shiftL Lx.Ln.map
  simp only [Lx.place_high, List.map_map]
  congr 1
  apply List.map_congr_left
  intro w _
  simp only [Function.comp, Lx.told, Lx.W.map, Lx.shiftV, Lx.place_high]
  congr 1
/-- the lines of both texts, as they are told -/
theorem told_two {a b : List UInt8} {l m : List (Lx.Ln Nat)} (hl : Lx.lex a = .ok l) : (l ++ m.map (Lx.Ln.map (· + (a.length + 1)))).map (Lx.toldL (a ++ 10 :: b)) = l.map (Lx.toldL a) ++ (m.map (Lx.toldL b)).map (Lx.shiftL ((a.count 10 + 1 : Nat) : Int)) := by
  rw [List.map_append, List.map_map, List.map_map]
  congr 1
  · exact List.map_congr_left fun x hx => told_low (rows_lt (Lx.lex_stands hl) x hx)
  · exact List.map_congr_left fun x _ => told_high a b x

end Go.Proofs.Ythpipbkbldlfjaa
