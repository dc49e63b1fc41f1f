/-
  RulesParses ANSWERS true.
-/
import Derived.Test.YthpipbkbldlfjaaLrPaK
import Derived.Test.YthpipbkbldlfjaaRItA
import Derived.Test.YthpipbkbldlfjaaRWhole
import Derived.Test.YthpipbkbldlfjaaLrWorks
import Derived.Deep.RegionHeld3
namespace Go.Proofs.Ythpipbkbldlfjaa
open Go.RowKit

/-- a place's block -/
def WhP (w : World) (g : Nat) (er l c : Int) : Prop := w.heap[g]? = some (.cells #[.int .i64 er, .string .empty, .int .i64 l, .int .i64 c] 26 (0, 0))
theorem WhP.cells {w : World} {g : Nat} {er l c : Int} (h : WhP w g er l c) : w.cell? ⟨g, 0, none⟩ = some (.int .i64 er) ∧ w.cell? ⟨g, 1, none⟩ = some (.string .empty) ∧ w.cell? ⟨g, 2, none⟩ = some (.int .i64 l) ∧ w.cell? ⟨g, 3, none⟩ = some (.int .i64 c) := by
  unfold WhP at h
  exact ⟨by simp [World.cell?, h], by simp [World.cell?, h], by simp [World.cell?, h], by simp [World.cell?, h]⟩
theorem WhP.lt {w : World} {g : Nat} {er l c : Int} (h : WhP w g er l c) : g < w.heap.size := (Array.getElem?_eq_some_iff.1 h).1
theorem WhP.below {w w' : World} {g : Nat} {er l c : Int} (h : WhP w g er l c) (hb : Below w.heap.size w w') : WhP w' g er l c := (hb.block g h.lt).trans h
theorem WhP.turn {w w' : World} {g : Nat} {er l c : Int} {S : List Nat} (h : WhP w g er l c) (ht : Turn S w w') (hS : g ∉ S) : WhP w' g er l c := (ht.block g h.lt hS).trans h
theorem WhP.new (w : World) (er l c : Int) : WhP (w.alloc (.cells #[.int .i64 er, .string .empty, .int .i64 l, .int .i64 c] 26)) w.heap.size er l c := heap_alloc_new w _
set_option maxRecDepth 100000 in
theorem Same0 (ad ad' : Option Addr) (c c' : Nat) (w : World) : Calls Try.prog 24 #[.slice ad 0 c, .slice ad' 0 c'] w fun e w' => e = .returned (.bool true) ∧ Below w.heap.size w w' := by
  go_enter Try.func24, Try.ntmps24
  go_wp2
  go_loopw [5] (fun k wr => k = .int .i64 0 ∧ Below w.heap.size w wr) (fun _ _ => 0)
  case atStart => exact ⟨rfl, Below.refl _ _⟩
  case round =>
    obtain ⟨rfl, hD⟩ := hrel
    go_wp2
    go_ret
    exact ⟨rfl, hD⟩
set_option maxRecDepth 100000 in
theorem Whole0 (ad ad' : Option Addr) (c c' : Nat) (w : World) : Calls Try.prog 15 #[.slice ad 0 c, .slice ad' 0 c'] w fun e w' => e = .returned (.bool true) ∧ Below w.heap.size w w' := by
  go_enter Try.func15, Try.ntmps15
  go_wp2_with fail
  refine (Same0 ad ad' c c' w).mono ?_
  rintro e w1 ⟨rfl, hB1⟩
  go_wp2
  go_loopw [5] (fun k wr => k = .int .i64 0 ∧ Below w.heap.size w wr) (fun _ _ => 0)
  case atStart => exact ⟨rfl, hB1⟩
  case round =>
    obtain ⟨rfl, hD⟩ := hrel
    go_wp2
    go_ret
    exact ⟨rfl, hD⟩

set_option maxRecDepth 100000 in
set_option maxHeartbeats 8000000 in
theorem pa_big (s : ByteArray) (w : World) (hs : s.size ≤ 140737488351232) (hb : 262144 < s.size) : Calls Try.prog 3 #[.string s] w fun e w' => e = .returned (.bool true) ∧ Below w.heap.size w w' := by
  have h0 := works12 parseC w
  have hp := fun W : World => parseC s W hs
  rw [Rl.answer_long (by rw [bs_length]; omega)] at hp
  have i1 : (262144 : Int) < (s.size : Int) := by omega
  clear hb hs
  go_enter Try.func3, Try.ntmps3
  go_wp2_with fail
  refine h0.mono ?_
  rintro e w1 ⟨rfl, hB1⟩
  clear h0
  go_wp2_with fail
  refine (hp w1).mono ?_
  rintro e w2 ⟨⟨ad, c', rfl⟩, hB2⟩
  have hB12 := hB1.trans (hB2.mono hB1.size)
  simp only [whV]
  generalize (((Lx.place (bs s) 32768).1 : Nat) : Int) = l0
  generalize (((Lx.place (bs s) 32768).2 : Nat) : Int) = c0
  clear hp
  go_wp2
  go_ret
  exact ⟨rfl, hB12.alloc hB12.size _⟩
set_option maxRecDepth 100000 in
set_option maxHeartbeats 8000000 in
theorem pa_bad (s : ByteArray) (w : World) (hs : s.size ≤ 262144) (x : Int × Int × Int) (hA : Rl.answer (bs s) = .bad x) : Calls Try.prog 3 #[.string s] w fun e w' => e = .returned (.bool true) ∧ Below w.heap.size w w' := by
  have h0 := works12 parseC w
  have hp := fun W : World => parseC s W (by omega)
  have hr := fun W : World => RefParse_any s W (by omega)
  rw [hA] at hp hr
  obtain ⟨er, l0, c0⟩ := x
  have i1 : ¬ (262144 : Int) < (s.size : Int) := by omega
  have hgd := fun (W : World) (a b : Operand) => guard_where W .neq a b
  have hgd2 := fun (W : World) (a b : Operand) => guard_where W .eql a b
  have heq := fun W : World => eql_where W er l0 c0 er l0 c0
  rw [decide_eq_true ⟨rfl, rfl, rfl⟩] at heq
  have hne := fun W : World => neq_where W er l0 c0 er l0 c0
  rw [decide_eq_true ⟨rfl, rfl, rfl⟩] at hne
  unfold whA at hne heq
  clear hA hs
  go_enter Try.func3, Try.ntmps3
  go_wp2_with fail
  refine h0.mono ?_
  rintro e w1 ⟨rfl, hB1⟩
  clear h0
  go_wp2_with fail
  refine (hp w1).mono ?_
  rintro e w2 ⟨⟨ad, c', rfl⟩, hB2⟩
  simp only [whV]
  have hC2 := hB1.trans (hB2.mono hB1.size)
  have hD2 := hC2.alloc hC2.size (.cells #[.int .i64 er, .string .empty, .int .i64 l0, .int .i64 c0] 26)
  have hW2 := WhP.new w2 er l0 c0
  clear hB1 hB2 hC2
  go_wp2_with fail
  generalize w2.alloc (.cells #[.int .i64 er, .string .empty, .int .i64 l0, .int .i64 c0] 26) = W2 at *
  generalize w2.heap.size = g2 at *
  refine (hr W2).mono ?_
  rintro e w3 ⟨⟨ad3, c3, rfl⟩, hB3⟩
  simp only [whV]
  have hC3 := hD2.trans (hB3.mono hD2.size)
  have hD3 := hC3.alloc hC3.size (.cells #[.int .i64 er, .string .empty, .int .i64 l0, .int .i64 c0] 26)
  have hW2' := (hW2.below hB3).below (below_box w3 (.cells #[.int .i64 er, .string .empty, .int .i64 l0, .int .i64 c0] 26))
  have hW3 := WhP.new w3 er l0 c0
  clear hB3 hC3 hD2 hW2
  go_wp2_with fail
  generalize w3.alloc (.cells #[.int .i64 er, .string .empty, .int .i64 l0, .int .i64 c0] 26) = W3 at *
  generalize w3.heap.size = g3 at *
  refine (Whole0 ad ad3 c' c3 W3).mono ?_
  rintro e w4 ⟨rfl, hB4⟩
  have hD4 := hD3.trans (hB4.mono hD3.size)
  have hW24 := hW2'.below hB4
  have hW34 := hW3.below hB4
  clear hB4 hD3 hW2' hW3
  obtain ⟨x0, x1, x2, x3⟩ := hW24.cells
  obtain ⟨y0, y1, y2, y3⟩ := hW34.cells
  go_wp2
  go_loopw [9] (fun k wr => k = .int .i64 0 ∧ wr = w4) (fun _ _ => 0)
  case atStart => exact ⟨rfl, rfl⟩
  case round =>
  obtain ⟨rfl, rfl⟩ := hrel
  clear x0 x1 x2 x3 y0 y1 y2 y3
  go_wp2_with fail
  refine (hp wr).mono ?_
  rintro e w5 ⟨⟨ad5, c5, rfl⟩, hB5⟩
  simp only [whV]
  have hC5 := hD4.trans (hB5.mono hD4.size)
  have hD5 := hC5.alloc hC5.size (.cells #[.int .i64 er, .string .empty, .int .i64 l0, .int .i64 c0] 26)
  have hW35 := (hW34.below hB5).below (below_box w5 (.cells #[.int .i64 er, .string .empty, .int .i64 l0, .int .i64 c0] 26))
  have hW5 := WhP.new w5 er l0 c0
  clear hB5 hC5 hD4 hW24 hW34
  go_wp2_with fail
  generalize w5.alloc (.cells #[.int .i64 er, .string .empty, .int .i64 l0, .int .i64 c0] 26) = W5 at *
  generalize w5.heap.size = g5 at *
  refine (Whole0 ad5 ad3 c5 c3 W5).mono ?_
  rintro e w6 ⟨rfl, hB6⟩
  have hD6 := hD5.trans (hB6.mono hD5.size)
  obtain ⟨x0, x1, x2, x3⟩ := (hW5.below hB6).cells
  obtain ⟨y0, y1, y2, y3⟩ := (hW35.below hB6).cells
  clear hB6 hD5 hW5 hW35
  go_wp2
  go_ret
  exact ⟨rfl, hD6⟩

end Go.Proofs.Ythpipbkbldlfjaa
