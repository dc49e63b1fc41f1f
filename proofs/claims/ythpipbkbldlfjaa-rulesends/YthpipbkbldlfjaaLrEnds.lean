/-
  RulesEnds ANSWERS true.
-/
import Derived.Test.YthpipbkbldlfjaaLrWorks
import Derived.Test.YthpipbkbldlfjaaRlEnds
import Derived.Test.YthpipbkbldlfjaaRSame
namespace Go.Proofs.Ythpipbkbldlfjaa
open Go.RowKit

/-- Parse at a text that goes wrong -/
theorem parse_bad_at (hps : ParseC) (a : Array UInt8) (t : List UInt8) (ht : bs ⟨a⟩ = t) (hn : a.size ≤ 1000) {x : Int × Int × Int} (h : Rl.answer t = .bad x) (w : World) :
    Calls Try.prog 13 #[.string ⟨a⟩] w fun e w' => (∃ ad c', e = .returned (.tuple #[.slice ad 0 c', .agg #[.int .i64 x.1, .string .empty, .int .i64 x.2.1, .int .i64 x.2.2]])) ∧ Below w.heap.size w w' := by
  have hp := hps ⟨a⟩ w (by show a.size ≤ _; omega)
  rw [ht, h] at hp
  exact hp
theorem parse_ok_at (hps : ParseC) (a : Array UInt8) (t : List UInt8) (ht : bs ⟨a⟩ = t) (hn : a.size ≤ 1000) {A : List Rl.It} (h : Rl.answer t = .ok A) (w : World) :
    Calls Try.prog 13 #[.string ⟨a⟩] w fun e w' => (∃ ad c', e = .returned (.tuple #[.slice ad A.length c', .agg #[.int .i64 0, .string .empty, .int .i64 0, .int .i64 0]])) ∧ Below w.heap.size w w' := by
  have hp := hps ⟨a⟩ w (by show a.size ≤ _; omega)
  rw [ht, h] at hp
  refine hp.mono ?_
  rintro e w' ⟨⟨ad, c', he, -⟩, hB⟩
  exact ⟨⟨ad, c', he⟩, hB⟩
/-- a where's block -/
def WhB (w : World) (g : Nat) (er l c : Int) : Prop := w.heap[g]? = some (.cells #[.int .i64 er, .string .empty, .int .i64 l, .int .i64 c] 26 (0, 0))
theorem WhB.cells {w : World} {g : Nat} {er l c : Int} (h : WhB w g er l c) : w.cell? ⟨g, 0, none⟩ = some (.int .i64 er) ∧ w.cell? ⟨g, 1, none⟩ = some (.string .empty) ∧ w.cell? ⟨g, 2, none⟩ = some (.int .i64 l) ∧ w.cell? ⟨g, 3, none⟩ = some (.int .i64 c) := by
  unfold WhB at h
  exact ⟨by simp [World.cell?, h], by simp [World.cell?, h], by simp [World.cell?, h], by simp [World.cell?, h]⟩
theorem WhB.lt {w : World} {g : Nat} {er l c : Int} (h : WhB w g er l c) : g < w.heap.size := (Array.getElem?_eq_some_iff.1 h).1
theorem WhB.below {w w' : World} {g : Nat} {er l c : Int} (h : WhB w g er l c) (hb : Below w.heap.size w w') : WhB w' g er l c := (hb.block g h.lt).trans h
theorem WhB.new (w : World) (er l c : Int) : WhB (w.alloc (.cells #[.int .i64 er, .string .empty, .int .i64 l, .int .i64 c] 26)) w.heap.size er l c := heap_alloc_new w _


def colsA : Array Value := #[.int .i64 6, .int .i64 1, .int .i64 1, .int .i64 1, .int .i64 11, .int .i64 11, .int .i64 10, .int .i64 8, .int .i64 10, .int .i64 7, .int .i64 5, .int .i64 6, .int .i64 0]
def textsA : Array Value := #[.string ⟨#[108, 101, 116, 32, 88, 32, 58, 32, 49]⟩, .string ⟨#[108, 101, 116, 32, 88, 32, 61, 32, 49, 10, 9, 120]⟩, .string ⟨#[105, 110, 99, 108, 117, 100, 101, 32, 97, 10, 9, 120]⟩, .string ⟨#[9, 120]⟩, .string ⟨#[114, 117, 108, 101, 32, 97, 32, 58, 32, 98, 32, 58, 32, 99]⟩, .string ⟨#[114, 117, 108, 101, 32, 97, 32, 58, 32, 98, 32, 61, 32, 99]⟩, .string ⟨#[108, 101, 116, 32, 88, 32, 61, 32, 97, 32, 58, 32, 98]⟩, .string ⟨#[105, 110, 99, 108, 117, 100, 101, 32, 58]⟩, .string ⟨#[105, 110, 99, 108, 117, 100, 101, 32, 97, 32, 98]⟩, .string ⟨#[114, 117, 108, 101, 32, 97, 32, 61, 32, 98]⟩, .string ⟨#[114, 117, 108, 101, 32, 58, 32, 98]⟩, .string ⟨#[108, 101, 116, 32, 88, 32, 49]⟩, .string ⟨#[34, 108, 101, 116, 34, 32, 88, 32, 61, 32, 49]⟩]

set_option maxRecDepth 100000 in
set_option maxHeartbeats 4000000 in
theorem ends_walk (hps : ParseC) (w : World) : Calls Try.prog 11 #[] w fun e w' => e = .returned (.bool true) ∧ Below w.heap.size w w' := by
  have h0 := works12 hps w
  obtain ⟨A0, hA0⟩ := Rl.ends0
  have q0 := parse_ok_at hps #[108, 101, 116, 32, 65, 66, 67, 68, 69, 70, 71, 72, 73, 74, 75, 76, 77, 78, 79, 80, 32, 61, 32, 49] _ rfl (by decide) hA0
  have q1 := parse_bad_at hps #[108, 101, 116, 32, 65, 66, 67, 68, 69, 70, 71, 72, 73, 74, 75, 76, 77, 78, 79, 80, 81, 32, 61, 32, 49] _ rfl (by decide) Rl.ends1
  have q2 := parse_bad_at hps #[120, 10, 34] _ rfl (by decide) Rl.ends2
  have q3 := parse_bad_at hps #[108, 101, 116, 32, 120, 10, 108, 101, 116] _ rfl (by decide) Rl.ends3
  have q4 := parse_ok_at hps #[] _ rfl (by decide) Rl.ends_none
  have ea := fun W : World => eql_where W 0 0 0 0 0 0
  rw [decide_eq_true ⟨rfl, rfl, rfl⟩] at ea
  have eb := fun W : World => eql_where W 121 1 4 121 1 4
  rw [decide_eq_true ⟨rfl, rfl, rfl⟩] at eb
  have ec := fun W : World => eql_where W 6 2 0 6 2 0
  rw [decide_eq_true ⟨rfl, rfl, rfl⟩] at ec
  have ge := fun (W : World) (a b : Operand) => guard_where W .eql a b
  have gn := fun (W : World) (a b : Operand) => guard_where W .neq a b
  unfold whA at ea eb ec
  clear hA0
  go_enter Try.func11, Try.ntmps11
  go_wp2_with fail
  refine h0.mono ?_
  rintro e w1 ⟨rfl, hB1⟩
  clear h0
  go_wp2_with fail
  refine (q0 w1).mono ?_
  rintro e w2 ⟨⟨ad2, c2, rfl⟩, hB2⟩
  have hC2 := hB1.trans (hB2.mono hB1.size)
  have hD2 := hC2.alloc hC2.size (.cells #[.int .i64 0, .string .empty, .int .i64 0, .int .i64 0] 26)
  have hW2 := WhB.new w2 0 0 0
  clear q0 hB1 hB2 hC2
  go_wp2_with fail
  generalize w2.alloc (.cells #[.int .i64 0, .string .empty, .int .i64 0, .int .i64 0] 26) = W2 at *
  generalize w2.heap.size = g2 at *
  refine (q1 W2).mono ?_
  rintro e w3 ⟨⟨ad3, c3, rfl⟩, hB3⟩
  have hC3 := hD2.trans (hB3.mono hD2.size)
  have hD3 := hC3.alloc hC3.size (.cells #[.int .i64 121, .string .empty, .int .i64 1, .int .i64 4] 26)
  have hW2' := (hW2.below hB3).below (below_box w3 (.cells #[.int .i64 121, .string .empty, .int .i64 1, .int .i64 4] 26))
  have hW3 := WhB.new w3 121 1 4
  clear q1 hD2 hW2 hB3 hC3
  go_wp2_with fail
  generalize w3.alloc (.cells #[.int .i64 121, .string .empty, .int .i64 1, .int .i64 4] 26) = W3 at *
  generalize w3.heap.size = g3 at *
  refine (q2 W3).mono ?_
  rintro e w4 ⟨⟨ad4, c4, rfl⟩, hB4⟩
  have hC4 := hD3.trans (hB4.mono hD3.size)
  have hD4 := hC4.alloc hC4.size (.cells #[.int .i64 6, .string .empty, .int .i64 2, .int .i64 0] 26)
  have bb4 := below_box w4 (.cells #[.int .i64 6, .string .empty, .int .i64 2, .int .i64 0] 26)
  have hW2 := (hW2'.below hB4).below bb4
  have hW3' := (hW3.below hB4).below bb4
  have hW4 := WhB.new w4 6 2 0
  clear q2 hD3 hW2' hW3 hB4 hC4 bb4
  go_wp2_with fail
  generalize w4.alloc (.cells #[.int .i64 6, .string .empty, .int .i64 2, .int .i64 0] 26) = W4 at *
  generalize w4.heap.size = g4 at *
  refine (q3 W4).mono ?_
  rintro e w5 ⟨⟨ad5, c5, rfl⟩, hB5⟩
  have hC5 := hD4.trans (hB5.mono hD4.size)
  have hD5 := hC5.alloc hC5.size (.cells #[.int .i64 121, .string .empty, .int .i64 1, .int .i64 4] 26)
  have bb5 := below_box w5 (.cells #[.int .i64 121, .string .empty, .int .i64 1, .int .i64 4] 26)
  have hW2' := (hW2.below hB5).below bb5
  have hW3 := (hW3'.below hB5).below bb5
  have hW4' := (hW4.below hB5).below bb5
  have hW5 := WhB.new w5 121 1 4
  clear q3 hD4 hW2 hW3' hW4 hB5 hC5 bb5
  go_upto_region 7 with fail
  generalize w5.alloc (.cells #[.int .i64 121, .string .empty, .int .i64 1, .int .i64 4] 26) = W5 at *
  generalize w5.heap.size = g5 at *
  go_upto_region 9 with fail
  have hz6 : (W5.alloc (.cells #[.string ⟨#[108, 101, 116, 32, 88, 32, 58, 32, 49]⟩, .string ⟨#[108, 101, 116, 32, 88, 32, 61, 32, 49, 10, 9, 120]⟩, .string ⟨#[105, 110, 99, 108, 117, 100, 101, 32, 97, 10, 9, 120]⟩, .string ⟨#[9, 120]⟩, .string ⟨#[114, 117, 108, 101, 32, 97, 32, 58, 32, 98, 32, 58, 32, 99]⟩, .string ⟨#[114, 117, 108, 101, 32, 97, 32, 58, 32, 98, 32, 61, 32, 99]⟩, .string ⟨#[108, 101, 116, 32, 88, 32, 61, 32, 97, 32, 58, 32, 98]⟩, .string ⟨#[105, 110, 99, 108, 117, 100, 101, 32, 58]⟩, .string ⟨#[105, 110, 99, 108, 117, 100, 101, 32, 97, 32, 98]⟩, .string ⟨#[114, 117, 108, 101, 32, 97, 32, 61, 32, 98]⟩, .string ⟨#[114, 117, 108, 101, 32, 58, 32, 98]⟩, .string ⟨#[108, 101, 116, 32, 88, 32, 49]⟩, .string ⟨#[34, 108, 101, 116, 34, 32, 88, 32, 61, 32, 49]⟩] 52)).heap.size = W5.heap.size + 1 := Array.size_push ..
  have hTx : ((W5.alloc (.cells #[.string ⟨#[108, 101, 116, 32, 88, 32, 58, 32, 49]⟩, .string ⟨#[108, 101, 116, 32, 88, 32, 61, 32, 49, 10, 9, 120]⟩, .string ⟨#[105, 110, 99, 108, 117, 100, 101, 32, 97, 10, 9, 120]⟩, .string ⟨#[9, 120]⟩, .string ⟨#[114, 117, 108, 101, 32, 97, 32, 58, 32, 98, 32, 58, 32, 99]⟩, .string ⟨#[114, 117, 108, 101, 32, 97, 32, 58, 32, 98, 32, 61, 32, 99]⟩, .string ⟨#[108, 101, 116, 32, 88, 32, 61, 32, 97, 32, 58, 32, 98]⟩, .string ⟨#[105, 110, 99, 108, 117, 100, 101, 32, 58]⟩, .string ⟨#[105, 110, 99, 108, 117, 100, 101, 32, 97, 32, 98]⟩, .string ⟨#[114, 117, 108, 101, 32, 97, 32, 61, 32, 98]⟩, .string ⟨#[114, 117, 108, 101, 32, 58, 32, 98]⟩, .string ⟨#[108, 101, 116, 32, 88, 32, 49]⟩, .string ⟨#[34, 108, 101, 116, 34, 32, 88, 32, 61, 32, 49]⟩] 52)).alloc (.cells #[.int .i64 6, .int .i64 1, .int .i64 1, .int .i64 1, .int .i64 11, .int .i64 11, .int .i64 10, .int .i64 8, .int .i64 10, .int .i64 7, .int .i64 5, .int .i64 6, .int .i64 0] 53)).heap[W5.heap.size]? = some (.cells textsA 52 (0, 0)) := by
    rw [Below.heap_alloc _ _ _ (by rw [hz6]; omega)]
    exact heap_alloc_new W5 _
  have hCx : ((W5.alloc (.cells #[.string ⟨#[108, 101, 116, 32, 88, 32, 58, 32, 49]⟩, .string ⟨#[108, 101, 116, 32, 88, 32, 61, 32, 49, 10, 9, 120]⟩, .string ⟨#[105, 110, 99, 108, 117, 100, 101, 32, 97, 10, 9, 120]⟩, .string ⟨#[9, 120]⟩, .string ⟨#[114, 117, 108, 101, 32, 97, 32, 58, 32, 98, 32, 58, 32, 99]⟩, .string ⟨#[114, 117, 108, 101, 32, 97, 32, 58, 32, 98, 32, 61, 32, 99]⟩, .string ⟨#[108, 101, 116, 32, 88, 32, 61, 32, 97, 32, 58, 32, 98]⟩, .string ⟨#[105, 110, 99, 108, 117, 100, 101, 32, 58]⟩, .string ⟨#[105, 110, 99, 108, 117, 100, 101, 32, 97, 32, 98]⟩, .string ⟨#[114, 117, 108, 101, 32, 97, 32, 61, 32, 98]⟩, .string ⟨#[114, 117, 108, 101, 32, 58, 32, 98]⟩, .string ⟨#[108, 101, 116, 32, 88, 32, 49]⟩, .string ⟨#[34, 108, 101, 116, 34, 32, 88, 32, 61, 32, 49]⟩] 52)).alloc (.cells #[.int .i64 6, .int .i64 1, .int .i64 1, .int .i64 1, .int .i64 11, .int .i64 11, .int .i64 10, .int .i64 8, .int .i64 10, .int .i64 7, .int .i64 5, .int .i64 6, .int .i64 0] 53)).heap[W5.heap.size + 1]? = some (.cells colsA 53 (0, 0)) := by
    rw [← hz6]
    exact heap_alloc_new _ _
  have bb6 : Below W5.heap.size W5 ((W5.alloc (.cells #[.string ⟨#[108, 101, 116, 32, 88, 32, 58, 32, 49]⟩, .string ⟨#[108, 101, 116, 32, 88, 32, 61, 32, 49, 10, 9, 120]⟩, .string ⟨#[105, 110, 99, 108, 117, 100, 101, 32, 97, 10, 9, 120]⟩, .string ⟨#[9, 120]⟩, .string ⟨#[114, 117, 108, 101, 32, 97, 32, 58, 32, 98, 32, 58, 32, 99]⟩, .string ⟨#[114, 117, 108, 101, 32, 97, 32, 58, 32, 98, 32, 61, 32, 99]⟩, .string ⟨#[108, 101, 116, 32, 88, 32, 61, 32, 97, 32, 58, 32, 98]⟩, .string ⟨#[105, 110, 99, 108, 117, 100, 101, 32, 58]⟩, .string ⟨#[105, 110, 99, 108, 117, 100, 101, 32, 97, 32, 98]⟩, .string ⟨#[114, 117, 108, 101, 32, 97, 32, 61, 32, 98]⟩, .string ⟨#[114, 117, 108, 101, 32, 58, 32, 98]⟩, .string ⟨#[108, 101, 116, 32, 88, 32, 49]⟩, .string ⟨#[34, 108, 101, 116, 34, 32, 88, 32, 61, 32, 49]⟩] 52)).alloc (.cells #[.int .i64 6, .int .i64 1, .int .i64 1, .int .i64 1, .int .i64 11, .int .i64 11, .int .i64 10, .int .i64 8, .int .i64 10, .int .i64 7, .int .i64 5, .int .i64 6, .int .i64 0] 53)) := ((Below.refl W5.heap.size W5).alloc (Nat.le_refl _) _).alloc (by rw [hz6]; omega) _
  have hW2 := hW2'.below bb6
  have hW3' := hW3.below bb6
  have hW4 := hW4'.below bb6
  have hW5' := hW5.below bb6
  have hD6 := hD5.trans (bb6.mono hD5.size)
  clear hW2' hW3 hW4' hW5 bb6 hD5 hz6
  generalize (W5.alloc (.cells #[.string ⟨#[108, 101, 116, 32, 88, 32, 58, 32, 49]⟩, .string ⟨#[108, 101, 116, 32, 88, 32, 61, 32, 49, 10, 9, 120]⟩, .string ⟨#[105, 110, 99, 108, 117, 100, 101, 32, 97, 10, 9, 120]⟩, .string ⟨#[9, 120]⟩, .string ⟨#[114, 117, 108, 101, 32, 97, 32, 58, 32, 98, 32, 58, 32, 99]⟩, .string ⟨#[114, 117, 108, 101, 32, 97, 32, 58, 32, 98, 32, 61, 32, 99]⟩, .string ⟨#[108, 101, 116, 32, 88, 32, 61, 32, 97, 32, 58, 32, 98]⟩, .string ⟨#[105, 110, 99, 108, 117, 100, 101, 32, 58]⟩, .string ⟨#[105, 110, 99, 108, 117, 100, 101, 32, 97, 32, 98]⟩, .string ⟨#[114, 117, 108, 101, 32, 97, 32, 61, 32, 98]⟩, .string ⟨#[114, 117, 108, 101, 32, 58, 32, 98]⟩, .string ⟨#[108, 101, 116, 32, 88, 32, 49]⟩, .string ⟨#[34, 108, 101, 116, 34, 32, 88, 32, 61, 32, 49]⟩] 52)).alloc (.cells #[.int .i64 6, .int .i64 1, .int .i64 1, .int .i64 1, .int .i64 11, .int .i64 11, .int .i64 10, .int .i64 8, .int .i64 10, .int .i64 7, .int .i64 5, .int .i64 6, .int .i64 0] 53) = W6 at *
  generalize W5.heap.size = gt at *
  have hgc : gt + 1 < W6.heap.size := (Array.getElem?_eq_some_iff.1 hCx).1
  have t0 : W6.cell? ⟨gt, 0, none⟩ = some (.string ⟨#[108, 101, 116, 32, 88, 32, 58, 32, 49]⟩) := by simp [World.cell?, hTx, textsA]
  have c0 : W6.cell? ⟨gt + 1, 0, none⟩ = some (.int .i64 6) := by simp [World.cell?, hCx, colsA]
  have t1 : W6.cell? ⟨gt, 1, none⟩ = some (.string ⟨#[108, 101, 116, 32, 88, 32, 61, 32, 49, 10, 9, 120]⟩) := by simp [World.cell?, hTx, textsA]
  have c1 : W6.cell? ⟨gt + 1, 1, none⟩ = some (.int .i64 1) := by simp [World.cell?, hCx, colsA]
  have t2 : W6.cell? ⟨gt, 2, none⟩ = some (.string ⟨#[105, 110, 99, 108, 117, 100, 101, 32, 97, 10, 9, 120]⟩) := by simp [World.cell?, hTx, textsA]
  have c2 : W6.cell? ⟨gt + 1, 2, none⟩ = some (.int .i64 1) := by simp [World.cell?, hCx, colsA]
  have t3 : W6.cell? ⟨gt, 3, none⟩ = some (.string ⟨#[9, 120]⟩) := by simp [World.cell?, hTx, textsA]
  have c3 : W6.cell? ⟨gt + 1, 3, none⟩ = some (.int .i64 1) := by simp [World.cell?, hCx, colsA]
  have t4 : W6.cell? ⟨gt, 4, none⟩ = some (.string ⟨#[114, 117, 108, 101, 32, 97, 32, 58, 32, 98, 32, 58, 32, 99]⟩) := by simp [World.cell?, hTx, textsA]
  have c4 : W6.cell? ⟨gt + 1, 4, none⟩ = some (.int .i64 11) := by simp [World.cell?, hCx, colsA]
  have t5 : W6.cell? ⟨gt, 5, none⟩ = some (.string ⟨#[114, 117, 108, 101, 32, 97, 32, 58, 32, 98, 32, 61, 32, 99]⟩) := by simp [World.cell?, hTx, textsA]
  have c5 : W6.cell? ⟨gt + 1, 5, none⟩ = some (.int .i64 11) := by simp [World.cell?, hCx, colsA]
  have t6 : W6.cell? ⟨gt, 6, none⟩ = some (.string ⟨#[108, 101, 116, 32, 88, 32, 61, 32, 97, 32, 58, 32, 98]⟩) := by simp [World.cell?, hTx, textsA]
  have c6 : W6.cell? ⟨gt + 1, 6, none⟩ = some (.int .i64 10) := by simp [World.cell?, hCx, colsA]
  have t7 : W6.cell? ⟨gt, 7, none⟩ = some (.string ⟨#[105, 110, 99, 108, 117, 100, 101, 32, 58]⟩) := by simp [World.cell?, hTx, textsA]
  have c7 : W6.cell? ⟨gt + 1, 7, none⟩ = some (.int .i64 8) := by simp [World.cell?, hCx, colsA]
  have t8 : W6.cell? ⟨gt, 8, none⟩ = some (.string ⟨#[105, 110, 99, 108, 117, 100, 101, 32, 97, 32, 98]⟩) := by simp [World.cell?, hTx, textsA]
  have c8 : W6.cell? ⟨gt + 1, 8, none⟩ = some (.int .i64 10) := by simp [World.cell?, hCx, colsA]
  have t9 : W6.cell? ⟨gt, 9, none⟩ = some (.string ⟨#[114, 117, 108, 101, 32, 97, 32, 61, 32, 98]⟩) := by simp [World.cell?, hTx, textsA]
  have c9 : W6.cell? ⟨gt + 1, 9, none⟩ = some (.int .i64 7) := by simp [World.cell?, hCx, colsA]
  have t10 : W6.cell? ⟨gt, 10, none⟩ = some (.string ⟨#[114, 117, 108, 101, 32, 58, 32, 98]⟩) := by simp [World.cell?, hTx, textsA]
  have c10 : W6.cell? ⟨gt + 1, 10, none⟩ = some (.int .i64 5) := by simp [World.cell?, hCx, colsA]
  have t11 : W6.cell? ⟨gt, 11, none⟩ = some (.string ⟨#[108, 101, 116, 32, 88, 32, 49]⟩) := by simp [World.cell?, hTx, textsA]
  have c11 : W6.cell? ⟨gt + 1, 11, none⟩ = some (.int .i64 6) := by simp [World.cell?, hCx, colsA]
  have t12 : W6.cell? ⟨gt, 12, none⟩ = some (.string ⟨#[34, 108, 101, 116, 34, 32, 88, 32, 61, 32, 49]⟩) := by simp [World.cell?, hTx, textsA]
  have c12 : W6.cell? ⟨gt + 1, 12, none⟩ = some (.int .i64 0) := by simp [World.cell?, hCx, colsA]
  clear hTx hCx
  go_wp2
  go_loopw [39] (fun k wr => ∃ i : Nat, i ≤ 13 ∧ k = .int .i64 (i : Int) ∧ Below W6.heap.size W6 wr) (fun k _ => 13 - (intOf k).toNat)
  case atStart => exact ⟨0, Nat.zero_le _, rfl, Below.refl _ _⟩
  case round =>
    obtain ⟨i, hi, rfl, hbr⟩ := hrel
    by_cases hlt : i < 13
    · clear ea eb ec q4 hW2 hW3' hW4 hW5'
      obtain rfl | rfl | rfl | rfl | rfl | rfl | rfl | rfl | rfl | rfl | rfl | rfl | rfl : i = 0 ∨ i = 1 ∨ i = 2 ∨ i = 3 ∨ i = 4 ∨ i = 5 ∨ i = 6 ∨ i = 7 ∨ i = 8 ∨ i = 9 ∨ i = 10 ∨ i = 11 ∨ i = 12 := by omega
      · have pk := parse_bad_at hps #[108, 101, 116, 32, 88, 32, 58, 32, 49] _ rfl (by decide) Rl.ends4
        have ck := (cell_below hbr hgc 0).trans c0
        have nk := fun W : World => neq_where W 120 1 6 120 1 6
        rw [decide_eq_true ⟨rfl, rfl, rfl⟩] at nk
        unfold whA at nk
        have xk : ∀ W : World, (Instr.index 52 (.agg #[.string ⟨#[108, 101, 116, 32, 88, 32, 58, 32, 49]⟩, .string ⟨#[108, 101, 116, 32, 88, 32, 61, 32, 49, 10, 9, 120]⟩, .string ⟨#[105, 110, 99, 108, 117, 100, 101, 32, 97, 10, 9, 120]⟩, .string ⟨#[9, 120]⟩, .string ⟨#[114, 117, 108, 101, 32, 97, 32, 58, 32, 98, 32, 58, 32, 99]⟩, .string ⟨#[114, 117, 108, 101, 32, 97, 32, 58, 32, 98, 32, 61, 32, 99]⟩, .string ⟨#[108, 101, 116, 32, 88, 32, 61, 32, 97, 32, 58, 32, 98]⟩, .string ⟨#[105, 110, 99, 108, 117, 100, 101, 32, 58]⟩, .string ⟨#[105, 110, 99, 108, 117, 100, 101, 32, 97, 32, 98]⟩, .string ⟨#[114, 117, 108, 101, 32, 97, 32, 61, 32, 98]⟩, .string ⟨#[114, 117, 108, 101, 32, 58, 32, 98]⟩, .string ⟨#[108, 101, 116, 32, 88, 32, 49]⟩, .string ⟨#[34, 108, 101, 116, 34, 32, 88, 32, 61, 32, 49]⟩]) (.int .i64 0)).run Try.prog W = .ok (.string ⟨#[108, 101, 116, 32, 88, 32, 58, 32, 49]⟩) W := fun W => by first | rfl | kernel_rfl | simp [Instr.index, Try.underlying52, go_sem]
        clear t0 c0 t1 c1 t2 c2 t3 c3 t4 c4 t5 c5 t6 c6 t7 c7 t8 c8 t9 c9 t10 c10 t11 c11 t12 c12
        go_wp2_with fail
        refine (pk wr).mono ?_
        rintro e wA ⟨⟨adA, cA, rfl⟩, hBA⟩
        have hbA := hbr.trans (hBA.mono hbr.size)
        have hbB := hbA.alloc hbA.size (.cells #[.int .i64 120, .string .empty, .int .i64 1, .int .i64 6] 26)
        have cB := (cell_below ((Below.refl W6.heap.size wA).alloc hbA.size (.cells #[.int .i64 120, .string .empty, .int .i64 1, .int .i64 6] 26)) hgc 0).trans ((cell_below (hBA.mono hbr.size) hgc 0).trans ck)
        obtain ⟨y0, y1, y2, y3⟩ := (WhB.new wA 120 1 6).cells
        clear pk ck hbA hBA
        go_upto_region 16 with fail
        go_quiet (fail)
        go_wp2
        exact ⟨⟨1, by omega, by go_num, by first | exact hbB | exact below_drewN hbB _⟩, by simp [intOf]⟩
      · have pk := parse_bad_at hps #[108, 101, 116, 32, 88, 32, 61, 32, 49, 10, 9, 120] _ rfl (by decide) Rl.ends5
        have ck := (cell_below hbr hgc 1).trans c1
        have nk := fun W : World => neq_where W 120 2 1 120 2 1
        rw [decide_eq_true ⟨rfl, rfl, rfl⟩] at nk
        unfold whA at nk
        have xk : ∀ W : World, (Instr.index 52 (.agg #[.string ⟨#[108, 101, 116, 32, 88, 32, 58, 32, 49]⟩, .string ⟨#[108, 101, 116, 32, 88, 32, 61, 32, 49, 10, 9, 120]⟩, .string ⟨#[105, 110, 99, 108, 117, 100, 101, 32, 97, 10, 9, 120]⟩, .string ⟨#[9, 120]⟩, .string ⟨#[114, 117, 108, 101, 32, 97, 32, 58, 32, 98, 32, 58, 32, 99]⟩, .string ⟨#[114, 117, 108, 101, 32, 97, 32, 58, 32, 98, 32, 61, 32, 99]⟩, .string ⟨#[108, 101, 116, 32, 88, 32, 61, 32, 97, 32, 58, 32, 98]⟩, .string ⟨#[105, 110, 99, 108, 117, 100, 101, 32, 58]⟩, .string ⟨#[105, 110, 99, 108, 117, 100, 101, 32, 97, 32, 98]⟩, .string ⟨#[114, 117, 108, 101, 32, 97, 32, 61, 32, 98]⟩, .string ⟨#[114, 117, 108, 101, 32, 58, 32, 98]⟩, .string ⟨#[108, 101, 116, 32, 88, 32, 49]⟩, .string ⟨#[34, 108, 101, 116, 34, 32, 88, 32, 61, 32, 49]⟩]) (.int .i64 1)).run Try.prog W = .ok (.string ⟨#[108, 101, 116, 32, 88, 32, 61, 32, 49, 10, 9, 120]⟩) W := fun W => by first | rfl | kernel_rfl | simp [Instr.index, Try.underlying52, go_sem]
        clear t0 c0 t1 c1 t2 c2 t3 c3 t4 c4 t5 c5 t6 c6 t7 c7 t8 c8 t9 c9 t10 c10 t11 c11 t12 c12
        go_wp2_with fail
        refine (pk wr).mono ?_
        rintro e wA ⟨⟨adA, cA, rfl⟩, hBA⟩
        have hbA := hbr.trans (hBA.mono hbr.size)
        have hbB := hbA.alloc hbA.size (.cells #[.int .i64 120, .string .empty, .int .i64 2, .int .i64 1] 26)
        have cB := (cell_below ((Below.refl W6.heap.size wA).alloc hbA.size (.cells #[.int .i64 120, .string .empty, .int .i64 2, .int .i64 1] 26)) hgc 1).trans ((cell_below (hBA.mono hbr.size) hgc 1).trans ck)
        obtain ⟨y0, y1, y2, y3⟩ := (WhB.new wA 120 2 1).cells
        clear pk ck hbA hBA
        go_upto_region 16 with fail
        go_quiet (fail)
        go_wp2
        exact ⟨⟨2, by omega, by go_num, by first | exact hbB | exact below_drewN hbB _⟩, by simp [intOf]⟩
      · have pk := parse_bad_at hps #[105, 110, 99, 108, 117, 100, 101, 32, 97, 10, 9, 120] _ rfl (by decide) Rl.ends6
        have ck := (cell_below hbr hgc 2).trans c2
        have nk := fun W : World => neq_where W 120 2 1 120 2 1
        rw [decide_eq_true ⟨rfl, rfl, rfl⟩] at nk
        unfold whA at nk
        have xk : ∀ W : World, (Instr.index 52 (.agg #[.string ⟨#[108, 101, 116, 32, 88, 32, 58, 32, 49]⟩, .string ⟨#[108, 101, 116, 32, 88, 32, 61, 32, 49, 10, 9, 120]⟩, .string ⟨#[105, 110, 99, 108, 117, 100, 101, 32, 97, 10, 9, 120]⟩, .string ⟨#[9, 120]⟩, .string ⟨#[114, 117, 108, 101, 32, 97, 32, 58, 32, 98, 32, 58, 32, 99]⟩, .string ⟨#[114, 117, 108, 101, 32, 97, 32, 58, 32, 98, 32, 61, 32, 99]⟩, .string ⟨#[108, 101, 116, 32, 88, 32, 61, 32, 97, 32, 58, 32, 98]⟩, .string ⟨#[105, 110, 99, 108, 117, 100, 101, 32, 58]⟩, .string ⟨#[105, 110, 99, 108, 117, 100, 101, 32, 97, 32, 98]⟩, .string ⟨#[114, 117, 108, 101, 32, 97, 32, 61, 32, 98]⟩, .string ⟨#[114, 117, 108, 101, 32, 58, 32, 98]⟩, .string ⟨#[108, 101, 116, 32, 88, 32, 49]⟩, .string ⟨#[34, 108, 101, 116, 34, 32, 88, 32, 61, 32, 49]⟩]) (.int .i64 2)).run Try.prog W = .ok (.string ⟨#[105, 110, 99, 108, 117, 100, 101, 32, 97, 10, 9, 120]⟩) W := fun W => by first | rfl | kernel_rfl | simp [Instr.index, Try.underlying52, go_sem]
        clear t0 c0 t1 c1 t2 c2 t3 c3 t4 c4 t5 c5 t6 c6 t7 c7 t8 c8 t9 c9 t10 c10 t11 c11 t12 c12
        go_wp2_with fail
        refine (pk wr).mono ?_
        rintro e wA ⟨⟨adA, cA, rfl⟩, hBA⟩
        have hbA := hbr.trans (hBA.mono hbr.size)
        have hbB := hbA.alloc hbA.size (.cells #[.int .i64 120, .string .empty, .int .i64 2, .int .i64 1] 26)
        have cB := (cell_below ((Below.refl W6.heap.size wA).alloc hbA.size (.cells #[.int .i64 120, .string .empty, .int .i64 2, .int .i64 1] 26)) hgc 2).trans ((cell_below (hBA.mono hbr.size) hgc 2).trans ck)
        obtain ⟨y0, y1, y2, y3⟩ := (WhB.new wA 120 2 1).cells
        clear pk ck hbA hBA
        go_upto_region 16 with fail
        go_quiet (fail)
        go_wp2
        exact ⟨⟨3, by omega, by go_num, by first | exact hbB | exact below_drewN hbB _⟩, by simp [intOf]⟩
      · have pk := parse_bad_at hps #[9, 120] _ rfl (by decide) Rl.ends7
        have ck := (cell_below hbr hgc 3).trans c3
        have nk := fun W : World => neq_where W 120 1 1 120 1 1
        rw [decide_eq_true ⟨rfl, rfl, rfl⟩] at nk
        unfold whA at nk
        have xk : ∀ W : World, (Instr.index 52 (.agg #[.string ⟨#[108, 101, 116, 32, 88, 32, 58, 32, 49]⟩, .string ⟨#[108, 101, 116, 32, 88, 32, 61, 32, 49, 10, 9, 120]⟩, .string ⟨#[105, 110, 99, 108, 117, 100, 101, 32, 97, 10, 9, 120]⟩, .string ⟨#[9, 120]⟩, .string ⟨#[114, 117, 108, 101, 32, 97, 32, 58, 32, 98, 32, 58, 32, 99]⟩, .string ⟨#[114, 117, 108, 101, 32, 97, 32, 58, 32, 98, 32, 61, 32, 99]⟩, .string ⟨#[108, 101, 116, 32, 88, 32, 61, 32, 97, 32, 58, 32, 98]⟩, .string ⟨#[105, 110, 99, 108, 117, 100, 101, 32, 58]⟩, .string ⟨#[105, 110, 99, 108, 117, 100, 101, 32, 97, 32, 98]⟩, .string ⟨#[114, 117, 108, 101, 32, 97, 32, 61, 32, 98]⟩, .string ⟨#[114, 117, 108, 101, 32, 58, 32, 98]⟩, .string ⟨#[108, 101, 116, 32, 88, 32, 49]⟩, .string ⟨#[34, 108, 101, 116, 34, 32, 88, 32, 61, 32, 49]⟩]) (.int .i64 3)).run Try.prog W = .ok (.string ⟨#[9, 120]⟩) W := fun W => by first | rfl | kernel_rfl | simp [Instr.index, Try.underlying52, go_sem]
        clear t0 c0 t1 c1 t2 c2 t3 c3 t4 c4 t5 c5 t6 c6 t7 c7 t8 c8 t9 c9 t10 c10 t11 c11 t12 c12
        go_wp2_with fail
        refine (pk wr).mono ?_
        rintro e wA ⟨⟨adA, cA, rfl⟩, hBA⟩
        have hbA := hbr.trans (hBA.mono hbr.size)
        have hbB := hbA.alloc hbA.size (.cells #[.int .i64 120, .string .empty, .int .i64 1, .int .i64 1] 26)
        have cB := (cell_below ((Below.refl W6.heap.size wA).alloc hbA.size (.cells #[.int .i64 120, .string .empty, .int .i64 1, .int .i64 1] 26)) hgc 3).trans ((cell_below (hBA.mono hbr.size) hgc 3).trans ck)
        obtain ⟨y0, y1, y2, y3⟩ := (WhB.new wA 120 1 1).cells
        clear pk ck hbA hBA
        go_upto_region 16 with fail
        go_quiet (fail)
        go_wp2
        exact ⟨⟨4, by omega, by go_num, by first | exact hbB | exact below_drewN hbB _⟩, by simp [intOf]⟩
      · have pk := parse_bad_at hps #[114, 117, 108, 101, 32, 97, 32, 58, 32, 98, 32, 58, 32, 99] _ rfl (by decide) Rl.ends8
        have ck := (cell_below hbr hgc 4).trans c4
        have nk := fun W : World => neq_where W 120 1 11 120 1 11
        rw [decide_eq_true ⟨rfl, rfl, rfl⟩] at nk
        unfold whA at nk
        have xk : ∀ W : World, (Instr.index 52 (.agg #[.string ⟨#[108, 101, 116, 32, 88, 32, 58, 32, 49]⟩, .string ⟨#[108, 101, 116, 32, 88, 32, 61, 32, 49, 10, 9, 120]⟩, .string ⟨#[105, 110, 99, 108, 117, 100, 101, 32, 97, 10, 9, 120]⟩, .string ⟨#[9, 120]⟩, .string ⟨#[114, 117, 108, 101, 32, 97, 32, 58, 32, 98, 32, 58, 32, 99]⟩, .string ⟨#[114, 117, 108, 101, 32, 97, 32, 58, 32, 98, 32, 61, 32, 99]⟩, .string ⟨#[108, 101, 116, 32, 88, 32, 61, 32, 97, 32, 58, 32, 98]⟩, .string ⟨#[105, 110, 99, 108, 117, 100, 101, 32, 58]⟩, .string ⟨#[105, 110, 99, 108, 117, 100, 101, 32, 97, 32, 98]⟩, .string ⟨#[114, 117, 108, 101, 32, 97, 32, 61, 32, 98]⟩, .string ⟨#[114, 117, 108, 101, 32, 58, 32, 98]⟩, .string ⟨#[108, 101, 116, 32, 88, 32, 49]⟩, .string ⟨#[34, 108, 101, 116, 34, 32, 88, 32, 61, 32, 49]⟩]) (.int .i64 4)).run Try.prog W = .ok (.string ⟨#[114, 117, 108, 101, 32, 97, 32, 58, 32, 98, 32, 58, 32, 99]⟩) W := fun W => by first | rfl | kernel_rfl | simp [Instr.index, Try.underlying52, go_sem]
        clear t0 c0 t1 c1 t2 c2 t3 c3 t4 c4 t5 c5 t6 c6 t7 c7 t8 c8 t9 c9 t10 c10 t11 c11 t12 c12
        go_wp2_with fail
        refine (pk wr).mono ?_
        rintro e wA ⟨⟨adA, cA, rfl⟩, hBA⟩
        have hbA := hbr.trans (hBA.mono hbr.size)
        have hbB := hbA.alloc hbA.size (.cells #[.int .i64 120, .string .empty, .int .i64 1, .int .i64 11] 26)
        have cB := (cell_below ((Below.refl W6.heap.size wA).alloc hbA.size (.cells #[.int .i64 120, .string .empty, .int .i64 1, .int .i64 11] 26)) hgc 4).trans ((cell_below (hBA.mono hbr.size) hgc 4).trans ck)
        obtain ⟨y0, y1, y2, y3⟩ := (WhB.new wA 120 1 11).cells
        clear pk ck hbA hBA
        go_upto_region 16 with fail
        go_quiet (fail)
        go_wp2
        exact ⟨⟨5, by omega, by go_num, by first | exact hbB | exact below_drewN hbB _⟩, by simp [intOf]⟩
      · have pk := parse_bad_at hps #[114, 117, 108, 101, 32, 97, 32, 58, 32, 98, 32, 61, 32, 99] _ rfl (by decide) Rl.ends9
        have ck := (cell_below hbr hgc 5).trans c5
        have nk := fun W : World => neq_where W 120 1 11 120 1 11
        rw [decide_eq_true ⟨rfl, rfl, rfl⟩] at nk
        unfold whA at nk
        have xk : ∀ W : World, (Instr.index 52 (.agg #[.string ⟨#[108, 101, 116, 32, 88, 32, 58, 32, 49]⟩, .string ⟨#[108, 101, 116, 32, 88, 32, 61, 32, 49, 10, 9, 120]⟩, .string ⟨#[105, 110, 99, 108, 117, 100, 101, 32, 97, 10, 9, 120]⟩, .string ⟨#[9, 120]⟩, .string ⟨#[114, 117, 108, 101, 32, 97, 32, 58, 32, 98, 32, 58, 32, 99]⟩, .string ⟨#[114, 117, 108, 101, 32, 97, 32, 58, 32, 98, 32, 61, 32, 99]⟩, .string ⟨#[108, 101, 116, 32, 88, 32, 61, 32, 97, 32, 58, 32, 98]⟩, .string ⟨#[105, 110, 99, 108, 117, 100, 101, 32, 58]⟩, .string ⟨#[105, 110, 99, 108, 117, 100, 101, 32, 97, 32, 98]⟩, .string ⟨#[114, 117, 108, 101, 32, 97, 32, 61, 32, 98]⟩, .string ⟨#[114, 117, 108, 101, 32, 58, 32, 98]⟩, .string ⟨#[108, 101, 116, 32, 88, 32, 49]⟩, .string ⟨#[34, 108, 101, 116, 34, 32, 88, 32, 61, 32, 49]⟩]) (.int .i64 5)).run Try.prog W = .ok (.string ⟨#[114, 117, 108, 101, 32, 97, 32, 58, 32, 98, 32, 61, 32, 99]⟩) W := fun W => by first | rfl | kernel_rfl | simp [Instr.index, Try.underlying52, go_sem]
        clear t0 c0 t1 c1 t2 c2 t3 c3 t4 c4 t5 c5 t6 c6 t7 c7 t8 c8 t9 c9 t10 c10 t11 c11 t12 c12
        go_wp2_with fail
        refine (pk wr).mono ?_
        rintro e wA ⟨⟨adA, cA, rfl⟩, hBA⟩
        have hbA := hbr.trans (hBA.mono hbr.size)
        have hbB := hbA.alloc hbA.size (.cells #[.int .i64 120, .string .empty, .int .i64 1, .int .i64 11] 26)
        have cB := (cell_below ((Below.refl W6.heap.size wA).alloc hbA.size (.cells #[.int .i64 120, .string .empty, .int .i64 1, .int .i64 11] 26)) hgc 5).trans ((cell_below (hBA.mono hbr.size) hgc 5).trans ck)
        obtain ⟨y0, y1, y2, y3⟩ := (WhB.new wA 120 1 11).cells
        clear pk ck hbA hBA
        go_upto_region 16 with fail
        go_quiet (fail)
        go_wp2
        exact ⟨⟨6, by omega, by go_num, by first | exact hbB | exact below_drewN hbB _⟩, by simp [intOf]⟩
      · have pk := parse_bad_at hps #[108, 101, 116, 32, 88, 32, 61, 32, 97, 32, 58, 32, 98] _ rfl (by decide) Rl.ends10
        have ck := (cell_below hbr hgc 6).trans c6
        have nk := fun W : World => neq_where W 120 1 10 120 1 10
        rw [decide_eq_true ⟨rfl, rfl, rfl⟩] at nk
        unfold whA at nk
        have xk : ∀ W : World, (Instr.index 52 (.agg #[.string ⟨#[108, 101, 116, 32, 88, 32, 58, 32, 49]⟩, .string ⟨#[108, 101, 116, 32, 88, 32, 61, 32, 49, 10, 9, 120]⟩, .string ⟨#[105, 110, 99, 108, 117, 100, 101, 32, 97, 10, 9, 120]⟩, .string ⟨#[9, 120]⟩, .string ⟨#[114, 117, 108, 101, 32, 97, 32, 58, 32, 98, 32, 58, 32, 99]⟩, .string ⟨#[114, 117, 108, 101, 32, 97, 32, 58, 32, 98, 32, 61, 32, 99]⟩, .string ⟨#[108, 101, 116, 32, 88, 32, 61, 32, 97, 32, 58, 32, 98]⟩, .string ⟨#[105, 110, 99, 108, 117, 100, 101, 32, 58]⟩, .string ⟨#[105, 110, 99, 108, 117, 100, 101, 32, 97, 32, 98]⟩, .string ⟨#[114, 117, 108, 101, 32, 97, 32, 61, 32, 98]⟩, .string ⟨#[114, 117, 108, 101, 32, 58, 32, 98]⟩, .string ⟨#[108, 101, 116, 32, 88, 32, 49]⟩, .string ⟨#[34, 108, 101, 116, 34, 32, 88, 32, 61, 32, 49]⟩]) (.int .i64 6)).run Try.prog W = .ok (.string ⟨#[108, 101, 116, 32, 88, 32, 61, 32, 97, 32, 58, 32, 98]⟩) W := fun W => by first | rfl | kernel_rfl | simp [Instr.index, Try.underlying52, go_sem]
        clear t0 c0 t1 c1 t2 c2 t3 c3 t4 c4 t5 c5 t6 c6 t7 c7 t8 c8 t9 c9 t10 c10 t11 c11 t12 c12
        go_wp2_with fail
        refine (pk wr).mono ?_
        rintro e wA ⟨⟨adA, cA, rfl⟩, hBA⟩
        have hbA := hbr.trans (hBA.mono hbr.size)
        have hbB := hbA.alloc hbA.size (.cells #[.int .i64 120, .string .empty, .int .i64 1, .int .i64 10] 26)
        have cB := (cell_below ((Below.refl W6.heap.size wA).alloc hbA.size (.cells #[.int .i64 120, .string .empty, .int .i64 1, .int .i64 10] 26)) hgc 6).trans ((cell_below (hBA.mono hbr.size) hgc 6).trans ck)
        obtain ⟨y0, y1, y2, y3⟩ := (WhB.new wA 120 1 10).cells
        clear pk ck hbA hBA
        go_upto_region 16 with fail
        go_quiet (fail)
        go_wp2
        exact ⟨⟨7, by omega, by go_num, by first | exact hbB | exact below_drewN hbB _⟩, by simp [intOf]⟩
      · have pk := parse_bad_at hps #[105, 110, 99, 108, 117, 100, 101, 32, 58] _ rfl (by decide) Rl.ends11
        have ck := (cell_below hbr hgc 7).trans c7
        have nk := fun W : World => neq_where W 120 1 8 120 1 8
        rw [decide_eq_true ⟨rfl, rfl, rfl⟩] at nk
        unfold whA at nk
        have xk : ∀ W : World, (Instr.index 52 (.agg #[.string ⟨#[108, 101, 116, 32, 88, 32, 58, 32, 49]⟩, .string ⟨#[108, 101, 116, 32, 88, 32, 61, 32, 49, 10, 9, 120]⟩, .string ⟨#[105, 110, 99, 108, 117, 100, 101, 32, 97, 10, 9, 120]⟩, .string ⟨#[9, 120]⟩, .string ⟨#[114, 117, 108, 101, 32, 97, 32, 58, 32, 98, 32, 58, 32, 99]⟩, .string ⟨#[114, 117, 108, 101, 32, 97, 32, 58, 32, 98, 32, 61, 32, 99]⟩, .string ⟨#[108, 101, 116, 32, 88, 32, 61, 32, 97, 32, 58, 32, 98]⟩, .string ⟨#[105, 110, 99, 108, 117, 100, 101, 32, 58]⟩, .string ⟨#[105, 110, 99, 108, 117, 100, 101, 32, 97, 32, 98]⟩, .string ⟨#[114, 117, 108, 101, 32, 97, 32, 61, 32, 98]⟩, .string ⟨#[114, 117, 108, 101, 32, 58, 32, 98]⟩, .string ⟨#[108, 101, 116, 32, 88, 32, 49]⟩, .string ⟨#[34, 108, 101, 116, 34, 32, 88, 32, 61, 32, 49]⟩]) (.int .i64 7)).run Try.prog W = .ok (.string ⟨#[105, 110, 99, 108, 117, 100, 101, 32, 58]⟩) W := fun W => by first | rfl | kernel_rfl | simp [Instr.index, Try.underlying52, go_sem]
        clear t0 c0 t1 c1 t2 c2 t3 c3 t4 c4 t5 c5 t6 c6 t7 c7 t8 c8 t9 c9 t10 c10 t11 c11 t12 c12
        go_wp2_with fail
        refine (pk wr).mono ?_
        rintro e wA ⟨⟨adA, cA, rfl⟩, hBA⟩
        have hbA := hbr.trans (hBA.mono hbr.size)
        have hbB := hbA.alloc hbA.size (.cells #[.int .i64 120, .string .empty, .int .i64 1, .int .i64 8] 26)
        have cB := (cell_below ((Below.refl W6.heap.size wA).alloc hbA.size (.cells #[.int .i64 120, .string .empty, .int .i64 1, .int .i64 8] 26)) hgc 7).trans ((cell_below (hBA.mono hbr.size) hgc 7).trans ck)
        obtain ⟨y0, y1, y2, y3⟩ := (WhB.new wA 120 1 8).cells
        clear pk ck hbA hBA
        go_upto_region 16 with fail
        go_quiet (fail)
        go_wp2
        exact ⟨⟨8, by omega, by go_num, by first | exact hbB | exact below_drewN hbB _⟩, by simp [intOf]⟩
      · have pk := parse_bad_at hps #[105, 110, 99, 108, 117, 100, 101, 32, 97, 32, 98] _ rfl (by decide) Rl.ends12
        have ck := (cell_below hbr hgc 8).trans c8
        have nk := fun W : World => neq_where W 120 1 10 120 1 10
        rw [decide_eq_true ⟨rfl, rfl, rfl⟩] at nk
        unfold whA at nk
        have xk : ∀ W : World, (Instr.index 52 (.agg #[.string ⟨#[108, 101, 116, 32, 88, 32, 58, 32, 49]⟩, .string ⟨#[108, 101, 116, 32, 88, 32, 61, 32, 49, 10, 9, 120]⟩, .string ⟨#[105, 110, 99, 108, 117, 100, 101, 32, 97, 10, 9, 120]⟩, .string ⟨#[9, 120]⟩, .string ⟨#[114, 117, 108, 101, 32, 97, 32, 58, 32, 98, 32, 58, 32, 99]⟩, .string ⟨#[114, 117, 108, 101, 32, 97, 32, 58, 32, 98, 32, 61, 32, 99]⟩, .string ⟨#[108, 101, 116, 32, 88, 32, 61, 32, 97, 32, 58, 32, 98]⟩, .string ⟨#[105, 110, 99, 108, 117, 100, 101, 32, 58]⟩, .string ⟨#[105, 110, 99, 108, 117, 100, 101, 32, 97, 32, 98]⟩, .string ⟨#[114, 117, 108, 101, 32, 97, 32, 61, 32, 98]⟩, .string ⟨#[114, 117, 108, 101, 32, 58, 32, 98]⟩, .string ⟨#[108, 101, 116, 32, 88, 32, 49]⟩, .string ⟨#[34, 108, 101, 116, 34, 32, 88, 32, 61, 32, 49]⟩]) (.int .i64 8)).run Try.prog W = .ok (.string ⟨#[105, 110, 99, 108, 117, 100, 101, 32, 97, 32, 98]⟩) W := fun W => by first | rfl | kernel_rfl | simp [Instr.index, Try.underlying52, go_sem]
        clear t0 c0 t1 c1 t2 c2 t3 c3 t4 c4 t5 c5 t6 c6 t7 c7 t8 c8 t9 c9 t10 c10 t11 c11 t12 c12
        go_wp2_with fail
        refine (pk wr).mono ?_
        rintro e wA ⟨⟨adA, cA, rfl⟩, hBA⟩
        have hbA := hbr.trans (hBA.mono hbr.size)
        have hbB := hbA.alloc hbA.size (.cells #[.int .i64 120, .string .empty, .int .i64 1, .int .i64 10] 26)
        have cB := (cell_below ((Below.refl W6.heap.size wA).alloc hbA.size (.cells #[.int .i64 120, .string .empty, .int .i64 1, .int .i64 10] 26)) hgc 8).trans ((cell_below (hBA.mono hbr.size) hgc 8).trans ck)
        obtain ⟨y0, y1, y2, y3⟩ := (WhB.new wA 120 1 10).cells
        clear pk ck hbA hBA
        go_upto_region 16 with fail
        go_quiet (fail)
        go_wp2
        exact ⟨⟨9, by omega, by go_num, by first | exact hbB | exact below_drewN hbB _⟩, by simp [intOf]⟩
      · have pk := parse_bad_at hps #[114, 117, 108, 101, 32, 97, 32, 61, 32, 98] _ rfl (by decide) Rl.ends13
        have ck := (cell_below hbr hgc 9).trans c9
        have nk := fun W : World => neq_where W 120 1 7 120 1 7
        rw [decide_eq_true ⟨rfl, rfl, rfl⟩] at nk
        unfold whA at nk
        have xk : ∀ W : World, (Instr.index 52 (.agg #[.string ⟨#[108, 101, 116, 32, 88, 32, 58, 32, 49]⟩, .string ⟨#[108, 101, 116, 32, 88, 32, 61, 32, 49, 10, 9, 120]⟩, .string ⟨#[105, 110, 99, 108, 117, 100, 101, 32, 97, 10, 9, 120]⟩, .string ⟨#[9, 120]⟩, .string ⟨#[114, 117, 108, 101, 32, 97, 32, 58, 32, 98, 32, 58, 32, 99]⟩, .string ⟨#[114, 117, 108, 101, 32, 97, 32, 58, 32, 98, 32, 61, 32, 99]⟩, .string ⟨#[108, 101, 116, 32, 88, 32, 61, 32, 97, 32, 58, 32, 98]⟩, .string ⟨#[105, 110, 99, 108, 117, 100, 101, 32, 58]⟩, .string ⟨#[105, 110, 99, 108, 117, 100, 101, 32, 97, 32, 98]⟩, .string ⟨#[114, 117, 108, 101, 32, 97, 32, 61, 32, 98]⟩, .string ⟨#[114, 117, 108, 101, 32, 58, 32, 98]⟩, .string ⟨#[108, 101, 116, 32, 88, 32, 49]⟩, .string ⟨#[34, 108, 101, 116, 34, 32, 88, 32, 61, 32, 49]⟩]) (.int .i64 9)).run Try.prog W = .ok (.string ⟨#[114, 117, 108, 101, 32, 97, 32, 61, 32, 98]⟩) W := fun W => by first | rfl | kernel_rfl | simp [Instr.index, Try.underlying52, go_sem]
        clear t0 c0 t1 c1 t2 c2 t3 c3 t4 c4 t5 c5 t6 c6 t7 c7 t8 c8 t9 c9 t10 c10 t11 c11 t12 c12
        go_wp2_with fail
        refine (pk wr).mono ?_
        rintro e wA ⟨⟨adA, cA, rfl⟩, hBA⟩
        have hbA := hbr.trans (hBA.mono hbr.size)
        have hbB := hbA.alloc hbA.size (.cells #[.int .i64 120, .string .empty, .int .i64 1, .int .i64 7] 26)
        have cB := (cell_below ((Below.refl W6.heap.size wA).alloc hbA.size (.cells #[.int .i64 120, .string .empty, .int .i64 1, .int .i64 7] 26)) hgc 9).trans ((cell_below (hBA.mono hbr.size) hgc 9).trans ck)
        obtain ⟨y0, y1, y2, y3⟩ := (WhB.new wA 120 1 7).cells
        clear pk ck hbA hBA
        go_upto_region 16 with fail
        go_quiet (fail)
        go_wp2
        exact ⟨⟨10, by omega, by go_num, by first | exact hbB | exact below_drewN hbB _⟩, by simp [intOf]⟩
      · have pk := parse_bad_at hps #[114, 117, 108, 101, 32, 58, 32, 98] _ rfl (by decide) Rl.ends14
        have ck := (cell_below hbr hgc 10).trans c10
        have nk := fun W : World => neq_where W 120 1 5 120 1 5
        rw [decide_eq_true ⟨rfl, rfl, rfl⟩] at nk
        unfold whA at nk
        have xk : ∀ W : World, (Instr.index 52 (.agg #[.string ⟨#[108, 101, 116, 32, 88, 32, 58, 32, 49]⟩, .string ⟨#[108, 101, 116, 32, 88, 32, 61, 32, 49, 10, 9, 120]⟩, .string ⟨#[105, 110, 99, 108, 117, 100, 101, 32, 97, 10, 9, 120]⟩, .string ⟨#[9, 120]⟩, .string ⟨#[114, 117, 108, 101, 32, 97, 32, 58, 32, 98, 32, 58, 32, 99]⟩, .string ⟨#[114, 117, 108, 101, 32, 97, 32, 58, 32, 98, 32, 61, 32, 99]⟩, .string ⟨#[108, 101, 116, 32, 88, 32, 61, 32, 97, 32, 58, 32, 98]⟩, .string ⟨#[105, 110, 99, 108, 117, 100, 101, 32, 58]⟩, .string ⟨#[105, 110, 99, 108, 117, 100, 101, 32, 97, 32, 98]⟩, .string ⟨#[114, 117, 108, 101, 32, 97, 32, 61, 32, 98]⟩, .string ⟨#[114, 117, 108, 101, 32, 58, 32, 98]⟩, .string ⟨#[108, 101, 116, 32, 88, 32, 49]⟩, .string ⟨#[34, 108, 101, 116, 34, 32, 88, 32, 61, 32, 49]⟩]) (.int .i64 10)).run Try.prog W = .ok (.string ⟨#[114, 117, 108, 101, 32, 58, 32, 98]⟩) W := fun W => by first | rfl | kernel_rfl | simp [Instr.index, Try.underlying52, go_sem]
        clear t0 c0 t1 c1 t2 c2 t3 c3 t4 c4 t5 c5 t6 c6 t7 c7 t8 c8 t9 c9 t10 c10 t11 c11 t12 c12
        go_wp2_with fail
        refine (pk wr).mono ?_
        rintro e wA ⟨⟨adA, cA, rfl⟩, hBA⟩
        have hbA := hbr.trans (hBA.mono hbr.size)
        have hbB := hbA.alloc hbA.size (.cells #[.int .i64 120, .string .empty, .int .i64 1, .int .i64 5] 26)
        have cB := (cell_below ((Below.refl W6.heap.size wA).alloc hbA.size (.cells #[.int .i64 120, .string .empty, .int .i64 1, .int .i64 5] 26)) hgc 10).trans ((cell_below (hBA.mono hbr.size) hgc 10).trans ck)
        obtain ⟨y0, y1, y2, y3⟩ := (WhB.new wA 120 1 5).cells
        clear pk ck hbA hBA
        go_upto_region 16 with fail
        go_quiet (fail)
        go_wp2
        exact ⟨⟨11, by omega, by go_num, by first | exact hbB | exact below_drewN hbB _⟩, by simp [intOf]⟩
      · have pk := parse_bad_at hps #[108, 101, 116, 32, 88, 32, 49] _ rfl (by decide) Rl.ends15
        have ck := (cell_below hbr hgc 11).trans c11
        have nk := fun W : World => neq_where W 120 1 6 120 1 6
        rw [decide_eq_true ⟨rfl, rfl, rfl⟩] at nk
        unfold whA at nk
        have xk : ∀ W : World, (Instr.index 52 (.agg #[.string ⟨#[108, 101, 116, 32, 88, 32, 58, 32, 49]⟩, .string ⟨#[108, 101, 116, 32, 88, 32, 61, 32, 49, 10, 9, 120]⟩, .string ⟨#[105, 110, 99, 108, 117, 100, 101, 32, 97, 10, 9, 120]⟩, .string ⟨#[9, 120]⟩, .string ⟨#[114, 117, 108, 101, 32, 97, 32, 58, 32, 98, 32, 58, 32, 99]⟩, .string ⟨#[114, 117, 108, 101, 32, 97, 32, 58, 32, 98, 32, 61, 32, 99]⟩, .string ⟨#[108, 101, 116, 32, 88, 32, 61, 32, 97, 32, 58, 32, 98]⟩, .string ⟨#[105, 110, 99, 108, 117, 100, 101, 32, 58]⟩, .string ⟨#[105, 110, 99, 108, 117, 100, 101, 32, 97, 32, 98]⟩, .string ⟨#[114, 117, 108, 101, 32, 97, 32, 61, 32, 98]⟩, .string ⟨#[114, 117, 108, 101, 32, 58, 32, 98]⟩, .string ⟨#[108, 101, 116, 32, 88, 32, 49]⟩, .string ⟨#[34, 108, 101, 116, 34, 32, 88, 32, 61, 32, 49]⟩]) (.int .i64 11)).run Try.prog W = .ok (.string ⟨#[108, 101, 116, 32, 88, 32, 49]⟩) W := fun W => by first | rfl | kernel_rfl | simp [Instr.index, Try.underlying52, go_sem]
        clear t0 c0 t1 c1 t2 c2 t3 c3 t4 c4 t5 c5 t6 c6 t7 c7 t8 c8 t9 c9 t10 c10 t11 c11 t12 c12
        go_wp2_with fail
        refine (pk wr).mono ?_
        rintro e wA ⟨⟨adA, cA, rfl⟩, hBA⟩
        have hbA := hbr.trans (hBA.mono hbr.size)
        have hbB := hbA.alloc hbA.size (.cells #[.int .i64 120, .string .empty, .int .i64 1, .int .i64 6] 26)
        have cB := (cell_below ((Below.refl W6.heap.size wA).alloc hbA.size (.cells #[.int .i64 120, .string .empty, .int .i64 1, .int .i64 6] 26)) hgc 11).trans ((cell_below (hBA.mono hbr.size) hgc 11).trans ck)
        obtain ⟨y0, y1, y2, y3⟩ := (WhB.new wA 120 1 6).cells
        clear pk ck hbA hBA
        go_upto_region 16 with fail
        go_quiet (fail)
        go_wp2
        exact ⟨⟨12, by omega, by go_num, by first | exact hbB | exact below_drewN hbB _⟩, by simp [intOf]⟩
      · have pk := parse_bad_at hps #[34, 108, 101, 116, 34, 32, 88, 32, 61, 32, 49] _ rfl (by decide) Rl.ends16
        have ck := (cell_below hbr hgc 12).trans c12
        have nk := fun W : World => neq_where W 120 1 0 120 1 0
        rw [decide_eq_true ⟨rfl, rfl, rfl⟩] at nk
        unfold whA at nk
        have xk : ∀ W : World, (Instr.index 52 (.agg #[.string ⟨#[108, 101, 116, 32, 88, 32, 58, 32, 49]⟩, .string ⟨#[108, 101, 116, 32, 88, 32, 61, 32, 49, 10, 9, 120]⟩, .string ⟨#[105, 110, 99, 108, 117, 100, 101, 32, 97, 10, 9, 120]⟩, .string ⟨#[9, 120]⟩, .string ⟨#[114, 117, 108, 101, 32, 97, 32, 58, 32, 98, 32, 58, 32, 99]⟩, .string ⟨#[114, 117, 108, 101, 32, 97, 32, 58, 32, 98, 32, 61, 32, 99]⟩, .string ⟨#[108, 101, 116, 32, 88, 32, 61, 32, 97, 32, 58, 32, 98]⟩, .string ⟨#[105, 110, 99, 108, 117, 100, 101, 32, 58]⟩, .string ⟨#[105, 110, 99, 108, 117, 100, 101, 32, 97, 32, 98]⟩, .string ⟨#[114, 117, 108, 101, 32, 97, 32, 61, 32, 98]⟩, .string ⟨#[114, 117, 108, 101, 32, 58, 32, 98]⟩, .string ⟨#[108, 101, 116, 32, 88, 32, 49]⟩, .string ⟨#[34, 108, 101, 116, 34, 32, 88, 32, 61, 32, 49]⟩]) (.int .i64 12)).run Try.prog W = .ok (.string ⟨#[34, 108, 101, 116, 34, 32, 88, 32, 61, 32, 49]⟩) W := fun W => by first | rfl | kernel_rfl | simp [Instr.index, Try.underlying52, go_sem]
        clear t0 c0 t1 c1 t2 c2 t3 c3 t4 c4 t5 c5 t6 c6 t7 c7 t8 c8 t9 c9 t10 c10 t11 c11 t12 c12
        go_wp2_with fail
        refine (pk wr).mono ?_
        rintro e wA ⟨⟨adA, cA, rfl⟩, hBA⟩
        have hbA := hbr.trans (hBA.mono hbr.size)
        have hbB := hbA.alloc hbA.size (.cells #[.int .i64 120, .string .empty, .int .i64 1, .int .i64 0] 26)
        have cB := (cell_below ((Below.refl W6.heap.size wA).alloc hbA.size (.cells #[.int .i64 120, .string .empty, .int .i64 1, .int .i64 0] 26)) hgc 12).trans ((cell_below (hBA.mono hbr.size) hgc 12).trans ck)
        obtain ⟨y0, y1, y2, y3⟩ := (WhB.new wA 120 1 0).cells
        clear pk ck hbA hBA
        go_upto_region 16 with fail
        go_quiet (fail)
        go_wp2
        exact ⟨⟨13, by omega, by go_num, by first | exact hbB | exact below_drewN hbB _⟩, by simp [intOf]⟩

    · obtain rfl : i = 13 := by omega
      have x2 := (hW2.below hbr)
      have x3 := (hW3'.below hbr)
      have x4 := (hW4.below hbr)
      have x5 := (hW5'.below hbr)
      have hDr := hD6.trans (hbr.mono hD6.size)
      clear hW2 hW3' hW4 hW5' t0 c0 t1 c1 t2 c2 t3 c3 t4 c4 t5 c5 t6 c6 t7 c7 t8 c8 t9 c9 t10 c10 t11 c11 t12 c12
      go_wp2_with fail
      refine (q4 wr).mono ?_
      rintro e wB ⟨⟨adB, cB, rfl⟩, hBB⟩
      have bbB := below_box wB (.cells #[.int .i64 0, .string .empty, .int .i64 0, .int .i64 0] 26)
      have hDB := hDr.trans (hBB.mono hDr.size)
      have hDC := hDB.alloc hDB.size (.cells #[.int .i64 0, .string .empty, .int .i64 0, .int .i64 0] 26)
      obtain ⟨a0, a1, a2, a3⟩ := ((x2.below hBB).below bbB).cells
      obtain ⟨b0, b1, b2, b3⟩ := ((x3.below hBB).below bbB).cells
      obtain ⟨d0, d1, d2, d3⟩ := ((x4.below hBB).below bbB).cells
      obtain ⟨f0, f1, f2, f3⟩ := ((x5.below hBB).below bbB).cells
      clear q4 x2 x3 x4 x5 hBB bbB hDB hbr hDr
      go_wp2
      go_ret
      exact ⟨rfl, hDC⟩

end Go.Proofs.Ythpipbkbldlfjaa
