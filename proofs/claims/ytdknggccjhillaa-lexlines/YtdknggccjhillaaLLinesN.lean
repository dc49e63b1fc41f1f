/-
  LexLines: texts without lines.
-/
import Derived.Test.YtdknggccjhillaaYLines
import Derived.Test.YtdknggccjhillaaYSame
import Derived.Test.YtdknggccjhillaaLPlaces
namespace Go.Proofs.Ytdknggccjhillaa
open Go.RowKit

set_option maxRecDepth 1000000 in
theorem LinesT_long (s : ByteArray) (w : World) (hs : 32768 < s.size) :
    Calls Try.prog 15 #[.string s] w fun e w' => e = .returned (.tuple #[.slice none 0 0, .agg #[.int .i64 3, .int .i64 32768]]) ∧ Below w.heap.size w w' := by
  have i0 : (32768 : Int) < (s.size : Int) := by omega
  go_enter Try.func15, Try.ntmps15
  go_wp2
  refine bodyPost_ret (results_linesT rfl rfl (SV.new w 3 32768)) rfl ?_
  exact ⟨rfl, (Below.refl _ _).alloc (Nat.le_refl _) _⟩

set_option maxRecDepth 100000 in
set_option maxHeartbeats 4000000 in
/-- both answer no lines, and one spot -/
theorem lines_nil (s : ByteArray) (w : World) (x y : Int) (hs : s.size ≤ 262144)
    (hA : ∀ w : World, Calls Try.prog 14 #[.string s] w fun e w' => e = .returned (.tuple #[.slice none 0 0, .agg #[.int .i64 x, .int .i64 y]]) ∧ Below w.heap.size w w')
    (hT : ∀ w : World, Calls Try.prog 15 #[.string s] w fun e w' => e = .returned (.tuple #[.slice none 0 0, .agg #[.int .i64 x, .int .i64 y]]) ∧ Below w.heap.size w w') :
    Calls Try.prog 3 #[.string s] w fun e w' => e = .returned (.bool true) ∧ Below w.heap.size w w' := by
  have eS := eql_spot
  have nS := neq_spot
  have gS := guard_spot
  have dS : (decide (x = x ∧ y = y)) = true := by simp
  have hSm : ∀ w : World, Calls Try.prog 16 #[.slice none 0 0, .slice none 0 0] w fun e w' => e = .returned (.bool true) ∧ Below w.heap.size w w' := fun w => by
    refine (SameT_any _ _ [] [] w w.heap.size (LnsOwn.nil w w.heap.size).s (LnsOwn.nil w w.heap.size).s (by simp) (by simp)).mono ?_
    rintro e w' ⟨rfl, h⟩
    exact ⟨by simp, h⟩
  go_enter Try.func3, Try.ntmps3
  go_wp2_with fail
  refine (works_any _).mono ?_
  rintro e w1 ⟨rfl, hB1⟩
  have hlo := long_any s.size w1
  rw [decide_eq_false (by omega)] at hlo
  go_wp2_with fail
  refine hlo.mono ?_
  rintro e w2 ⟨rfl, rfl⟩
  clear hlo
  go_wp2_with fail
  refine (hA _).mono ?_
  rintro e w3 ⟨rfl, hB3⟩
  have hC3 := hB1.trans (hB3.mono hB1.size)
  have s3 := SV.new w3 x y
  have hD3 := hC3.alloc hC3.size (.cells #[.int .i64 x, .int .i64 y] 27)
  clear hC3 hB3 hB1
  go_wp2_with fail
  generalize w3.alloc (.cells #[.int .i64 x, .int .i64 y] 27) = W3 at *
  generalize w3.heap.size = p3 at *
  refine (hT _).mono ?_
  rintro e w4 ⟨rfl, hB4⟩
  have hC4 := hD3.trans (hB4.mono hD3.size)
  have s4 := (s3.below hB4).alloc (.cells #[.int .i64 x, .int .i64 y] 27)
  have t4 := SV.new w4 x y
  have hD4 := hC4.alloc hC4.size (.cells #[.int .i64 x, .int .i64 y] 27)
  clear hC4 hB4 hD3 s3
  go_wp2_with fail
  generalize w4.alloc (.cells #[.int .i64 x, .int .i64 y] 27) = W4 at *
  generalize w4.heap.size = p4 at *
  refine (hSm _).mono ?_
  rintro e w5 ⟨rfl, hB5⟩
  have s5 := s4.below hB5
  have t5 := t4.below hB5
  have hD5 := hD4.trans (hB5.mono hD4.size)
  clear hD4 hB5 s4 t4
  obtain ⟨x0, x1⟩ := s5.cells
  obtain ⟨y0, y1⟩ := t5.cells
  go_wp2
  go_loopw [9] (fun k w' => k = .int .i64 0 ∧ w5 = w') (fun _ _ => 0)
  case atStart => exact ⟨rfl, rfl⟩
  case round =>
  obtain ⟨rfl, rfl⟩ := hrel
  go_wp2_with fail
  refine (hA _).mono ?_
  rintro e w6 ⟨rfl, hB6⟩
  have hC6 := hD5.trans (hB6.mono hD5.size)
  have t6 := (t5.below hB6).alloc (.cells #[.int .i64 x, .int .i64 y] 27)
  have u6 := SV.new w6 x y
  have hD6 := hC6.alloc hC6.size (.cells #[.int .i64 x, .int .i64 y] 27)
  clear hC6 hB6 hD5 t5 s5 x0 x1 y0 y1
  go_wp2_with fail
  generalize w6.alloc (.cells #[.int .i64 x, .int .i64 y] 27) = W6 at *
  generalize w6.heap.size = p6 at *
  refine (hSm _).mono ?_
  rintro e w7 ⟨rfl, hB7⟩
  have hD7 := hD6.trans (hB7.mono hD6.size)
  obtain ⟨x0, x1⟩ := (t6.below hB7).cells
  obtain ⟨y0, y1⟩ := (u6.below hB7).cells
  clear t6 u6 hB7 hD6
  go_wp2
  go_ret
  exact ⟨rfl, hD7⟩

end Go.Proofs.Ytdknggccjhillaa
