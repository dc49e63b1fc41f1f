/-
  SPOTS COMPARED; works ANSWERS true.
-/
import Derived.Test.YtdknggccjhillaaZLines
import Derived.Test.YtdknggccjhillaaYSame
namespace Go.Proofs.Ytdknggccjhillaa
open Go.RowKit

def spA (x y : Int) : Array Value := #[.int .i64 x, .int .i64 y]
theorem stood_spot : Try.prog.stoodInHeld 27 = false := by kernel_rfl
theorem guardT_spot : Try.prog.eqGuardType Try.prog.depth 27 = false := by kernel_rfl
theorem eq_spot (W : World) (x y x' y' : Int) : (Op.equalIn 10000 27 (.agg (spA x y)) (.agg (spA x' y'))).run Try.prog W = .ok (decide (x = x' ∧ y = y')) W := by
  rw [show (10000 : Nat) = 9999 + 1 from rfl, run_equalIn_agg W 9999 27 _ _ (by simp [Program.fieldsOf, Try.underlying27]) stood_spot]
  simp [Program.fieldsOf, Try.underlying27, go_sem, spA]
  by_cases h1 : x = x' <;> by_cases h2 : y = y' <;> simp [h1, h2]
theorem eql_spot (W : World) (x y x' y' : Int) : (binOp .eql 27 (.agg #[.int .i64 x, .int .i64 y]) (.agg #[.int .i64 x', .int .i64 y'])).run Try.prog W = .ok (.bool (decide (x = x' ∧ y = y'))) W := by
  have := eq_spot W x y x' y'
  unfold spA at this
  rw [run_eql_struct, this]; rfl
theorem neq_spot (W : World) (x y x' y' : Int) : (binOp .neq 27 (.agg #[.int .i64 x, .int .i64 y]) (.agg #[.int .i64 x', .int .i64 y'])).run Try.prog W = .ok (.bool (!decide (x = x' ∧ y = y'))) W := by
  have := eq_spot W x y x' y'
  unfold spA at this
  rw [run_neq_struct, this]; rfl
theorem guard_spot (W : World) (op : BinOp) (x y : Operand) (xs ys : Array Value) : (eqGuard op 27 x y (.agg xs) (.agg ys)).run Try.prog W = .ok () W := run_eqGuard_agg W op 27 x y xs ys guardT_spot

theorem SV.below {w w' : World} {b : Nat} {x y : Int} (h : SV w b x y) (hb : Below w.heap.size w w') : SV w' b x y := h.turn (Turn.of_below hb) (by simp)
theorem SV.alloc {w : World} {b : Nat} {x y : Int} (h : SV w b x y) (o : Obj) : SV (w.alloc o) b x y := h.turn ((Turn.refl [] w).alloc o) (by simp)
theorem SV.new (w : World) (x y : Int) : SV (w.alloc (.cells #[.int .i64 x, .int .i64 y] 27)) w.heap.size x y := heap_alloc_new w _

theorem lex_works : Lx.lex (bs ⟨#[97, 58, 32, 98, 10]⟩) = .ok [⟨0, false, [⟨[97], 0, false, false⟩, ⟨[58], 1, false, true⟩, ⟨[98], 3, false, false⟩]⟩] := by
  have h : bs ⟨#[97, 58, 32, 98, 10]⟩ = [97, 58, 32, 98, 10] := rfl
  rw [h]
  simp [Lx.lex, Lx.bytes, Lx.lns, Lx.line, Lx.rd, Lx.R.andThen, Lx.R.map, Lx.bare]

set_option maxRecDepth 100000 in
set_option maxHeartbeats 1000000 in
theorem works_any (w : World) : Calls Try.prog 12 #[] w fun e w' => e = .returned (.bool true) ∧ Below w.heap.size w w' := by
  have hli := Lines_any ⟨#[97, 58, 32, 98, 10]⟩ w (by decide)
  rw [lex_works] at hli
  have eS := eql_spot
  have gS := guard_spot
  go_enter Try.func12, Try.ntmps12
  go_wp2_with fail
  refine hli.mono ?_
  rintro e w1 ⟨⟨v, rfl, hL⟩, hB⟩
  clear hli
  have hB2 := hB.alloc hB.size (.cells #[.int .i64 0, .int .i64 0] 27)
  have hS := (hL.alloc (.cells #[.int .i64 0, .int .i64 0] 27)).s
  obtain ⟨b, o, c, ad, c2, rfl, hb, p0, p1, p2, hW⟩ := hS.at 0 (by decide)
  obtain ⟨b2, o2, c3, e, hb2, q0, q1, q2, q3, q4⟩ := WdR.at hW 1 (by decide)
  obtain ⟨b3, o3, c4, e', hb3, r0, r1, r2, r3, r4⟩ := WdR.at hW 2 (by decide)
  simp only [Value.slice.injEq] at e
  obtain ⟨rfl, -, rfl⟩ := e
  simp only [Value.slice.injEq, Option.some.injEq, Addr.mk.injEq] at e'
  obtain ⟨⟨rfl, rfl, -⟩, -, rfl⟩ := e'
  have P2 : (w1.alloc (.cells #[.int .i64 0, .int .i64 0] 27)).cell? ⟨b, o + 2, none⟩ = some (.slice (some ⟨b2, o2, none⟩) 3 c2) := p2
  have Q4 : (w1.alloc (.cells #[.int .i64 0, .int .i64 0] 27)).cell? ⟨b2, o2 + 5 + 4, none⟩ = some (.bool true) := q4
  have R0 : (w1.alloc (.cells #[.int .i64 0, .int .i64 0] 27)).cell? ⟨b2, o2 + 10, none⟩ = some (.string ⟨#[98]⟩) := r0
  clear p0 p1 p2 q0 q1 q2 q3 q4 r0 r1 r2 r3 r4 hW hS hL hB
  go_wp2
  go_ret
  exact ⟨rfl, hB2⟩

set_option maxRecDepth 100000 in
theorem Lines_long (s : ByteArray) (w : World) (hs : 32768 < s.size) :
    Calls Try.prog 14 #[.string s] w fun e w' => e = .returned (.tuple #[.slice none 0 0, .agg #[.int .i64 3, .int .i64 32768]]) ∧ Below w.heap.size w w' := by
  have hmf : ∀ (fn : Fn) (first cap : Array Value) (w : World), (Instr.makeFunc fn first cap).run Try.prog w = .ok (.func fn first cap) w := fun _ _ _ _ => rfl
  have i0 : (32768 : Int) < (s.size : Int) := by omega
  go_enter_defers Try.func14, Try.ntmps14
  have hV : LV ((w.alloc (.cells #[.slice none 0 0] 24)).alloc (.cells #[.int .i64 0, .int .i64 0] 27)) w.heap.size (.slice none 0 0) := by
    have : LV (w.alloc (.cells #[.slice none 0 0] 24)) w.heap.size (.slice none 0 0) := heap_alloc_new w _
    exact this.turn ((Turn.refl [] _).alloc _) (by simp)
  have hS : SV ((w.alloc (.cells #[.slice none 0 0] 24)).alloc (.cells #[.int .i64 0, .int .i64 0] 27)) (w.heap.size + 1) 0 0 := by
    have := heap_alloc_new (w.alloc (.cells #[.slice none 0 0] 24)) (.cells #[.int .i64 0, .int .i64 0] 27)
    rw [show (w.alloc (.cells #[.slice none 0 0] 24)).heap.size = w.heap.size + 1 from Array.size_push ..] at this
    exact this
  have hT := ((Turn.refl [] w).alloc (.cells #[.slice none 0 0] 24)).alloc (.cells #[.int .i64 0, .int .i64 0] 27)
  go_wp2
  refine leaves_cons (f := 31) (args := #[.pointer (some ⟨w.heap.size, 0, none⟩), .pointer (some ⟨w.heap.size + 1, 0, none⟩)]) (by simp) (by simp [go_sem]) ?_
  refine (catch_thrown w.heap.size (w.heap.size + 1) _ _ _ _ _ _ [] hV hS (by omega)).mono ?_
  rintro e u' w2 ⟨rfl, rfl, hV2, hS2, hT5⟩
  refine ⟨_, results_lines rfl rfl hV2 hS2, rfl, ?_⟩
  exact (hT.trans hT5 (by simp only [List.mem_cons, List.not_mem_nil, or_false]; omega)).below (by simp)

end Go.Proofs.Ytdknggccjhillaa
