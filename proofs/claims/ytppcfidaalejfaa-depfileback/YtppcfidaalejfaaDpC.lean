/-
  WHAT THE PROGRAM's OWN CALLS ARE TO DO; two spots held against each other; WHAT THE LAWS' works DOES.
-/
import Derived.Test.YtppcfidaalejfaaDpParK
import Derived.Test.YtppcfidaalejfaaDpDepT2
import Derived.Laws.StructEq
namespace Go.Proofs.Ytppcfidaalejfaa
open Go.RowKit

/-- what the program's own Parse is to do -/
def ParseC : Prop := ∀ (s : ByteArray) (w : World), Calls Try.prog 12 #[.string s] w fun e w' => PsDEnd w w' e (Dp.parse (bs s))

/-- .. its own Print, Fold, Deps, Merge -/
def PrintC : Prop := ∀ (v : Value) (A : List Dp.Rule) (w : World) (B : Nat), DrS w B v A → B ≤ w.heap.size → Dp.vol A ≤ 100000 → Calls Try.prog 16 #[v] w fun e w' => e = .returned (.tuple #[.string (str (Dp.printed none A).1), .int .i64 (Dp.printed none A).2]) ∧ Below w.heap.size w w'
def FoldC : Prop := ∀ (wd : Int) (v : Value) (A : List Dp.Rule) (w : World) (B : Nat), DrS w B v A → B ≤ w.heap.size → Dp.vol A ≤ 100000 → Calls Try.prog 18 #[.int .i64 wd, v] w fun e w' => e = .returned (.tuple #[.string (str (Dp.printed (some wd) A).1), .int .i64 (Dp.printed (some wd) A).2]) ∧ Below w.heap.size w w'
def DepsC : Prop := ∀ (p : ByteArray), p.size ≤ 140737488351232 → ∀ (v : Value) (A : List Dp.Rule) (w : World) (B : Nat), DrS w B v A → B ≤ w.heap.size → Dp.vol A ≤ 100000 → Calls Try.prog 19 #[.string p, v] w fun e w' => DepsEnd w w' e (Dp.asked (bs p) A)
def MergeC : Prop := ∀ (v : Value) (A : List Dp.Rule) (w : World) (B : Nat), DrS w B v A → B ≤ w.heap.size → Dp.vol A ≤ 100000 → Calls Try.prog 23 #[v] w fun e w' => ∃ v', e = .returned v' ∧ DrOwn w' w.heap.size v' (Dp.merge A) ∧ Below w.heap.size w w'

def spA (x y : Int) : Array Value := #[.int .i64 x, .int .i64 y]
theorem stood_spot : Try.prog.stoodInHeld 26 = false := by kernel_rfl
theorem guardT_spot : Try.prog.eqGuardType Try.prog.depth 26 = false := by kernel_rfl
theorem eq_spot (W : World) (x y x' y' : Int) : (Op.equalIn 10000 26 (.agg (spA x y)) (.agg (spA x' y'))).run Try.prog W = .ok (decide (x = x' ∧ y = y')) W := by
  rw [show (10000 : Nat) = 9999 + 1 from rfl, run_equalIn_agg W 9999 26 _ _ (by simp [Program.fieldsOf, Try.underlying26]) stood_spot]
  simp [Program.fieldsOf, Try.underlying26, go_sem, spA]
  by_cases h1 : x = x' <;> by_cases h2 : y = y' <;> simp [h1, h2]
theorem eql_spot (W : World) (x y x' y' : Int) : (binOp .eql 26 (.agg #[.int .i64 x, .int .i64 y]) (.agg #[.int .i64 x', .int .i64 y'])).run Try.prog W = .ok (.bool (decide (x = x' ∧ y = y'))) W := by
  have := eq_spot W x y x' y'
  unfold spA at this
  rw [run_eql_struct, this]; rfl
theorem neq_spot (W : World) (x y x' y' : Int) : (binOp .neq 26 (.agg #[.int .i64 x, .int .i64 y]) (.agg #[.int .i64 x', .int .i64 y'])).run Try.prog W = .ok (.bool (!decide (x = x' ∧ y = y'))) W := by
  have := eq_spot W x y x' y'
  unfold spA at this
  rw [run_neq_struct, this]; rfl
theorem guard_spot (W : World) (op : BinOp) (x y : Operand) (xs ys : Array Value) : (eqGuard op 26 x y (.agg xs) (.agg ys)).run Try.prog W = .ok () W := run_eqGuard_agg W op 26 x y xs ys guardT_spot


theorem dp_works : Dp.parse [97, 46, 111, 58, 32, 97, 46, 99, 32, 92, 10, 32, 104, 10] = .inr [([97, 46, 111], [[97, 46, 99], [104]])] := by
  have h : Dp.read [97, 46, 111, 58, 32, 97, 46, 99, 32, 92, 10, 32, 104, 10] = .inr [([97, 46, 111], [[97, 46, 99], [104]])] := by
    unfold Dp.read
    simp [Dp.pieces, Dp.run, Dp.Rd.step, Dp.Rd.flush, Dp.Rd.zero]
  unfold Dp.parse
  rw [h, if_neg (by decide)]


set_option maxRecDepth 100000 in
set_option maxHeartbeats 1000000 in
theorem works_any (hP : ParseC) (w : World) : Calls Try.prog 11 #[] w fun e w' => e = .returned (.bool true) ∧ Below w.heap.size w w' := by
  have hli := hP ⟨#[97, 46, 111, 58, 32, 97, 46, 99, 32, 92, 10, 32, 104, 10]⟩ w
  rw [show bs ⟨#[97, 46, 111, 58, 32, 97, 46, 99, 32, 92, 10, 32, 104, 10]⟩ = [97, 46, 111, 58, 32, 97, 46, 99, 32, 92, 10, 32, 104, 10] from rfl, dp_works] at hli
  have eS := eql_spot
  have gS := guard_spot
  go_enter Try.func11, Try.ntmps11
  go_wp2_with fail
  refine hli.mono ?_
  rintro e w1 ⟨v, rfl, hL, hB⟩
  clear hli
  have hB2 := hB.alloc hB.size (.cells #[.int .i64 0, .int .i64 0] 26)
  have hS := (hL.alloc (.cells #[.int .i64 0, .int .i64 0] 26)).s
  obtain ⟨b, o, c, ad, c2, rfl, hb, p0, p1, hW⟩ := hS.at 0 (by decide)
  obtain ⟨b2, o2, c3, e, hb2, q0⟩ := BR.at hW 1 (by decide)
  simp only [Value.slice.injEq] at e
  obtain ⟨rfl, -, rfl⟩ := e
  have P0 : (w1.alloc (.cells #[.int .i64 0, .int .i64 0] 26)).cell? ⟨b, o, none⟩ = some (.string ⟨#[97, 46, 111]⟩) := p0
  have P1 : (w1.alloc (.cells #[.int .i64 0, .int .i64 0] 26)).cell? ⟨b, o + 1, none⟩ = some (.slice (some ⟨b2, o2, none⟩) 2 c2) := p1
  have Q0 : (w1.alloc (.cells #[.int .i64 0, .int .i64 0] 26)).cell? ⟨b2, o2 + 1, none⟩ = some (.string ⟨#[104]⟩) := q0
  clear p0 p1 q0 hW hS hL hB
  go_wp2
  go_ret
  exact ⟨rfl, hB2⟩

end Go.Proofs.Ytppcfidaalejfaa
