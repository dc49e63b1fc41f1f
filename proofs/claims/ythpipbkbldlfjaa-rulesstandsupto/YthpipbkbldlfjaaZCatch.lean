/-
  WHAT IS THROWN IS CAUGHT.
-/
import Derived.Test.YthpipbkbldlfjaaZLog
import Derived.Defers
import Derived.Recover
namespace Go.Proofs.Ythpipbkbldlfjaa
open Go.RowKit

/-- the variable lines -/
def LV (w : World) (b : Nat) (v : Value) : Prop := w.heap[b]? = some (.cells #[v] 31 (0, 0))
/-- a spot -/
def SV (w : World) (b : Nat) (x y : Int) : Prop := w.heap[b]? = some (.cells #[.int .i64 x, .int .i64 y] 42 (0, 0))

set_option maxRecDepth 100000 in
theorem catch_idle (b1 b2 : Nat) (w : World) :
    CallsD Try.prog 48 #[.pointer (some ⟨b1, 0, none⟩), .pointer (some ⟨b2, 0, none⟩)] .returning w fun e u' w' => e = .returned (.tuple #[]) ∧ u' = .returning ∧ w' = w := by
  refine callsD_of_wpS Try.func48 rfl fun c₀ cs hu => ?_
  apply wpS_seq
  apply wpS_region
  simp [wpOpsS, go_sem, recoverD, hu, Try.ntmps48, Exit.thenS]
  rw [show (#[Value.pointer (some ⟨b1, 0, none⟩), Value.pointer (some ⟨b2, 0, none⟩)] ++ ((Array.replicate 6 undef).setIfInBounds 1 Value.nilIface).setIfInBounds 0 Value.nilIface) = #[Value.pointer (some ⟨b1, 0, none⟩), Value.pointer (some ⟨b2, 0, none⟩), Value.nilIface, Value.nilIface, undef, undef, undef, undef] from rfl]
  refine wpS_of_wp ?_
  go_wp2
  cases c₀
  simp_all [bodyPostS, results, Try.results48]

set_option maxRecDepth 100000 in
theorem catch_thrown (b1 b2 : Nat) (w : World) (v : Value) (x y er a : Int) (older : List PanicEntry) (h1 : LV w b1 v) (h2 : SV w b2 x y) (hne : b1 ≠ b2) :
    CallsD Try.prog 48 #[.pointer (some ⟨b1, 0, none⟩), .pointer (some ⟨b2, 0, none⟩)] (.panicking ({ v := .iface 71 (.agg #[.int .i64 er, .int .i64 a]), recovered := false } :: older)) w fun e u' w' =>
      e = .returned (.tuple #[]) ∧ u' = .panicking ({ v := .iface 71 (.agg #[.int .i64 er, .int .i64 a]), recovered := true } :: older) ∧ LV w' b1 (.slice none 0 0) ∧ SV w' b2 er a ∧ Turn [b1, b2] w w' := by
  have k0 : w.cell? ⟨b1, 0, none⟩ = some v := by have h' : w.heap[b1]? = _ := h1; simp [World.cell?, h']
  have l0 : w.cell? ⟨b2, 0, none⟩ = some (.int .i64 x) := by have h' : w.heap[b2]? = _ := h2; simp [World.cell?, h']
  have l1 : w.cell? ⟨b2, 1, none⟩ = some (.int .i64 y) := by have h' : w.heap[b2]? = _ := h2; simp [World.cell?, h']
  have f0 : w.frozen? ⟨b1, 0, none⟩ = false := frozen_of_row w b1 0 _ _ h1
  have g0 : w.frozen? ⟨b2, 0, none⟩ = false := frozen_of_row w b2 0 _ _ h2
  have g1 : w.frozen? ⟨b2, 1, none⟩ = false := frozen_of_row w b2 1 _ _ h2
  refine callsD_of_wpS Try.func48 rfl fun c₀ cs hu => ?_
  apply wpS_seq
  apply wpS_region
  simp [wpOpsS, go_sem, recoverD, hu, Try.ntmps48, Exit.thenS]
  rw [show (#[Value.pointer (some ⟨b1, 0, none⟩), Value.pointer (some ⟨b2, 0, none⟩)] ++ ((Array.replicate 6 undef).setIfInBounds 1 (Value.iface 71 (Value.agg #[Value.int IntKind.i64 er, Value.int IntKind.i64 a]))).setIfInBounds 0 (Value.iface 71 (Value.agg #[Value.int IntKind.i64 er, Value.int IntKind.i64 a]))) = #[Value.pointer (some ⟨b1, 0, none⟩), Value.pointer (some ⟨b2, 0, none⟩), Value.iface 71 (Value.agg #[Value.int IntKind.i64 er, Value.int IntKind.i64 a]), Value.iface 71 (Value.agg #[Value.int IntKind.i64 er, Value.int IntKind.i64 a]), undef, undef, undef, undef] from rfl]
  refine wpS_of_wp ?_
  have hne' : b2 ≠ b1 := fun e => hne e.symm
  have hta : ∀ W : World, (Instr.typeAssert (.iface 71 (.agg #[.int .i64 er, .int .i64 a])) 20 71 false).run Try.prog W = .ok (.agg #[.int .i64 er, .int .i64 a]) W := fun _ => by kernel_rfl
  go_wp2_with fail
  go_region
  go_wp2
  refine ⟨rfl, _, rfl, .tuple #[], by simp [results, Try.results48, go_sem], rfl, rfl, ?_, ?_, ?_⟩
  · show (((w.setCell ⟨b1, 0, none⟩ (.slice none 0 0)).setCell ⟨b2, 0, none⟩ (.int .i64 er)).setCell ⟨b2, 1, none⟩ (.int .i64 a)).heap[b1]? = _
    rw [Below.heap_setCell _ _ _ _ hne, Below.heap_setCell _ _ _ _ hne, heap_setCell_same w b1 0 _ 31 _ h1]
    rfl
  · show (((w.setCell ⟨b1, 0, none⟩ (.slice none 0 0)).setCell ⟨b2, 0, none⟩ (.int .i64 er)).setCell ⟨b2, 1, none⟩ (.int .i64 a)).heap[b2]? = _
    have h3 : (w.setCell ⟨b1, 0, none⟩ (.slice none 0 0)).heap[b2]? = some (.cells #[.int .i64 x, .int .i64 y] 42 (0, 0)) := by rw [Below.heap_setCell _ _ _ _ hne']; exact h2
    have h4 := heap_setCell_same _ b2 0 _ 42 (.int .i64 er) h3
    rw [heap_setCell_same _ b2 1 _ 42 (.int .i64 a) h4]
    rfl
  · exact ((((Turn.refl [b1, b2] w).set (p := ⟨b1, 0, none⟩) (by simp) _).set (p := ⟨b2, 0, none⟩) (by simp) _).set (p := ⟨b2, 1, none⟩) (by simp) _).drew

end Go.Proofs.Ythpipbkbldlfjaa
