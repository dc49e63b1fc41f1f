/-
  THE DEFERRED CLOSURES OF Uint, Text, List: beside an error the cursor goes back.
-/
import Derived.Test.YtohdakjfacalbaaWCur
namespace Go.Proofs.Ytohdakjfacalbaa
open Go.RowKit

theorem closeU_ok (A0 A1 A2 p : Nat) (s : Int) (u : FrameMode) (w : World) (h0 : w.cell? ⟨A0, 0, none⟩ = some (.pointer (some ⟨p, 0, none⟩))) (h1 : w.cell? ⟨A1, 0, none⟩ = some (.int .i64 s)) (h2 : w.cell? ⟨A2, 0, none⟩ = some (.int .i64 0)) :
    CallsD Try.prog 73 #[.pointer (some ⟨A0, 0, none⟩), .pointer (some ⟨A1, 0, none⟩), .pointer (some ⟨A2, 0, none⟩)] u w fun e u' w' => u' = u ∧ (e = .returned (.tuple #[]) ∧ w' = w) := by
  go_enter_d Try.func73, Try.ntmps73
  go_wp2
  go_end0
  go_wp2
  go_end0
  exact ⟨rfl, rfl⟩
theorem closeU_back (A0 A1 A2 p : Nat) (s x er : Int) (u : FrameMode) (w : World) (h0 : w.cell? ⟨A0, 0, none⟩ = some (.pointer (some ⟨p, 0, none⟩))) (h1 : w.cell? ⟨A1, 0, none⟩ = some (.int .i64 s)) (h2 : w.cell? ⟨A2, 0, none⟩ = some (.int .i64 er)) (he : (er != 0) = true)
    (c1 : w.cell? ⟨p, 1, none⟩ = some (.int .i64 x)) (f1 : w.frozen? ⟨p, 1, none⟩ = false) :
    CallsD Try.prog 73 #[.pointer (some ⟨A0, 0, none⟩), .pointer (some ⟨A1, 0, none⟩), .pointer (some ⟨A2, 0, none⟩)] u w fun e u' w' => u' = u ∧ (e = .returned (.tuple #[]) ∧ w' = w.setCell ⟨p, 1, none⟩ (.int .i64 s)) := by
  go_enter_d Try.func73, Try.ntmps73
  go_wp2
  go_end0
  go_wp2
  go_end0
  exact ⟨rfl, rfl⟩

theorem closeT_ok (A0 A1 A2 p : Nat) (s : Int) (u : FrameMode) (w : World) (h0 : w.cell? ⟨A0, 0, none⟩ = some (.pointer (some ⟨p, 0, none⟩))) (h1 : w.cell? ⟨A1, 0, none⟩ = some (.int .i64 s)) (h2 : w.cell? ⟨A2, 0, none⟩ = some (.int .i64 0)) :
    CallsD Try.prog 77 #[.pointer (some ⟨A0, 0, none⟩), .pointer (some ⟨A1, 0, none⟩), .pointer (some ⟨A2, 0, none⟩)] u w fun e u' w' => u' = u ∧ (e = .returned (.tuple #[]) ∧ w' = w) := by
  go_enter_d Try.func77, Try.ntmps77
  go_wp2
  go_end0
  go_wp2
  go_end0
  exact ⟨rfl, rfl⟩
theorem closeT_back (A0 A1 A2 p : Nat) (s x er : Int) (u : FrameMode) (w : World) (h0 : w.cell? ⟨A0, 0, none⟩ = some (.pointer (some ⟨p, 0, none⟩))) (h1 : w.cell? ⟨A1, 0, none⟩ = some (.int .i64 s)) (h2 : w.cell? ⟨A2, 0, none⟩ = some (.int .i64 er)) (he : (er != 0) = true)
    (c1 : w.cell? ⟨p, 1, none⟩ = some (.int .i64 x)) (f1 : w.frozen? ⟨p, 1, none⟩ = false) :
    CallsD Try.prog 77 #[.pointer (some ⟨A0, 0, none⟩), .pointer (some ⟨A1, 0, none⟩), .pointer (some ⟨A2, 0, none⟩)] u w fun e u' w' => u' = u ∧ (e = .returned (.tuple #[]) ∧ w' = w.setCell ⟨p, 1, none⟩ (.int .i64 s)) := by
  go_enter_d Try.func77, Try.ntmps77
  go_wp2
  go_end0
  go_wp2
  go_end0
  exact ⟨rfl, rfl⟩

end Go.Proofs.Ytohdakjfacalbaa
