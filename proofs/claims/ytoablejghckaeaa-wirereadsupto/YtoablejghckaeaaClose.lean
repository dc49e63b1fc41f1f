/-
  THE DEFERRED CLOSURES OF Uint, Text, List: beside an error the cursor goes back.
-/
import Derived.Test.YtoablejghckaeaaCur
namespace Go.Proofs.Ytoablejghckaeaa
open Go.RowKit

theorem close33_ok (A0 A1 A2 p : Nat) (s : Int) (u : FrameMode) (w : World) (h0 : w.cell? ⟨A0, 0, none⟩ = some (.pointer (some ⟨p, 0, none⟩))) (h1 : w.cell? ⟨A1, 0, none⟩ = some (.int .i64 s)) (h2 : w.cell? ⟨A2, 0, none⟩ = some (.int .i64 0)) :
    CallsD Try.prog 33 #[.pointer (some ⟨A0, 0, none⟩), .pointer (some ⟨A1, 0, none⟩), .pointer (some ⟨A2, 0, none⟩)] u w fun e u' w' => u' = u ∧ (e = .returned (.tuple #[]) ∧ w' = w) := by
  go_enter_d Try.func33, Try.ntmps33
  go_wp2
  go_end0
  go_wp2
  go_end0
  exact ⟨rfl, rfl⟩
theorem close33_back (A0 A1 A2 p : Nat) (s x er : Int) (u : FrameMode) (w : World) (h0 : w.cell? ⟨A0, 0, none⟩ = some (.pointer (some ⟨p, 0, none⟩))) (h1 : w.cell? ⟨A1, 0, none⟩ = some (.int .i64 s)) (h2 : w.cell? ⟨A2, 0, none⟩ = some (.int .i64 er)) (he : (er != 0) = true)
    (c1 : w.cell? ⟨p, 1, none⟩ = some (.int .i64 x)) (f1 : w.frozen? ⟨p, 1, none⟩ = false) :
    CallsD Try.prog 33 #[.pointer (some ⟨A0, 0, none⟩), .pointer (some ⟨A1, 0, none⟩), .pointer (some ⟨A2, 0, none⟩)] u w fun e u' w' => u' = u ∧ (e = .returned (.tuple #[]) ∧ w' = w.setCell ⟨p, 1, none⟩ (.int .i64 s)) := by
  go_enter_d Try.func33, Try.ntmps33
  go_wp2
  go_end0
  go_wp2
  go_end0
  exact ⟨rfl, rfl⟩

theorem close36_ok (A0 A1 A2 p : Nat) (s : Int) (u : FrameMode) (w : World) (h0 : w.cell? ⟨A0, 0, none⟩ = some (.pointer (some ⟨p, 0, none⟩))) (h1 : w.cell? ⟨A1, 0, none⟩ = some (.int .i64 s)) (h2 : w.cell? ⟨A2, 0, none⟩ = some (.int .i64 0)) :
    CallsD Try.prog 36 #[.pointer (some ⟨A0, 0, none⟩), .pointer (some ⟨A1, 0, none⟩), .pointer (some ⟨A2, 0, none⟩)] u w fun e u' w' => u' = u ∧ (e = .returned (.tuple #[]) ∧ w' = w) := by
  go_enter_d Try.func36, Try.ntmps36
  go_wp2
  go_end0
  go_wp2
  go_end0
  exact ⟨rfl, rfl⟩
theorem close36_back (A0 A1 A2 p : Nat) (s x er : Int) (u : FrameMode) (w : World) (h0 : w.cell? ⟨A0, 0, none⟩ = some (.pointer (some ⟨p, 0, none⟩))) (h1 : w.cell? ⟨A1, 0, none⟩ = some (.int .i64 s)) (h2 : w.cell? ⟨A2, 0, none⟩ = some (.int .i64 er)) (he : (er != 0) = true)
    (c1 : w.cell? ⟨p, 1, none⟩ = some (.int .i64 x)) (f1 : w.frozen? ⟨p, 1, none⟩ = false) :
    CallsD Try.prog 36 #[.pointer (some ⟨A0, 0, none⟩), .pointer (some ⟨A1, 0, none⟩), .pointer (some ⟨A2, 0, none⟩)] u w fun e u' w' => u' = u ∧ (e = .returned (.tuple #[]) ∧ w' = w.setCell ⟨p, 1, none⟩ (.int .i64 s)) := by
  go_enter_d Try.func36, Try.ntmps36
  go_wp2
  go_end0
  go_wp2
  go_end0
  exact ⟨rfl, rfl⟩

theorem close38_ok (A0 A1 A2 p : Nat) (s : Int) (u : FrameMode) (w : World) (h0 : w.cell? ⟨A0, 0, none⟩ = some (.pointer (some ⟨p, 0, none⟩))) (h1 : w.cell? ⟨A1, 0, none⟩ = some (.int .i64 s)) (h2 : w.cell? ⟨A2, 0, none⟩ = some (.int .i64 0)) :
    CallsD Try.prog 38 #[.pointer (some ⟨A0, 0, none⟩), .pointer (some ⟨A1, 0, none⟩), .pointer (some ⟨A2, 0, none⟩)] u w fun e u' w' => u' = u ∧ (e = .returned (.tuple #[]) ∧ w' = w) := by
  go_enter_d Try.func38, Try.ntmps38
  go_wp2
  go_end0
  go_wp2
  go_end0
  exact ⟨rfl, rfl⟩
theorem close38_back (A0 A1 A2 p : Nat) (s x er : Int) (u : FrameMode) (w : World) (h0 : w.cell? ⟨A0, 0, none⟩ = some (.pointer (some ⟨p, 0, none⟩))) (h1 : w.cell? ⟨A1, 0, none⟩ = some (.int .i64 s)) (h2 : w.cell? ⟨A2, 0, none⟩ = some (.int .i64 er)) (he : (er != 0) = true)
    (c1 : w.cell? ⟨p, 1, none⟩ = some (.int .i64 x)) (f1 : w.frozen? ⟨p, 1, none⟩ = false) :
    CallsD Try.prog 38 #[.pointer (some ⟨A0, 0, none⟩), .pointer (some ⟨A1, 0, none⟩), .pointer (some ⟨A2, 0, none⟩)] u w fun e u' w' => u' = u ∧ (e = .returned (.tuple #[]) ∧ w' = w.setCell ⟨p, 1, none⟩ (.int .i64 s)) := by
  go_enter_d Try.func38, Try.ntmps38
  go_wp2
  go_end0
  go_wp2
  go_end0
  exact ⟨rfl, rfl⟩

end Go.Proofs.Ytoablejghckaeaa
