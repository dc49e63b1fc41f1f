/-
  sync.Once, one goroutine: its parts.
-/
import Derived.Test.YtppcfidaalejfaaRw
import Derived.Tactics
import Derived.Tactics2
import Derived.Defers
import Derived.Laws.Pointers
import Derived.Laws.LoneSync
import Derived.RegionTactic
import Derived.RegionCalls
import Derived.Test.YtppcfidaalejfaaKit
import Derived.Lib.ConvBytes
namespace Go.Proofs.Ytppcfidaalejfaa
open Go.RowKit

theorem sy_disable (w : World) : (callFunc 86 #[]).run Try.prog w = .ok (.value (.tuple #[])) w := run_call_mark0 Try.func86 (by kernel_rfl) (by kernel_rfl) (by kernel_rfl) .disable (by kernel_rfl) w
theorem sy_enable (w : World) : (callFunc 88 #[]).run Try.prog w = .ok (.value (.tuple #[])) w := run_call_mark0 Try.func88 (by kernel_rfl) (by kernel_rfl) (by kernel_rfl) .enable (by kernel_rfl) w
theorem sy_acquire (a : Addr) (w : World) : (callFunc 89 #[.pointer (some a)]).run Try.prog w = .ok (.value (.tuple #[])) w := run_call_marked Try.func89 (by kernel_rfl) (by kernel_rfl) (by kernel_rfl) .acquire (by kernel_rfl) a w
theorem sy_release (a : Addr) (w : World) : (callFunc 91 #[.pointer (some a)]).run Try.prog w = .ok (.value (.tuple #[])) w := run_call_marked Try.func91 (by kernel_rfl) (by kernel_rfl) (by kernel_rfl) .releaseMerge (by kernel_rfl) a w

/-- done is stored, by a deferred call -/
theorem sy_store (a : Addr) (x : Value) (u : FrameMode) (w : World) (hc : w.cell? a = some x) (hz : w.frozen? a = false) :
    CallsD Try.prog 75 #[.pointer (some a), .bool true] u w fun e u' w' => u' = u ∧ (e = .returned (.tuple #[]) ∧ w' = w.drew.setCell a (.int .u32 1)) := by
  have hc' : w.drew.cell? a = some x := by go_simp
  have hz' : w.drew.frozen? a = false := by go_simp
  have hst := run_call_store (P := Try.prog) Try.func82 (by kernel_rfl) (by kernel_rfl) (by kernel_rfl) (by kernel_rfl) (k := .u32) (y := 1) hc' hz'
  go_enter_d Try.func75, Try.ntmps75
  go_wp2
  go_region_calls
  all_goals (go_end0; exact ⟨rfl, rfl⟩)

set_option maxRecDepth 100000 in
set_option maxHeartbeats 1600000 in
/-- the lock is let go, by a deferred call -/
theorem sy_unlock (a : Addr) (u : FrameMode) (w : World) (hc : w.cell? a = some (.int .i32 1)) (hz : w.frozen? a = false) :
    CallsD Try.prog 74 #[.pointer (some a)] u w fun e u' w' => u' = u ∧ (e = .returned (.tuple #[]) ∧ w' = w.setCell a (.int .i32 0)) := by
  have hd := sy_disable
  have he := sy_enable
  have hr := sy_release
  have hadd := run_call_add (P := Try.prog) Try.func92 (by kernel_rfl) (by kernel_rfl) (by kernel_rfl) .i32 (by kernel_rfl) (y := -1) (s := 0) hc hz (by simp [go_sem]; rfl)
  have hcv := run_convert_to_unsafe (P := Try.prog) (src := 150) (dst := 111) Try.underlying150 Try.underlying111 (by kernel_rfl) hc
  go_enter_d Try.func74, Try.ntmps74
  go_wp2
  go_end0
  go_wp2
  go_end0
  exact ⟨rfl, rfl⟩

set_option maxRecDepth 100000 in
set_option maxHeartbeats 1600000 in
/-- the lock is taken -/
theorem sy_lock (a : Addr) (w : World) (hc : w.cell? a = some (.int .i32 0)) (hz : w.frozen? a = false) :
    Calls Try.prog 73 #[.pointer (some a)] w fun e w' => e = .returned (.tuple #[]) ∧ w' = w.setCell a (.int .i32 1) := by
  have hd := sy_disable
  have he := sy_enable
  have ha := sy_acquire
  have hcas := run_call_cas_hit (P := Try.prog) Try.func87 (by kernel_rfl) (by kernel_rfl) (by kernel_rfl) .i32 (by kernel_rfl) (y := 1) hc hz
  have hc' : (w.setCell a (.int .i32 1)).cell? a = some (.int .i32 1) := World.cell?_setCell_same w a _ hc
  have hcv := run_convert_to_unsafe (P := Try.prog) (src := 150) (dst := 111) Try.underlying150 Try.underlying111 (by kernel_rfl) hc'
  go_enter Try.func73, Try.ntmps73
  go_wp2
  first | go_end0 | (simp only [Exit.inBlock, Exit.then]; refine bodyPost_ret (results_none rfl _ _ _) rfl ?_) | refine bodyPost_ret (results_none rfl _ _ _) rfl ?_
  go_wp2
  go_end0
  exact ⟨rfl, rfl⟩

/-- is it done? -/
theorem sy_load (a : Addr) (d : Int) (w : World) (h : w.cell? a = some (.int .u32 d)) :
    Calls Try.prog 65 #[.pointer (some a)] w fun e w' => e = .returned (.bool (d != 0)) ∧ w' = w := by
  have hl := run_call_load (P := Try.prog) Try.func72 (by kernel_rfl) (by kernel_rfl) (by kernel_rfl) .u32 (by kernel_rfl) h
  go_enter Try.func65, Try.ntmps65
  go_wp2
  go_ret
  exact ⟨rfl, rfl⟩
/-- a replacer's cells -/
def rpC (d m : Int) (rv sl : Value) : Array Value := #[.int .u32 d, .int .i32 m, .int .u32 0, rv, sl]

set_option maxRecDepth 100000 in
set_option maxHeartbeats 1600000 in
/-- doSlow, not yet done: the replacer's own buildOnce is called; P: what stands behind it -/
theorem sy_slow (r : Nat) (rv sl : Value) (w : World) (P : World → Prop) (h : Rw w r (rpC 0 0 rv sl) 109)
    (hP : ∀ W, P W → ∃ rv' sl', Rw W r (rpC 0 1 rv' sl') 109)
    (hB : Calls Try.prog 60 #[.pointer (some ⟨r, 0, none⟩)] (w.setCell ⟨r, 1, none⟩ (.int .i32 1)) fun e w' => e = .returned (.tuple #[]) ∧ P w') :
    Calls Try.prog 66 #[.pointer (some ⟨r, 0, none⟩), .func (.func 60) #[.pointer (some ⟨r, 0, none⟩)] #[]] w fun e w' => e = .returned (.tuple #[]) ∧ ∃ w2, P w2 ∧ w' = (w2.drew.setCell ⟨r, 0, none⟩ (.int .u32 1)).setCell ⟨r, 1, none⟩ (.int .i32 0) := by
  have h0 : w.cell? ⟨r, 0, none⟩ = some (.int .u32 0) := h.cell 0
  have h1 : w.cell? ⟨r, 1, none⟩ = some (.int .i32 0) := h.cell 1
  have f1 : w.frozen? ⟨r, 1, none⟩ = false := h.free 1
  have hw1 := h.set 1 (.int .i32 1) (by simp [rpC])
  have hld := sy_load ⟨r, 0, none⟩ 0 (w.setCell ⟨r, 1, none⟩ (.int .i32 1)) (hw1.cell 0)
  have hnot : ∀ (x : Bool) (w : World), (Op.unary .not (.bool x)).run Try.prog w = .ok (.bool (!x)) w := fun _ _ => rfl
  have hlk := sy_lock ⟨r, 1, none⟩ w h1 f1
  go_enter_defers Try.func66, Try.ntmps66
  go_wp2_with (first | (go_at_call 73; refine hlk.mono ?_; rintro e w' ⟨rfl, rfl⟩) | (go_at_call 65; refine hld.mono ?_; rintro e w' ⟨rfl, rfl⟩) | (go_at_call 60; refine hB.mono ?_; rintro e w2 ⟨rfl, hP2⟩))
  obtain ⟨rv', sl', hw2⟩ := hP _ hP2
  show Leaves Try.prog Try.f66 _ _ _ .returning w2
  refine leaves_cons (f := 75) (args := #[.pointer (some ⟨r, 0, none⟩), .bool true]) (by simp) (by simp [go_sem]) ?_
  refine (sy_store ⟨r, 0, none⟩ (.int .u32 0) .returning _ (hw2.cell 0) (hw2.free 0)).mono ?_
  rintro e u' w'' ⟨rfl, rfl, rfl⟩
  have hw3 : Rw (w2.drew.setCell ⟨r, 0, none⟩ (.int .u32 1)) r ((rpC 0 1 rv' sl').set 0 (.int .u32 1) (by simp [rpC])) 109 := Rw.set (W := w2.drew) hw2 0 (.int .u32 1) (by simp [rpC])
  refine leaves_cons (f := 74) (args := #[.pointer (some ⟨r, 1, none⟩)]) (by simp [settle]) (by simp [go_sem]) ?_
  refine (sy_unlock ⟨r, 1, none⟩ _ _ (hw3.cell 1) (hw3.free 1)).mono ?_
  rintro e u' w'' ⟨rfl, rfl, rfl⟩
  simp [Leaves, settle, results, Try.results66]
  exact ⟨w2, hP2, rfl⟩

set_option maxRecDepth 100000 in
set_option maxHeartbeats 1600000 in
/-- Do, not yet done -/
theorem sy_do (r : Nat) (rv sl : Value) (w : World) (P : World → Prop) (h : Rw w r (rpC 0 0 rv sl) 109)
    (hP : ∀ W, P W → ∃ rv' sl', Rw W r (rpC 0 1 rv' sl') 109)
    (hB : Calls Try.prog 60 #[.pointer (some ⟨r, 0, none⟩)] (w.setCell ⟨r, 1, none⟩ (.int .i32 1)) fun e w' => e = .returned (.tuple #[]) ∧ P w') :
    Calls Try.prog 59 #[.pointer (some ⟨r, 0, none⟩), .func (.func 60) #[.pointer (some ⟨r, 0, none⟩)] #[]] w fun e w' => e = .returned (.tuple #[]) ∧ ∃ w2, P w2 ∧ w' = (w2.drew.setCell ⟨r, 0, none⟩ (.int .u32 1)).setCell ⟨r, 1, none⟩ (.int .i32 0) := by
  have hld := sy_load ⟨r, 0, none⟩ 0 w (h.cell 0)
  have hsl := sy_slow r rv sl w P h hP hB
  go_enter Try.func59, Try.ntmps59
  go_wp2_with (first | (go_at_call 65; refine hld.mono ?_; rintro e w' ⟨rfl, rfl⟩) | (go_at_call 66; refine hsl.mono ?_; rintro e w' ⟨rfl, w2, hP2, rfl⟩))
  go_end0
  exact ⟨rfl, w2, hP2, rfl⟩

end Go.Proofs.Ytppcfidaalejfaa

namespace Go.Proofs.Ytppcfidaalejfaa
open Go.RowKit

theorem str_byts (W : World) (s : ByteArray) : ∃ c W', (convert 9 54 (.string s)).run Try.prog W = .ok (.slice (some ⟨W.heap.size, 0, none⟩) s.size c) W' ∧ Below W.heap.size W W' ∧ W'.heap.size = W.heap.size + 1 ∧
    ∀ j, j < s.size → W'.cell? ⟨W.heap.size, j, none⟩ = some (.int .u8 ((s.data.toList.getD j 0).toNat : Int)) :=
  ⟨_, _, Go.Lib.run_convert_string_bytes W 9 54 5 s Try.underlying9 Try.underlying54 Try.underlying5,
    ⟨rfl, rfl, rfl, by rw [Go.Lib.bytesWorld_size]; omega, fun k hk => Go.Lib.bytesWorld_at_old _ _ _ k hk⟩, Go.Lib.bytesWorld_size _ _ _, fun j hj => Go.Lib.bytesWorld_cell _ _ _ j hj⟩

end Go.Proofs.Ytppcfidaalejfaa
