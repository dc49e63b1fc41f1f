/-
  slices.Repeat([]bool{true}, 99).
-/
import Derived.Test.YtkiacjjagjlgcaaRws
namespace Go.Proofs.Ytkiacjjagjlgcaa
open Go.RowKit

theorem info4 : (Try.prog.info? 4).map (fun i => (i.zero, i.size, i.bytes)) = some (some (.bool false), 1, 1) := by kernel_rfl
theorem size4 (w : World) : (Go.sizeOf 4).run Try.prog w = .ok 1 w := by
  obtain ⟨i0, hi, hz0, hz1, hz2⟩ := info_parts info4
  simp [sizeOf, typeInfo, hi, hz1]
theorem slice_upto (T e : TypeId) (hu : Try.prog.underlying T = some (.slice e)) (hs : ∀ w, (Go.sizeOf e).run Try.prog w = .ok 1 w) (W : World) (ad : Option Addr) (n c m : Nat) (hm : m ≤ c) :
    (Instr.slice T (.slice ad n c) none (some (.int .i64 (m : Int))) none).run Try.prog W = .ok (.slice ad m c) W := by
  have he : Try.prog.elem T = e := by simp [Program.elem, hu]
  rw [run_slice_h W T ad n c (by rw [he]; exact hu) .i64 (m : Int) (by omega) (by omega), he, hs]
  simp [Result.andThen, sliced, addr_add_zero]

set_option maxRecDepth 100000 in
set_option maxHeartbeats 2000000 in
theorem RepeatB_99 (w : World) :
    Calls Try.prog 30 #[.slice (some ⟨w.heap.size, 0, none⟩) 1 1, .int .i64 99] (w.alloc (.cells #[.bool true] 4)) fun e w' => ∃ q, e = .returned (.slice (some ⟨q, 0, none⟩) 99 99) ∧ w.heap.size < q ∧ Bols w' (q + 1) (.slice (some ⟨q, 0, none⟩) 99 99) (List.replicate 99 true) ∧ Below w.heap.size w w' := by
  obtain ⟨i0, hi, hz0, hz1, hz2⟩ := info_parts info4
  have hmk : (Instr.makeSlice 31 (.int .i64 99) (.int .i64 99)).run Try.prog (w.alloc (.cells #[.bool true] 4)) = .ok (.slice (some ⟨w.heap.size + 1, 0, none⟩) 99 99) ((w.alloc (.cells #[.bool true] 4)).alloc (.cells (madeCells #[.bool false] 99) 4)) := by
    rw [run_make (w.alloc (.cells #[.bool true] 4)) 31 4 i0 (.bool false) Try.underlying31 hi hz0 .i64 .i64 99 99 (by omega) (by omega) (by rw [hz2]; omega) (by omega), hz1]
    simp [Value.cells]
  have hsz : (madeCells #[Value.bool false] 99).size = 99 := size_madeCells _ _
  generalize madeCells #[Value.bool false] 99 = C at *
  have hP0 : Pre ((w.alloc (.cells #[.bool true] 4)).alloc (.cells C 4)) (w.heap.size + 1) 4 (.bool true) 99 0 := ⟨C, by have := heap_alloc_new (w.alloc (.cells #[.bool true] 4)) (.cells C 4); simpa using this, by omega, fun j hj => by omega⟩
  have hP1 := hP0.set (m := 1) (by omega)
  have hcp0 : (Builtin.copy_ #[31, 31] 3 #[.slice (some ⟨w.heap.size + 1, 0, none⟩) 99 99, .slice (some ⟨w.heap.size, 0, none⟩) 1 1]).run Try.prog ((w.alloc (.cells #[.bool true] 4)).alloc (.cells C 4)) = .ok (.int .i64 1) (((w.alloc (.cells #[.bool true] 4)).alloc (.cells C 4)).setCells (w.heap.size + 1) 0 (List.replicate 1 (.bool true))) := by
    refine run_copy_cells (P := Try.prog) _ 31 31 3 4 (w.heap.size + 1) 0 99 99 ⟨w.heap.size, 0, none⟩ 1 1 (List.replicate 1 (.bool true)) Try.underlying31 (by kernel_rfl) rfl ?_ ?_ ?_ (by intro v hv; simp at hv; subst hv; rfl)
    · intro j u hu
      have hj : j = 0 := by have := (List.getElem?_eq_some_iff.1 hu).1; simpa using this
      subst hj
      simp at hu
      subst hu
      rw [Addr.add_mid, Nat.zero_add, World.cell?_of_block (a := ⟨w.heap.size, 0, none⟩) (Below.heap_alloc (w.alloc (.cells #[.bool true] 4)) _ w.heap.size (by simp)), cell_of_row _ w.heap.size 0 _ 4 (0, 0) (heap_alloc_new w _)]
      rfl
    · intro j hj
      exact (hP0.ex (j := 0 + j) (by simp at hj; omega)).1
    · intro j hj
      exact (hP0.ex (j := 0 + j) (by simp at hj; omega)).2
  have hg0 := grown_setCells (w.heap.size + 1) 0 (List.replicate 1 (Value.bool true)) ((w.alloc (.cells #[.bool true] 4)).alloc (.cells C 4))
  have hb0 : Below w.heap.size w (((w.alloc (.cells #[.bool true] 4)).alloc (.cells C 4)).setCells (w.heap.size + 1) 0 (List.replicate 1 (.bool true))) :=
    (((Below.refl _ w).alloc (Nat.le_refl _) _).alloc (by simp) _).grown hg0 (by simp; omega) (fun k e => by simp only [Option.some.injEq] at e; omega)
  generalize hW : ((w.alloc (.cells #[.bool true] 4)).alloc (.cells C 4)).setCells (w.heap.size + 1) 0 (List.replicate 1 (.bool true)) = W at *
  clear hg0 hP0 hi hz0 hz1 hz2
  go_enter Try.func30, Try.ntmps30
  go_wp2_with fail
  refine (Mul_99 _).mono ?_
  rintro e w1 ⟨rfl, rfl⟩
  go_wp2
  go_loopw [8] (fun bp wr => ∃ k : Nat, 1 ≤ k ∧ k ≤ 99 ∧ bp = .int .i64 (k : Int) ∧ Pre wr (w.heap.size + 1) 4 (.bool true) 99 k ∧ Below w.heap.size w wr) (fun bp _ => 99 - (RowKit.intOf bp).toNat)
  case atStart => exact ⟨1, by omega, by omega, rfl, hP1, hb0⟩
  case round =>
    obtain ⟨k, hk1, hk2, rfl, hP, hb⟩ := hrel
    by_cases hlt : k < 99
    · have hsl := slice_from 31 4 Try.underlying31 size4 (w.heap.size + 1) 99 k hlt
      have hsh := fun W => slice_upto 31 4 Try.underlying31 size4 W (some ⟨w.heap.size + 1, 0, none⟩) 99 99 k (by omega)
      have hPd : Pre wr.drew (w.heap.size + 1) 4 (.bool true) 99 k := hP
      have hcp := hPd.copy (T := 31) (ty' := 3) (m := k) Try.underlying31 (by kernel_rfl) rfl (Nat.le_refl _) hk2
      have hP2 := hPd.set (m := min k (99 - k)) (by omega)
      have hgr := grown_setCells (w.heap.size + 1) k (List.replicate (min k (99 - k)) (Value.bool true)) wr.drew
      have hb2 : Below w.heap.size w (wr.drew.setCells (w.heap.size + 1) k (List.replicate (min k (99 - k)) (.bool true))) := hb.drew.grown hgr hb.size (fun j e => by simp only [Option.some.injEq] at e; omega)
      generalize hWr : wr.drew.setCells (w.heap.size + 1) k (List.replicate (min k (99 - k)) (.bool true)) = W3 at *
      obtain ⟨m, hm, hm1⟩ : ∃ m, m = min k (99 - k) ∧ 1 ≤ m ∧ k + m ≤ 99 := ⟨_, rfl, by omega, by omega⟩
      rw [← hm] at hcp hP2
      have hk0 : (0 : Int) ≤ (k : Int) := by omega
      have hk3 : (k : Int) < 99 := by omega
      have Hm : Hid (1 ≤ m ∧ k + m ≤ 99) := hm1
      clear hWr hm hgr hm1
      go_wp2_with fail
      go_region_held3 (fun _ => True) (trivial) (fail)
      have hwr : IntKind.i64.wrap ((k : Int) + (m : Int)) = ((k + m : Nat) : Int) := by have := Hm.out; rw [IntKind.wrap_i64]; omega
      rw [hwr]
      go_wp2
      go_roundw
      case rel => exact ⟨k + m, by omega, by have := Hm.out; omega, rfl, hP2, hb2⟩
      case measure => have := Hm.out; simp [RowKit.intOf]; omega
    · obtain rfl : k = 99 := by omega
      go_wp2
      go_ret
      refine ⟨w.heap.size + 1, rfl, Nat.lt_succ_self _, ?_, hb⟩
      refine ⟨_, _, by rw [List.length_replicate], by rw [List.length_replicate]; exact Nat.le_refl _, fun _ => ⟨w.heap.size + 1, 0, rfl, by omega, fun j hj => ?_⟩⟩
      rw [List.length_replicate] at hj
      rw [Nat.zero_add, hP.cell hj, rep_getD hj]
end Go.Proofs.Ytkiacjjagjlgcaa
