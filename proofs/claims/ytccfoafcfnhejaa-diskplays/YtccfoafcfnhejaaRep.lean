/-
  bits.Mul at two numbers; bytes.Repeat and slices.Repeat of one element; filled.
-/
import Derived.Test.YtccfoafcfnhejaaArr
import Derived.Lib.MakeNoZero
import Derived.Laws.Externs
import Derived.Deep.RegionHeld3
namespace Go.Proofs.Ytccfoafcfnhejaa
open Go.RowKit

set_option maxRecDepth 100000 in
set_option maxHeartbeats 1000000 in
theorem Mul64_256 (w : World) : Calls Try.prog 50 #[.int .u64 1, .int .u64 256] w fun e w' => e = .returned (.tuple #[.int .u64 0, .int .u64 256]) ∧ w' = w := by
  go_enter Try.func50, Try.ntmps50
  go_wp2
  go_ret2
  exact ⟨rfl, rfl⟩
set_option maxRecDepth 100000 in
set_option maxHeartbeats 1000000 in
theorem Mul64_99 (w : World) : Calls Try.prog 50 #[.int .u64 1, .int .u64 99] w fun e w' => e = .returned (.tuple #[.int .u64 0, .int .u64 99]) ∧ w' = w := by
  go_enter Try.func50, Try.ntmps50
  go_wp2
  go_ret2
  exact ⟨rfl, rfl⟩
set_option maxRecDepth 100000 in
set_option maxHeartbeats 1000000 in
theorem Mul_256 (w : World) : Calls Try.prog 31 #[.int .u64 1, .int .u64 256] w fun e w' => e = .returned (.tuple #[.int .u64 0, .int .u64 256]) ∧ w' = w := by
  go_enter Try.func31, Try.ntmps31
  go_wp2_with fail
  refine (Mul64_256 w).mono ?_
  rintro e w1 ⟨rfl, rfl⟩
  go_wp2
  go_ret2
  exact ⟨rfl, rfl⟩
set_option maxRecDepth 100000 in
set_option maxHeartbeats 1000000 in
theorem Mul_99 (w : World) : Calls Try.prog 31 #[.int .u64 1, .int .u64 99] w fun e w' => e = .returned (.tuple #[.int .u64 0, .int .u64 99]) ∧ w' = w := by
  go_enter Try.func31, Try.ntmps31
  go_wp2_with fail
  refine (Mul64_99 w).mono ?_
  rintro e w1 ⟨rfl, rfl⟩
  go_wp2
  go_ret2
  exact ⟨rfl, rfl⟩

/-- the first k of the n cells of block q are u -/
def Pre (w : World) (q : Nat) (ty : TypeId) (u : Value) (n k : Nat) : Prop := ∃ cur : Array Value, w.heap[q]? = some (.cells cur ty (0, 0)) ∧ n ≤ cur.size ∧ ∀ j, j < k → cur[j]? = some u

theorem Pre.cell {w : World} {q : Nat} {ty : TypeId} {u : Value} {n k : Nat} (h : Pre w q ty u n k) {j : Nat} (hj : j < k) : w.cell? ⟨q, j, none⟩ = some u := by
  obtain ⟨cur, h1, h2, h3⟩ := h
  rw [cell_of_row w q j cur ty (0, 0) h1, h3 j hj]
theorem Pre.ex {w : World} {q : Nat} {ty : TypeId} {u : Value} {n k : Nat} (h : Pre w q ty u n k) {j : Nat} (hj : j < n) : (w.cell? ⟨q, j, none⟩).isSome = true ∧ w.frozen? ⟨q, j, none⟩ = false := by
  obtain ⟨cur, h1, h2, h3⟩ := h
  refine ⟨?_, by simp [World.frozen?, h1]⟩
  rw [cell_of_row w q j cur ty (0, 0) h1]
  simp
  omega
theorem Pre.set {w : World} {q : Nat} {ty : TypeId} {u : Value} {n k m : Nat} (h : Pre w q ty u n k) (hm : k + m ≤ n) : Pre (w.setCells q k (List.replicate m u)) q ty u n (k + m) := by
  obtain ⟨cur, h1, h2, h3⟩ := h
  obtain ⟨cur', h4, h5, h6⟩ := heap_setCells q ty (0, 0) (List.replicate m u) k w cur h1
  refine ⟨cur', h4, by omega, fun j hj => ?_⟩
  rw [h6 j, List.length_replicate]
  by_cases hjk : j < k
  · rw [if_neg (by omega)]; exact h3 j hjk
  · rw [if_pos ⟨by omega, by omega, by omega⟩, List.getElem?_replicate, if_pos (by omega)]

/-- one copy: from the head on, behind the first k -/
theorem Pre.copy {w : World} {q : Nat} {ty T ty' : TypeId} {u : Value} {n k m : Nat} (h : Pre w q ty u n k) (hu : Try.prog.underlying T = some (.slice ty)) (hs : (Try.prog.info? ty).map (·.size) = some 1) (h1 : u.oneCell' = true) (hm : m ≤ k) (hk : k ≤ n) :
    (Builtin.copy_ #[T, T] ty' #[.slice (some ⟨q, k, none⟩) (n - k) (n - k), .slice (some ⟨q, 0, none⟩) m n]).run Try.prog w = .ok (goInt (min m (n - k) : Nat)) (w.setCells q k (List.replicate (min m (n - k)) u)) := by
  have := run_copy_cells (P := Try.prog) w T T ty' ty q k (n - k) (n - k) ⟨q, 0, none⟩ m n (List.replicate (min m (n - k)) u) hu hs (by rw [List.length_replicate]) ?_ ?_ ?_ ?_
  · rw [List.length_replicate] at this; exact this
  · intro j v hv
    have hj := (List.getElem?_eq_some_iff.1 hv).1
    rw [List.length_replicate] at hj
    rw [List.getElem?_replicate, if_pos hj] at hv
    rw [Addr.add_mid, Nat.zero_add, h.cell (by omega)]
    exact hv
  · intro j hj
    rw [List.length_replicate] at hj
    exact (h.ex (by omega)).1
  · intro j hj
    rw [List.length_replicate] at hj
    exact (h.ex (by omega)).2
  · intro v hv
    rw [List.mem_replicate] at hv
    rw [hv.2]; exact h1

theorem slice_from (T e : TypeId) (hu : Try.prog.underlying T = some (.slice e)) (hs : ∀ w, (Go.sizeOf e).run Try.prog w = .ok 1 w) (q n k : Nat) (hk : k < n) (W : World) : (Instr.slice T (.slice (some ⟨q, 0, none⟩) n n) (some (.int .i64 (k : Int))) none none).run Try.prog W = .ok (.slice (some ⟨q, k, none⟩) (n - k) (n - k)) W := by
  have he : Try.prog.elem T = e := by simp [Program.elem, hu]
  rw [run_slice_l W T _ n n (by rw [he]; exact hu) .i64 (k : Int) (by omega) (by omega), he, hs]
  simp [Result.andThen, sliced, addr_add]
  omega

theorem rep_getD {α : Type} {n j : Nat} {c z : α} (h : j < n) : (List.replicate n c).getD j z = c := by simp [List.getD, h]

set_option maxRecDepth 100000 in
set_option maxHeartbeats 2000000 in
theorem Repeat_256 (v : Value) (c : UInt8) (B : Nat) (w : World) (hv : Byts w B v [c]) (hB : B ≤ w.heap.size) :
    Calls Try.prog 9 #[v, .int .i64 256] w fun e w' => ∃ q, e = .returned (.slice (some ⟨q, 0, none⟩) 256 256) ∧ w.heap.size ≤ q ∧ Byts w' (q + 1) (.slice (some ⟨q, 0, none⟩) 256 256) (List.replicate 256 c) ∧ Below w.heap.size w w' := by
  obtain ⟨ad, cc, rfl, hle, hn, hcl⟩ := hv
  obtain ⟨bb, o, rfl, hbB, hcell⟩ := hcl (by simp)
  have hc0 := hcell 0 (by simp)
  obtain ⟨cs, hrun, hcs, hmax⟩ := Lib.run_makeNoZero (P := Try.prog) w #[3] 27 5 Try.underlying27 256 (by omega)
  rw [show ((256 : Nat) : Int) = 256 from rfl] at hrun
  have hcall : (callFunc 32 #[.int .i64 256]).run Try.prog w = .ok (.value (.slice (some ⟨w.heap.size, 0, none⟩) 256 cs.size)) (w.drew.drew.alloc (.cells cs 5)) := by
    rw [run_callFunc_extern Try.func32 (by kernel_rfl) (by kernel_rfl) (by kernel_rfl) (e := Extern.BytealgMakeNoZero.makeNoZero #[3] #[27]) (by kernel_rfl), hrun]
    rfl
  clear hrun hcl hn hcell
  have hP0 : Pre (w.alloc (.cells cs 5)).drew.drew w.heap.size 5 (.int .u8 (c.toNat : Int)) 256 0 := ⟨cs, heap_alloc_new w _, hcs, fun j hj => by omega⟩
  have hP1 := hP0.set (m := 1) (by omega)
  have hcp0 : (Builtin.copy_ #[27, 27] 3 #[.slice (some ⟨w.heap.size, 0, none⟩) 256 256, .slice (some ⟨bb, o, none⟩) 1 cc]).run Try.prog (w.alloc (.cells cs 5)).drew.drew = .ok (.int .i64 1) ((w.alloc (.cells cs 5)).drew.drew.setCells w.heap.size 0 (List.replicate 1 (.int .u8 (c.toNat : Int)))) := by
    refine run_copy_cells (P := Try.prog) _ 27 27 3 5 w.heap.size 0 256 256 ⟨bb, o, none⟩ 1 cc (List.replicate 1 (.int .u8 (c.toNat : Int))) Try.underlying27 (by kernel_rfl) rfl ?_ ?_ ?_ (by intro v hv; simp at hv; subst hv; rfl)
    · intro j u hu
      have hj : j = 0 := by have := (List.getElem?_eq_some_iff.1 hu).1; simpa using this
      subst hj
      simp at hu
      subst hu
      rw [Addr.add_mid]
      show (w.alloc (.cells cs 5)).cell? ⟨bb, o + 0, none⟩ = _
      rw [World.cell?_of_block (a := ⟨bb, o + 0, none⟩) (Below.heap_alloc w _ bb (by omega)), hc0]
      rfl
    · intro j hj
      exact (hP0.ex (j := 0 + j) (by simp at hj; omega)).1
    · intro j hj
      exact (hP0.ex (j := 0 + j) (by simp at hj; omega)).2
  have hg0 := grown_setCells w.heap.size 0 (List.replicate 1 (Value.int .u8 (c.toNat : Int))) (w.alloc (.cells cs 5)).drew.drew
  have hb0 : Below w.heap.size w ((w.alloc (.cells cs 5)).drew.drew.setCells w.heap.size 0 (List.replicate 1 (.int .u8 (c.toNat : Int)))) :=
    ((((Below.refl _ w).alloc (Nat.le_refl _) _).drew).drew).grown hg0 (by simp) (fun k e => by cases e; exact Nat.le_refl _)
  generalize hW : (w.alloc (.cells cs 5)).drew.drew.setCells w.heap.size 0 (List.replicate 1 (.int .u8 (c.toNat : Int))) = W at *
  clear hg0 hP0 hc0
  go_enter Try.func9, Try.ntmps9
  go_wp2_with fail
  refine (Mul_256 w).mono ?_
  rintro e w1 ⟨rfl, rfl⟩
  go_wp2
  go_loopw [10] (fun bp wr => ∃ k : Nat, 1 ≤ k ∧ k ≤ 256 ∧ bp = .int .i64 (k : Int) ∧ Pre wr w1.heap.size 5 (.int .u8 (c.toNat : Int)) 256 k ∧ Below w1.heap.size w1 wr) (fun bp _ => 256 - (RowKit.intOf bp).toNat)
  case atStart => exact ⟨1, by omega, by omega, rfl, hP1, hb0⟩
  case round =>
    obtain ⟨k, hk1, hk2, rfl, hP, hb⟩ := hrel
    by_cases hlt : k < 256
    · have hsl := slice_from 27 5 Try.underlying27 size5 w1.heap.size 256 k hlt
      have hsh := fun W => slice_head W (some ⟨w1.heap.size, 0, none⟩) 256 256 k (by omega)
      have hPd : Pre wr.drew w1.heap.size 5 (.int .u8 (c.toNat : Int)) 256 k := hP
      have hcp := hPd.copy (T := 27) (ty' := 3) (m := k) Try.underlying27 (by kernel_rfl) rfl (Nat.le_refl _) hk2
      have hP2 := hPd.set (m := min k (256 - k)) (by omega)
      have hgr := grown_setCells w1.heap.size k (List.replicate (min k (256 - k)) (Value.int .u8 (c.toNat : Int))) wr.drew
      have hb2 : Below w1.heap.size w1 (wr.drew.setCells w1.heap.size k (List.replicate (min k (256 - k)) (.int .u8 (c.toNat : Int)))) := hb.drew.grown hgr hb.size (fun j e => by cases e; exact Nat.le_refl _)
      generalize hWr : wr.drew.setCells w1.heap.size k (List.replicate (min k (256 - k)) (.int .u8 (c.toNat : Int))) = W3 at *
      obtain ⟨m, hm, hm1⟩ : ∃ m, m = min k (256 - k) ∧ 1 ≤ m ∧ k + m ≤ 256 := ⟨_, rfl, by omega, by omega⟩
      rw [← hm] at hcp hP2
      have hk0 : (0 : Int) ≤ (k : Int) := by omega
      have hk3 : (k : Int) < 256 := by omega
      have hmn : min (k : Int) 256 = (k : Int) := by omega
      have Hm : Hid (1 ≤ m ∧ k + m ≤ 256) := hm1
      clear hWr hm hgr hm1
      go_wp2_with fail
      go_region_held3 (fun _ => True) (trivial) (fail)
      have hwr : IntKind.i64.wrap ((k : Int) + (m : Int)) = ((k + m : Nat) : Int) := by have := Hm.out; rw [IntKind.wrap_i64]; omega
      rw [hwr]
      go_wp2
      go_roundw
      case rel => exact ⟨k + m, by omega, by have := Hm.out; omega, rfl, hP2, hb2⟩
      case measure => have := Hm.out; simp [RowKit.intOf]; omega
    · obtain rfl : k = 256 := by omega
      go_wp2
      go_ret
      refine ⟨w1.heap.size, rfl, Nat.le_refl _, ?_, hb⟩
      refine ⟨_, _, by rw [List.length_replicate], by rw [List.length_replicate]; exact Nat.le_refl _, (fun h => by cases h), fun _ => ⟨w1.heap.size, 0, rfl, by omega, fun j hj => ?_⟩⟩
      rw [List.length_replicate] at hj
      rw [Nat.zero_add, hP.cell hj, rep_getD hj]
end Go.Proofs.Ytccfoafcfnhejaa
