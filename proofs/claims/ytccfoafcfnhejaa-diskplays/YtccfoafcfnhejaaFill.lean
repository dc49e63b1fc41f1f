/-
  filled: the block that a byte says.
-/
import Derived.Test.YtccfoafcfnhejaaRep
namespace Go.Proofs.Ytccfoafcfnhejaa
open Go.RowKit

def fil (x : UInt8) (j : Nat) : UInt8 := x + UInt8.ofNat j * (x ||| 1)
def filledB (x : UInt8) : List UInt8 := (List.range 256).map (fil x)
theorem filledB_len (x : UInt8) : (filledB x).length = 256 := by simp [filledB]
def filPart (x : UInt8) (k : Nat) : List UInt8 := (List.range 256).map fun j => if j < k then fil x j else 0

theorem or1 (x : UInt8) : bits BinOp.or IntKind.u8 (x.toNat : Int) 1 = ((x ||| 1).toNat : Int) := by
  have h : ∀ n : Nat, n < 256 → bits BinOp.or IntKind.u8 (n : Int) 1 = ((n ||| 1 : Nat) : Int) := by decide +kernel
  rw [h x.toNat x.toNat_lt, UInt8.toNat_or]
  rfl
theorem fil_int (x : UInt8) (k : Nat) (hk : k < 256) : ((x.toNat : Int) + (k : Int) * bits BinOp.or IntKind.u8 (x.toNat : Int) 1) % 256 = ((fil x k).toNat : Int) := by
  rw [or1]
  unfold fil
  rw [UInt8.toNat_add, UInt8.toNat_mul, UInt8.toNat_ofNat']
  generalize (x ||| 1).toNat = m
  have e : ((x.toNat : Int) + (k : Int) * (m : Int)) = ((x.toNat + k * m : Nat) : Int) := by simp
  rw [e, Nat.mod_eq_of_lt (show k < 2 ^ 8 by omega)]
  omega
theorem filPart_len (x : UInt8) (k : Nat) : (filPart x k).length = 256 := by simp [filPart]
theorem filPart_set (x : UInt8) (k : Nat) : (filPart x k).set k (fil x k) = filPart x (k + 1) := by
  apply List.ext_getElem (by simp [filPart])
  intro j h1 h2
  simp only [filPart, List.getElem_set, List.getElem_map, List.getElem_range]
  by_cases e : k = j
  · subst e; simp
  · rw [if_neg e]
    by_cases hj : j < k
    · rw [if_pos hj, if_pos (by omega)]
    · rw [if_neg hj, if_neg (by omega)]
theorem filPart_zero (x : UInt8) : filPart x 0 = List.replicate 256 0 := by
  apply List.ext_getElem (by rw [filPart_len, List.length_replicate])
  intro j h1 h2
  simp only [filPart, List.getElem_map, Nat.not_lt_zero, if_false, List.getElem_replicate]
theorem filPart_end (x : UInt8) : filPart x 256 = filledB x := by
  unfold filPart filledB
  apply List.map_congr_left
  intro j hj
  rw [if_pos (List.mem_range.1 hj)]

set_option maxRecDepth 100000 in
set_option maxHeartbeats 1000000 in
theorem filled_any (x : UInt8) (w : World) : Calls Try.prog 28 #[.int .u8 (x.toNat : Int)] w fun e w' => ∃ q, e = .returned (.slice (some ⟨q, 0, none⟩) 256 256) ∧ w.heap.size ≤ q ∧ Blk w' q (filledB x) ∧ Below w.heap.size w w' := by
  have hmk := fun W => make_byts 256 256 rfl (by omega) W
  go_enter Try.func28, Try.ntmps28
  go_wp2
  go_loopw [8] (fun i wr => ∃ k : Nat, k ≤ 256 ∧ i = .int .i64 (k : Int) ∧ Blk wr w.heap.size (filPart x k) ∧ Below w.heap.size w wr) (fun i _ => 256 - (RowKit.intOf i).toNat)
  case atStart => exact ⟨0, Nat.zero_le _, rfl, by rw [filPart_zero]; exact Blk.made w _, (Below.refl _ w).alloc (Nat.le_refl _) _⟩
  case round =>
    obtain ⟨k, hk, rfl, hB, hb⟩ := hrel
    by_cases hlt : k < 256
    · have hce := hB.cell k (by rw [filPart_len]; exact hlt)
      have hfr := hB.free k
      have hk0 : (0 : Int) ≤ (k : Int) := by omega
      have hk3 : (k : Int) < 256 := by omega
      have hfi := fil_int x k hlt
      have HF : Hid (((x.toNat : Int) + (k : Int) * bits BinOp.or IntKind.u8 (x.toNat : Int) 1) % 256 = ((fil x k).toNat : Int)) := hfi
      clear hfi
      go_wp2
      rw [HF.out]
      refine ⟨⟨k + 1, by omega, by go_num, ?_, hb.setCell (Nat.le_refl _) _⟩, by simp [RowKit.intOf]; omega⟩
      rw [← filPart_set x k]
      exact hB.set k _
    · obtain rfl : k = 256 := by omega
      rw [filPart_end] at hB
      go_wp2
      go_ret
      exact ⟨w.heap.size, rfl, Nat.le_refl _, hB, hb⟩
end Go.Proofs.Ytccfoafcfnhejaa
