/-
  THE TABLE OF EXAMPLES OF WireKnown, in memory.
-/
import Derived.Test.YtoablejghckaeaaApart
import Derived.Deep.DeepCutAuto
import Derived.Deep.RegionWith
namespace Go.Proofs.Ytoablejghckaeaa
open Go.ChangeShapes Go.WideShapes Go.ChangeAt Go.RowKit

/-- the world in which the table of the examples lies -/
def ktab (wc : World) : World :=
  (((((wc.alloc (.cells #[.int .u8 172, .int .u8 2, .int .u8 255] 5)).alloc (.cells #[.int .u8 128, .int .u8 0] 5)).alloc (.cells #[.int .u8 128] 5)).alloc
    (.cells #[.int .u8 255, .int .u8 255, .int .u8 255, .int .u8 255, .int .u8 255, .int .u8 255, .int .u8 255, .int .u8 255, .int .u8 255, .int .u8 2] 5)).alloc (.cells #[.int .u8 172, .int .u8 2] 5)).alloc
    (.cells #[.slice (some ⟨wc.heap.size, 0, none⟩) 3 3, .int .u64 1000, .int .u64 300, .int .i64 0, .slice (some ⟨wc.heap.size + 1, 0, none⟩) 2 2, .int .u64 1000, .int .u64 0, .int .i64 7,
      .slice (some ⟨wc.heap.size + 1 + 1, 0, none⟩) 1 1, .int .u64 1000, .int .u64 0, .int .i64 7, .slice none 0 0, .int .u64 1000, .int .u64 0, .int .i64 7,
      .slice (some ⟨wc.heap.size + 1 + 1 + 1, 0, none⟩) 10 10, .int .u64 1000, .int .u64 0, .int .i64 7, .slice (some ⟨wc.heap.size + 1 + 1 + 1 + 1, 0, none⟩) 2 2, .int .u64 299, .int .u64 0, .int .i64 3] 30)

theorem ktab_size (wc : World) : (ktab wc).heap.size = wc.heap.size + 6 := by simp [ktab]
theorem ktab_below (wc : World) : Below wc.heap.size wc (ktab wc) := by
  unfold ktab
  exact ((((((Below.refl _ wc).alloc (by simp) _).alloc (by simp <;> omega) _).alloc (by simp <;> omega) _).alloc (by simp <;> omega) _).alloc (by simp <;> omega) _).alloc (by simp <;> omega) _

theorem ktab_cell (wc : World) (j : Nat) : (ktab wc).cell? ⟨wc.heap.size + 1 + 1 + 1 + 1 + 1, j, none⟩ =
    #[Value.slice (some ⟨wc.heap.size, 0, none⟩) 3 3, .int .u64 1000, .int .u64 300, .int .i64 0, .slice (some ⟨wc.heap.size + 1, 0, none⟩) 2 2, .int .u64 1000, .int .u64 0, .int .i64 7,
      .slice (some ⟨wc.heap.size + 1 + 1, 0, none⟩) 1 1, .int .u64 1000, .int .u64 0, .int .i64 7, .slice none 0 0, .int .u64 1000, .int .u64 0, .int .i64 7,
      .slice (some ⟨wc.heap.size + 1 + 1 + 1, 0, none⟩) 10 10, .int .u64 1000, .int .u64 0, .int .i64 7, .slice (some ⟨wc.heap.size + 1 + 1 + 1 + 1, 0, none⟩) 2 2, .int .u64 299, .int .u64 0, .int .i64 3][j]? := by
  have h := heap_alloc_new (((((wc.alloc (.cells #[.int .u8 172, .int .u8 2, .int .u8 255] 5)).alloc (.cells #[.int .u8 128, .int .u8 0] 5)).alloc (.cells #[.int .u8 128] 5)).alloc
    (.cells #[.int .u8 255, .int .u8 255, .int .u8 255, .int .u8 255, .int .u8 255, .int .u8 255, .int .u8 255, .int .u8 255, .int .u8 255, .int .u8 2] 5)).alloc (.cells #[.int .u8 172, .int .u8 2] 5))
    (.cells #[.slice (some ⟨wc.heap.size, 0, none⟩) 3 3, .int .u64 1000, .int .u64 300, .int .i64 0, .slice (some ⟨wc.heap.size + 1, 0, none⟩) 2 2, .int .u64 1000, .int .u64 0, .int .i64 7,
      .slice (some ⟨wc.heap.size + 1 + 1, 0, none⟩) 1 1, .int .u64 1000, .int .u64 0, .int .i64 7, .slice none 0 0, .int .u64 1000, .int .u64 0, .int .i64 7,
      .slice (some ⟨wc.heap.size + 1 + 1 + 1, 0, none⟩) 10 10, .int .u64 1000, .int .u64 0, .int .i64 7, .slice (some ⟨wc.heap.size + 1 + 1 + 1 + 1, 0, none⟩) 2 2, .int .u64 299, .int .u64 0, .int .i64 3] 30)
  simp only [World.size_alloc] at h
  exact cell_of_row (ktab wc) _ j _ 30 (0, 0) h

/-- row k of the examples' table: bytes, most, the number, the error -/
def KRow (W : World) (h k : Nat) : Prop :=
  ∃ (ad : Option Addr) (cc : Nat) (b : List UInt8) (most n e c : Nat), W.cell? ⟨h, k * 4, none⟩ = some (.slice ad b.length cc) ∧ W.cell? ⟨h, k * 4 + 1, none⟩ = some (.int .u64 (most : Int)) ∧
    W.cell? ⟨h, k * 4 + 2, none⟩ = some (.int .u64 (n : Int)) ∧ W.cell? ⟨h, k * 4 + 3, none⟩ = some (.int .i64 (e : Int)) ∧ Byts W W.heap.size (.slice ad b.length cc) b ∧ askU b 0 most = (n, e, c) ∧ b.length ≤ 10

theorem ktab_row (wc : World) (k : Nat) (hk : k < 6) : KRow (ktab wc) (wc.heap.size + 1 + 1 + 1 + 1 + 1) k := by
  have z := ktab_size wc
  have y0 := byts_lit wc #[.int .u8 172, .int .u8 2, .int .u8 255] [172, 2, 255] 3 rfl rfl
  have y1 := byts_lit (wc.alloc (.cells #[.int .u8 172, .int .u8 2, .int .u8 255] 5)) #[.int .u8 128, .int .u8 0] [128, 0] 2 rfl rfl
  have y2 := byts_lit ((wc.alloc (.cells #[.int .u8 172, .int .u8 2, .int .u8 255] 5)).alloc (.cells #[.int .u8 128, .int .u8 0] 5)) #[.int .u8 128] [128] 1 rfl rfl
  have y4 := byts_lit (((wc.alloc (.cells #[.int .u8 172, .int .u8 2, .int .u8 255] 5)).alloc (.cells #[.int .u8 128, .int .u8 0] 5)).alloc (.cells #[.int .u8 128] 5))
    #[.int .u8 255, .int .u8 255, .int .u8 255, .int .u8 255, .int .u8 255, .int .u8 255, .int .u8 255, .int .u8 255, .int .u8 255, .int .u8 2] [255, 255, 255, 255, 255, 255, 255, 255, 255, 2] 10 rfl rfl
  have y5 := byts_lit ((((wc.alloc (.cells #[.int .u8 172, .int .u8 2, .int .u8 255] 5)).alloc (.cells #[.int .u8 128, .int .u8 0] 5)).alloc (.cells #[.int .u8 128] 5)).alloc
    (.cells #[.int .u8 255, .int .u8 255, .int .u8 255, .int .u8 255, .int .u8 255, .int .u8 255, .int .u8 255, .int .u8 255, .int .u8 255, .int .u8 2] 5)) #[.int .u8 172, .int .u8 2] [172, 2] 2 rfl rfl
  simp only [World.size_alloc] at y1 y2 y4 y5
  match k, hk with
  | 0, _ => exact ⟨_, 3, [172, 2, 255], 1000, 300, 0, 2, ktab_cell wc 0, ktab_cell wc 1, ktab_cell wc 2, ktab_cell wc 3, (((((y0.alloc (by simp) _).alloc (by simp <;> omega) _).alloc (by simp <;> omega) _).alloc (by simp <;> omega) _).alloc (by simp <;> omega) _).mono (by rw [z]; omega), by decide, by decide⟩
  | 1, _ => exact ⟨_, 2, [128, 0], 1000, 0, 7, 0, ktab_cell wc 4, ktab_cell wc 5, ktab_cell wc 6, ktab_cell wc 7, ((((y1.alloc (by simp) _).alloc (by simp <;> omega) _).alloc (by simp <;> omega) _).alloc (by simp <;> omega) _).mono (by rw [z]; omega), by decide, by decide⟩
  | 2, _ => exact ⟨_, 1, [128], 1000, 0, 7, 0, ktab_cell wc 8, ktab_cell wc 9, ktab_cell wc 10, ktab_cell wc 11, (((y2.alloc (by simp) _).alloc (by simp <;> omega) _).alloc (by simp <;> omega) _).mono (by rw [z]; omega), by decide, by decide⟩
  | 3, _ => exact ⟨none, 0, [], 1000, 0, 7, 0, ktab_cell wc 12, ktab_cell wc 13, ktab_cell wc 14, ktab_cell wc 15, ⟨none, 0, rfl, Nat.le_refl _, fun _ => rfl, fun h => absurd rfl h⟩, by decide, by decide⟩
  | 4, _ => exact ⟨_, 10, [255, 255, 255, 255, 255, 255, 255, 255, 255, 2], 1000, 0, 7, 0, ktab_cell wc 16, ktab_cell wc 17, ktab_cell wc 18, ktab_cell wc 19, ((y4.alloc (by simp) _).alloc (by simp <;> omega) _).mono (by rw [z]; omega), by decide, by decide⟩
  | 5, _ => exact ⟨_, 2, [172, 2], 299, 0, 3, 0, ktab_cell wc 20, ktab_cell wc 21, ktab_cell wc 22, ktab_cell wc 23, (y5.alloc (by simp) _).mono (by rw [z]; omega), by decide, by decide⟩

end Go.Proofs.Ytoablejghckaeaa
