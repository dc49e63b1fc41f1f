/-
  THE WALK OF THE LAWS' works.
-/
import Derived.Test.YtplfcpbjlhobeaaDGet
import Derived.Test.YtplfcpbjlhobeaaDPut
import Derived.Test.YtplfcpbjlhobeaaRSame
namespace Go.Proofs.Ytplfcpbjlhobeaa
open Go.RowKit

/-- the document's inner node -/
def Cm.exN : Cm.Nd := ⟨false, [⟨⟨#[98]⟩, ⟨#[]⟩, 0, 0⟩], [5, 7]⟩
theorem Cm.exN_right : Cm.Right Cm.exN := by decide
theorem Cm.exN_form : Cm.form Cm.exN = [2, 1, 5, 0, 1, 98, 7, 0] := by decide
theorem Cm.exN_wrong : Cm.wrong Cm.exN = 0 := by
  unfold Cm.wrong
  rw [if_pos Cm.exN_right, Cm.exN_form]
  simp
theorem Cm.exN_size : Cm.size Cm.exN = 8 := by
  unfold Cm.size
  rw [if_pos Cm.exN_right, Cm.exN_form]
  rfl
theorem Cm.exN_take : (Cm.page Cm.exN).take 8 = [2, 1, 5, 0, 1, 98, 7, 0] := by
  unfold Cm.page
  rw [Cm.exN_form]
  simp
theorem Cm.exN_got : Cm.got (Cm.page Cm.exN) = some Cm.exN := Cm.got_page Cm.exN_right (by rw [Cm.exN_form]; simp)

theorem exN_nds (w : World) (o : Obj) : NdS (((w.alloc (.cells #[.string ⟨#[98]⟩, .string ⟨#[]⟩, .int .i64 0, .int .i64 0] 24)).alloc (.cells #[.int .i64 5, .int .i64 7] 3)).alloc o) (w.heap.size + 2) (.agg #[.bool false, .slice (some ⟨w.heap.size, 0, none⟩) 1 1, .slice (some ⟨w.heap.size + 1, 0, none⟩) 2 2]) Cm.exN := by
  have h1 := heap_alloc_new w (.cells #[.string ⟨#[98]⟩, .string ⟨#[]⟩, .int .i64 0, .int .i64 0] 24)
  have hb1 := (Below.refl (w.alloc (.cells #[.string ⟨#[98]⟩, .string ⟨#[]⟩, .int .i64 0, .int .i64 0] 24)).heap.size (w.alloc (.cells #[.string ⟨#[98]⟩, .string ⟨#[]⟩, .int .i64 0, .int .i64 0] 24))).alloc (Nat.le_refl _) (.cells #[.int .i64 5, .int .i64 7] 3)
  have h2 := heap_alloc_new (w.alloc (.cells #[.string ⟨#[98]⟩, .string ⟨#[]⟩, .int .i64 0, .int .i64 0] 24)) (.cells #[.int .i64 5, .int .i64 7] 3)
  rw [show (w.alloc (.cells #[.string ⟨#[98]⟩, .string ⟨#[]⟩, .int .i64 0, .int .i64 0] 24)).heap.size = w.heap.size + 1 by simp] at h2 hb1
  have h3 := (hb1.block w.heap.size (by omega)).trans h1
  have hs : ((w.alloc (.cells #[.string ⟨#[98]⟩, .string ⟨#[]⟩, .int .i64 0, .int .i64 0] 24)).alloc (.cells #[.int .i64 5, .int .i64 7] 3)).heap.size = w.heap.size + 2 := by simp
  generalize (w.alloc (.cells #[.string ⟨#[98]⟩, .string ⟨#[]⟩, .int .i64 0, .int .i64 0] 24)).alloc (.cells #[.int .i64 5, .int .i64 7] 3) = W at *
  have hb := (Below.refl W.heap.size W).alloc (Nat.le_refl _) o
  have h4 := (hb.block w.heap.size (by omega)).trans h3
  have h5 := (hb.block (w.heap.size + 1) (by omega)).trans h2
  obtain ⟨c0, c1, c2, c3⟩ := cells4_of h4
  refine ⟨_, _, rfl, ⟨_, 1, rfl, Nat.le_refl _, (fun h => by cases h), fun _ => ⟨w.heap.size, 0, rfl, by omega, fun j hj => ?_⟩⟩, ⟨_, 2, rfl, Nat.le_refl _, (fun h => by cases h), fun _ => ⟨w.heap.size + 1, 0, rfl, by omega, fun j hj => ?_⟩⟩⟩
  · have hj0 : j = 0 := by simpa [Cm.exN] using hj
    subst hj0
    exact ⟨c0, c1, c2, c3⟩
  · have hj0 : j = 0 ∨ j = 1 := by simp [Cm.exN] at hj; omega
    rcases hj0 with rfl | rfl
    · rw [cell_of_row _ (w.heap.size + 1) _ _ _ _ h5]; rfl
    · rw [cell_of_row _ (w.heap.size + 1) _ _ _ _ h5]; rfl

set_option maxRecDepth 100000 in
set_option maxHeartbeats 2000000 in
theorem works_any (w : World) : Calls Try.prog 6 #[] w fun e w' => e = .returned (.bool true) ∧ Below w.heap.size w w' := by
  go_enter Try.func6, Try.ntmps6
  go_upto_region 2 with fail
  have hN := exN_nds w (.cells #[.bool false, .slice (some ⟨w.heap.size, 0, none⟩) 1 1, .slice (some ⟨w.heap.size + 1, 0, none⟩) 2 2] 28)
  have hx := heap_alloc_new ((w.alloc (.cells #[.string ⟨#[98]⟩, .string ⟨#[]⟩, .int .i64 0, .int .i64 0] 24)).alloc (.cells #[.int .i64 5, .int .i64 7] 3)) (.cells #[.bool false, .slice (some ⟨w.heap.size, 0, none⟩) 1 1, .slice (some ⟨w.heap.size + 1, 0, none⟩) 2 2] 28)
  have hb := (((Below.refl w.heap.size w).alloc (Nat.le_refl _) (.cells #[.string ⟨#[98]⟩, .string ⟨#[]⟩, .int .i64 0, .int .i64 0] 24)).alloc (by simp) (.cells #[.int .i64 5, .int .i64 7] 3)).alloc (by simp; omega) (.cells #[.bool false, .slice (some ⟨w.heap.size, 0, none⟩) 1 1, .slice (some ⟨w.heap.size + 1, 0, none⟩) 2 2] 28)
  rw [show ((w.alloc (.cells #[.string ⟨#[98]⟩, .string ⟨#[]⟩, .int .i64 0, .int .i64 0] 24)).alloc (.cells #[.int .i64 5, .int .i64 7] 3)).heap.size = w.heap.size + 2 by simp] at hx
  generalize ((w.alloc (.cells #[.string ⟨#[98]⟩, .string ⟨#[]⟩, .int .i64 0, .int .i64 0] 24)).alloc (.cells #[.int .i64 5, .int .i64 7] 3)).alloc (.cells #[.bool false, .slice (some ⟨w.heap.size, 0, none⟩) 1 1, .slice (some ⟨w.heap.size + 1, 0, none⟩) 2 2] 28) = W at *
  have hW := lt_of_heap hx
  rw [show w.heap.size + 1 + 1 = w.heap.size + 2 by omega]
  obtain ⟨x0, x1, x2⟩ := cells3_of hx
  go_wp2_with fail
  refine (Put_any Cm.exN _ _ _ hN (by omega) (by simp [Cm.exN]) (by simp [Cm.exN])).mono ?_
  rintro e w1 ⟨hb1, h1⟩
  rcases h1 with ⟨-, g, rfl, hg, hB1⟩ | ⟨h1, -⟩
  case inr => exact absurd Cm.exN_wrong h1
  have hN1 := hN.below hb1 (by omega)
  have hx1 := (hb1.block (w.heap.size + 2) hW).trans hx
  have hw1 := hb.trans (hb1.mono hb.size)
  have hs1 := hb1.size
  have hby1 := hB1.byts 0 240 240 (by rw [Cm.page_length (by rw [Cm.exN_form]; simp)]; omega) (Nat.le_refl _)
  rw [List.drop_zero, List.take_of_length_le (by rw [Cm.page_length (by rw [Cm.exN_form]; simp)]; exact Nat.le_refl _)] at hby1
  clear hN hx hb hb1 x0 x1 x2
  go_wp2_with fail
  refine (Get_any _ _ _ _ hby1 (by have := hB1.lt; omega)).mono ?_
  rintro e w2 ⟨h2, hb2⟩
  rcases h2 with ⟨n2, vi, vk, h2, rfl, ho2, hk2⟩ | ⟨h2, -⟩
  case inr => rw [Cm.exN_got] at h2; cases h2
  rw [Cm.exN_got] at h2
  simp only [Option.some.injEq] at h2
  subst h2
  have hM2 := OwnC.nds ho2 hk2
  obtain ⟨adi, ci, hvi, -⟩ := ho2.its
  obtain ⟨adk, ck, hvk, -⟩ := hk2.ints
  subst hvi
  subst hvk
  have hN2 := hN1.below hb2 (by omega)
  have hx2 := (hb2.block (w.heap.size + 2) (by omega)).trans hx1
  have hw2 := hw1.trans (hb2.mono hw1.size)
  have hs2 := hb2.size
  have hB2 := hB1.below hb2 hB1.lt
  clear hN1 hx1 hw1 hb2 hby1 ho2 hk2
  go_upto_region 4 with fail
  have hm3 := heap_alloc_new w2 (.cells #[.bool Cm.exN.leaf, .slice adi Cm.exN.items.length ci, .slice adk Cm.exN.kids.length ck] 28)
  have hM3 := hM2.alloc (Nat.le_refl _) (.cells #[.bool Cm.exN.leaf, .slice adi Cm.exN.items.length ci, .slice adk Cm.exN.kids.length ck] 28)
  have hb3 := (Below.refl w2.heap.size w2).alloc (Nat.le_refl _) (.cells #[.bool Cm.exN.leaf, .slice adi Cm.exN.items.length ci, .slice adk Cm.exN.kids.length ck] 28)
  have hs3 : (w2.alloc (.cells #[.bool Cm.exN.leaf, .slice adi Cm.exN.items.length ci, .slice adk Cm.exN.kids.length ck] 28)).heap.size = w2.heap.size + 1 := by simp
  generalize w2.alloc (.cells #[.bool Cm.exN.leaf, .slice adi Cm.exN.items.length ci, .slice adk Cm.exN.kids.length ck] 28) = W3 at *
  have hN3 := hN2.below hb3 (by omega)
  have hx3 := (hb3.block (w.heap.size + 2) (by omega)).trans hx2
  have hw3 := hw2.trans (hb3.mono hw2.size)
  have hB3 := hB2.below hb3 hB2.lt
  clear hM2 hN2 hx2 hw2 hB2 hb3
  obtain ⟨x0, x1, x2⟩ := cells3_of hx3
  obtain ⟨m0, m1, m2⟩ := cells3_of hm3
  have hsl := fun W : World => slice_head W (some ⟨g, 0, none⟩) 240 240 8 (by omega)
  have hlit := byts_lit W3 #[.int .u8 2, .int .u8 1, .int .u8 5, .int .u8 0, .int .u8 1, .int .u8 98, .int .u8 7, .int .u8 0] [2, 1, 5, 0, 1, 98, 7, 0] 8 (by rfl) rfl
  have hby3 := hB3.byts 0 240 240 (by rw [Cm.page_length (by rw [Cm.exN_form]; simp)]; omega) (Nat.le_refl _)
  rw [List.drop_zero, List.take_of_length_le (by rw [Cm.page_length (by rw [Cm.exN_form]; simp)]; exact Nat.le_refl _)] at hby3
  have hhd := (hby3.head 8 (by rw [Cm.page_length (by rw [Cm.exN_form]; simp)]; omega)).alloc (by have := hB3.lt; omega) (.cells #[.int .u8 2, .int .u8 1, .int .u8 5, .int .u8 0, .int .u8 1, .int .u8 98, .int .u8 7, .int .u8 0] 5)
  rw [Cm.exN_take] at hhd
  have HE := Equal_any _ _ _ _ _ _ _ hhd hlit
  rw [decide_eq_true rfl, hs3] at HE
  have hb4 := (Below.refl W3.heap.size W3).alloc (Nat.le_refl _) (.cells #[.int .u8 2, .int .u8 1, .int .u8 5, .int .u8 0, .int .u8 1, .int .u8 98, .int .u8 7, .int .u8 0] 5)
  have hN4 := hN3.below hb4 (by omega)
  have hM4 := hM3.below hb4 (by omega)
  have hx4 := (hb4.block (w.heap.size + 2) (by omega)).trans hx3
  have hm4 := (hb4.block w2.heap.size (by omega)).trans hm3
  have hw4 := hw3.trans (hb4.mono hw3.size)
  have hs4 := hb4.size
  clear hhd hlit hby3 hN3 hM3 hx3 hm3 hw3 hb4
  go_wp2_with fail
  refine HE.mono ?_
  rintro e w5 ⟨rfl, hw5⟩
  rw [hw5]
  clear hw5 HE
  generalize W3.alloc (.cells #[.int .u8 2, .int .u8 1, .int .u8 5, .int .u8 0, .int .u8 1, .int .u8 98, .int .u8 7, .int .u8 0] 5) = W4 at *
  clear x0 x1 x2 m0 m1 m2
  obtain ⟨x0, x1, x2⟩ := cells3_of hx4
  obtain ⟨m0, m1, m2⟩ := cells3_of hm4
  go_wp2_with fail
  refine (Same_any Cm.exN Cm.exN _ _ w2.heap.size _ hM4 (hN4.mono (by omega)) (by omega) (by simp [Cm.exN]) (by simp [Cm.exN])).mono ?_
  rintro e w6 ⟨rfl, hb6⟩
  rw [decide_eq_true rfl]
  have hN6 := hN4.below hb6 (by omega)
  have hx6 := (hb6.block (w.heap.size + 2) (by omega)).trans hx4
  have hw6 := hw4.trans (hb6.mono hw4.size)
  have hs6 := hb6.size
  clear x0 x1 x2 m0 m1 m2 hb6 hN4 hM4 hx4 hm4 hw4
  obtain ⟨x0, x1, x2⟩ := cells3_of hx6
  go_wp2_with fail
  refine (Size_any Cm.exN _ _ _ hN6 (by omega) (by simp [Cm.exN]) (by simp [Cm.exN])).mono ?_
  rw [Cm.exN_size]
  rintro e w7 ⟨rfl, hb7⟩
  go_wp2
  go_ret
  exact ⟨rfl, hw6.trans (hb7.mono hw6.size)⟩

end Go.Proofs.Ytplfcpbjlhobeaa
