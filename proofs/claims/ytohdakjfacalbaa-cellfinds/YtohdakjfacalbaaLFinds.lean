/-
  CellFinds: the walk.
-/
import Derived.Test.YtohdakjfacalbaaDWorks
import Derived.Test.YtohdakjfacalbaaDFind
import Derived.Test.YtohdakjfacalbaaRSmall
import Derived.Test.YtohdakjfacalbaaRCopied
namespace Go.Proofs.Ytohdakjfacalbaa
open Go.RowKit

set_option maxRecDepth 100000 in
set_option maxHeartbeats 4000000 in
theorem finds_walk (v : Value) (n : Cm.Nd) (key : ByteArray) (w : World) (hv : NdS w w.heap.size v n) :
    Calls Try.prog 6 #[v, .string key] w fun e w' => e = .returned (.bool true) ∧ Below w.heap.size w w' := by
  have HN : Hid (∀ W : World, Below w.heap.size w W → NdS W w.heap.size v n) := fun W h => hv.below h (Nat.le_refl _)
  obtain ⟨vi, vk, rfl, ⟨ad, c, rfl, -⟩, ⟨kd, d, rfl, -⟩⟩ := hv
  have hb0 := (Below.refl w.heap.size w).alloc (Nat.le_refl _) (.cells #[.bool n.leaf, .slice ad n.items.length c, .slice kd n.kids.length d] 28)
  have hx0 := heap_alloc_new w (.cells #[.bool n.leaf, .slice ad n.items.length c, .slice kd n.kids.length d] 28)
  go_enter Try.func6, Try.ntmps6
  go_wp2_with fail
  refine (works_any _).mono ?_
  rintro e w1 ⟨rfl, hb1⟩
  have hx1 := (hb1.block w.heap.size (lt_of_heap hx0)).trans hx0
  have hw1 := hb0.trans (hb1.mono hb0.size)
  clear hb0 hx0 hb1
  obtain ⟨x0, x1, x2⟩ := cells3_of hx1
  go_wp2_with fail
  refine (long_any n _ _ _ (HN.out _ hw1)).mono ?_
  rintro e w2 ⟨rfl, hb2⟩
  have hx2 := (hb2.block w.heap.size (lt_of_heap hx1)).trans hx1
  have hw2 := hw1.trans (hb2.mono hw1.size)
  clear hw1 hx1 hb2 x0 x1 x2
  obtain ⟨x0, x1, x2⟩ := cells3_of hx2
  by_cases hlg : 300 < n.items.length ∨ 300 < n.kids.length
  · rw [decide_eq_true hlg]
    clear hlg
    go_wp2
    go_ret
    exact ⟨rfl, hw2⟩
  rw [decide_eq_false hlg]
  have hli : n.items.length ≤ 300 := by omega
  have hlk : n.kids.length ≤ 300 := by omega
  clear hlg
  go_wp2_with fail
  refine (copied_any n _ _ _ (HN.out _ hw2) hw2.size (by omega) (by omega)).mono ?_
  rintro e w3 ⟨ui, uk, rfl, ho3, hk3, hb3⟩
  have hM3 := OwnC.nds ho3 hk3
  obtain ⟨adi, ci, hvi, -⟩ := ho3.its
  obtain ⟨adk, ck, hvk, -⟩ := hk3.ints
  subst hvi
  subst hvk
  have hx3 := (hb3.block w.heap.size (lt_of_heap hx2)).trans hx2
  have hw3 := hw2.trans (hb3.mono hw2.size)
  clear hw2 hx2 hb3 x0 x1 x2 ho3 hk3
  by_cases hr : Cm.Right n
  · have HR : Hid (Cm.Right n) := hr
    have hF := cfind_any n key _ _ _ hM3 (Nat.le_refl _) (by omega) (by omega)
    rw [if_pos hr, decide_eq_true hr, Bool.true_and] at hF
    obtain ⟨P, hP⟩ : ∃ P, Cm.place n key = P := ⟨_, rfl⟩
    obtain ⟨Q, hQ⟩ : ∃ Q, Cm.isIn n key = Q := ⟨_, rfl⟩
    rw [hP, hQ] at hF
    clear hr
    go_wp2_with fail
    refine hF.mono ?_
    rintro e w4 ⟨rfl, hb4⟩
    have hx4 := (hb4.block w.heap.size (lt_of_heap hx3)).trans hx3
    have hw4 := hw3.trans (hb4.mono hw3.size)
    clear hw3 hx3 hb4 hF hM3
    obtain ⟨x0, x1, x2⟩ := cells3_of hx4
    go_wp2_with fail
    refine (Right_any n _ _ _ (HN.out _ hw4) hw4.size (by omega) (by omega)).mono ?_
    rw [decide_eq_true HR.out]
    rintro e w5 ⟨rfl, hb5⟩
    have hx5 := (hb5.block w.heap.size (lt_of_heap hx4)).trans hx4
    have hw5 := hw4.trans (hb5.mono hw4.size)
    clear hw4 hx4 hb5 x0 x1 x2
    obtain ⟨x0, x1, x2⟩ := cells3_of hx5
    go_wp2_with fail
    refine (Find_any n key _ _ _ (HN.out _ hw5) hw5.size (by omega)).mono ?_
    rw [hP, hQ]
    rintro e w6 ⟨rfl, hb6⟩
    have hw6 := hw5.trans (hb6.mono hw5.size)
    clear hP hQ
    cases Q
    · go_wp2
      go_ret
      exact ⟨rfl, hw6⟩
    · go_wp2
      go_ret
      exact ⟨rfl, hw6⟩
  · have HR : Hid (¬ Cm.Right n) := hr
    have hF := cfind_any n key _ _ _ hM3 (Nat.le_refl _) (by omega) (by omega)
    rw [if_neg hr, decide_eq_false hr, Bool.false_and] at hF
    clear hr
    go_wp2_with fail
    refine hF.mono ?_
    rintro e w4 ⟨rfl, hb4⟩
    have hx4 := (hb4.block w.heap.size (lt_of_heap hx3)).trans hx3
    have hw4 := hw3.trans (hb4.mono hw3.size)
    clear hw3 hx3 hb4 hF hM3
    obtain ⟨x0, x1, x2⟩ := cells3_of hx4
    go_wp2_with fail
    refine (Right_any n _ _ _ (HN.out _ hw4) hw4.size (by omega) (by omega)).mono ?_
    rw [decide_eq_false HR.out]
    rintro e w5 ⟨rfl, hb5⟩
    have hw5 := hw4.trans (hb5.mono hw4.size)
    go_wp2
    go_ret
    exact ⟨rfl, hw5⟩

end Go.Proofs.Ytohdakjfacalbaa
