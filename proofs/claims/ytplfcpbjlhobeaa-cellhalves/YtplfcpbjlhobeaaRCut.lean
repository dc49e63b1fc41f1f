/-
  THE WALK OF THE DOCUMENT's cut: a node parted at a place.
-/
import Derived.Test.YtplfcpbjlhobeaaDHalf
namespace Go.Proofs.Ytplfcpbjlhobeaa
open Go.RowKit

set_option maxRecDepth 100000 in
set_option maxHeartbeats 4000000 in
theorem cut_any (n : Cm.Nd) (i : Nat) (v : Value) (B : Nat) (w : World) (hv : NdS w B v n) (hi : i ≤ n.items.length) (hl : n.items.length ≤ 1000000) (hin : n.leaf = false → i + 1 ≤ n.items.length ∧ n.kids.length = n.items.length + 1) :
    Calls Try.prog 40 #[v, .int .i64 (i : Int)] w fun e w' => ∃ va vb, e = .returned (.tuple #[va, vb]) ∧ NdS w B va (Cm.cutL n i) ∧ NdS w B vb (Cm.cutR n i) ∧ Below w.heap.size w w' := by
  obtain ⟨vi, vk, rfl, hI, hK⟩ := hv
  obtain ⟨ad, c, rfl, -⟩ := id hI
  obtain ⟨kd, d, rfl, -⟩ := id hK
  obtain ⟨hs1, hI1⟩ := headC hI i hi
  have HI1 : Hid _ := hI1
  clear hI1
  cases hlf : n.leaf with
  | true =>
    obtain ⟨A, hs2, hI2⟩ := tailC hI i hi
    have HI2 : Hid _ := hI2
    have HeL : Hid (Cm.cutL n i = ⟨true, n.items.take i, []⟩) := by show _ = _; unfold Cm.cutL; rw [if_pos hlf]
    have HeR : Hid (Cm.cutR n i = ⟨true, n.items.drop i, []⟩) := by show _ = _; unfold Cm.cutR; rw [if_pos hlf]
    have hW0 : Below w.heap.size w (((w.alloc (.cells #[.bool true, .slice ad n.items.length c, .slice kd n.kids.length d] 28)).alloc (.cells #[.bool false, .slice none 0 0, .slice none 0 0] 28)).alloc (.cells #[.bool false, .slice none 0 0, .slice none 0 0] 28)) := (((Below.refl w.heap.size w).alloc (Nat.le_refl _) _).alloc (by simp) _).alloc (by simp; omega) _
    have hn0 : (((w.alloc (.cells #[.bool true, .slice ad n.items.length c, .slice kd n.kids.length d] 28)).alloc (.cells #[.bool false, .slice none 0 0, .slice none 0 0] 28)).alloc (.cells #[.bool false, .slice none 0 0, .slice none 0 0] 28)).heap[w.heap.size]? = some (.cells #[.bool true, .slice ad n.items.length c, .slice kd n.kids.length d] 28 (0, 0)) := k_al (k_al (heap_alloc_new w _) _) _
    have ha0 : (((w.alloc (.cells #[.bool true, .slice ad n.items.length c, .slice kd n.kids.length d] 28)).alloc (.cells #[.bool false, .slice none 0 0, .slice none 0 0] 28)).alloc (.cells #[.bool false, .slice none 0 0, .slice none 0 0] 28)).heap[w.heap.size + 1]? = some (.cells #[.bool false, .slice none 0 0, .slice none 0 0] 28 (0, 0)) := k_al (by have := heap_alloc_new (w.alloc (.cells #[.bool true, .slice ad n.items.length c, .slice kd n.kids.length d] 28)) (.cells #[.bool false, .slice none 0 0, .slice none 0 0] 28); simpa using this) _
    have hb0 : (((w.alloc (.cells #[.bool true, .slice ad n.items.length c, .slice kd n.kids.length d] 28)).alloc (.cells #[.bool false, .slice none 0 0, .slice none 0 0] 28)).alloc (.cells #[.bool false, .slice none 0 0, .slice none 0 0] 28)).heap[w.heap.size + 2]? = some (.cells #[.bool false, .slice none 0 0, .slice none 0 0] 28 (0, 0)) := by have := heap_alloc_new ((w.alloc (.cells #[.bool true, .slice ad n.items.length c, .slice kd n.kids.length d] 28)).alloc (.cells #[.bool false, .slice none 0 0, .slice none 0 0] 28)) (.cells #[.bool false, .slice none 0 0, .slice none 0 0] 28); simpa using this
    clear hI hK hI2
    go_enter Try.func40, Try.ntmps40
    go_wp2_with fail
    rw [show w.heap.size + 1 + 1 = w.heap.size + 2 by omega]
    generalize ((w.alloc (.cells #[.bool true, .slice ad n.items.length c, .slice kd n.kids.length d] 28)).alloc (.cells #[.bool false, .slice none 0 0, .slice none 0 0] 28)).alloc (.cells #[.bool false, .slice none 0 0, .slice none 0 0] 28) = W at *
    have hS0 := cells3_of hn0
    have hS1 := cells3_of (k_st (q := w.heap.size + 1) hn0 (by omega) (.bool true) (.slice ad i c) (.slice none 0 0))
    have hS2 := cells3_of (k_st (q := w.heap.size + 2) (k_st (q := w.heap.size + 1) hn0 (by omega) (.bool true) (.slice ad i c) (.slice none 0 0)) (by omega) (.bool true) (.slice A (n.items.length - i) (c - i)) (.slice none 0 0))
    have hb1 := k_st (q := w.heap.size + 1) hb0 (by omega) (.bool true) (.slice ad i c) (.slice none 0 0)
    have hA := cells3_of (k_st (q := w.heap.size + 2) (heap_set3 ha0 (.bool true) (.slice ad i c) (.slice none 0 0)) (by omega) (.bool true) (.slice A (n.items.length - i) (c - i)) (.slice none 0 0))
    have hBB := cells3_of (heap_set3 hb1 (.bool true) (.slice A (n.items.length - i) (c - i)) (.slice none 0 0))
    have HS1 : Hid _ := hS1
    have HS2 : Hid _ := hS2
    have HBe : Hid _ := six hW0 (.bool true) (.slice ad i c) (.slice none 0 0) (.bool true) (.slice A (n.items.length - i) (c - i)) (.slice none 0 0)
    have HA : Hid _ := hA
    have HBB : Hid _ := hBB
    have HB1 : Hid _ := hb1
    obtain ⟨p0, p1, p2⟩ := cells3_of ha0
    have pf := fun j => frozen_of_row W (w.heap.size + 1) j _ _ ha0
    clear hS1 hS2 hA hBB hb1 hn0 hb0 ha0
    refine wp_region_held_drew (S := fun X : World => X.cell? ⟨w.heap.size, 0, none⟩ = some (.bool true) ∧ X.cell? ⟨w.heap.size, 1, none⟩ = some (.slice ad n.items.length c) ∧ X.cell? ⟨w.heap.size, 2, none⟩ = some (.slice kd n.kids.length d)) (by kernel_rfl) hS0 (fun hHeld => ?_)
    refine wpAnyH_take (i := 0) (v := ?_) rfl (by kernel_rfl) (by kernel_rfl) (by kernel_rfl) (fun _ _ _ h => h) (Or.inl ⟨(by simp [Region.wanted]), ?_⟩) (hHeld) ?_
    rotate_left
    · (intro w hSw; (try dsimp only at hSw); ((go_simp) <;> (with_reducible rfl)))
    try simp only [Act.put, List.setIfInBounds_toArray]
    refine wpAnyH_take (i := 1) (v := ?_) rfl (by kernel_rfl) (by kernel_rfl) (by kernel_rfl) (fun _ _ _ h => h) (Or.inl ⟨(by simp [Region.wanted]), ?_⟩) (hHeld) ?_
    rotate_left
    · (intro w hSw; (try dsimp only at hSw); ((go_simp) <;> (with_reducible rfl)))
    try simp only [Act.put]
    refine wpAnyH_take (i := 2) (v := ?_) rfl (by kernel_rfl) (by kernel_rfl) (by kernel_rfl) (fun _ _ _ h => h) (Or.inl ⟨(by simp [Region.wanted]), ?_⟩) (hHeld) ?_
    rotate_left
    · (intro w hSw; (try dsimp only at hSw); ((go_simp) <;> (with_reducible rfl)))
    try simp only [Act.put]
    refine wpAnyH_take (i := 3) (v := ?_) rfl (by kernel_rfl) (by kernel_rfl) (by kernel_rfl) (fun _ _ _ h => h) (Or.inl ⟨(by simp [Region.wanted]), ?_⟩) (hHeld) ?_
    rotate_left
    · (intro w hSw; (try dsimp only at hSw); ((go_simp) <;> (with_reducible rfl)))
    try simp only [Act.put]
    refine wpAnyH_take (i := 4) (v := ?_) rfl (by kernel_rfl) (by kernel_rfl) (by kernel_rfl) (fun _ _ _ h => h) (Or.inl ⟨(by simp [Region.wanted]), ?_⟩) (hHeld) ?_
    rotate_left
    · (intro w hSw; (try dsimp only at hSw); ((go_simp) <;> (with_reducible rfl)))
    try simp only [Act.put]
    refine wpAnyH_take (i := 5) (v := ?_) rfl (by kernel_rfl) (by kernel_rfl) (by kernel_rfl) (fun _ _ _ h => h) (Or.inl ⟨(by simp [Region.wanted]), ?_⟩) (hHeld) ?_
    rotate_left
    · (intro w hSw; (try dsimp only at hSw); ((go_simp) <;> (with_reducible rfl)))
    try simp only [Act.put]
    refine wpAnyH_take (i := 6) (v := ?_) rfl (by kernel_rfl) (by kernel_rfl) (by kernel_rfl) (fun _ _ _ h => h) (Or.inl ⟨(by simp [Region.wanted]), ?_⟩) (hHeld) ?_
    rotate_left
    · (intro w hSw; (try dsimp only at hSw); ((go_simp) <;> (with_reducible rfl)))
    try simp only [Act.put]
    refine wpAnyH_take (i := 7) (v := ?_) rfl (by kernel_rfl) (by kernel_rfl) (by kernel_rfl) (fun _ _ _ h => h) (Or.inl ⟨(by simp [Region.wanted]), ?_⟩) (hHeld) ?_
    rotate_left
    · (intro w hSw; (try dsimp only at hSw); ((go_simp) <;> (with_reducible rfl)))
    try simp only [Act.put]
    refine wpAnyH_take (i := 8) (v := ?_) rfl (by kernel_rfl) (by kernel_rfl) (by kernel_rfl) (fun _ _ _ h => h) (Or.inl ⟨(by simp [Region.wanted]), ?_⟩) (hHeld) ?_
    rotate_left
    · (intro w hSw; (try dsimp only at hSw); ((go_simp) <;> (with_reducible rfl)))
    try simp only [Act.put]
    refine wpAnyH_take (i := 9) (v := ?_) rfl (by kernel_rfl) (by kernel_rfl) (by kernel_rfl) (fun _ _ _ h => h) (Or.inl ⟨(by simp [Region.wanted]), ?_⟩) (hHeld) ?_
    rotate_left
    · (intro w hSw; (try dsimp only at hSw); ((go_simp) <;> (with_reducible rfl)))
    try simp only [Act.put]
    refine wpAnyH_ready (rs := [10]) (by kernel_rfl) (by simp) ?_
    refine AllReadyH.cons rfl (fun K hK => ?_) AllReadyH.nil
    go_simp
    refine hK.out _ _ HS1.out (fun hHeld => ?_)
    clear hK K
    try simp only [Act.put, List.setIfInBounds_toArray, List.set_cons_zero, List.set_cons_succ]
    generalize ((W.setCell ⟨w.heap.size + 1, 0, none⟩ (.bool true)).setCell ⟨w.heap.size + 1, 1, none⟩ (.slice ad i c)).setCell ⟨w.heap.size + 1, 2, none⟩ (.slice none 0 0) = X1 at *
    clear p0 p1 p2 pf
    obtain ⟨r0, r1, r2⟩ := cells3_of HB1.out
    have rf := fun j => frozen_of_row _ (w.heap.size + 2) j _ _ HB1.out
    refine wpAnyH_ready (rs := [11]) (by kernel_rfl) (by simp) ?_
    refine AllReadyH.cons rfl (fun K hK => ?_) AllReadyH.nil
    go_simp
    refine hK.out _ _ HS2.out (fun hHeld => ?_)
    clear hK K
    try simp only [Act.put, List.setIfInBounds_toArray, List.set_cons_zero, List.set_cons_succ]
    generalize ((X1.setCell ⟨w.heap.size + 2, 0, none⟩ (.bool true)).setCell ⟨w.heap.size + 2, 1, none⟩ (.slice A (n.items.length - i) (c - i))).setCell ⟨w.heap.size + 2, 2, none⟩ (.slice none 0 0) = X2 at *
    refine wpAnyH_done (by kernel_rfl) ?_ _
    go_wp2
    obtain ⟨y0, y1, y2⟩ := HA.out
    obtain ⟨t0, t1, t2⟩ := HBB.out
    simp only [bodyPost, results, Try.results40]
    simp [go_sem, y0, y1, y2, t0, t1, t2]
    refine ⟨_, _, ⟨rfl, rfl⟩, ?_, ?_, HBe.out.os, HBe.out.tape, HBe.out.output, HBe.out.size, HBe.out.block⟩
    · rw [HeL.out]; exact ⟨_, _, rfl, HI1.out, Ints.nil w B⟩
    · rw [HeR.out]; exact ⟨_, _, rfl, HI2.out, Ints.nil w B⟩
  | false =>
    have hin2 := hin hlf
    obtain ⟨A, hs2, hI2⟩ := tailC hI (i + 1) hin2.1
    obtain ⟨hs3, hK1⟩ := headN hK (i + 1) (by omega)
    obtain ⟨A4, hs4, hK2⟩ := tailN hK (i + 1) (by omega)
    simp only [Int.natCast_add, Int.natCast_one] at hs2 hs3 hs4
    have hpl : IntKind.i64.wrap ((i : Int) + 1) = (i : Int) + 1 := by rw [IntKind.wrap_i64]; omega
    have HI2 : Hid _ := hI2
    have HK1 : Hid _ := hK1
    have HK2 : Hid _ := hK2
    have HeL : Hid (Cm.cutL n i = ⟨false, n.items.take i, n.kids.take (i + 1)⟩) := by show _ = _; unfold Cm.cutL; rw [if_neg (by rw [hlf]; simp)]
    have HeR : Hid (Cm.cutR n i = ⟨false, n.items.drop (i + 1), n.kids.drop (i + 1)⟩) := by show _ = _; unfold Cm.cutR; rw [if_neg (by rw [hlf]; simp)]
    have hW0 : Below w.heap.size w (((w.alloc (.cells #[.bool false, .slice ad n.items.length c, .slice kd n.kids.length d] 28)).alloc (.cells #[.bool false, .slice none 0 0, .slice none 0 0] 28)).alloc (.cells #[.bool false, .slice none 0 0, .slice none 0 0] 28)) := (((Below.refl w.heap.size w).alloc (Nat.le_refl _) _).alloc (by simp) _).alloc (by simp; omega) _
    have hn0 : (((w.alloc (.cells #[.bool false, .slice ad n.items.length c, .slice kd n.kids.length d] 28)).alloc (.cells #[.bool false, .slice none 0 0, .slice none 0 0] 28)).alloc (.cells #[.bool false, .slice none 0 0, .slice none 0 0] 28)).heap[w.heap.size]? = some (.cells #[.bool false, .slice ad n.items.length c, .slice kd n.kids.length d] 28 (0, 0)) := k_al (k_al (heap_alloc_new w _) _) _
    have ha0 : (((w.alloc (.cells #[.bool false, .slice ad n.items.length c, .slice kd n.kids.length d] 28)).alloc (.cells #[.bool false, .slice none 0 0, .slice none 0 0] 28)).alloc (.cells #[.bool false, .slice none 0 0, .slice none 0 0] 28)).heap[w.heap.size + 1]? = some (.cells #[.bool false, .slice none 0 0, .slice none 0 0] 28 (0, 0)) := k_al (by have := heap_alloc_new (w.alloc (.cells #[.bool false, .slice ad n.items.length c, .slice kd n.kids.length d] 28)) (.cells #[.bool false, .slice none 0 0, .slice none 0 0] 28); simpa using this) _
    have hb0 : (((w.alloc (.cells #[.bool false, .slice ad n.items.length c, .slice kd n.kids.length d] 28)).alloc (.cells #[.bool false, .slice none 0 0, .slice none 0 0] 28)).alloc (.cells #[.bool false, .slice none 0 0, .slice none 0 0] 28)).heap[w.heap.size + 2]? = some (.cells #[.bool false, .slice none 0 0, .slice none 0 0] 28 (0, 0)) := by have := heap_alloc_new ((w.alloc (.cells #[.bool false, .slice ad n.items.length c, .slice kd n.kids.length d] 28)).alloc (.cells #[.bool false, .slice none 0 0, .slice none 0 0] 28)) (.cells #[.bool false, .slice none 0 0, .slice none 0 0] 28); simpa using this
    clear hI hK hI2 hK1 hK2 hin hin2
    go_enter Try.func40, Try.ntmps40
    go_wp2_with fail
    rw [show w.heap.size + 1 + 1 = w.heap.size + 2 by omega]
    generalize ((w.alloc (.cells #[.bool false, .slice ad n.items.length c, .slice kd n.kids.length d] 28)).alloc (.cells #[.bool false, .slice none 0 0, .slice none 0 0] 28)).alloc (.cells #[.bool false, .slice none 0 0, .slice none 0 0] 28) = W at *
    have hS0 := cells3_of hn0
    have hS1 := cells3_of (k_st (q := w.heap.size + 1) hn0 (by omega) (.bool false) (.slice ad i c) (.slice kd (i + 1) d))
    have hS2 := cells3_of (k_st (q := w.heap.size + 2) (k_st (q := w.heap.size + 1) hn0 (by omega) (.bool false) (.slice ad i c) (.slice kd (i + 1) d)) (by omega) (.bool false) (.slice A (n.items.length - (i + 1)) (c - (i + 1))) (.slice A4 (n.kids.length - (i + 1)) (d - (i + 1))))
    have hb1 := k_st (q := w.heap.size + 1) hb0 (by omega) (.bool false) (.slice ad i c) (.slice kd (i + 1) d)
    have hA := cells3_of (k_st (q := w.heap.size + 2) (heap_set3 ha0 (.bool false) (.slice ad i c) (.slice kd (i + 1) d)) (by omega) (.bool false) (.slice A (n.items.length - (i + 1)) (c - (i + 1))) (.slice A4 (n.kids.length - (i + 1)) (d - (i + 1))))
    have hBB := cells3_of (heap_set3 hb1 (.bool false) (.slice A (n.items.length - (i + 1)) (c - (i + 1))) (.slice A4 (n.kids.length - (i + 1)) (d - (i + 1))))
    have HS1 : Hid _ := hS1
    have HS2 : Hid _ := hS2
    have HBe : Hid _ := six hW0 (.bool false) (.slice ad i c) (.slice kd (i + 1) d) (.bool false) (.slice A (n.items.length - (i + 1)) (c - (i + 1))) (.slice A4 (n.kids.length - (i + 1)) (d - (i + 1)))
    have HA : Hid _ := hA
    have HBB : Hid _ := hBB
    have HB1 : Hid _ := hb1
    obtain ⟨p0, p1, p2⟩ := cells3_of ha0
    have pf := fun j => frozen_of_row W (w.heap.size + 1) j _ _ ha0
    clear hS1 hS2 hA hBB hb1 hn0 hb0 ha0
    refine wp_region_held_drew (S := fun X : World => X.cell? ⟨w.heap.size, 0, none⟩ = some (.bool false) ∧ X.cell? ⟨w.heap.size, 1, none⟩ = some (.slice ad n.items.length c) ∧ X.cell? ⟨w.heap.size, 2, none⟩ = some (.slice kd n.kids.length d)) (by kernel_rfl) hS0 (fun hHeld => ?_)
    refine wpAnyH_take (i := 0) (v := ?_) rfl (by kernel_rfl) (by kernel_rfl) (by kernel_rfl) (fun _ _ _ h => h) (Or.inl ⟨(by simp [Region.wanted]), ?_⟩) (hHeld) ?_
    rotate_left
    · (intro w hSw; (try dsimp only at hSw); ((go_simp) <;> (with_reducible rfl)))
    try simp only [Act.put, List.setIfInBounds_toArray]
    refine wpAnyH_take (i := 1) (v := ?_) rfl (by kernel_rfl) (by kernel_rfl) (by kernel_rfl) (fun _ _ _ h => h) (Or.inl ⟨(by simp [Region.wanted]), ?_⟩) (hHeld) ?_
    rotate_left
    · (intro w hSw; (try dsimp only at hSw); ((go_simp) <;> (with_reducible rfl)))
    try simp only [Act.put]
    refine wpAnyH_take (i := 2) (v := ?_) rfl (by kernel_rfl) (by kernel_rfl) (by kernel_rfl) (fun _ _ _ h => h) (Or.inl ⟨(by simp [Region.wanted]), ?_⟩) (hHeld) ?_
    rotate_left
    · (intro w hSw; (try dsimp only at hSw); ((go_simp) <;> (with_reducible rfl)))
    try simp only [Act.put]
    refine wpAnyH_take (i := 3) (v := ?_) rfl (by kernel_rfl) (by kernel_rfl) (by kernel_rfl) (fun _ _ _ h => h) (Or.inl ⟨(by simp [Region.wanted]), ?_⟩) (hHeld) ?_
    rotate_left
    · (intro w hSw; (try dsimp only at hSw); ((go_simp) <;> (with_reducible rfl)))
    try simp only [Act.put]
    refine wpAnyH_take (i := 4) (v := ?_) rfl (by kernel_rfl) (by kernel_rfl) (by kernel_rfl) (fun _ _ _ h => h) (Or.inl ⟨(by simp [Region.wanted]), ?_⟩) (hHeld) ?_
    rotate_left
    · (intro w hSw; (try dsimp only at hSw); ((go_simp) <;> (with_reducible rfl)))
    try simp only [Act.put]
    refine wpAnyH_take (i := 5) (v := ?_) rfl (by kernel_rfl) (by kernel_rfl) (by kernel_rfl) (fun _ _ _ h => h) (Or.inl ⟨(by simp [Region.wanted]), ?_⟩) (hHeld) ?_
    rotate_left
    · (intro w hSw; (try dsimp only at hSw); ((go_simp) <;> (with_reducible rfl)))
    try simp only [Act.put]
    refine wpAnyH_take (i := 6) (v := ?_) rfl (by kernel_rfl) (by kernel_rfl) (by kernel_rfl) (fun _ _ _ h => h) (Or.inl ⟨(by simp [Region.wanted]), ?_⟩) (hHeld) ?_
    rotate_left
    · (intro w hSw; (try dsimp only at hSw); ((go_simp) <;> (with_reducible rfl)))
    try simp only [Act.put]
    refine wpAnyH_take (i := 7) (v := ?_) rfl (by kernel_rfl) (by kernel_rfl) (by kernel_rfl) (fun _ _ _ h => h) (Or.inl ⟨(by simp [Region.wanted]), ?_⟩) (hHeld) ?_
    rotate_left
    · (intro w hSw; (try dsimp only at hSw); ((go_simp) <;> (with_reducible rfl)))
    try simp only [Act.put]
    refine wpAnyH_take (i := 8) (v := ?_) rfl (by kernel_rfl) (by kernel_rfl) (by kernel_rfl) (fun _ _ _ h => h) (Or.inl ⟨(by simp [Region.wanted]), ?_⟩) (hHeld) ?_
    rotate_left
    · (intro w hSw; (try dsimp only at hSw); ((go_simp) <;> (with_reducible rfl)))
    try simp only [Act.put]
    refine wpAnyH_take (i := 9) (v := ?_) rfl (by kernel_rfl) (by kernel_rfl) (by kernel_rfl) (fun _ _ _ h => h) (Or.inl ⟨(by simp [Region.wanted]), ?_⟩) (hHeld) ?_
    rotate_left
    · (intro w hSw; (try dsimp only at hSw); ((go_simp) <;> (with_reducible rfl)))
    try simp only [Act.put]
    refine wpAnyH_take (i := 10) (v := ?_) rfl (by kernel_rfl) (by kernel_rfl) (by kernel_rfl) (fun _ _ _ h => h) (Or.inl ⟨(by simp [Region.wanted]), ?_⟩) (hHeld) ?_
    rotate_left
    · (intro w hSw; (try dsimp only at hSw); ((go_simp) <;> (with_reducible rfl)))
    try simp only [Act.put]
    refine wpAnyH_take (i := 11) (v := ?_) rfl (by kernel_rfl) (by kernel_rfl) (by kernel_rfl) (fun _ _ _ h => h) (Or.inl ⟨(by simp [Region.wanted]), ?_⟩) (hHeld) ?_
    rotate_left
    · (intro w hSw; (try dsimp only at hSw); ((go_simp) <;> (with_reducible rfl)))
    try simp only [Act.put]
    refine wpAnyH_take (i := 12) (v := ?_) rfl (by kernel_rfl) (by kernel_rfl) (by kernel_rfl) (fun _ _ _ h => h) (Or.inl ⟨(by simp [Region.wanted]), ?_⟩) (hHeld) ?_
    rotate_left
    · (intro w hSw; (try dsimp only at hSw); ((go_simp) <;> (with_reducible rfl)))
    try simp only [Act.put]
    refine wpAnyH_take (i := 13) (v := ?_) rfl (by kernel_rfl) (by kernel_rfl) (by kernel_rfl) (fun _ _ _ h => h) (Or.inl ⟨(by simp [Region.wanted]), ?_⟩) (hHeld) ?_
    rotate_left
    · (intro w hSw; (try dsimp only at hSw); ((go_simp) <;> (with_reducible rfl)))
    try simp only [Act.put]
    refine wpAnyH_take (i := 14) (v := ?_) rfl (by kernel_rfl) (by kernel_rfl) (by kernel_rfl) (fun _ _ _ h => h) (Or.inl ⟨(by simp [Region.wanted]), ?_⟩) (hHeld) ?_
    rotate_left
    · (intro w hSw; (try dsimp only at hSw); ((go_simp) <;> (with_reducible rfl)))
    try simp only [Act.put]
    refine wpAnyH_take (i := 15) (v := ?_) rfl (by kernel_rfl) (by kernel_rfl) (by kernel_rfl) (fun _ _ _ h => h) (Or.inl ⟨(by simp [Region.wanted]), ?_⟩) (hHeld) ?_
    rotate_left
    · (intro w hSw; (try dsimp only at hSw); ((go_simp) <;> (with_reducible rfl)))
    try simp only [Act.put]
    refine wpAnyH_take (i := 16) (v := ?_) rfl (by kernel_rfl) (by kernel_rfl) (by kernel_rfl) (fun _ _ _ h => h) (Or.inl ⟨(by simp [Region.wanted]), ?_⟩) (hHeld) ?_
    rotate_left
    · (intro w hSw; (try dsimp only at hSw); ((go_simp) <;> (with_reducible rfl)))
    try simp only [Act.put]
    refine wpAnyH_take (i := 17) (v := ?_) rfl (by kernel_rfl) (by kernel_rfl) (by kernel_rfl) (fun _ _ _ h => h) (Or.inl ⟨(by simp [Region.wanted]), ?_⟩) (hHeld) ?_
    rotate_left
    · (intro w hSw; (try dsimp only at hSw); ((go_simp) <;> (with_reducible rfl)))
    try simp only [Act.put]
    refine wpAnyH_take (i := 18) (v := ?_) rfl (by kernel_rfl) (by kernel_rfl) (by kernel_rfl) (fun _ _ _ h => h) (Or.inl ⟨(by simp [Region.wanted]), ?_⟩) (hHeld) ?_
    rotate_left
    · (intro w hSw; (try dsimp only at hSw); ((go_simp) <;> (with_reducible rfl)))
    try simp only [Act.put]
    refine wpAnyH_take (i := 19) (v := ?_) rfl (by kernel_rfl) (by kernel_rfl) (by kernel_rfl) (fun _ _ _ h => h) (Or.inl ⟨(by simp [Region.wanted]), ?_⟩) (hHeld) ?_
    rotate_left
    · (intro w hSw; (try dsimp only at hSw); ((go_simp) <;> (with_reducible rfl)))
    try simp only [Act.put]
    refine wpAnyH_take (i := 20) (v := ?_) rfl (by kernel_rfl) (by kernel_rfl) (by kernel_rfl) (fun _ _ _ h => h) (Or.inl ⟨(by simp [Region.wanted]), ?_⟩) (hHeld) ?_
    rotate_left
    · (intro w hSw; (try dsimp only at hSw); ((go_simp) <;> (with_reducible rfl)))
    try simp only [Act.put]
    refine wpAnyH_ready (rs := [21]) (by kernel_rfl) (by simp) ?_
    refine AllReadyH.cons rfl (fun K hK => ?_) AllReadyH.nil
    go_simp
    refine hK.out _ _ HS1.out (fun hHeld => ?_)
    clear hK K
    try simp only [Act.put, List.setIfInBounds_toArray, List.set_cons_zero, List.set_cons_succ]
    generalize ((W.setCell ⟨w.heap.size + 1, 0, none⟩ (.bool false)).setCell ⟨w.heap.size + 1, 1, none⟩ (.slice ad i c)).setCell ⟨w.heap.size + 1, 2, none⟩ (.slice kd (i + 1) d) = X1 at *
    clear p0 p1 p2 pf
    obtain ⟨r0, r1, r2⟩ := cells3_of HB1.out
    have rf := fun j => frozen_of_row _ (w.heap.size + 2) j _ _ HB1.out
    refine wpAnyH_ready (rs := [22]) (by kernel_rfl) (by simp) ?_
    refine AllReadyH.cons rfl (fun K hK => ?_) AllReadyH.nil
    go_simp
    refine hK.out _ _ HS2.out (fun hHeld => ?_)
    clear hK K
    try simp only [Act.put, List.setIfInBounds_toArray, List.set_cons_zero, List.set_cons_succ]
    generalize ((X1.setCell ⟨w.heap.size + 2, 0, none⟩ (.bool false)).setCell ⟨w.heap.size + 2, 1, none⟩ (.slice A (n.items.length - (i + 1)) (c - (i + 1)))).setCell ⟨w.heap.size + 2, 2, none⟩ (.slice A4 (n.kids.length - (i + 1)) (d - (i + 1))) = X2 at *
    refine wpAnyH_done (by kernel_rfl) ?_ _
    go_wp2
    obtain ⟨y0, y1, y2⟩ := HA.out
    obtain ⟨t0, t1, t2⟩ := HBB.out
    simp only [bodyPost, results, Try.results40]
    simp [go_sem, y0, y1, y2, t0, t1, t2]
    refine ⟨_, _, ⟨rfl, rfl⟩, ?_, ?_, HBe.out.os, HBe.out.tape, HBe.out.output, HBe.out.size, HBe.out.block⟩
    · rw [HeL.out]; exact ⟨_, _, rfl, HI1.out, HK1.out⟩
    · rw [HeR.out]; exact ⟨_, _, rfl, HI2.out, HK2.out⟩

end Go.Proofs.Ytplfcpbjlhobeaa
