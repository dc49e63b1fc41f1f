/-
  CellBack: the walk.
-/
import Derived.Test.YtohdakjfacalbaaDWorks
import Derived.Test.YtohdakjfacalbaaRSmall
import Derived.Test.YtohdakjfacalbaaLSame
namespace Go.Proofs.Ytohdakjfacalbaa
open Go.RowKit

theorem wrong_zero {n : Cm.Nd} (h : Cm.wrong n = 0) : Cm.Right n ∧ (Cm.form n).length ≤ 240 := by
  unfold Cm.wrong at h
  by_cases h1 : Cm.Right n
  · by_cases h2 : 240 < (Cm.form n).length
    · rw [if_pos h1, if_pos h2] at h; omega
    · exact ⟨h1, by omega⟩
  · rw [if_neg h1] at h; omega
theorem right_kids {n : Cm.Nd} (h : Cm.Right n) : n.kids.length ≤ n.items.length + 1 := by
  have := h.2
  by_cases hlf : n.leaf = true
  · rw [if_pos hlf] at this; rw [this]; simp
  · rw [if_neg hlf] at this; omega

set_option maxRecDepth 100000 in
set_option maxHeartbeats 4000000 in
theorem back_walk (v : Value) (n : Cm.Nd) (u : Value) (l : List UInt8) (w : World) (hv : NdS w w.heap.size v n) (hu : Byts w w.heap.size u l) :
    Calls Try.prog 7 #[v, u] w fun e w' => e = .returned (.bool true) ∧ Below w.heap.size w w' := by
  have HN : Hid (∀ W : World, Below w.heap.size w W → NdS W w.heap.size v n) := fun W h => hv.below h (Nat.le_refl _)
  have HB : Hid (∀ W : World, Below w.heap.size w W → Byts W w.heap.size u l) := fun W h => hu.below h (Nat.le_refl _)
  obtain ⟨vi, vk, rfl, ⟨ad, c, rfl, -⟩, ⟨kd, d, rfl, -⟩⟩ := hv
  obtain ⟨ad0, c0, rfl, -⟩ := hu
  have hb0 := (Below.refl w.heap.size w).alloc (Nat.le_refl _) (.cells #[.bool n.leaf, .slice ad n.items.length c, .slice kd n.kids.length d] 28)
  have hx0 := heap_alloc_new w (.cells #[.bool n.leaf, .slice ad n.items.length c, .slice kd n.kids.length d] 28)
  go_enter Try.func7, Try.ntmps7
  go_wp2_with fail
  refine (works_any _).mono ?_
  rintro e w1 ⟨rfl, hb1⟩
  have hx1 := (hb1.block w.heap.size (lt_of_heap hx0)).trans hx0
  have hw1 := hb0.trans (hb1.mono hb0.size)
  clear hb0 hx0 hb1
  obtain ⟨x0, x1, x2⟩ := cells3_of hx1
  go_wp2_with fail
  refine (long_any n _ _ _ (HN.out _ hw1)).mono ?_
  rintro e w2 ⟨rfl, hb2⟩
  have hx2 := (hb2.block w.heap.size (lt_of_heap hx1)).trans hx1
  have hw2 := hw1.trans (hb2.mono hw1.size)
  clear hw1 hx1 hb2 x0 x1 x2
  obtain ⟨x0, x1, x2⟩ := cells3_of hx2
  by_cases hlg : 300 < n.items.length ∨ 300 < n.kids.length
  · rw [decide_eq_true hlg]
    clear hlg
    go_wp2
    go_ret
    exact ⟨rfl, hw2⟩
  rw [decide_eq_false hlg]
  have hli : n.items.length ≤ 300 := by omega
  have hlk : n.kids.length ≤ 300 := by omega
  clear hlg
  by_cases hll : 1000 < l.length
  · have hl' : (1000 : Int) < (l.length : Int) := by omega
    go_wp2
    go_ret
    exact ⟨rfl, hw2⟩
  have hl' : ¬ (1000 : Int) < (l.length : Int) := by omega
  have hl2 : decide ((1000 : Int) < (l.length : Int)) = false := decide_eq_false hl'
  go_wp2_with fail
  refine (Put_any n _ _ _ (HN.out _ hw2) hw2.size (by omega) (by omega)).mono ?_
  rintro e w3 ⟨hb3, h3⟩
  have hx3 := (hb3.block w.heap.size (lt_of_heap hx2)).trans hx2
  have hw3 := hw2.trans (hb3.mono hw2.size)
  have hs3 := hb3.size
  have hs2 := hw2.size
  clear hx2 hw2 hb3 x0 x1 x2
  obtain ⟨K, hK⟩ : ∃ K, Cm.wrong n = K := ⟨_, rfl⟩
  rw [hK] at h3
  obtain ⟨e3, b3, he3, h3'⟩ : ∃ (e3 : Nat) (b3 : Value), e = .returned (.tuple #[b3, .int .i64 (e3 : Int)]) ∧ (e3 = 0 → Cm.wrong n = 0 ∧ ∃ g, b3 = .slice (some ⟨g, 0, none⟩) 240 240 ∧ Blk w3 g (Cm.page n)) := by
    rcases h3 with ⟨h1, g, h2, _, h4⟩ | ⟨h1, h2⟩
    · exact ⟨0, _, h2, fun _ => ⟨hK.trans h1, g, rfl, h4⟩⟩
    · exact ⟨K, _, h2, fun h => absurd h h1⟩
  subst he3
  have H3 : Hid _ := h3'
  clear h3 h3' hK
  go_upto_if 25 with fail
  go_cut [6] (fun _ wx => Below w.heap.size w wx)
  case first =>
    by_cases he : e3 = 0
    · subst he
      obtain ⟨h0, g, hb, hB3⟩ := H3.out rfl
      subst hb
      obtain ⟨hR, hF⟩ := wrong_zero h0
      have HG : Hid (Cm.got (Cm.page n) = some n) := Cm.got_page hR hF
      have HW : Hid (Cm.wrong n = 0) := h0
      have hl0 := Cm.page_length hF
      have hy := hB3.byts 0 240 240 (by omega) (Nat.le_refl _)
      rw [List.drop_zero, List.take_of_length_le (by omega)] at hy
      have hg3 := hB3.lt
      clear hR hF h0 hl0 H3 hB3
      go_wp2_with fail
      refine (Get_any _ _ _ _ hy (by omega)).mono ?_
      rintro e w4 ⟨h4, hb4⟩
      rcases h4 with ⟨m, vi, vk, hgot, rfl, hoi, hok⟩ | ⟨hgot, -⟩
      case inr => rw [HG.out] at hgot; cases hgot
      rw [HG.out] at hgot
      simp only [Option.some.injEq] at hgot
      subst hgot
      have hM4 := OwnC.nds hoi hok
      obtain ⟨adi, ci, hvi, -⟩ := hoi.its
      obtain ⟨adk, ck, hvk, -⟩ := hok.ints
      subst hvi
      subst hvk
      have hx4 := (hb4.block w.heap.size (lt_of_heap hx3)).trans hx3
      have hw4 := hw3.trans (hb4.mono hw3.size)
      have hs4 := hb4.size
      clear hx3 hw3 hb4 hy hoi hok
      have hm5 := heap_alloc_new w4 (.cells #[.bool n.leaf, .slice adi n.items.length ci, .slice adk n.kids.length ck] 28)
      have hb5 := (Below.refl w4.heap.size w4).alloc (Nat.le_refl _) (.cells #[.bool n.leaf, .slice adi n.items.length ci, .slice adk n.kids.length ck] 28)
      go_upto_region 8 with fail
      generalize w4.alloc (.cells #[.bool n.leaf, .slice adi n.items.length ci, .slice adk n.kids.length ck] 28) = W5 at *
      have hx5 := (hb5.block w.heap.size (lt_of_heap hx4)).trans hx4
      have hw5 := hw4.trans (hb5.mono hw4.size)
      have hM5 := hM4.below hb5 (Nat.le_refl _)
      have hs5 := hb5.size
      have hlt4 := lt_of_heap hm5
      clear hx4 hw4 hM4 hb5
      obtain ⟨x0, x1, x2⟩ := cells3_of hx5
      obtain ⟨y0, y1, y2⟩ := cells3_of hm5
      go_wp2_with fail
      refine (same_any n n _ _ w4.heap.size _ hM5 ((HN.out _ hw5).mono (by omega)) (by omega) (by omega) (by omega)).mono ?_
      rintro e w6 ⟨rfl, hb6⟩
      rw [decide_eq_true rfl]
      have hm6 := (hb6.block w4.heap.size hlt4).trans hm5
      have hw6 := hw5.trans (hb6.mono hw5.size)
      have hM6 := hM5.below hb6 (by omega)
      have hs6 := hb6.size
      clear hx5 hw5 hM5 hb6 hm5 x0 x1 x2 y0 y1 y2
      obtain ⟨y0, y1, y2⟩ := cells3_of hm6
      go_wp2_with fail
      refine (Check_any n _ _ _ hM6 (by omega) (by omega) (by omega)).mono ?_
      rw [HW.out]
      rintro e w7 ⟨rfl, hb7⟩
      go_wp2
      go_meet
      exact hw6.trans (hb7.mono hw6.size)
    · have he' : ((e3 : Int) == 0) = false := by simp [he]
      go_wp2
      go_meet
      exact hw3
  case rest =>
    clear hx3 hw3 H3 hs3 hs2
    go_wp2_with fail
    refine (Get_any _ l _ _ (HB.out _ hcut) hcut.size).mono ?_
    rintro e w4 ⟨h4, hb4⟩
    have hw4 := hcut.trans (hb4.mono hcut.size)
    have hs4 := hb4.size
    rcases h4 with ⟨m, vi, vk, hgot, rfl, hoi, hok⟩ | ⟨hgot, rfl⟩
    · obtain ⟨hR, hF, hP⟩ := Cm.got_some hgot
      have hfew := Cm.few_items m
      have hkl := right_kids hR
      have hil : m.items.length ≤ 300 := by omega
      have hkl' : m.kids.length ≤ 301 := by omega
      have HW : Hid (Cm.wrong m = 0) := by show _ = _; unfold Cm.wrong; rw [if_pos hR, if_neg (by omega)]
      have HP : Hid (Cm.page m = l) := hP
      have HFl : Hid ((Cm.form m).length ≤ 240) := hF
      have hM4 := OwnC.nds hoi hok
      obtain ⟨adi, ci, hvi, -⟩ := hoi.its
      obtain ⟨adk, ck, hvk, -⟩ := hok.ints
      subst hvi
      subst hvk
      clear hR hF hP hfew hgot hoi hok hkl hb4
      have hm5 := heap_alloc_new w4 (.cells #[.bool m.leaf, .slice adi m.items.length ci, .slice adk m.kids.length ck] 28)
      have hb5 := (Below.refl w4.heap.size w4).alloc (Nat.le_refl _) (.cells #[.bool m.leaf, .slice adi m.items.length ci, .slice adk m.kids.length ck] 28)
      go_upto_region 11 with fail
      generalize w4.alloc (.cells #[.bool m.leaf, .slice adi m.items.length ci, .slice adk m.kids.length ck] 28) = W5 at *
      have hw5 := hw4.trans (hb5.mono hw4.size)
      have hM5 := hM4.below hb5 (Nat.le_refl _)
      have hs5 := hb5.size
      clear hw4 hM4 hb5
      obtain ⟨y0, y1, y2⟩ := cells3_of hm5
      go_wp2_with fail
      refine (Put_any m _ _ _ hM5 (by omega) (by omega) (by omega)).mono ?_
      rw [HW.out]
      rintro e w6 ⟨hb6, h6⟩
      rcases h6 with ⟨-, g, rfl, hg, hB6⟩ | ⟨h6, -⟩
      case inr => exact absurd rfl h6
      have hw6 := hw5.trans (hb6.mono hw5.size)
      have hl0 := Cm.page_length HFl.out
      have hy := hB6.byts 0 240 240 (by omega) (Nat.le_refl _)
      rw [List.drop_zero, List.take_of_length_le (by omega), HP.out] at hy
      have HE := Equal_any _ _ _ _ _ _ _ hy (HB.out _ hw6)
      rw [decide_eq_true rfl] at HE
      clear hl0 hy hB6
      go_wp2_with fail
      refine HE.mono ?_
      rintro e w8 ⟨rfl, hw8⟩
      rw [hw8]
      clear hw8 HE
      go_wp2
      go_ret
      exact ⟨rfl, hw6⟩
    · go_wp2
      go_ret
      exact ⟨rfl, hw4.alloc hw4.size _⟩

end Go.Proofs.Ytohdakjfacalbaa
