/-
  CellForms: the walk.
-/
import Derived.Test.YtohdakjfacalbaaDWorks
import Derived.Test.YtohdakjfacalbaaRCopied
import Derived.Test.YtohdakjfacalbaaRPage
namespace Go.Proofs.Ytohdakjfacalbaa
open Go.RowKit

set_option maxRecDepth 100000 in
set_option maxHeartbeats 4000000 in
theorem forms_walk (v : Value) (n : Cm.Nd) (w : World) (hv : NdS w w.heap.size v n) :
    Calls Try.prog 4 #[v] w fun e w' => e = .returned (.bool true) ∧ Below w.heap.size w w' := by
  have HN : Hid (∀ W : World, Below w.heap.size w W → NdS W w.heap.size v n) := fun W h => hv.below h (Nat.le_refl _)
  obtain ⟨vi, vk, rfl, ⟨ad, c, rfl, -⟩, ⟨kd, d, rfl, -⟩⟩ := hv
  have hb0 := (Below.refl w.heap.size w).alloc (Nat.le_refl _) (.cells #[.bool n.leaf, .slice ad n.items.length c, .slice kd n.kids.length d] 28)
  have hx0 := heap_alloc_new w (.cells #[.bool n.leaf, .slice ad n.items.length c, .slice kd n.kids.length d] 28)
  go_enter Try.func4, Try.ntmps4
  go_wp2_with fail
  refine (works_any _).mono ?_
  rintro e w1 ⟨rfl, hb1⟩
  have hx1 := (hb1.block w.heap.size (lt_of_heap hx0)).trans hx0
  have hw1 := hb0.trans (hb1.mono hb0.size)
  clear hb0 hx0 hb1
  obtain ⟨x0, x1, x2⟩ := cells3_of hx1
  go_wp2_with fail
  refine (long_any n _ _ _ (HN.out _ hw1)).mono ?_
  rintro e w2 ⟨rfl, hb2⟩
  have hx2 := (hb2.block w.heap.size (lt_of_heap hx1)).trans hx1
  have hw2 := hw1.trans (hb2.mono hw1.size)
  clear hw1 hx1 hb2 x0 x1 x2
  obtain ⟨x0, x1, x2⟩ := cells3_of hx2
  by_cases hlg : 300 < n.items.length ∨ 300 < n.kids.length
  · rw [decide_eq_true hlg]
    clear hlg
    go_wp2
    go_ret
    exact ⟨rfl, hw2⟩
  rw [decide_eq_false hlg]
  have hli : n.items.length ≤ 300 := by omega
  have hlk : n.kids.length ≤ 300 := by omega
  clear hlg
  go_wp2_with fail
  refine (copied_any n _ _ _ (HN.out _ hw2) hw2.size (by omega) (by omega)).mono ?_
  rintro e w3 ⟨ui, uk, rfl, ho3, hk3, hb3⟩
  have hM3 := OwnC.nds ho3 hk3
  obtain ⟨adi, ci, hvi, -⟩ := ho3.its
  obtain ⟨adk, ck, hvk, -⟩ := hk3.ints
  subst hvi
  subst hvk
  have hx3 := (hb3.block w.heap.size (lt_of_heap hx2)).trans hx2
  have hw3 := hw2.trans (hb3.mono hw2.size)
  clear hw2 hx2 hb3 x0 x1 x2 ho3 hk3
  have hxi := heap_alloc_new w3 (.cells #[.bool n.leaf, .slice adi n.items.length ci, .slice adk n.kids.length ck] 28)
  have hb4 := (Below.refl w3.heap.size w3).alloc (Nat.le_refl _) (.cells #[.bool n.leaf, .slice adi n.items.length ci, .slice adk n.kids.length ck] 28)
  have hs4 : (w3.alloc (.cells #[.bool n.leaf, .slice adi n.items.length ci, .slice adk n.kids.length ck] 28)).heap.size = w3.heap.size + 1 := by simp
  go_upto_region 6 with fail
  generalize w3.alloc (.cells #[.bool n.leaf, .slice adi n.items.length ci, .slice adk n.kids.length ck] 28) = W4 at *
  have hlt3 := lt_of_heap hx3
  have HM : Hid (∀ W : World, Below W4.heap.size W4 W → NdS W w3.heap.size (.agg #[.bool n.leaf, .slice adi n.items.length ci, .slice adk n.kids.length ck]) n) := fun W h => (hM3.below hb4 (Nat.le_refl _)).below h (by omega)
  have HX : Hid (∀ W : World, Below W4.heap.size W4 W → W.heap[w.heap.size]? = some (.cells #[.bool n.leaf, .slice ad n.items.length c, .slice kd n.kids.length d] 28 (0, 0)) ∧ W.heap[w3.heap.size]? = some (.cells #[.bool n.leaf, .slice adi n.items.length ci, .slice adk n.kids.length ck] 28 (0, 0)) ∧ Below w.heap.size w W) := fun W h =>
    ⟨(h.block w.heap.size (by omega)).trans ((hb4.block w.heap.size hlt3).trans hx3), (h.block w3.heap.size (by omega)).trans hxi, (hw3.trans (hb4.mono hw3.size)).trans (h.mono (by omega))⟩
  have hwW : Below W4.heap.size W4 W4 := Below.refl _ _
  clear hM3 hxi hb4 hx3 hw3
  have hsz : w3.heap.size < W4.heap.size := by omega
  have hszw : w.heap.size < w3.heap.size := hlt3
  clear hs4 hlt3
  obtain ⟨hq, hi, hw4⟩ := HX.out _ hwW
  obtain ⟨x0, x1, x2⟩ := cells3_of hq
  obtain ⟨K, hK⟩ : ∃ K, Cm.wrong n = K := ⟨_, rfl⟩
  have HK : Hid ((K = 2 ∧ ¬ Cm.Right n) ∨ (K = 3 ∧ Cm.Right n) ∨ (K = 0 ∧ Cm.Right n ∧ (Cm.form n).length ≤ 240)) := by
    show _ ∨ _
    rw [← hK]
    unfold Cm.wrong
    by_cases h1 : Cm.Right n
    · by_cases h2 : 240 < (Cm.form n).length
      · rw [if_pos h1, if_pos h2]; exact .inr (.inl ⟨rfl, h1⟩)
      · rw [if_pos h1, if_neg h2]; exact .inr (.inr ⟨rfl, h1, by omega⟩)
    · rw [if_neg h1]; exact .inl ⟨rfl, h1⟩
  have HSz : Hid (Cm.size n = if K = 2 then 0 else (Cm.form n).length) := by
    show _ = _
    unfold Cm.size
    rcases HK.out with ⟨h1, h2⟩ | ⟨h1, h2⟩ | ⟨h1, h2, _⟩
    · rw [if_neg h2, if_pos h1]
    · rw [if_pos h2, if_neg (by omega)]
    · rw [if_pos h2, if_neg (by omega)]
  go_wp2_with fail
  refine (Wrong_any n _ _ _ (HN.out _ hw4) (by omega) (by omega) (by omega)).mono ?_
  rw [hK]
  rintro e w5 ⟨rfl, hb5⟩
  obtain ⟨hq5, hi5, hw5⟩ := HX.out _ hb5
  clear hq hi hw4 x0 x1 x2 hwW
  obtain ⟨x0, x1, x2⟩ := cells3_of hi5
  have hs5 := hb5.size
  go_wp2_with fail
  refine (Put_any n _ _ _ (HM.out _ hb5) (by omega) (by omega) (by omega)).mono ?_
  rw [hK]
  rintro e w6 ⟨hb6, h6⟩
  have hb6' := hb5.trans (hb6.mono hs5)
  obtain ⟨hq6, hi6, hw6⟩ := HX.out _ hb6'
  have hs6 := hb6'.size
  clear hq5 hi5 hw5 x0 x1 x2
  obtain ⟨x0, x1, x2⟩ := cells3_of hq6
  obtain ⟨y0, y1, y2⟩ := cells3_of hi6
  rcases h6 with ⟨hK0, g, rfl, hg, hB6⟩ | ⟨hK0, rfl⟩
  · subst hK0
    have hR : Hid (Cm.Right n) := by rcases HK.out with h | h | h <;> first | exact h.2.1 | omega
    have hF : Hid ((Cm.form n).length ≤ 240) := by rcases HK.out with h | h | h <;> first | exact h.2.2 | omega
    replace HSz : Hid (Cm.size n = (Cm.form n).length) := by show _ = _; simpa using HSz.out
    clear HK
    go_wp2_with fail
    refine (Form_any n _ _ _ (HN.out _ hw6) (by omega) (by omega) (Cm.Right.fit hR.out)).mono ?_
    rintro e w7 ⟨v7, rfl, ho7, hb7⟩
    obtain ⟨ad7, c7, hv7, -⟩ := ho7.byts
    subst hv7
    have hB7 := hB6.below hb7 hB6.lt
    replace hb7 := hb6'.trans (hb7.mono hs6)
    obtain ⟨hq7, hi7, hw7⟩ := HX.out _ hb7
    have hs7 := hb7.size
    clear hq6 hi6 hw6 x0 x1 x2 y0 y1 y2
    obtain ⟨x0, x1, x2⟩ := cells3_of hq7
    obtain ⟨y0, y1, y2⟩ := cells3_of hi7
    go_wp2_with fail
    refine (Check_any n _ _ _ (HM.out _ hb7) (by omega) (by omega) (by omega)).mono ?_
    rw [hK]
    rintro e w8 ⟨rfl, hb8⟩
    have hb8' := hb7.trans (hb8.mono hs7)
    obtain ⟨hq8, hi8, hw8⟩ := HX.out _ hb8'
    have hs8 := hb8'.size
    have hB8 := hB7.below hb8 hB7.lt
    clear hq7 hi7 hw7 x0 x1 x2 y0 y1 y2
    obtain ⟨x0, x1, x2⟩ := cells3_of hq8
    obtain ⟨y0, y1, y2⟩ := cells3_of hi8
    go_wp2_with fail
    refine (Size_any n _ _ _ (HM.out _ hb8') (by omega) (by omega) (by omega)).mono ?_
    rw [HSz.out]
    rintro e w9 ⟨rfl, hb9⟩
    have hb9' := hb8'.trans (hb9.mono hs8)
    obtain ⟨hq9, hi9, hw9⟩ := HX.out _ hb9'
    have hs9 := hb9'.size
    have hB9 := hB8.below hb9 hB8.lt
    clear hq8 hi8 hw8 x0 x1 x2 y0 y1 y2
    obtain ⟨x0, x1, x2⟩ := cells3_of hq9
    obtain ⟨y0, y1, y2⟩ := cells3_of hi9
    go_wp2_with fail
    refine (Same_any n n _ _ w3.heap.size _ (HM.out _ hb9') ((HN.out _ hw9).mono (by omega)) (by omega) (by omega) (by omega)).mono ?_
    rintro e wa ⟨rfl, hba⟩
    rw [decide_eq_true rfl]
    have hba' := hb9'.trans (hba.mono hs9)
    obtain ⟨hqa, hia, hwa⟩ := HX.out _ hba'
    have hsa := hba'.size
    have hBa := hB9.below hba hB9.lt
    clear hq9 hi9 hw9 x0 x1 x2 y0 y1 y2
    obtain ⟨x0, x1, x2⟩ := cells3_of hqa
    go_wp2_with fail
    refine (Page_any n _ _ _ (HN.out _ hwa) (by omega) (by omega) (Cm.Right.fit hR.out) hF.out).mono ?_
    rintro e wb ⟨gb, rfl, hgb, hBb, hbb⟩
    have hB0 := hBa.below hbb hBa.lt
    have hl0 := Cm.page_length hF.out
    have hy1 := hB0.byts 0 240 240 (by omega) (Nat.le_refl _)
    have hy2 := hBb.byts 0 240 240 (by omega) (Nat.le_refl _)
    have HE := Equal_any _ _ _ _ _ _ _ hy1 hy2
    rw [decide_eq_true rfl] at HE
    go_wp2_with fail
    refine HE.mono ?_
    rintro e wc ⟨rfl, hwc⟩
    rw [hwc]
    clear hwc HE
    go_wp2
    go_ret
    exact ⟨rfl, hwa.trans (hbb.mono hwa.size)⟩
  · by_cases h2 : K = 2
    · subst h2
      replace HSz : Hid (Cm.size n = 0) := by show _ = _; simpa using HSz.out
      clear HK hK0
      have hb7 := hb6'
      obtain ⟨hq7, hi7, hw7⟩ := HX.out _ hb7
      have hs7 := hb7.size
      clear hq6 hi6 hw6
      go_wp2_with fail
      refine (Check_any n _ _ _ (HM.out _ hb7) (by omega) (by omega) (by omega)).mono ?_
      rw [hK]
      rintro e w8 ⟨rfl, hb8⟩
      have hb8' := hb7.trans (hb8.mono hs7)
      obtain ⟨hq8, hi8, hw8⟩ := HX.out _ hb8'
      have hs8 := hb8'.size
      clear hq7 hi7 hw7 x0 x1 x2 y0 y1 y2
      obtain ⟨x0, x1, x2⟩ := cells3_of hq8
      obtain ⟨y0, y1, y2⟩ := cells3_of hi8
      go_wp2_with fail
      refine (Size_any n _ _ _ (HM.out _ hb8') (by omega) (by omega) (by omega)).mono ?_
      rw [HSz.out]
      rintro e w9 ⟨rfl, hb9⟩
      have hb9' := hb8'.trans (hb9.mono hs8)
      obtain ⟨hq9, hi9, hw9⟩ := HX.out _ hb9'
      have hs9 := hb9'.size
      clear hq8 hi8 hw8 x0 x1 x2 y0 y1 y2
      obtain ⟨x0, x1, x2⟩ := cells3_of hq9
      obtain ⟨y0, y1, y2⟩ := cells3_of hi9
      go_wp2_with fail
      refine (Same_any n n _ _ w3.heap.size _ (HM.out _ hb9') ((HN.out _ hw9).mono (by omega)) (by omega) (by omega) (by omega)).mono ?_
      rintro e wa ⟨rfl, hba⟩
      rw [decide_eq_true rfl]
      have hba' := hb9'.trans (hba.mono hs9)
      obtain ⟨hqa, hia, hwa⟩ := HX.out _ hba'
      have hsa := hba'.size
      clear hq9 hi9 hw9 x0 x1 x2 y0 y1 y2
      obtain ⟨x0, x1, x2⟩ := cells3_of hqa
      go_wp2
      go_ret
      exact ⟨rfl, hwa⟩
    · have h3 : K = 3 := by rcases HK.out with h | h | h <;> omega
      subst h3
      have hR : Hid (Cm.Right n) := by rcases HK.out with h | h | h <;> first | exact h.2 | omega
      replace HSz : Hid (Cm.size n = (Cm.form n).length) := by show _ = _; simpa using HSz.out
      clear HK hK0 h2
      go_wp2_with fail
      refine (Form_any n _ _ _ (HN.out _ hw6) (by omega) (by omega) (Cm.Right.fit hR.out)).mono ?_
      rintro e w7 ⟨v7, rfl, ho7, hb7⟩
      obtain ⟨ad7, c7, hv7, -⟩ := ho7.byts
      subst hv7
      replace hb7 := hb6'.trans (hb7.mono hs6)
      obtain ⟨hq7, hi7, hw7⟩ := HX.out _ hb7
      have hs7 := hb7.size
      clear hq6 hi6 hw6 x0 x1 x2 y0 y1 y2
      obtain ⟨x0, x1, x2⟩ := cells3_of hq7
      obtain ⟨y0, y1, y2⟩ := cells3_of hi7
      go_wp2_with fail
      refine (Check_any n _ _ _ (HM.out _ hb7) (by omega) (by omega) (by omega)).mono ?_
      rw [hK]
      rintro e w8 ⟨rfl, hb8⟩
      have hb8' := hb7.trans (hb8.mono hs7)
      obtain ⟨hq8, hi8, hw8⟩ := HX.out _ hb8'
      have hs8 := hb8'.size
      clear hq7 hi7 hw7 x0 x1 x2 y0 y1 y2
      obtain ⟨x0, x1, x2⟩ := cells3_of hq8
      obtain ⟨y0, y1, y2⟩ := cells3_of hi8
      go_wp2_with fail
      refine (Size_any n _ _ _ (HM.out _ hb8') (by omega) (by omega) (by omega)).mono ?_
      rw [HSz.out]
      rintro e w9 ⟨rfl, hb9⟩
      have hb9' := hb8'.trans (hb9.mono hs8)
      obtain ⟨hq9, hi9, hw9⟩ := HX.out _ hb9'
      have hs9 := hb9'.size
      clear hq8 hi8 hw8 x0 x1 x2 y0 y1 y2
      obtain ⟨x0, x1, x2⟩ := cells3_of hq9
      obtain ⟨y0, y1, y2⟩ := cells3_of hi9
      go_wp2_with fail
      refine (Same_any n n _ _ w3.heap.size _ (HM.out _ hb9') ((HN.out _ hw9).mono (by omega)) (by omega) (by omega) (by omega)).mono ?_
      rintro e wa ⟨rfl, hba⟩
      rw [decide_eq_true rfl]
      have hba' := hb9'.trans (hba.mono hs9)
      obtain ⟨hqa, hia, hwa⟩ := HX.out _ hba'
      have hsa := hba'.size
      clear hq9 hi9 hw9 x0 x1 x2 y0 y1 y2
      obtain ⟨x0, x1, x2⟩ := cells3_of hqa
      go_wp2
      go_ret
      exact ⟨rfl, hwa⟩

end Go.Proofs.Ytohdakjfacalbaa
