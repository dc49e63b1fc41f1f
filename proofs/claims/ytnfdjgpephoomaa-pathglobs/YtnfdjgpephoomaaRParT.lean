/-
  THE WALKS OF THE DOCUMENT's Parent, Base.
-/
import Derived.Test.YtnfdjgpephoomaaRNormT
namespace Go.Proofs.Ytnfdjgpephoomaa
open Go.RowKit

set_option maxRecDepth 100000 in
set_option maxHeartbeats 4000000 in
theorem ParentT_any (s : ByteArray) (w : World) (hs : s.size ≤ 100000000) : Calls Try.prog 14 #[.string s] w fun e w' => (∃ t, e = .returned (.tuple #[.string t, .bool (Pm.parent (bs s)).2]) ∧ bs t = (Pm.parent (bs s)).1) ∧ Below w.heap.size w w' := by
  go_enter Try.func14, Try.ntmps14
  go_wp2_with fail
  refine (Cut_any s _ hs).mono ?_
  rintro e w1 ⟨v, l, rfl, hO, hl, hB⟩
  have HO : Hid _ := hO
  obtain ⟨ad, c, rfl, hc, hn, hi⟩ := hO.strs
  have HL : Hid (l.map bs = Pm.cut (bs s)) := hl
  obtain ⟨HTt, hlen, hne⟩ := tot_cut hl
  have HTt : Hid _ := HTt
  clear hi hl hO
  go_wp2_with fail
  refine (IsT_any s _).mono ?_
  rintro e w2 ⟨rfl, hB2⟩
  have hB12 := hB.trans (hB2.mono hB.size)
  by_cases hg : Pm.isP (bs s) = true
  · rw [hg]
    by_cases h2 : l.length < 2
    · have HX : Hid (Pm.parent (bs s) = ([], false)) := by
        show _ = _
        unfold Pm.parent
        rw [if_neg]
        rintro ⟨-, h⟩
        rw [← HL.out, List.length_map] at h
        omega
      have i2 : (l.length : Int) < 2 := by omega
      clear hg
      go_wp2
      go_ret2
      rw [HX.out]
      exact ⟨⟨_, rfl, rfl⟩, hB12⟩
    · have i2 : ¬ (l.length : Int) < 2 := by omega
      obtain ⟨g, rfl⟩ : ∃ g, ad = some ⟨g, 0, none⟩ := by
        rcases HO.out.2 with ⟨h0, hz⟩ | ⟨g, cap, cur, hv, -⟩
        · omega
        · simp only [Value.slice.injEq] at hv; exact ⟨g, hv.1⟩
      have HX : Hid (Pm.parent (bs s) = (Pm.join ((l.take (l.length - 1)).map bs), true)) := by
        show _ = _
        unfold Pm.parent
        rw [if_pos ⟨hg, by rw [← HL.out, List.length_map]; omega⟩, ← HL.out, List.dropLast_eq_take, List.length_map, List.map_take]
      have hm : ((l.length : Int) - 1) = ((l.length - 1 : Nat) : Int) := by omega
      have hsl := slice_texts w2 (some ⟨g, 0, none⟩) l.length c (l.length - 1) (by omega)
      have hO2 : OwnS w2 w.heap.size _ _ := (OwnS.below (l := l) HO.out hB2 (Nat.le_refl _)).take (l.length - 1) (by omega)
      have hlen2 : (l.take (l.length - 1)).length = l.length - 1 := by rw [List.length_take]; omega
      have htt := tot_le l (l.length - 1)
      rw [HTt.out] at htt
      clear hg
      go_wp2_with fail
      refine (JoinT_any (l.take (l.length - 1)) _ w2.heap.size w2 hO2.strs (Nat.le_refl _) (by omega) (by omega)).mono ?_
      rintro e w3 ⟨t, rfl, ht, hb3⟩
      go_wp2
      go_ret2
      rw [HX.out]
      exact ⟨⟨_, rfl, ht⟩, hB12.trans (hb3.mono hB12.size)⟩
  · rw [Bool.not_eq_true] at hg
    rw [hg]
    have HX : Hid (Pm.parent (bs s) = ([], false)) := by show _ = _; unfold Pm.parent; rw [if_neg (by rw [hg]; simp)]
    clear hg
    go_wp2
    go_ret2
    rw [HX.out]
    exact ⟨⟨_, rfl, rfl⟩, hB12⟩

set_option maxRecDepth 100000 in
set_option maxHeartbeats 4000000 in
theorem BaseT_any (s : ByteArray) (w : World) (hs : s.size ≤ 100000000) : Calls Try.prog 18 #[.string s] w fun e w' => ∃ t, e = .returned (.string t) ∧ bs t = Pm.base (bs s) ∧ Below w.heap.size w w' := by
  go_enter Try.func18, Try.ntmps18
  go_wp2_with fail
  refine (IsT_any s _).mono ?_
  rintro e w1 ⟨rfl, hB⟩
  by_cases hg : Pm.isP (bs s) = true
  · rw [hg]
    have HG : Hid _ := hg
    clear hg
    go_wp2_with fail
    refine (Cut_any s _ hs).mono ?_
    rintro e w2 ⟨v, l, rfl, hO, hl, hB2⟩
    obtain ⟨ad, c, rfl, hc, hn, hi⟩ := hO.strs
    obtain ⟨-, hlen, hne⟩ := tot_cut hl
    obtain ⟨b, o, rfl, hbl, hcs⟩ := hi hne
    have h1 : 1 ≤ l.length := by cases l with | nil => exact absurd rfl hne | cons => simp
    have c0 := hcs (l.length - 1) (by omega)
    have z1 : (l.length : Int) - 1 = ((l.length - 1 : Nat) : Int) := by omega
    have z2 : ((l.length - 1 : Nat) : Int) < (l.length : Int) := by omega
    have HX : Hid (bs (l.getD (l.length - 1) .empty) = Pm.base (bs s)) := by
      show _ = _
      unfold Pm.base
      rw [if_pos HG.out, ← hl, List.getLastD_eq_getLast?, List.getLast?_map, List.getLast?_eq_getElem?]
      simp [List.getD, List.getElem?_eq_getElem (show l.length - 1 < l.length by omega)]
    generalize l.getD (l.length - 1) .empty = x at *
    clear hcs hl hi hn hne
    go_wp2
    go_ret
    exact ⟨_, rfl, HX.out, hB.trans (hB2.mono hB.size)⟩
  · rw [Bool.not_eq_true] at hg
    rw [hg]
    have HX : Hid (Pm.base (bs s) = []) := by show _ = _; unfold Pm.base; rw [if_neg (by rw [hg]; simp)]
    clear hg
    go_wp2
    go_ret
    exact ⟨_, rfl, HX.out.symm, hB⟩

end Go.Proofs.Ytnfdjgpephoomaa
