/-
  THE WALK OF Join.
-/
import Derived.Test.YtplfcpbjlhobeaaDJoin
import Derived.Test.YtplfcpbjlhobeaaCJoin
namespace Go.Proofs.Ytplfcpbjlhobeaa
open Go.RowKit

theorem right_none {n : Cm.Nd} (h : Cm.Right n) (hl : n.leaf = true) : n.kids = [] := by
  have := h.2
  rwa [if_pos hl] at this

/-- Join's variables: both nodes -/
structure KInv (w wr : World) (la lb : Bool) (ia ka ib kb : Value) : Prop where
  na : wr.heap[w.heap.size]? = some (.cells #[.bool la, ia, ka] 28 (0, 0))
  nb : wr.heap[w.heap.size + 1]? = some (.cells #[.bool lb, ib, kb] 28 (0, 0))
  res : wr.heap[w.heap.size + 2]? = some (.cells #[.bool false, .slice none 0 0, .slice none 0 0] 28 (0, 0))
  be : Below w.heap.size w wr
theorem KInv.below {w wr w' : World} {la lb : Bool} {ia ka ib kb : Value} (h : KInv w wr la lb ia ka ib kb) (hb : Below wr.heap.size wr w') : KInv w w' la lb ia ka ib kb :=
  ⟨(hb.block _ (lt_of_heap h.na)).trans h.na, (hb.block _ (lt_of_heap h.nb)).trans h.nb, (hb.block _ (lt_of_heap h.res)).trans h.res, h.be.trans (hb.mono h.be.size)⟩

theorem kset {w X : World} (h : Below w.heap.size w X) (u0 u1 u2 : Value) : Below w.heap.size w (((X.setCell ⟨w.heap.size + 2, 0, none⟩ u0).setCell ⟨w.heap.size + 2, 1, none⟩ u1).setCell ⟨w.heap.size + 2, 2, none⟩ u2) := by
  have c2 : w.heap.size ≤ w.heap.size + 2 := by omega
  exact ((h.setCell c2 _).setCell c2 _).setCell c2 _

/-- what Join answers -/
def JoinS (w w' : World) (a : Cm.Nd) (key : ByteArray) (b : Cm.Nd) (e : Ending) : Prop :=
  (¬ Cm.MayJoin a key b ∧ e = .returned (.tuple #[.agg #[.bool false, .slice none 0 0, .slice none 0 0], .int .i64 2])) ∨
  (Cm.MayJoin a key b ∧ 240 < (Cm.form (Cm.joined a key b)).length ∧ e = .returned (.tuple #[.agg #[.bool false, .slice none 0 0, .slice none 0 0], .int .i64 3])) ∨
  (Cm.MayJoin a key b ∧ ¬ 240 < (Cm.form (Cm.joined a key b)).length ∧ ∃ vi vk, e = .returned (.tuple #[.agg #[.bool a.leaf, vi, vk], .int .i64 0]) ∧ OwnC w' w.heap.size vi (Cm.joined a key b).items ∧ OwnN w' w.heap.size vk (Cm.joined a key b).kids)

set_option maxRecDepth 100000 in
set_option maxHeartbeats 4000000 in
theorem Join_any (a b : Cm.Nd) (key : ByteArray) (va vb : Value) (B : Nat) (w : World) (ha : NdS w B va a) (hb : NdS w B vb b) (hB : B ≤ w.heap.size) (hla : a.items.length ≤ 400000) (hlb : b.items.length ≤ 400000) (hka : a.kids.length ≤ 400010) (hkb : b.kids.length ≤ 400010) :
    Calls Try.prog 11 #[va, .string key, vb] w fun e w' => JoinS w w' a key b e ∧ Below w.heap.size w w' := by
  have HWa : Hid (∀ W : World, Below w.heap.size w W → Calls Try.prog 30 #[va] W fun e w' => e = .returned (.bool (decide (Cm.Right a))) ∧ Below W.heap.size W w') :=
    fun W h => wellFormed_any a va B W (ha.below h hB) (Nat.le_trans hB h.size) (by omega) (by omega)
  have HWb : Hid (∀ W : World, Below w.heap.size w W → Calls Try.prog 30 #[vb] W fun e w' => e = .returned (.bool (decide (Cm.Right b))) ∧ Below W.heap.size W w') :=
    fun W h => wellFormed_any b vb B W (hb.below h hB) (Nat.le_trans hB h.size) (by omega) (by omega)
  have HP : Hid (Cm.Right a → Cm.Right b → ∀ W : World, Below w.heap.size w W → Calls Try.prog 37 #[va, .string key, vb] W fun e w' => e = .returned (.bool (decide (Cm.Between a key b))) ∧ Below W.heap.size W w') :=
    fun h1 h2 W h => jparts_any a b key va vb B W (ha.below h hB) (hb.below h hB) (Nat.le_trans hB h.size) (by omega) (by omega) h1 h2
  have HJ : Hid (Cm.Right a → Cm.Right b → a.leaf = b.leaf → ∀ W : World, Below w.heap.size w W → Calls Try.prog 38 #[va, .string key, vb] W fun e w' => JoinedS W w' a key b e) :=
    fun h1 h2 h3 W h => joined_any a b key va vb B W (ha.below h hB) (hb.below h hB) (Nat.le_trans hB h.size) (by omega) (by omega) (by omega) (by omega) (right_none h1) (right_none h2) h3
  have hlen : (Cm.joined a key b).items.length ≤ 1000000 := by
    unfold Cm.joined
    simp only [List.length_append]
    split <;> simp <;> omega
  have HF : Hid (Cm.MayJoin a key b → ∀ (W : World) (v : Value), NdS W W.heap.size v (Cm.joined a key b) → Calls Try.prog 39 #[v] W fun e w' => ∃ v', e = .returned v' ∧ Own w' W.heap.size v' (Cm.form (Cm.joined a key b)) ∧ Below W.heap.size W w') :=
    fun hm W v h => form_any _ v W.heap.size W h (Nat.le_refl _) hlen (Cm.right_joined hm).fit
  clear hlen
  have HM : Hid (Cm.MayJoin a key b ↔ Cm.Right a ∧ Cm.Right b ∧ a.leaf = b.leaf ∧ Cm.Between a key b) := Iff.rfl
  obtain ⟨vai, vak, rfl, ⟨ad, ca, rfl, -⟩, ⟨kd, da, rfl, -⟩⟩ := ha
  obtain ⟨vbi, vbk, rfl, ⟨bd, cb, rfl, -⟩, ⟨ld, db, rfl, -⟩⟩ := hb
  have HJ0 : Hid (KInv w (((w.alloc (.cells #[.bool a.leaf, .slice ad a.items.length ca, .slice kd a.kids.length da] 28)).alloc (.cells #[.bool b.leaf, .slice bd b.items.length cb, .slice ld b.kids.length db] 28)).alloc (.cells #[.bool false, .slice none 0 0, .slice none 0 0] 28)) a.leaf b.leaf (.slice ad a.items.length ca) (.slice kd a.kids.length da) (.slice bd b.items.length cb) (.slice ld b.kids.length db)) := by
    have b1 := heap_alloc_new w (.cells #[.bool a.leaf, .slice ad a.items.length ca, .slice kd a.kids.length da] 28)
    have e1 := (Below.refl w.heap.size w).alloc (Nat.le_refl _) (.cells #[.bool a.leaf, .slice ad a.items.length ca, .slice kd a.kids.length da] 28)
    have s1 : (w.alloc (.cells #[.bool a.leaf, .slice ad a.items.length ca, .slice kd a.kids.length da] 28)).heap.size = w.heap.size + 1 := by simp
    generalize w.alloc (.cells #[.bool a.leaf, .slice ad a.items.length ca, .slice kd a.kids.length da] 28) = W1 at *
    have s2 : (W1.alloc (.cells #[.bool b.leaf, .slice bd b.items.length cb, .slice ld b.kids.length db] 28)).heap.size = w.heap.size + 2 := by simp [s1]
    exact ⟨k_al (k_al b1 _) _, k_al (heap_al_at _ _ _ s1) _, heap_al_at _ _ _ s2, (e1.alloc (by omega) _).alloc (by omega) _⟩
  go_enter Try.func11, Try.ntmps11
  go_upto_region 1 with fail
  generalize ((w.alloc (.cells #[.bool a.leaf, .slice ad a.items.length ca, .slice kd a.kids.length da] 28)).alloc (.cells #[.bool b.leaf, .slice bd b.items.length cb, .slice ld b.kids.length db] 28)).alloc (.cells #[.bool false, .slice none 0 0, .slice none 0 0] 28) = W at *
  rw [show w.heap.size + 1 + 1 = w.heap.size + 2 by omega]
  have J := HJ0.out
  clear HJ0
  obtain ⟨n0, n1, n2⟩ := cells3_of J.na
  obtain ⟨m0, m1, m2⟩ := cells3_of J.nb
  obtain ⟨z0, z1, z2⟩ := cells3_of J.res
  go_wp2_with fail
  refine (HWa.out _ J.be).mono ?_
  rintro e w1 ⟨rfl, hb1⟩
  have J1 := J.below hb1
  clear J hb1 n0 n1 n2 m0 m1 m2 z0 z1 z2
  obtain ⟨n0, n1, n2⟩ := cells3_of J1.na
  obtain ⟨m0, m1, m2⟩ := cells3_of J1.nb
  obtain ⟨z0, z1, z2⟩ := cells3_of J1.res
  have zf := fun j => frozen_of_row w1 (w.heap.size + 2) j _ _ J1.res
  by_cases hra : Cm.Right a
  · rw [decide_eq_true hra]
    have Hra : Hid (Cm.Right a) := hra
    clear hra
    go_wp2_with fail
    refine (HWb.out _ J1.be).mono ?_
    rintro e w2 ⟨rfl, hb2⟩
    have J2 := J1.below hb2
    clear J1 hb2 n0 n1 n2 m0 m1 m2 z0 z1 z2 zf
    obtain ⟨n0, n1, n2⟩ := cells3_of J2.na
    obtain ⟨m0, m1, m2⟩ := cells3_of J2.nb
    obtain ⟨z0, z1, z2⟩ := cells3_of J2.res
    have zf := fun j => frozen_of_row w2 (w.heap.size + 2) j _ _ J2.res
    by_cases hrb : Cm.Right b
    · rw [decide_eq_true hrb]
      have Hrb : Hid (Cm.Right b) := hrb
      clear hrb
      by_cases hlf : a.leaf = b.leaf
      · have Hlf : Hid (a.leaf = b.leaf) := hlf
        have hq : (a.leaf == b.leaf) = true := beq_iff_eq.2 hlf
        clear hlf
        go_wp2_with fail
        refine (HP.out Hra.out Hrb.out _ J2.be).mono ?_
        rintro e w3 ⟨rfl, hb3⟩
        have J3 := J2.below hb3
        clear J2 hb3 n0 n1 n2 m0 m1 m2 z0 z1 z2 zf
        obtain ⟨n0, n1, n2⟩ := cells3_of J3.na
        obtain ⟨m0, m1, m2⟩ := cells3_of J3.nb
        obtain ⟨z0, z1, z2⟩ := cells3_of J3.res
        have zf := fun j => frozen_of_row w3 (w.heap.size + 2) j _ _ J3.res
        by_cases hbt : Cm.Between a key b
        · rw [decide_eq_true hbt]
          have Hm : Hid (Cm.MayJoin a key b) := ⟨Hra.out, Hrb.out, Hlf.out, hbt⟩
          clear hbt
          go_wp2_with fail
          refine (HJ.out Hra.out Hrb.out Hlf.out _ J3.be).mono ?_
          rintro e w4 ⟨vi, vk, rfl, ho4, hk4, hb4⟩
          have hs3 : w.heap.size + 3 ≤ w3.heap.size := by have := lt_of_heap J3.res; omega
          have J4 := J3.below hb4
          clear J3 hb4 n0 n1 n2 m0 m1 m2 z0 z1 z2 zf HWa HWb HP HJ
          obtain ⟨ai, ci, rfl, -⟩ := ho4.its
          obtain ⟨ak, ck, rfl, -⟩ := hk4.ints
          have Ho4 : Hid (OwnC w4 w3.heap.size _ _) := ho4
          have Hk4 : Hid (OwnN w4 w3.heap.size _ _) := hk4
          clear ho4 hk4
          generalize (Cm.joined a key b).items.length = LI at *
          generalize (Cm.joined a key b).kids.length = LK at *
          go_wp2_with fail
          refine (HF.out Hm.out _ _ ⟨_, _, rfl, (OwnC.alloc Ho4.out _).its, (OwnN.alloc Hk4.out _).ints⟩).mono ?_
          rintro e w5 ⟨v5, rfl, ho5, hb5⟩
          have Hb4 := ((Below.refl w4.heap.size w4).alloc (Nat.le_refl _) (.cells #[.bool a.leaf, .slice ai LI ci, .slice ak LK ck] 28))
          have hx5 := (hb5.block w4.heap.size (by simp)).trans (heap_alloc_new w4 (.cells #[.bool a.leaf, .slice ai LI ci, .slice ak LK ck] 28))
          have J5 := (J4.below Hb4).below hb5
          have HO5 : Hid (OwnC w5 w3.heap.size (.slice ai LI ci) (Cm.joined a key b).items) := OwnC.below (OwnC.alloc Ho4.out _) hb5 (Nat.le_refl _)
          have HK5 : Hid (OwnN w5 w3.heap.size (.slice ak LK ck) (Cm.joined a key b).kids) := OwnN.below (OwnN.alloc Hk4.out _) hb5 (Nat.le_refl _)
          obtain ⟨a5, c5, rfl, -⟩ := ho5.byts
          clear Hb4 hb5 J4 Ho4 Hk4 ho5 HF
          obtain ⟨n0, n1, n2⟩ := cells3_of hx5
          obtain ⟨z0, z1, z2⟩ := cells3_of J5.res
          have zf := fun j => frozen_of_row w5 (w.heap.size + 2) j _ _ J5.res
          by_cases hs : 240 < (Cm.form (Cm.joined a key b)).length
          · have E : Hid (240 < (Cm.form (Cm.joined a key b)).length) := hs
            go_wp2
            obtain ⟨y0, y1, y2⟩ := cells3_of (heap_set3 J5.res (.bool false) (.slice none 0 0) (.slice none 0 0))
            have HB := kset J5.be (.bool false) (.slice none 0 0) (.slice none 0 0)
            simp only [bodyPost, results, Try.results11]
            generalize ((w5.setCell ⟨w.heap.size + 2, 0, none⟩ (.bool false)).setCell ⟨w.heap.size + 2, 1, none⟩ (.slice none 0 0)).setCell ⟨w.heap.size + 2, 2, none⟩ (.slice none 0 0) = X2 at *
            simp [go_sem, y0, y1, y2]
            exact ⟨.inr (.inl ⟨Hm.out, E.out, rfl⟩), HB⟩
          · have E : Hid (¬ 240 < (Cm.form (Cm.joined a key b)).length) := hs
            go_wp2
            obtain ⟨y0, y1, y2⟩ := cells3_of (heap_set3 J5.res (.bool a.leaf) (.slice ai LI ci) (.slice ak LK ck))
            have HB := kset J5.be (.bool a.leaf) (.slice ai LI ci) (.slice ak LK ck)
            have c3 : w.heap.size + 2 < w3.heap.size := by omega
            have HO := OwnC.low (OwnC.set (j := 2) (u := .slice ak LK ck) (OwnC.set (j := 1) (u := .slice ai LI ci) (OwnC.set (j := 0) (u := .bool a.leaf) HO5.out c3) c3) c3) (show w.heap.size ≤ w3.heap.size by omega)
            have HK := OwnN.low (OwnN.set (j := 2) (u := .slice ak LK ck) (OwnN.set (j := 1) (u := .slice ai LI ci) (OwnN.set (j := 0) (u := .bool a.leaf) HK5.out c3) c3) c3) (show w.heap.size ≤ w3.heap.size by omega)
            simp only [bodyPost, results, Try.results11]
            generalize ((w5.setCell ⟨w.heap.size + 2, 0, none⟩ (.bool a.leaf)).setCell ⟨w.heap.size + 2, 1, none⟩ (.slice ai LI ci)).setCell ⟨w.heap.size + 2, 2, none⟩ (.slice ak LK ck) = X2 at *
            simp [go_sem, y0, y1, y2]
            exact ⟨.inr (.inr ⟨Hm.out, E.out, _, _, rfl, HO, HK⟩), HB⟩
        · rw [decide_eq_false hbt]
          have E : Hid (¬ Cm.MayJoin a key b) := fun h => hbt (HM.out.1 h).2.2.2
          clear hbt
          go_wp2
          obtain ⟨y0, y1, y2⟩ := cells3_of (heap_set3 J3.res (.bool false) (.slice none 0 0) (.slice none 0 0))
          have HB := kset J3.be (.bool false) (.slice none 0 0) (.slice none 0 0)
          simp only [bodyPost, results, Try.results11]
          generalize ((w3.setCell ⟨w.heap.size + 2, 0, none⟩ (.bool false)).setCell ⟨w.heap.size + 2, 1, none⟩ (.slice none 0 0)).setCell ⟨w.heap.size + 2, 2, none⟩ (.slice none 0 0) = X2 at *
          simp [go_sem, y0, y1, y2]
          exact ⟨.inl ⟨E.out, rfl⟩, HB⟩
      · have E : Hid (¬ Cm.MayJoin a key b) := fun h => hlf h.2.2.1
        have hq : (a.leaf == b.leaf) = false := beq_eq_false_iff_ne.2 hlf
        clear hlf
        go_wp2
        obtain ⟨y0, y1, y2⟩ := cells3_of (heap_set3 J2.res (.bool false) (.slice none 0 0) (.slice none 0 0))
        have HB := kset J2.be (.bool false) (.slice none 0 0) (.slice none 0 0)
        simp only [bodyPost, results, Try.results11]
        generalize ((w2.setCell ⟨w.heap.size + 2, 0, none⟩ (.bool false)).setCell ⟨w.heap.size + 2, 1, none⟩ (.slice none 0 0)).setCell ⟨w.heap.size + 2, 2, none⟩ (.slice none 0 0) = X2 at *
        simp [go_sem, y0, y1, y2]
        exact ⟨.inl ⟨E.out, rfl⟩, HB⟩
    · rw [decide_eq_false hrb]
      have E : Hid (¬ Cm.MayJoin a key b) := fun h => hrb h.2.1
      clear hrb
      go_wp2
      obtain ⟨y0, y1, y2⟩ := cells3_of (heap_set3 J2.res (.bool false) (.slice none 0 0) (.slice none 0 0))
      have HB := kset J2.be (.bool false) (.slice none 0 0) (.slice none 0 0)
      simp only [bodyPost, results, Try.results11]
      generalize ((w2.setCell ⟨w.heap.size + 2, 0, none⟩ (.bool false)).setCell ⟨w.heap.size + 2, 1, none⟩ (.slice none 0 0)).setCell ⟨w.heap.size + 2, 2, none⟩ (.slice none 0 0) = X2 at *
      simp [go_sem, y0, y1, y2]
      exact ⟨.inl ⟨E.out, rfl⟩, HB⟩
  · rw [decide_eq_false hra]
    have E : Hid (¬ Cm.MayJoin a key b) := fun h => hra h.1
    clear hra
    go_wp2
    obtain ⟨y0, y1, y2⟩ := cells3_of (heap_set3 J1.res (.bool false) (.slice none 0 0) (.slice none 0 0))
    have HB := kset J1.be (.bool false) (.slice none 0 0) (.slice none 0 0)
    simp only [bodyPost, results, Try.results11]
    generalize ((w1.setCell ⟨w.heap.size + 2, 0, none⟩ (.bool false)).setCell ⟨w.heap.size + 2, 1, none⟩ (.slice none 0 0)).setCell ⟨w.heap.size + 2, 2, none⟩ (.slice none 0 0) = X2 at *
    simp [go_sem, y0, y1, y2]
    exact ⟨.inl ⟨E.out, rfl⟩, HB⟩

end Go.Proofs.Ytplfcpbjlhobeaa
