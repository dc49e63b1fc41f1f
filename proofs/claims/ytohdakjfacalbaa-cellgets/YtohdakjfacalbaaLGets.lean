/-
  CellGets, CellBack: the walks.
-/
import Derived.Test.YtohdakjfacalbaaDWorks
import Derived.Test.YtohdakjfacalbaaLSame
import Derived.Test.YtohdakjfacalbaaRPage
import Derived.Laws.OwnMore
namespace Go.Proofs.Ytohdakjfacalbaa
open Go.RowKit

theorem heap_setCells_other (g : Nat) : ∀ (l : List Value) (o : Nat) (w : World) (k : Nat), k ≠ g → (w.setCells g o l).heap[k]? = w.heap[k]? ∧ (w.setCells g o l).heap.size = w.heap.size ∧ (w.setCells g o l).os = w.os ∧ (w.setCells g o l).tape = w.tape ∧ (w.setCells g o l).output = w.output := by
  intro l
  induction l with
  | nil => intro o w k _; exact ⟨rfl, rfl, rfl, rfl, rfl⟩
  | cons x r ih =>
    intro o w k hk
    have := ih (o + 1) (w.setCell ⟨g, o, none⟩ x) k hk
    refine ⟨this.1.trans (Below.heap_setCell w ⟨g, o, none⟩ x k hk), this.2.1.trans (by simp [World.setCell]), this.2.2.1.trans rfl, this.2.2.2.1.trans rfl, this.2.2.2.2.trans rfl⟩

/-- 'clear' of a row of bytes of the call's own -/
theorem clear_own {w : World} {base : Nat} {ad : Option Addr} {c : Nat} {l : List UInt8} (h : Own w base (.slice ad l.length c) l) (ty : TypeId) :
    ∃ w', (Builtin.clear_ #[32] ty #[.slice ad l.length c]).run Try.prog w = .ok (.tuple #[]) w' ∧ w.grownBy w' (Value.slice ad l.length c).ownBlock := by
  obtain ⟨i0, hi, hz0, hz1, hz2⟩ := info_parts info5
  by_cases h0 : l.length = 0
  · refine ⟨w, ?_, grownBy_refl _ _⟩
    rw [h0]
    cases ad <;> simp [Builtin.clear_, run_underlying Try.underlying32]
  · rcases h.2 with ⟨e, h1⟩ | ⟨g, cap, cur, hv, h2, h3, h4⟩
    · omega
    · simp only [Value.slice.injEq] at hv
      obtain ⟨rfl, -, rfl⟩ := hv
      refine ⟨w.setCells g 0 (List.replicate l.length (.int .u8 0)), Lib.run_clear_slice w 32 5 ty (.int .u8 0) Try.underlying32 (fun W => by simp [zeroValue, typeInfo, hi, hz0]) rfl rfl g 0 l.length c (by omega) (fun j hj => ?_) (fun j hj => ?_), ?_⟩
      · rw [Nat.zero_add, World.ownsRow.cellAt h j (by omega)]
        simp [bV, hj]
      · rw [Nat.zero_add]
        exact World.ownsRow.frozenAt h j
      · refine ⟨(heap_setCells_other g _ 0 w (g + 1) (by omega)).2.2.1, (heap_setCells_other g _ 0 w (g + 1) (by omega)).2.2.2.1, (heap_setCells_other g _ 0 w (g + 1) (by omega)).2.2.2.2, Nat.le_of_eq (heap_setCells_other g _ 0 w (g + 1) (by omega)).2.1.symm, fun k _ hk => (heap_setCells_other g _ 0 w k (fun e => hk (by rw [e]; rfl))).1⟩

theorem zero_right : ¬ Cm.Right Cm.none := by decide

set_option maxRecDepth 100000 in
set_option maxHeartbeats 4000000 in
theorem gets_walk (v : Value) (l : List UInt8) (w : World) (hv : Byts w w.heap.size v l) :
    Calls Try.prog 5 #[v] w fun e w' => e = .returned (.bool true) ∧ Below w.heap.size w w' := by
  have HB : Hid (∀ W : World, Below w.heap.size w W → Byts W w.heap.size v l) := fun W h => hv.below h (Nat.le_refl _)
  obtain ⟨ad, c, rfl, -⟩ := hv
  go_enter Try.func5, Try.ntmps5
  go_wp2_with fail
  refine (works_any _).mono ?_
  rintro e w1 ⟨rfl, hw1⟩
  by_cases hl : 1000 < l.length
  · have hl' : (1000 : Int) < (l.length : Int) := by omega
    go_wp2
    go_ret
    exact ⟨rfl, hw1⟩
  have hl' : ¬ (1000 : Int) < (l.length : Int) := by omega
  go_wp2_with fail
  refine (CloneB_any l _ _ _ (HB.out _ hw1) hw1.size (by omega)).mono ?_
  rintro e w2 ⟨v2, rfl, ho2, hb2⟩
  have hw2 := hw1.trans (hb2.mono hw1.size)
  have hs2 := hb2.size
  have hs1 := hw1.size
  obtain ⟨ad2, c2, hv2, -⟩ := ho2.byts
  subst hv2
  go_wp2_with fail
  refine (Get_any _ l _ _ ho2.byts (Nat.le_refl _)).mono ?_
  rintro e w3 ⟨h3, hb3⟩
  have ho3 := ho2.below hb3 (Nat.le_refl _)
  have hw3 := hw2.trans (hb3.mono hw2.size)
  have hs3 := hb3.size
  clear hb2 hw1 hw2 ho2
  rcases h3 with ⟨n, vi, vk, hgot, rfl, hoi, hok⟩ | ⟨hgot, rfl⟩
  · obtain ⟨adi, ci, hvi, -⟩ := hoi.its
    obtain ⟨adk, ck, hvk, -⟩ := hok.ints
    subst hvi
    subst hvk
    obtain ⟨hR, hF, hP⟩ := Cm.got_some hgot
    have hfew := Cm.few_items n
    have hkl : n.kids.length ≤ 300 := by
      have := hR.2
      by_cases hlf : n.leaf = true
      · rw [if_pos hlf] at this; rw [this]; simp
      · rw [if_neg hlf] at this; omega
    have hil : n.items.length ≤ 300 := by omega
    have HW : Hid (Cm.wrong n = 0) := by show _ = _; unfold Cm.wrong; rw [if_pos hR, if_neg (by omega)]
    have HF : Hid (Cm.Fit n) := hR.fit
    have HP : Hid (Cm.page n = l) := hP
    have HFl : Hid ((Cm.form n).length ≤ 240) := hF
    clear hR hF hP hfew hgot
    have hx4 := heap_alloc_new w3 (.cells #[.bool n.leaf, .slice adi n.items.length ci, .slice adk n.kids.length ck] 28)
    have hb4 := (Below.refl w3.heap.size w3).alloc (Nat.le_refl _) (.cells #[.bool n.leaf, .slice adi n.items.length ci, .slice adk n.kids.length ck] 28)
    have ho4 := ho3.alloc (.cells #[.bool n.leaf, .slice adi n.items.length ci, .slice adk n.kids.length ck] 28)
    have hoi4 := OwnC.alloc hoi (.cells #[.bool n.leaf, .slice adi n.items.length ci, .slice adk n.kids.length ck] 28)
    have hok4 := OwnN.alloc hok (.cells #[.bool n.leaf, .slice adi n.items.length ci, .slice adk n.kids.length ck] 28)
    go_upto_region 7 with fail
    generalize w3.alloc (.cells #[.bool n.leaf, .slice adi n.items.length ci, .slice adk n.kids.length ck] 28) = W4 at *
    have hw4 := hw3.trans (hb4.mono hw3.size)
    have hs4 := hb4.size
    obtain ⟨w5, hcl, hg5⟩ := clear_own ho4 0
    have hx5 := ho4.box hg5 hx4 (by decide)
    have hw5 : Below w.heap.size w w5 := (ho4.low' (by omega)).grow hg5 hw4 hw4.size
    have hoi5 : OwnC w5 w2.heap.size (.slice adi n.items.length ci) n.items := Row.turn hoi4 (Turn.of_grown hg5) fun g hg hx => by
      obtain ⟨_, cur, h1⟩ := heap_row hoi4 hg
      obtain ⟨_, cur2, h2⟩ := heap_row ho4 (Option.mem_toList.1 hx)
      rw [h1] at h2
      simp at h2
    have hok5 : OwnN w5 w2.heap.size (.slice adk n.kids.length ck) n.kids := Row.turn hok4 (Turn.of_grown hg5) fun g hg hx => by
      obtain ⟨_, cur, h1⟩ := heap_row hok4 hg
      obtain ⟨_, cur2, h2⟩ := heap_row ho4 (Option.mem_toList.1 hx)
      rw [h1] at h2
      simp at h2
    have hs5 := hg5.size
    have hN5 := OwnC.nds hoi5 hok5
    clear hg5 ho4 hoi4 hok4 hx4 hb4 hoi hok ho3 hw3 hw4
    obtain ⟨x0, x1, x2⟩ := cells3_of hx5
    go_wp2_with fail
    refine (Wrong_any n _ _ _ hN5 (Nat.le_refl _) (by omega) (by omega)).mono ?_
    rw [HW.out]
    rintro e w6 ⟨rfl, hb6⟩
    have hx6 := (hb6.block w3.heap.size (lt_of_heap hx5)).trans hx5
    have hw6 := hw5.trans (hb6.mono hw5.size)
    have hN6 := hN5.below hb6 (Nat.le_refl _)
    have hs6 := hb6.size
    clear hx5 hw5 hN5 hb6 x0 x1 x2 hcl
    obtain ⟨x0, x1, x2⟩ := cells3_of hx6
    go_wp2_with fail
    refine (Page_any n _ _ _ hN6 (by omega) (by omega) HF.out HFl.out).mono ?_
    rintro e w7 ⟨g, rfl, hg, hB7, hb7⟩
    have hw7 := hw6.trans (hb7.mono hw6.size)
    have hl0 := Cm.page_length HFl.out
    have hy := hB7.byts 0 240 240 (by omega) (Nat.le_refl _)
    rw [List.drop_zero, List.take_of_length_le (by omega), HP.out] at hy
    have HE := Equal_any _ _ _ _ _ _ _ hy (HB.out _ hw7)
    rw [decide_eq_true rfl] at HE
    clear hl0 hy hB7
    go_wp2_with fail
    refine HE.mono ?_
    rintro e w8 ⟨rfl, hw8⟩
    rw [hw8]
    clear hw8 HE
    go_wp2
    go_ret
    exact ⟨rfl, hw7⟩
  · have hx4 := heap_alloc_new w3 (.cells #[.bool false, .slice none 0 0, .slice none 0 0] 28)
    have hb4 := (Below.refl w3.heap.size w3).alloc (Nat.le_refl _) (.cells #[.bool false, .slice none 0 0, .slice none 0 0] 28)
    have ho4 := ho3.alloc (.cells #[.bool false, .slice none 0 0, .slice none 0 0] 28)
    have HP : Hid (decide (l = Cm.page Cm.bare) = false) := by
      show _ = _
      rw [decide_eq_false_iff_not]
      intro h
      rw [h, Cm.got_page (by decide) (by decide)] at hgot
      cases hgot
    clear hgot
    go_upto_region 7 with fail
    generalize w3.alloc (.cells #[.bool false, .slice none 0 0, .slice none 0 0] 28) = W4 at *
    have hw4 := hw3.trans (hb4.mono hw3.size)
    have hs4 := hb4.size
    obtain ⟨w5, hcl, hg5⟩ := clear_own ho4 0
    have hx5 := ho4.box hg5 hx4 (by decide)
    have hw5 : Below w.heap.size w w5 := (ho4.low' (by omega)).grow hg5 hw4 hw4.size
    have hs5 := hg5.size
    clear hg5 ho4 hx4 hb4 ho3 hw3 hw4
    obtain ⟨x0, x1, x2⟩ := cells3_of hx5
    have hZ : ∀ W : World, NdS W 0 (.agg #[.bool false, .slice none 0 0, .slice none 0 0]) Cm.none := fun W => ⟨_, _, rfl, Its.nil _ _, Ints.nil _ _⟩
    go_wp2_with fail
    refine (Same_any Cm.none Cm.none _ _ 0 _ (hZ _) (hZ _) (Nat.zero_le _) (by simp [Cm.none]) (by simp [Cm.none])).mono ?_
    rintro e w6 ⟨rfl, hb6⟩
    rw [decide_eq_true rfl]
    have hw6 := hw5.trans (hb6.mono hw5.size)
    clear hcl x0 x1 x2
    go_wp2_with fail
    refine (pages_any _ l _ _ (HB.out _ hw6) hw6.size).mono ?_
    rw [HP.out]
    rintro e w7 ⟨rfl, hb7⟩
    go_wp2
    go_ret
    exact ⟨rfl, hw6.trans (hb7.mono hw6.size)⟩

end Go.Proofs.Ytohdakjfacalbaa
