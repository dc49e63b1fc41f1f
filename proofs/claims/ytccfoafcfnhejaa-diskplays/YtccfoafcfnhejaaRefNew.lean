/-
  The document's device: New.
-/
import Derived.Test.YtccfoafcfnhejaaRefFlush
namespace Go.Proofs.Ytccfoafcfnhejaa
open Go.RowKit

/-- a row that is being gathered -/
def RowV (w : World) (base : Nat) (v : Value) (k : Nat) (o : Option Dk.Blk) : Prop :=
  ∃ xs : List Value, w.ownsRow base 27 1 v k xs ∧ ∀ i, i < k → ∃ u, xs[i]? = some u ∧ Cel w u o
theorem RowV.kept {w w' : World} {base k : Nat} {v : Value} {o : Option Dk.Blk} (h : RowV w base v k o) (hb : ∀ g, v.ownBlock = some g → w'.heap[g]? = w.heap[g]?) (hk : Kept5 w w') : RowV w' base v k o := by
  obtain ⟨xs, ho, hx⟩ := h
  refine ⟨xs, ⟨ho.1, ?_⟩, fun i hi => ?_⟩
  · rcases ho.2 with h0 | ⟨g, cap, cur, rfl, h1, h2, h3⟩
    · exact .inl h0
    · exact .inr ⟨g, cap, cur, rfl, h1, (hb g rfl).trans h2, h3⟩
  · obtain ⟨u, hu, hc⟩ := hx i hi
    exact ⟨u, hu, hc.kept hk⟩
theorem RowV.ty {w : World} {base k : Nat} {v : Value} {o : Option Dk.Blk} (h : RowV w base v k o) {g : Nat} (hg : v.ownBlock = some g) : base ≤ g ∧ ∃ cur, w.heap[g]? = some (.cells cur 27 (0, 0)) := by
  obtain ⟨xs, ho, hx⟩ := h
  rcases ho.2 with ⟨rfl, h0⟩ | ⟨g', cap, cur, rfl, h1, h2, h3⟩
  · cases hg
  · cases hg; exact ⟨h1, cur, h2⟩
theorem RowV.rwO {w : World} {base k : Nat} {v : Value} {o : Option Dk.Blk} (h : RowV w base v k o) (hk : 0 < k) : ∃ g cap, v = .slice (some ⟨g, 0, none⟩) k cap ∧ base ≤ g ∧ RwO w g k cap (fun _ => o) := by
  obtain ⟨xs, ho, hx⟩ := h
  rcases ho.2 with ⟨rfl, h0⟩ | ⟨g, cap, cur, rfl, h1, h2, h3, h4, h5, h6⟩
  · omega
  · refine ⟨g, cap, rfl, h1, cur, h2, h3, h4, by omega, fun i hi => ?_⟩
    obtain ⟨u, hu, hc⟩ := hx i hi
    refine ⟨u, ?_, hc⟩
    rw [← h6, List.getElem?_take, if_pos (by omega), Array.getElem?_toList] at hu
    exact hu

structure NewAt (w : World) (kb kc : Nat) (vb vc : Value) (wr : World) : Prop where
  hp : wr.heap[w.heap.size]? = some (.cells #[vb, vc, .int .i64 (-1), .int .i64 0, .slice none 0 0, .int .i64 (-1)] 54 (0, 0))
  hb : RowV wr w.heap.size vb kb (some Dk.zeroB)
  hc : RowV wr w.heap.size vc kc none
  ap : ∀ g, vb.ownBlock = some g → vc.ownBlock ≠ some g
  bl : Below w.heap.size w wr

theorem NewAt.cells {w : World} {kb kc : Nat} {vb vc : Value} {wr : World} (h : NewAt w kb kc vb vc wr) : wr.cell? ⟨w.heap.size, 0, none⟩ = some vb ∧ wr.cell? ⟨w.heap.size, 1, none⟩ = some vc ∧ ∀ j, wr.frozen? ⟨w.heap.size, j, none⟩ = false :=
  ⟨by rw [cell_of_row wr w.heap.size 0 _ 54 (0, 0) h.hp]; rfl, by rw [cell_of_row wr w.heap.size 1 _ 54 (0, 0) h.hp]; rfl, fun j => by simp [World.frozen?, h.hp]⟩

section
variable {w : World} {kb kc : Nat} {vb vc : Value} {wr W2 w4 : World} {gg cap : Nat} {u : Value} {xs : List Value}
/-- what a row's growth leaves -/
theorem grown_kept {v : Value} {base k : Nat} {o : Option Dk.Blk} (hr : RowV wr base v k o) (hW : Below wr.heap.size wr W2) (hgrow : W2.grownBy w4 v.ownBlock) : Kept5 wr w4 ∧ (∀ (k : Nat) (c : Array Value) (t : TypeId), wr.heap[k]? = some (Obj.cells c t (0, 0)) → v.ownBlock ≠ some k → w4.heap[k]? = wr.heap[k]?) ∧ (∀ (k : Nat) (c : Array Value), W2.heap[k]? = some (Obj.cells c 5 (0, 0)) → w4.heap[k]? = W2.heap[k]?) := by
  have h2 : ∀ (k : Nat) (c : Array Value) (t : TypeId), wr.heap[k]? = some (Obj.cells c t (0, 0)) → v.ownBlock ≠ some k → w4.heap[k]? = wr.heap[k]? := fun k c t hk hne =>
    (hgrow.block k (Nat.lt_of_lt_of_le (lt_of_heap hk) hW.size) (fun e => hne e.symm)).trans (hW.block k (lt_of_heap hk))
  refine ⟨fun b c hb => h2 b c 5 hb (fun e => ?_), h2, fun k c hk => hgrow.block k (lt_of_heap hk) (fun e => ?_)⟩
  · obtain ⟨_, cur, h1⟩ := hr.ty e
    rw [h1] at hb; simp at hb
  · obtain ⟨_, cur, h1⟩ := hr.ty e.symm
    rw [hW.block k (lt_of_heap h1), h1] at hk; simp at hk
theorem RowV.more {base k : Nat} {v : Value} {o : Option Dk.Blk} (ho : wr.ownsRow base 27 1 v k xs) (hx : ∀ i, i < k → ∃ u, xs[i]? = some u ∧ Cel wr u o) (hk : Kept5 wr w4) (hu : Cel w4 u o) (hown1 : w4.ownsRow base 27 1 (.slice (some ⟨gg, 0, none⟩) (k + 1) cap) (k + 1) (xs ++ [u])) : RowV w4 base (.slice (some ⟨gg, 0, none⟩) (k + 1) cap) (k + 1) o := by
  have hl : xs.length = k := by have := ho.1; omega
  refine ⟨_, hown1, fun i hi => ?_⟩
  by_cases e : i < k
  · obtain ⟨u', hu', hc⟩ := hx i e
    exact ⟨u', by rw [List.getElem?_append_left (by omega)]; exact hu', hc.kept hk⟩
  · obtain rfl : i = k := by omega
    exact ⟨u, by rw [List.getElem?_append_right (by omega), hl]; simp, hu⟩
theorem NewAt.stepB (h : NewAt w kb kc vb vc wr) (ho : wr.ownsRow w.heap.size 27 1 vb kb xs) (hx : ∀ i, i < kb → ∃ u, xs[i]? = some u ∧ Cel wr u (some Dk.zeroB)) (hW : Below wr.heap.size wr W2) (hu : Cel W2 u (some Dk.zeroB))
    (hown1 : w4.ownsRow w.heap.size 27 1 (.slice (some ⟨gg, 0, none⟩) (kb + 1) cap) (kb + 1) (xs ++ [u])) (hgrow : W2.grownBy w4 vb.ownBlock) (hat : vb.ownBlock = some gg ∨ wr.heap.size ≤ gg) :
    NewAt w (kb + 1) kc (.slice (some ⟨gg, 0, none⟩) (kb + 1) cap) vc (w4.setCell ⟨w.heap.size, 0, none⟩ (.slice (some ⟨gg, 0, none⟩) (kb + 1) cap)) := by
  obtain ⟨k5, kk, kw⟩ := grown_kept h.hb hW hgrow
  have hpn : vb.ownBlock ≠ some w.heap.size := fun e => by obtain ⟨_, cur, h1⟩ := h.hb.ty e; rw [h.hp] at h1; simp at h1
  have hp4 := (kk _ _ _ h.hp hpn).trans h.hp
  have hu4 : Cel w4 u (some Dk.zeroB) := hu.kept (fun b c hb => kw b c hb)
  have hB4 := RowV.more ho hx k5 hu4 hown1
  have hC4 := h.hc.kept (w' := w4) (fun g hg => by
    obtain ⟨_, cur, h1⟩ := h.hc.ty hg
    exact kk g cur 27 h1 (fun e => h.ap g e hg)) k5
  have kset : Kept5 w4 (w4.setCell ⟨w.heap.size, 0, none⟩ (.slice (some ⟨gg, 0, none⟩) (kb + 1) cap)) := Kept5.set hp4 (by decide) 0 _
  have hset : ∀ g, g ≠ w.heap.size → (w4.setCell ⟨w.heap.size, 0, none⟩ (.slice (some ⟨gg, 0, none⟩) (kb + 1) cap)).heap[g]? = w4.heap[g]? := fun g hg => Below.heap_setCell w4 ⟨w.heap.size, 0, none⟩ _ g hg
  refine ⟨?_, hB4.kept (fun g hg => hset g (fun e => ?_)) kset, hC4.kept (fun g hg => hset g (fun e => ?_)) kset, fun g hg e => ?_, ?_⟩
  · have := heap_setCell_at hp4 0 (.slice (some ⟨gg, 0, none⟩) (kb + 1) cap)
    simpa using this
  · obtain ⟨_, cur, h1⟩ := hB4.ty hg; rw [e, hp4] at h1; simp at h1
  · obtain ⟨_, cur, h1⟩ := hC4.ty hg; rw [e, hp4] at h1; simp at h1
  · have hgg : gg = g := by simpa [Value.ownBlock] using hg
    subst hgg
    rcases hat with hat | hat
    · exact h.ap _ hat e
    · obtain ⟨_, cur, h1⟩ := h.hc.ty e; have := lt_of_heap h1; omega
  · exact ((h.bl.trans (hW.mono h.bl.size)).grown hgrow (Nat.le_trans h.bl.size hW.size) (fun k hk => (h.hb.ty hk).1)).setCell (show w.heap.size ≤ w.heap.size from Nat.le_refl _) _
theorem NewAt.stepC (h : NewAt w kb kc vb vc wr) (ho : wr.ownsRow w.heap.size 27 1 vc kc xs) (hx : ∀ i, i < kc → ∃ u, xs[i]? = some u ∧ Cel wr u none) (hW : Below wr.heap.size wr W2)
    (hown1 : w4.ownsRow w.heap.size 27 1 (.slice (some ⟨gg, 0, none⟩) (kc + 1) cap) (kc + 1) (xs ++ [.slice none 0 0])) (hgrow : W2.grownBy w4 vc.ownBlock) (hat : vc.ownBlock = some gg ∨ wr.heap.size ≤ gg) :
    NewAt w kb (kc + 1) vb (.slice (some ⟨gg, 0, none⟩) (kc + 1) cap) (w4.setCell ⟨w.heap.size, 1, none⟩ (.slice (some ⟨gg, 0, none⟩) (kc + 1) cap)) := by
  obtain ⟨k5, kk, kw⟩ := grown_kept h.hc hW hgrow
  have hpn : vc.ownBlock ≠ some w.heap.size := fun e => by obtain ⟨_, cur, h1⟩ := h.hc.ty e; rw [h.hp] at h1; simp at h1
  have hp4 := (kk _ _ _ h.hp hpn).trans h.hp
  have hC4 : RowV w4 w.heap.size (.slice (some ⟨gg, 0, none⟩) (kc + 1) cap) (kc + 1) none := RowV.more ho hx k5 (show Cel w4 (.slice none 0 0) none from rfl) hown1
  have hB4 := h.hb.kept (w' := w4) (fun g hg => by
    obtain ⟨_, cur, h1⟩ := h.hb.ty hg
    exact kk g cur 27 h1 (fun e => h.ap g hg e)) k5
  have kset : Kept5 w4 (w4.setCell ⟨w.heap.size, 1, none⟩ (.slice (some ⟨gg, 0, none⟩) (kc + 1) cap)) := Kept5.set hp4 (by decide) 1 _
  have hset : ∀ g, g ≠ w.heap.size → (w4.setCell ⟨w.heap.size, 1, none⟩ (.slice (some ⟨gg, 0, none⟩) (kc + 1) cap)).heap[g]? = w4.heap[g]? := fun g hg => Below.heap_setCell w4 ⟨w.heap.size, 1, none⟩ _ g hg
  refine ⟨?_, hB4.kept (fun g hg => hset g (fun e => ?_)) kset, hC4.kept (fun g hg => hset g (fun e => ?_)) kset, fun g hg e => ?_, ?_⟩
  · have := heap_setCell_at hp4 1 (.slice (some ⟨gg, 0, none⟩) (kc + 1) cap)
    simpa using this
  · obtain ⟨_, cur, h1⟩ := hB4.ty hg; rw [e, hp4] at h1; simp at h1
  · obtain ⟨_, cur, h1⟩ := hC4.ty hg; rw [e, hp4] at h1; simp at h1
  · have hgg : gg = g := by simpa [Value.ownBlock] using e
    subst hgg
    rcases hat with hat | hat
    · exact h.ap _ hg hat
    · obtain ⟨_, cur, h1⟩ := h.hb.ty hg; have := lt_of_heap h1; omega
  · exact ((h.bl.trans (hW.mono h.bl.size)).grown hgrow (Nat.le_trans h.bl.size hW.size) (fun k hk => (h.hc.ty hk).1)).setCell (show w.heap.size ≤ w.heap.size from Nat.le_refl _) _
theorem NewAt.atB (h : NewAt w kb kc vb vc wr) (hW : Below wr.heap.size wr W2) (hgrow : W2.grownBy w4 vb.ownBlock) : w4.cell? ⟨w.heap.size, 0, none⟩ = some vb ∧ w4.frozen? ⟨w.heap.size, 0, none⟩ = false := by
  obtain ⟨k5, kk, kw⟩ := grown_kept h.hb hW hgrow
  have hpn : vb.ownBlock ≠ some w.heap.size := fun e => by obtain ⟨_, cur, h1⟩ := h.hb.ty e; rw [h.hp] at h1; simp at h1
  have hp4 := (kk _ _ _ h.hp hpn).trans h.hp
  exact ⟨by rw [cell_of_row w4 w.heap.size 0 _ 54 (0, 0) hp4]; rfl, by simp [World.frozen?, hp4]⟩
theorem NewAt.atC (h : NewAt w kb kc vb vc wr) (hW : Below wr.heap.size wr W2) (hgrow : W2.grownBy w4 vc.ownBlock) : w4.cell? ⟨w.heap.size, 1, none⟩ = some vc ∧ w4.frozen? ⟨w.heap.size, 1, none⟩ = false := by
  obtain ⟨k5, kk, kw⟩ := grown_kept h.hc hW hgrow
  have hpn : vc.ownBlock ≠ some w.heap.size := fun e => by obtain ⟨_, cur, h1⟩ := h.hc.ty e; rw [h.hp] at h1; simp at h1
  have hp4 := (kk _ _ _ h.hp hpn).trans h.hp
  exact ⟨by rw [cell_of_row w4 w.heap.size 1 _ 54 (0, 0) hp4]; rfl, by simp [World.frozen?, hp4]⟩
end

set_option maxRecDepth 100000 in
set_option maxHeartbeats 1000000 in
theorem RNew_any (n : Nat) (w : World) (h0 : 80 ≤ n) (h1 : n ≤ 4096) :
    Calls Try.prog 22 #[.int .i64 (n : Int)] w fun e w' => ∃ y, e = .returned (ptr y.p) ∧ RHas w' y (Dk.new n) ∧ (∀ k, k ∈ y.bl → w.heap.size ≤ k) ∧ y.fl = [] ∧ Below w.heap.size w w' := by
  obtain ⟨i0, hi, hz0, hz1, hz2⟩ := info_parts info27
  have hmb : ∀ W, (Instr.makeSlice 27 (.int .i64 256) (.int .i64 256)).run Try.prog W = .ok (.slice (some ⟨W.heap.size, 0, none⟩) 256 256) (W.alloc (.cells (bV Dk.zeroB).toArray 5)) := fun W => make_byts 256 256 rfl (by omega) W
  have hA0 : NewAt w 0 0 (.slice none 0 0) (.slice none 0 0) (w.alloc (.cells #[.slice none 0 0, .slice none 0 0, .int .i64 (-1), .int .i64 0, .slice none 0 0, .int .i64 (-1)] 54)) :=
    ⟨heap_alloc_new w _, ⟨[], World.ownsRow_nil _ _ _ _, fun i hi => by omega⟩, ⟨[], World.ownsRow_nil _ _ _ _, fun i hi => by omega⟩, (fun g hg => by cases hg), (Below.refl _ w).alloc (Nat.le_refl _) _⟩
  unfold ptr
  go_enter Try.func22, Try.ntmps22
  go_wp2
  go_loopw [4] (fun t4 wr => ∃ (k : Nat) (vb vc : Value), k ≤ n ∧ t4 = .int .i64 (k : Int) ∧ NewAt w k k vb vc wr) (fun t4 _ => n - (RowKit.intOf t4).toNat)
  case atStart => exact ⟨0, _, _, Nat.zero_le _, rfl, hA0⟩
  case round =>
    clear hA0
    obtain ⟨k, vb, vc, hkn, rfl, hA⟩ := hrel
    by_cases hlt : k < n
    · obtain ⟨c0, c1, fz⟩ := hA.cells
      obtain ⟨xs, ho, hx⟩ := hA.hb
      have hplt : w.heap.size < wr.heap.size := lt_of_heap hA.hp
      have HL : Hid (k < n ∧ n ≤ 4096) := ⟨hlt, h1⟩
      have hW : Below wr.heap.size wr ((wr.alloc (.cells (bV Dk.zeroB).toArray 5)).alloc (.cells #[.slice (some ⟨wr.heap.size, 0, none⟩) 256 256] 27)).drew := (((Below.refl _ wr).alloc (Nat.le_refl _) _).alloc (by simp) _).drew
      have hu : Cel ((wr.alloc (.cells (bV Dk.zeroB).toArray 5)).alloc (.cells #[.slice (some ⟨wr.heap.size, 0, none⟩) 256 256] 27)).drew (.slice (some ⟨wr.heap.size, 0, none⟩) 256 256) (some Dk.zeroB) :=
        ⟨_, _, rfl, RB.blk (w := ((wr.alloc (.cells (bV Dk.zeroB).toArray 5)).alloc (.cells #[.slice (some ⟨wr.heap.size, 0, none⟩) 256 256] 27)).drew) ((Below.heap_alloc (wr.alloc (.cells (bV Dk.zeroB).toArray 5)) _ wr.heap.size (by simp)).trans (heap_alloc_new wr _)) Dk.zeroB_len (by omega)⟩
      have HW : Hid (Below wr.heap.size wr ((wr.alloc (.cells (bV Dk.zeroB).toArray 5)).alloc (.cells #[.slice (some ⟨wr.heap.size, 0, none⟩) 256 256] 27)).drew ∧ Cel ((wr.alloc (.cells (bV Dk.zeroB).toArray 5)).alloc (.cells #[.slice (some ⟨wr.heap.size, 0, none⟩) 256 256] 27)).drew (.slice (some ⟨wr.heap.size, 0, none⟩) 256 256) (some Dk.zeroB)) := ⟨hW, hu⟩
      have hnb := heap_alloc_new (wr.alloc (.cells (bV Dk.zeroB).toArray 5)) (.cells #[.slice (some ⟨wr.heap.size, 0, none⟩) 256 256] 27)
      rw [show (wr.alloc (.cells (bV Dk.zeroB).toArray 5)).heap.size = wr.heap.size + 1 by simp] at hnb
      have HNB : Hid (((wr.alloc (.cells (bV Dk.zeroB).toArray 5)).alloc (.cells #[.slice (some ⟨wr.heap.size, 0, none⟩) 256 256] 27)).drew.heap[wr.heap.size + 1]? = some (.cells #[.slice (some ⟨wr.heap.size, 0, none⟩) 256 256] 27 (0, 0))) := hnb
      have HO : Hid (wr.ownsRow w.heap.size 27 1 vb k xs) := ho
      clear hnb
      have HA : Hid (NewAt w k k vb vc wr) := hA
      clear hW hu ho hA
      go_upto_region 6 with fail
      go_cut [19] (fun _ w' => ∃ vb', NewAt w (k + 1) k vb' vc w')
      case first =>
        go_wp2_with fail
        go_region_law (refine step_append_lies _ (by rfl) _ _ _ (by rfl) w.heap.size 27 i0 _ 1 24 Try.underlying51 hi hz0 hz1 hz2 rfl (by omega) vb k xs (by rfl) (((HO.out.alloc _).alloc _).drew) ⟨wr.heap.size + 1, 0, none⟩ 1 1 [.slice (some ⟨wr.heap.size, 0, none⟩) 256 256] (by rfl) (by rfl) (World.news_of_block (cs := #[.slice (some ⟨wr.heap.size, 0, none⟩) 256 256]) (t := 27) (fr := (0, 0)) HNB.out) (by simp [Value.oneCell']) (by omega) (by have := HL.out; unfold maxLen; omega) (by have := HL.out; omega) (by simp; omega) (wr.heap.size + 2) (by simp) ?_; intro gg cap w4 hown1 hgrow hat hltg; obtain ⟨c40, f40⟩ := HA.out.atB HW.out.1 hgrow; have hA5 := HA.out.stepB HO.out hx HW.out.1 HW.out.2 hown1 hgrow (hat.imp id (fun e => by omega)))
        all_goals go_wp2
        all_goals go_meet
        all_goals exact ⟨_, hA5⟩
      case rest =>
        obtain ⟨vb', hA⟩ := hcut
        clear HW HNB HO HA c0 c1 fz hx hplt
        obtain ⟨c0, c1, fz⟩ := hA.cells
        obtain ⟨xc, hoc, hxc⟩ := hA.hc
        have hplt : w.heap.size < wc.heap.size := lt_of_heap hA.hp
        have HO : Hid (wc.ownsRow w.heap.size 27 1 vc k xc) := hoc
        have HA : Hid (NewAt w (k + 1) k vb' vc wc) := hA
        have HW : Hid (Below wc.heap.size wc (wc.alloc (.cells #[.slice none 0 0] 27))) := (Below.refl _ wc).alloc (Nat.le_refl _) _
        clear hoc hA
        go_wp2_with (at_builtin; go_must (refine wpList_append_lies _ rfl (.tmp 26) (.tmp 27) 51 rfl w.heap.size 27 i0 (.slice none 0 0) 1 24 Try.underlying51 hi hz0 hz1 hz2 rfl (by decide) vc k xc rfl (HO.out.alloc _) ⟨wc.heap.size, 0, none⟩ 1 1 [.slice none 0 0] rfl rfl (World.news_of_block (cs := #[.slice none 0 0]) (t := 27) (fr := (0, 0)) (heap_alloc_new wc _)) (by simp [Value.oneCell']) (by omega) (by have := HL.out; unfold maxLen; omega) (by have := HL.out; omega) (by simp; omega) (wc.heap.size + 1) (by simp) ?_; intro gg cap w4 hown1 hgrow hat hltg; obtain ⟨c41, f41⟩ := HA.out.atC HW.out hgrow; have hA5 := HA.out.stepC HO.out hxc HW.out hown1 hgrow (hat.imp id (fun e => by omega))))
        go_roundw
        case rel => exact ⟨k + 1, _, _, by omega, by go_num, hA5⟩
        case measure => simp [RowKit.intOf]; omega
    · obtain rfl : k = n := by omega
      obtain ⟨gb, cb, rfl, hgb, hRb⟩ := hA.hb.rwO (by omega)
      obtain ⟨gc, cc, rfl, hgc, hRc⟩ := hA.hc.rwO (by omega)
      have hfin : ∃ y : RPl, y.p = w.heap.size ∧ RHas wr y (Dk.new k) ∧ (∀ j, j ∈ y.bl → w.heap.size ≤ j) ∧ y.fl = [] := by
        have hn : (Dk.new k).st.length = k := List.length_replicate
        refine ⟨⟨w.heap.size, gb, cb, gc, cc, .slice none 0 0, [], -1, -1⟩, rfl, ⟨⟨?_, ?_, ?_, World.ownsRow_nil _ _ _ _, fun e => hA.ap gb rfl (by rw [show gb = gc from e]; rfl)⟩, ⟨(fun _ _ e => by cases e), fun _ _ => rfl, .inl ⟨rfl, rfl⟩⟩, Dk.new_ok k h0 h1⟩, ?_, rfl⟩
        · rw [hn]; exact hA.hp
        · rw [hn]
          obtain ⟨cur, a1, a2, a3, a4, a5⟩ := hRb
          exact ⟨cur, a1, a2, a3, a4, fun i hi => by show ∃ v, _ ∧ Cel wr v (some ((Dk.new k).stab i)); rw [Dk.new_stab k i hi]; exact a5 i hi⟩
        · rw [hn]; exact hRc
        · intro j hj
          simp only [RPl.bl, Value.ownBlock, Option.toList_none, List.mem_cons, List.not_mem_nil, or_false] at hj
          rcases hj with rfl | rfl | rfl
          · exact Nat.le_refl _
          · exact hgb
          · exact hgc
      have hbl := hA.bl
      clear hA hRb hRc
      go_wp2
      go_ret
      obtain ⟨y, e, a, b, c⟩ := hfin
      exact ⟨y, by rw [e]; rfl, a, b, c, hbl⟩
end Go.Proofs.Ytccfoafcfnhejaa
