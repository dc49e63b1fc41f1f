/-
  THE WALK OF THE DOCUMENT's Page.
-/
import Derived.Test.YtohdakjfacalbaaRSmall
namespace Go.Proofs.Ytohdakjfacalbaa
open Go.RowKit

/-- a page of noughts -/
def Cm.noughts : List UInt8 := List.replicate 240 0
/-- a page, k bytes of which are laid -/
def Cm.laid (f : List UInt8) (k : Nat) : List UInt8 := f.take k ++ List.replicate (240 - k) 0
theorem Cm.laid_length (f : List UInt8) (k : Nat) (h1 : k ≤ f.length) (h2 : k ≤ 240) : (Cm.laid f k).length = 240 := by
  simp [Cm.laid]; omega
theorem Cm.laid_set (f : List UInt8) (k : Nat) (h1 : k < f.length) (h2 : f.length ≤ 240) : (Cm.laid f k).set k (f.getD k 0) = Cm.laid f (k + 1) := by
  apply List.ext_getElem
  · rw [List.length_set, Cm.laid_length f k (by omega) (by omega), Cm.laid_length f (k + 1) (by omega) (by omega)]
  · intro j hj1 hj2
    rw [Cm.laid_length f (k + 1) (by omega) (by omega)] at hj2
    rw [List.getElem_set]
    simp only [Cm.laid, List.getElem_append, List.length_take, List.getElem_take, List.getElem_replicate]
    by_cases e : k = j
    · subst e
      rw [if_pos rfl, dif_pos (by omega)]
      simp [List.getD, List.getElem?_eq_getElem h1]
    · rw [if_neg e]
      by_cases h : j < k
      · rw [dif_pos (by omega), dif_pos (by omega)]
      · rw [dif_neg (by omega), dif_neg (by omega)]

theorem grownBy_refl' (w : World) (row : Option Nat) : w.grownBy w row := ⟨rfl, rfl, rfl, Nat.le_refl _, fun _ _ _ => rfl⟩
theorem grownBy_set' {w w1 : World} {p : Nat} (h : w.grownBy w1 (some p)) (j : Nat) (u : Value) : w.grownBy (w1.setCell ⟨p, j, none⟩ u) (some p) :=
  ⟨h.os, h.tape, h.output, by have := h.size; simp [World.setCell]; exact this, fun k hk hne => (Below.heap_setCell _ _ _ _ (fun e => hne (by simp [e]))).trans (h.block k hk hne)⟩

set_option maxRecDepth 100000 in
set_option maxHeartbeats 2000000 in
theorem Page_any (n : Cm.Nd) (v : Value) (B : Nat) (w : World) (hv : NdS w B v n) (hB : B ≤ w.heap.size) (hl : n.items.length ≤ 1000000) (hf : Cm.Fit n) (hs : (Cm.form n).length ≤ 240) :
    Calls Try.prog 23 #[v] w fun e w' => ∃ g, e = .returned (.slice (some ⟨g, 0, none⟩) 240 240) ∧ w.heap.size ≤ g ∧ Blk w' g (Cm.page n) ∧ Below w.heap.size w w' := by
  have hv0 := hv
  obtain ⟨vi, vk, rfl, ⟨ad, c, rfl, hc, hn, hi⟩, ⟨kd, d, rfl, hd, hkn, hki⟩⟩ := hv
  clear hi hki
  have Hf : Hid (Cm.Fit n) := hf
  clear hf
  have hmk : ∀ W : World, (Instr.makeSlice 32 (.int .i64 240) (.int .i64 240)).run Try.prog W = .ok (.slice (some ⟨W.heap.size, 0, none⟩) 240 240) (W.alloc (.cells (bV Cm.noughts).toArray 5)) := fun W => make_byts 240 240 rfl (by omega) W
  have hb0 := (Below.refl w.heap.size w).alloc (Nat.le_refl _) (.cells #[.bool n.leaf, .slice ad n.items.length c, .slice kd n.kids.length d] 28)
  have hbx := heap_alloc_new w (.cells #[.bool n.leaf, .slice ad n.items.length c, .slice kd n.kids.length d] 28)
  have hs0 : (w.alloc (.cells #[.bool n.leaf, .slice ad n.items.length c, .slice kd n.kids.length d] 28)).heap.size = w.heap.size + 1 := by simp
  go_enter Try.func23, Try.ntmps23
  go_upto_region 2 with fail
  generalize w.alloc (.cells #[.bool n.leaf, .slice ad n.items.length c, .slice kd n.kids.length d] 28) = W0 at *
  have hB1 := Blk.made W0 Cm.noughts
  have hb1 := hb0.alloc (by omega) (.cells (bV Cm.noughts).toArray 5)
  have hbx1 := (((Below.refl _ W0).alloc (Nat.le_refl _) (.cells (bV Cm.noughts).toArray 5)).block w.heap.size (lt_of_heap hbx)).trans hbx
  rw [hs0] at hB1
  have hs1 : (W0.alloc (.cells (bV Cm.noughts).toArray 5)).heap.size = w.heap.size + 2 := by simp [hs0]
  generalize W0.alloc (.cells (bV Cm.noughts).toArray 5) = W1 at *
  obtain ⟨n0, n1, n2⟩ := cells3_of hbx1
  have hv1 := hv0.below hb1 hB
  clear hmk
  go_wp2_with fail
  refine (Form_any n _ B _ hv1 (by omega) hl Hf.out).mono ?_
  rintro e w2 ⟨v2, rfl, ho2, hb2⟩
  have hB2 := hB1.below hb2 (by omega)
  have hbw2 := hb1.trans (hb2.mono hb1.size)
  obtain ⟨a2, c2, rfl, hc2, hn2, hcell⟩ := ho2.byts
  generalize hfb : Cm.form n = fb at *
  have Hfb : Hid (Cm.form n = fb) := hfb
  clear hfb
  have hgo : ∀ g o, a2 = some ⟨g, o, none⟩ → w.heap.size + 2 ≤ g := fun g o e => by
    subst e
    have := (World.ownsRow.lt ho2 g rfl).1
    omega
  have Hcell : Hid _ := hcell
  clear hcell
  go_wp2
  go_loopw [5] (fun i wr => ∃ k : Nat, k ≤ fb.length ∧ i = .int .i64 (k : Int) ∧ Blk wr (w.heap.size + 1) (Cm.laid fb k) ∧ w2.grownBy wr (some (w.heap.size + 1)))
    (fun i _ => fb.length - (intOf i).toNat)
  case atStart => exact ⟨0, Nat.zero_le _, rfl, by simpa [Cm.laid, Cm.noughts] using hB2, grownBy_refl' w2 _⟩
  case round =>
    obtain ⟨k, hkl, rfl, hBr, hgr⟩ := hrel
    by_cases hlt : k < fb.length
    · obtain ⟨g, o, rfl, hgl, hcs⟩ := Hcell.out (by intro h; subst h; simp at hlt)
      have hgo' := hgo g o rfl
      have ck := (World.cell?_of_block (a := ⟨g, o + k, none⟩) (hgr.block g hgl (by simp; omega))).trans (hcs k hlt)
      have hex := hBr.cell k (by rw [Cm.laid_length fb k (by omega) (by omega)]; omega)
      have hfr := hBr.free k
      have hset := hBr.set k (fb.getD k 0)
      rw [Cm.laid_set fb k hlt (by omega)] at hset
      obtain ⟨x, hx⟩ : ∃ x, x = fb.getD k 0 := ⟨_, rfl⟩
      rw [← hx] at ck hset
      have i1 : (k : Int) < (fb.length : Int) := by omega
      have i2 : (k : Int) < 240 := by omega
      clear hcs hx
      go_wp2
      refine ⟨⟨k + 1, by omega, by go_num, hset, grownBy_set' hgr _ _⟩, by simp [intOf]; omega⟩
    · obtain rfl : k = fb.length := by omega
      go_wp2
      go_ret
      refine ⟨_, rfl, by omega, ?_, hbw2.grown hgr hbw2.size fun q hq => by simp only [Option.some.injEq] at hq; omega⟩
      have : Cm.laid fb fb.length = Cm.page n := by unfold Cm.laid Cm.page; rw [Hfb.out, List.take_length]
      rw [← this]
      exact hBr
end Go.Proofs.Ytohdakjfacalbaa
