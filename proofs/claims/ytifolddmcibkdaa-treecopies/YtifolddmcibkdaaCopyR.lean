/-
  The document's tree: Copy.
-/
import Derived.Test.YtifolddmcibkdaaLFour
import Derived.Test.YtifolddmcibkdaaRecDup
namespace Go.Proofs.Ytifolddmcibkdaa
open Go.RowKit

theorem lit_at (w : World) (o : Obj) (g : Nat) (h : w.heap.size = g) : (w.alloc o).heap[g]? = some o := by
  subst h
  exact heap_alloc_new w o
theorem drewz (w : World) : w.drew.heap.size = w.heap.size := rfl

set_option maxRecDepth 100000 in
set_option maxHeartbeats 16000000 in
theorem copyR_does : CopyRDoes := by
  intro r t R w hR hk
  have hlf : t.files.length ≤ 10000000 := by have := hk.few; omega
  have hlc : t.chs.length ≤ 10000000 := hk.chs
  obtain ⟨vf, vc, ty, hb, hty, hf, hc, rfl⟩ := hR
  have hrlt : r < w.heap.size := (Array.getElem?_eq_some_iff.1 hb).1
  have c0 : w.cell? ⟨r, 0, none⟩ = some vf := (cell_of_row w r 0 _ _ _ hb).trans rfl
  have c1 : w.cell? ⟨r, 1, none⟩ = some vc := (cell_of_row w r 1 _ _ _ hb).trans rfl
  have HFs : Hid (FlR.Sl w w.heap.size vf t.files) := hf.sl
  have HCs : Hid (StR.Sl w w.heap.size vc t.chs) := hc.sl
  have ca : ∀ W, Below w.heap.size w W → ∀ j, W.cell? ⟨r, j, none⟩ = w.cell? ⟨r, j, none⟩ := fun W hW j => hW.cell hrlt
  have HF : Hid (∀ W uf uc pp, FlR.Own W w.heap.size uf t.files → StR.Own W w.heap.size uc t.chs → W.heap[pp]? = some (.cells #[uf, uc] 37 (0, 0)) → w.heap.size ≤ pp → Below w.heap.size w W →
      ∃ r2 R2, Ending.returned (.pointer (some ⟨pp, 0, none⟩)) = Ending.returned (.pointer (some ⟨r2, 0, none⟩)) ∧ HasR W r2 t R2 ∧ (∀ b ∈ R2, w.heap.size ≤ b) ∧ Below w.heap.size w W) := by
    intro W uf uc pp h1 h2 h3 h4 h5
    refine ⟨pp, _, rfl, ⟨uf, uc, _, h3, by decide, h1.low (Nat.zero_le _), h2.low (Nat.zero_le _), rfl⟩, fun b hb => ?_, h5⟩
    simp only [List.mem_cons, List.mem_append, Option.mem_toList] at hb
    rcases hb with rfl | hb | hb
    · exact h4
    · exact (h1.lt b hb).1
    · exact (h2.lt b hb).1
  clear hf hc hb hk
  go_enter Try.func23, Try.ntmps23
  go_wp2_with fail
  go_region_held3 (fun w' => Below w.heap.size w w')
    (repeat (first | assumption | exact Below.refl _ _ | refine belowA ?_ _ | refine belowD ?_))
    (first
      | (refine Rc.dup FlR ?_ (.tmp 3) (.tmp 7) ?_ w ?_ vf t.files ?_ HFs.out hlf ?_ ?_; (next => rfl); (next => rfl); (next => exact ⟨_, rfl, by (try simp only [World.size_alloc, drewz]); first | exact Nat.le_refl _ | omega | (have := hbF.size; omega) | (have := hbC.size; omega), by repeat (first | exact lit_at _ _ _ (by first | rfl | (simp only [World.size_alloc]; done)) | assumption | with_reducible refine kept_drew ?_ | with_reducible refine kept_alloc _ ?_ | refine hkF _ _ ?_ | refine hkC _ _ ?_)⟩); (next => rfl); (next => repeat (first | assumption | exact Below.refl _ _ | refine belowA ?_ _ | refine belowD ?_)); intro gF capF wF hrowF hkF hbF)
      | (refine Rc.dup StR ?_ (.tmp 9) (.tmp 13) ?_ w ?_ vc t.chs ?_ HCs.out hlc ?_ ?_; (next => rfl); (next => rfl); (next => exact ⟨_, rfl, by (try simp only [World.size_alloc, drewz]); first | exact Nat.le_refl _ | omega | (have := hbF.size; omega) | (have := hbC.size; omega), by repeat (first | exact lit_at _ _ _ (by first | rfl | (simp only [World.size_alloc]; done)) | assumption | with_reducible refine kept_drew ?_ | with_reducible refine kept_alloc _ ?_ | refine hkF _ _ ?_ | refine hkC _ _ ?_)⟩); (next => rfl); (next => repeat (first | assumption | exact Below.refl _ _ | refine belowA ?_ _ | refine belowD ?_)); intro gC capC wC hrowC hkC hbC)
      | fail)
  all_goals go_wp2
  all_goals go_ret
  all_goals exact HF.out _ _ _ _ (hrowF.kept (((by first | exact AllKept.refl _ | exact (AllKept.refl _).alloc _ : AllKept wF _).trans hkC).alloc _)) (hrowC.kept ((AllKept.refl _).alloc _)) (heap_alloc_new wC _) hbC.size (belowA hbC _)
end Go.Proofs.Ytifolddmcibkdaa
