/-
  The document's device: Copy, where it has no faults.
-/
import Derived.Test.YtccfoafcfnhejaaRefCopyK
namespace Go.Proofs.Ytccfoafcfnhejaa
open Go.RowKit

set_option maxRecDepth 100000 in
set_option maxHeartbeats 16000000 in
theorem RCopy_none (w : World) (y : RPl) (d : Dk.Dev) (h : RHas w y d) (hne : y.fl = []) :
    Calls Try.prog 23 #[ptr y.p] w fun e w' => ∃ y' : RPl, e = .returned (ptr y'.p) ∧ (∀ k, k ∈ y'.bl → w.heap.size ≤ k) ∧ RHas w' y' d ∧ y'.fl = y.fl ∧ Below w.heap.size w w' := by
  obtain ⟨c0, c1, c2, c3, c4, c5, -⟩ := h.m.cells
  obtain ⟨nb, lb, hnb, hRB⟩ := h.m.hb.news
  obtain ⟨nc, lc, hnc, hRC⟩ := h.m.hc.news
  obtain ⟨af, cf, hfv, -, -⟩ := h.m.hf.shape
  rw [hfv, hne, List.length_nil] at c4
  have hlo := h.ok.lo
  have hhi := h.ok.hi
  have hplt : y.p < w.heap.size := lt_of_heap h.m.hp
  obtain ⟨ib, hib, hb0, hb1, hb2⟩ := info_parts info27
  obtain ⟨iF, hif, hf0, hf1, hf2⟩ := info_parts info106
  have ca : ∀ W, Below w.heap.size w W → ∀ j, W.cell? ⟨y.p, j, none⟩ = w.cell? ⟨y.p, j, none⟩ := fun W hW j => hW.cell hplt
  have HF : Hid (∀ W gb gc capb capc gF pp, Below w.heap.size w W → NewRow W gb 27 1 d.st.length capb nb → NewRow W gc 27 1 d.st.length capc nc → W.heap[gF]? = some (.cells #[] 106 (0, 0)) → gb ≠ gc → w.heap.size ≤ gb → w.heap.size ≤ gc → w.heap.size ≤ gF → w.heap.size ≤ pp →
      W.heap[pp]? = some (.cells #[.slice (some ⟨gb, 0, none⟩) d.st.length capb, .slice (some ⟨gc, 0, none⟩) d.st.length capc, .int .i64 y.last, .int .i64 (d.op : Int), .slice (some ⟨gF, 0, none⟩) 0 0, .int .i64 y.cut] 54 (0, 0)) →
      ∃ y' : RPl, Ending.returned (ptr pp) = Ending.returned (ptr y'.p) ∧ (∀ k, k ∈ y'.bl → w.heap.size ≤ k) ∧ RHas W y' d ∧ y'.fl = y.fl ∧ Below w.heap.size w W) := by
    intro W gb gc capb capc gF pp hW n1 n2 n3 hne' b1 b2 b3 b4 hp
    have hfa : ∀ k : Int, (d.op : Int) ≤ k → lastF y.fl k = d.fa k := h.t.fa
    rw [hne] at hfa
    refine ⟨{ p := pp, b := gb, bc := capb, c := gc, cc := capc, fv := .slice (some ⟨gF, 0, none⟩) 0 0, fl := [], last := y.last, cut := y.cut }, rfl, ?_, ⟨⟨hp, hRB W gb capb (Kept5.below hW) n1, hRC W gc capc (Kept5.below hW) n2, flt_lit n3, hne'⟩, ⟨h.t.la, hfa, h.t.cu⟩, h.ok⟩, hne.symm, hW⟩
    intro k hk
    simp only [RPl.bl, Value.ownBlock, Option.toList_some, List.mem_cons, List.not_mem_nil, or_false] at hk
    rcases hk with rfl | rfl | rfl | rfl <;> assumption
  generalize (d.op : Int) = opv at *
  generalize y.last = lastv at *
  generalize y.cut = cutv at *
  have HLB : Hid (nb.length = d.st.length * 1) := by show _ = _; omega
  have HLC : Hid (nc.length = d.st.length * 1) := by show _ = _; omega
  have HNB : Hid (∀ W, Below w.heap.size w W → ∀ j u, nb[j]? = some u → W.cell? ((⟨y.b, 0, none⟩ : Addr).add j) = some u) := hnb
  have HNC : Hid (∀ W, Below w.heap.size w W → ∀ j u, nc[j]? = some u → W.cell? ((⟨y.c, 0, none⟩ : Addr).add j) = some u) := hnc
  clear hRB hRC hnb hnc lb lc h hfv hne
  unfold ptr
  go_enter Try.func23, Try.ntmps23
  go_wp2_with fail
  go_region_held3 (fun w' => Below w.heap.size w w')
    (repeat (first | assumption | exact Below.refl _ _ | refine belowA ?_ _ | refine belowD ?_))
    (first
      | (refine step_append_zero (by rfl) (.tmp 3) (.tmp 7) 51 (by rfl) 27 ib _ 1 24 Try.underlying51 hib hb0 hb1 hb2 rfl (by exact ⟨_, rfl⟩) ⟨y.b, 0, none⟩ d.st.length y.bc nb (by rfl) HLB.out w (by repeat (first | assumption | exact Below.refl _ _ | refine belowA ?_ _ | refine belowD ?_)) HNB.out (by omega) (by omega) (by decide) ?_; intro capB wB hrowB hkB hbB hsB)
      | (refine step_append_zero (by rfl) (.tmp 9) (.tmp 13) 51 (by rfl) 27 ib _ 1 24 Try.underlying51 hib hb0 hb1 hb2 rfl (by exact ⟨_, rfl⟩) ⟨y.c, 0, none⟩ d.st.length y.cc nc (by rfl) HLC.out w (by repeat (first | assumption | exact Below.refl _ _ | refine belowA ?_ _ | refine belowD ?_)) HNC.out (by omega) (by omega) (by decide) ?_; intro capC wC hrowC hkC hbC hsC)
      | (refine step_append_empty (by rfl) (.tmp 23) (.tmp 27) 52 (by rfl) 106 iF Try.underlying52 hif _ (by rfl) af cf (by rfl) ?_))
  all_goals go_wp2
  all_goals go_ret
  all_goals
    (simp only [alloc_size, drew_size] at hsB hrowB
     simp only [alloc_size, hsB] at hsC hrowC
     refine HF.out _ _ _ capB capC _ _ (by repeat (first | assumption | refine belowA ?_ _)) (hrowB.keep fun o q => ?_) (hrowC.keep fun o q => ?_) ?_ (Nat.ne_of_lt ?_) ?_ ?_ ?_ ?_ (lit_at _ _ _ (by simp only [alloc_size, hsC])))
  all_goals first
    | exact Nat.le_refl _
    | ((repeat (first | exact Nat.le_refl _ | refine le_up ?_)); done)
    | ((repeat (first | exact Nat.lt_succ_self _ | refine lt_up ?_)); done)
    | ((repeat (first | exact q | refine kept_alloc _ ?_ | refine hkC _ _ ?_)); done)
    | ((repeat (first | exact lit_at _ _ _ (by simp only [alloc_size, hsB, hsC]) | refine kept_alloc _ ?_ | refine hkC _ _ ?_ | refine hkB _ _ ?_)); done)
end Go.Proofs.Ytccfoafcfnhejaa
