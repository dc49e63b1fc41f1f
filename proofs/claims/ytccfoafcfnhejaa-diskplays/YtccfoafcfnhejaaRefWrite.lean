/-
  The document's device: Write, Flush.
-/
import Derived.Test.YtccfoafcfnhejaaRefFail
import Derived.Deep.RegionHeld3
namespace Go.Proofs.Ytccfoafcfnhejaa
open Go.RowKit

theorem RMem.congr {w : World} {y : RPl} {n op : Nat} {bs cs bs' cs' : Nat → Option Dk.Blk} (h : RMem w y n op bs cs) (h1 : ∀ i, i < n → bs i = bs' i) (h2 : ∀ i, i < n → cs i = cs' i) : RMem w y n op bs' cs' := by
  refine ⟨h.hp, ?_, ?_, h.hf, h.ne⟩
  · obtain ⟨cur, a1, a2, a3, a4, a5⟩ := h.hb
    exact ⟨cur, a1, a2, a3, a4, fun i hi => by rw [← h1 i hi]; exact a5 i hi⟩
  · obtain ⟨cur, a1, a2, a3, a4, a5⟩ := h.hc
    exact ⟨cur, a1, a2, a3, a4, fun i hi => by rw [← h2 i hi]; exact a5 i hi⟩
theorem RNext.last {w : World} (y : RPl) (z : Int) : RNext w y { y with last := z } := ⟨rfl, Nat.le_succ _, fun _ hk => .inl hk⟩
theorem RNext.cut {w : World} (y : RPl) (z : Int) : RNext w y { y with cut := z } := ⟨rfl, Nat.le_succ _, fun _ hk => .inl hk⟩
theorem RNext.same {w : World} (y : RPl) : RNext w y y := ⟨rfl, Nat.le_succ _, fun _ hk => .inl hk⟩

set_option maxRecDepth 100000 in
theorem RWrite_no (w : World) (y : RPl) (d : Dk.Dev) (h : RHas w y d) (hop : (d.op : Int) ≤ 1000000000) (i : Nat) (v : Value) (he : d.err ≠ 0) :
    Calls Try.prog 42 #[ptr y.p, .int .i64 (i : Int), v] w fun e w' => e = .returned (.int .i64 d.err) ∧ RHas w' y d.begun ∧ Turn y.bl w w' := by
  have hO := operation_any w y d h hop
  unfold ptr at *
  generalize d.err = er at *
  go_enter Try.func42, Try.ntmps42
  go_wp2_with fail
  refine hO.mono ?_
  rintro r w1 ⟨rfl, hk, ht⟩
  go_wp2
  go_ret
  exact ⟨rfl, hk, ht⟩

set_option maxRecDepth 100000 in
set_option maxHeartbeats 1000000 in
theorem RWrite_ok (w : World) (y : RPl) (d : Dk.Dev) (h : RHas w y d) (hop : (d.op : Int) ≤ 1000000000) (i : Nat) (hi : i < d.st.length) (v : Value) (b : Dk.Blk) (B : Nat) (hB : B ≤ w.heap.size) (hv : Byts w B v b) (hby : ∀ k, v.ownBlock = some k → k ∉ y.bl) (hb : b.length = 256) (he : d.err = 0) :
    Calls Try.prog 42 #[ptr y.p, .int .i64 (i : Int), v] w fun e w' => e = .returned (.int .i64 0) ∧ RHas w' { y with last := (i : Int) } (d.begun.wr i b) ∧ Turn y.bl w w' := by
  have hO := operation_any w y d h hop
  rw [he] at hO
  clear he
  obtain ⟨i0, hi0, hz0, hz1, hz2⟩ := info_parts info5
  obtain ⟨ad, c, rfl, hle, hn, hcells⟩ := hv
  obtain ⟨bb, oo, rfl, hbB, hcells⟩ := hcells (by intro e; rw [e] at hb; simp at hb)
  have hbn : bb ∉ y.bl := hby bb rfl
  have HCL : Hid (∀ j, j < b.length → w.cell? ⟨bb, oo + j, none⟩ = some (.int .u8 ((b.getD j 0).toNat : Int))) := hcells
  have HBL : Hid (b.length = 256) := hb
  have HBB : Hid (bb < w.heap.size ∧ bb ∉ y.bl) := ⟨by omega, hbn⟩
  rw [hb]
  clear hcells hn hby hbn h hb hle
  unfold ptr at *
  go_enter Try.func42, Try.ntmps42
  go_wp2_with fail
  refine hO.mono ?_
  rintro r w1 ⟨rfl, hk, ht⟩
  obtain ⟨-, c1, -, -, -, -, fz⟩ := hk.m.cells
  have hplt : y.p < w1.heap.size := lt_of_heap hk.m.hp
  have hi0' : (0 : Int) ≤ (i : Int) := by omega
  have hi1' : (i : Int) < (d.begun.st.length : Int) := by show (i : Int) < (d.st.length : Int); omega
  have hnews : ∀ j u, (bV b)[j]? = some u → (w1.alloc (.cells #[] 5)).drew.cell? ((⟨bb, oo, none⟩ : Addr).add j) = some u := by
    refine byts_news (fun j hj => ?_)
    show (w1.alloc (.cells #[] 5)).cell? _ = _
    rw [World.cell?_of_block (a := ⟨bb, oo + j, none⟩) (Below.heap_alloc w1 _ bb (Nat.lt_of_lt_of_le HBB.out.1 ht.size)), World.cell?_of_block (a := ⟨bb, oo + j, none⟩) (ht.block bb HBB.out.1 HBB.out.2)]
    exact HCL.out j hj
  have hown : (w1.alloc (.cells #[] 5)).drew.ownsRow w1.heap.size 5 1 (.slice (some ⟨w1.heap.size, 0, none⟩) 0 0) 0 [] := World.ownsRow_lit (size := 1) w1 #[] 0 (Nat.le_refl _) (by decide) rfl
  have HFin : Hid (∀ g cap w4, w4.ownsRow w1.heap.size 5 1 (.slice (some ⟨g, 0, none⟩) 256 cap) 256 (bV b) → (w1.alloc (.cells #[] 5)).drew.grownBy w4 (some w1.heap.size) → RMem w4 y d.begun.st.length d.begun.op (fun i => some (d.begun.stab i)) (fun i => d.begun.di i) ∧ RMem (w4.setCell ⟨y.c, i, none⟩ (.slice (some ⟨g, 0, none⟩) 256 cap)) y d.begun.st.length d.begun.op (fun i => some (d.begun.stab i)) (updN (fun i => d.begun.di i) i (some b)) ∧ RHas ((w4.setCell ⟨y.c, i, none⟩ (.slice (some ⟨g, 0, none⟩) 256 cap)).setCell ⟨y.p, 2, none⟩ (.int .i64 (i : Int))) { y with last := (i : Int) } (d.begun.wr i b) ∧ Turn y.bl w ((w4.setCell ⟨y.c, i, none⟩ (.slice (some ⟨g, 0, none⟩) 256 cap)).setCell ⟨y.p, 2, none⟩ (.int .i64 (i : Int)))) := by
    intro g cap w4 ho hg
    have hbel : Below w1.heap.size w1 w4 := (((Below.refl _ w1).alloc (Nat.le_refl _) _).drew).grown hg (by simp) (fun k hk => by cases hk; exact Nat.le_refl _)
    have hm4 := hk.m.below hbel
    have hcel : Cel w4 (.slice (some ⟨g, 0, none⟩) 256 cap) (some b) := Cel.own (base := w1.heap.size) (by unfold Own; rw [HBL.out]; exact ho) HBL.out
    have hm5 := hm4.setC (i := i) hi hcel
    have hm6 := hm5.setF 2 (.int .i64 (i : Int)) (op' := d.begun.op) (i : Int) y.cut (by simp [rf])
    refine ⟨hm4, hm5, ⟨hm6.congr (fun _ _ => rfl) (fun j _ => ?_), ⟨fun _ _ _ => rfl, hk.t.fa, hk.t.cu⟩, Dk.wr_ok hk.ok hi HBL.out⟩, ?_⟩
    · show (if j = i then some b else d.begun.di j) = if (j : Int) = (i : Int) then some b else d.begun.di j
      by_cases e : j = i
      · rw [if_pos e, if_pos (by omega)]
      · rw [if_neg e, if_neg (by omega)]
    · exact ((ht.belowTrans hbel).join (turn_rset w4 y (by simp [RPl.bl]) i _)).join (turn_rset _ y (by simp [RPl.bl]) 2 _)
  clear hk ht hO
  go_wp2_with fail
  go_region_law (refine step_append_lies _ (by rfl) _ _ _ (by rfl) w1.heap.size 5 i0 _ 1 1 Try.underlying27 hi0 hz0 hz1 hz2 rfl (by omega) _ 0 [] (by rfl) hown ⟨bb, oo, none⟩ 256 c (bV b) (by rfl) (by rw [bV_length, HBL.out]) hnews (bV_oneCell b) (by omega) (by unfold maxLen; omega) (by omega) (by simp) (w1.heap.size + 1) (by simp) ?_; intro gg cap w4 hown1 hgrow hat hltg; obtain ⟨hm4, hm5, hfin⟩ := HFin.out gg cap w4 hown1 hgrow; obtain ⟨uu, hu, -⟩ := hm4.hc.cell (i := i) hi; have hfz := hm4.hc.free i; obtain ⟨-, c14, -⟩ := hm4.cells; obtain ⟨-, -, c2, -, -, -, fz5⟩ := hm5.cells)
  all_goals go_wp2
  all_goals go_ret
  all_goals exact ⟨rfl, hfin.1, hfin.2⟩
end Go.Proofs.Ytccfoafcfnhejaa
