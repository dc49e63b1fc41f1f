/-
  Write, Fail, Cut.
-/
import Derived.Test.YtccfoafcfnhejaaReads
import Derived.Deep.RegionHeld3
import Derived.Laws.Cover3
namespace Go.Proofs.Ytccfoafcfnhejaa
open Go.RowKit Go.Maps Go.ChangeMaps

set_option maxRecDepth 100000 in
set_option maxHeartbeats 1000000 in
theorem Write_no (w : World) (x : Pl) (N : Nat) (d : Dk.Dev) (h : Has w x N d) (i : Int) (v : Value) (h0 : i < 0 ∨ (d.st.length : Int) ≤ i) : Calls Try.prog 10 #[ptr x.p, .int .i64 i, v] w fun e w' => e = .returned (.int .i64 5) ∧ w' = w := by
  have hl := lacks_no w x N d h i h0
  unfold ptr at *
  go_enter Try.func10, Try.ntmps10
  go_wp2_with fail
  refine hl.mono ?_
  rintro e w1 ⟨rfl, rfl⟩
  go_wp2
  go_ret
  exact ⟨rfl, rfl⟩
set_option maxRecDepth 100000 in
set_option maxHeartbeats 1000000 in
theorem Write_arg (w : World) (x : Pl) (N : Nat) (d : Dk.Dev) (h : Has w x N d) (i : Nat) (hi : i < d.st.length) (ad : Option Addr) (n c : Nat) (hn : (n : Int) ≠ 256) : Calls Try.prog 10 #[ptr x.p, .int .i64 (i : Int), .slice ad n c] w fun e w' => e = .returned (.int .i64 2) ∧ w' = w := by
  have hl := lacks_ok w x N d h i (by omega) (by omega)
  unfold ptr at *
  go_enter Try.func10, Try.ntmps10
  go_wp2_with fail
  refine hl.mono ?_
  rintro e w1 ⟨rfl, rfl⟩
  go_wp2
  go_ret
  exact ⟨rfl, rfl⟩
set_option maxRecDepth 100000 in
set_option maxHeartbeats 1000000 in
theorem Write_err (w : World) (x : Pl) (N : Nat) (d : Dk.Dev) (h : Has w x N d) (hN : N ≤ 1000000000) (i : Nat) (hi : i < d.st.length) (ad : Option Addr) (c : Nat) (he : d.err ≠ 0) :
    Calls Try.prog 10 #[ptr x.p, .int .i64 (i : Int), .slice ad 256 c] w fun e w' => e = .returned (.int .i64 d.err) ∧ Has w' x (N + 1) d.begun ∧ Turn x.bl w w' := by
  have hl := lacks_ok w x N d h i (by omega) (by omega)
  have hbg := begin_any w x N d h hN
  unfold ptr at *
  generalize d.err = er at *
  go_enter Try.func10, Try.ntmps10
  go_wp2_with fail
  refine hl.mono ?_
  rintro e w1 ⟨rfl, rfl⟩
  go_wp2_with fail
  refine hbg.mono ?_
  rintro e w2 ⟨rfl, hk, ht⟩
  go_wp2
  go_ret
  exact ⟨rfl, hk, ht⟩
set_option maxRecDepth 100000 in
set_option maxHeartbeats 1000000 in
theorem Write_ok (w : World) (x : Pl) (N : Nat) (d : Dk.Dev) (h : Has w x N d) (hN : N ≤ 1000000000) (i : Nat) (hi : i < d.st.length) (v : Value) (b : List UInt8) (B : Nat) (hv : Byts w B v b) (hB : B ≤ w.heap.size) (hb : b.length = 256) (hap : ∀ k, v.ownBlock = some k → k ∉ x.bl) (he : d.err = 0) :
    Calls Try.prog 10 #[ptr x.p, .int .i64 (i : Int), v] w fun e w' => e = .returned (.int .i64 0) ∧ Has w' x (N + 2) (d.begun.wr i b) ∧ Turn x.bl w w' := by
  have hl := lacks_ok w x N d h i (by omega) (by omega)
  have hbg := begin_any w x N d h hN
  rw [he] at hbg
  have hhi := h.ok.hi
  clear he
  obtain ⟨ad, c, rfl, hle, hn, hcl⟩ := hv
  obtain ⟨bb, o, rfl, hbB, hcell⟩ := hcl (by intro e; subst e; simp at hb)
  have hbl := hb
  rw [hb] at hle hcell hcl ⊢
  clear hb
  unfold ptr at *
  go_enter Try.func10, Try.ntmps10
  go_wp2_with fail
  refine hl.mono ?_
  rintro e w1 ⟨rfl, rfl⟩
  go_wp2_with fail
  refine hbg.mono ?_
  rintro e w2 ⟨rfl, hk, ht⟩
  clear hl hbg
  obtain ⟨c0, c1, -, -, -, -, fz⟩ := hk.cells
  obtain ⟨w3, hst, hm3, htn3⟩ := hk.drew.hd.store Try.underlying69 (by omega) (.agg (bV b).toArray) (x := (i : Int)) (by omega) (by omega)
  have hbn : bb ∉ x.bl := hap bb rfl
  have hblt : bb < w1.heap.size := by omega
  have hc2 : ∀ j, w2.cell? ⟨bb, j, none⟩ = w1.cell? ⟨bb, j, none⟩ := fun j => World.cell?_of_block (a := ⟨bb, j, none⟩) (ht.block bb hblt hbn)
  have ht3 : Turn x.bl w1 w3 := (ht.drew).join (turn_md htn3)
  have hrg : w2.rangeAt bb o (bV b) := by
    intro j u hu
    have hj : j < 256 := by have := (List.getElem?_eq_some_iff.1 hu).1; rw [bV_length] at this; omega
    rw [hc2, hcell j hj]
    rw [bV_get (by omega)] at hu
    exact hu
  have hrg3 : w3.rangeAt bb o (bV b) := by
    intro j u hu
    have h3 : w3.cell? ⟨bb, o + j, none⟩ = w1.cell? ⟨bb, o + j, none⟩ := World.cell?_of_block (a := ⟨bb, o + j, none⟩) (ht3.block bb hblt hbn)
    rw [h3, ← hc2]
    exact hrg j u hu
  have hk3 : Has w3 x (N + 2) { d.begun with di := fun y => if y = (i : Int) then some b else d.di y } := hk.drew.setD htn3 (by
    have e : (fun k => ((fun y => if y = (i : Int) then some b else d.di y) k).map aggB) = updF (fun k => (d.begun.di k).map aggB) (i : Int) (some (.agg (bV b).toArray)) := by
      funext k
      unfold updF
      simp only
      split <;> rfl
    simp only
    rw [e]; exact hm3) rfl rfl rfl (by
      have := Dk.wr_ok (Dk.begun_ok h.ok) (i := i) (b := b) hi hbl
      exact ⟨this.lo, this.hi, this.len, this.dom, this.fal, this.cu0, this.cu1, h.ok.la0, h.ok.la1⟩) (by omega) (by have := hk.hop; simp only [Dk.Dev.begun] at this ⊢; omega)
  obtain ⟨-, c13, -, -, -, -, fz3⟩ := hk3.cells
  have hk4 : Has (w3.setCell ⟨x.p, 2, none⟩ (.int .i64 (i : Int))) x (N + 2) (d.begun.wr i b) := hk3.setF 2 (.int .i64 (i : Int)) (by simp [fields, Dk.Dev.wr]) rfl rfl rfl (Dk.wr_ok (Dk.begun_ok h.ok) hi hbl) (by omega) (by have := hk3.hop; exact this)
  have ht4 : Turn x.bl w1 (w3.setCell ⟨x.p, 2, none⟩ (.int .i64 (i : Int))) := ht3.join (turn_set w3 x 2 _)
  have HK : Hid (Has (w3.setCell ⟨x.p, 2, none⟩ (.int .i64 (i : Int))) x (N + 2) (d.begun.wr i b)) := hk4
  have HT : Hid (Turn x.bl w1 (w3.setCell ⟨x.p, 2, none⟩ (.int .i64 (i : Int)))) := ht4
  have c23 := hk3.cells.2.2.1
  have hu := Try.underlying78
  have hat : ∀ w, (Instr.arrayAt 78 (.slice (some ⟨bb, o, none⟩) 256 c)).run Try.prog w = .ok (.pointer (some ⟨bb, o, none⟩)) w := fun w => run_arrayAt w 78 5 256 _ 256 c Try.underlying78 (Nat.le_refl _)
  have hl78 : (bV b).length = 256 := by rw [bV_length]; exact hbl
  have hi78 : (Try.prog.info? 78).map (·.size) = some (bV b).length := by rw [hl78]; exact info78
  have ho78 := bV_oneCell b
  clear hcl hn hap hcell c0 hk hk3 hk4 ht4 ht3 ht htn3 hm3 hc2 hbn hblt hbB
  go_wp2_with fail
  go_region_held3 (fun w' => w'.cell? ⟨x.p, 1, none⟩ = some (.map (some x.md)) ∧ w'.rangeAt bb o (bV b)) (go_keep_ranges) (fail)
  go_wp2
  go_ret
  exact ⟨rfl, HK.out, HT.out⟩

set_option maxRecDepth 100000 in
set_option maxHeartbeats 1000000 in
theorem Fail_arg (w : World) (x : Pl) (after e : Int) (h0 : after < 0 ∨ 1073741824 < after ∨ (e ≠ 8 ∧ e ≠ 9)) :
    Calls Try.prog 14 #[ptr x.p, .int .i64 after, .int .i64 e] w fun r w' => r = .returned (.int .i64 2) ∧ w' = w := by
  unfold ptr
  by_cases h1 : after < 0
  · clear h0
    go_enter Try.func14, Try.ntmps14
    go_wp2
    go_ret
    exact ⟨rfl, rfl⟩
  · by_cases h2 : 1073741824 < after
    · clear h0
      go_enter Try.func14, Try.ntmps14
      go_wp2
      go_ret
      exact ⟨rfl, rfl⟩
    · have h3 : e ≠ 8 ∧ e ≠ 9 := by omega
      obtain ⟨h3, h4⟩ := h3
      have h5 : (e != 8) = true := by simpa using h3
      have h6 : (e != 9) = true := by simpa using h4
      clear h0
      go_enter Try.func14, Try.ntmps14
      go_wp2
      go_ret
      exact ⟨rfl, rfl⟩

set_option maxRecDepth 100000 in
set_option maxHeartbeats 1000000 in
theorem Fail_ok (w : World) (x : Pl) (N : Nat) (d : Dk.Dev) (h : Has w x N d) (hN : N ≤ 1000000000) (after e : Int) (h0 : 0 ≤ after) (h1 : after ≤ 1073741824) (he : e = 8 ∨ e = 9) :
    Calls Try.prog 14 #[ptr x.p, .int .i64 after, .int .i64 e] w fun r w' => r = .returned (.int .i64 0) ∧ Has w' x (N + 1) (d.fail after e) ∧ Turn x.bl w w' := by
  obtain ⟨-, -, -, c3, c4, -, fz⟩ := h.cells
  have hop := h.hop
  obtain ⟨w3, hst, hm3, htn3⟩ := h.drew.hf.store Try.underlying70 (by omega) (.int .i64 e) (x := (d.op : Int) + after) (by omega) (by omega)
  have ht3 : Turn x.bl w w3 := ((Turn.refl _ w).drew).join (turn_mf htn3)
  have hk3 : Has w3 x (N + 1) (d.fail after e) := h.drew.setM htn3 (by
    have e : (fun k => ((d.fail after e).fa k).map (Value.int .i64)) = updF (fun k => (d.fa k).map (Value.int .i64)) ((d.op : Int) + after) (some (.int .i64 e)) := by
      funext k
      unfold updF Dk.Dev.fail
      simp only
      split <;> rfl
    rw [e]; exact hm3) rfl rfl rfl (Dk.fail_ok h.ok he) (by omega) (by simp only [Dk.Dev.fail]; omega)
  obtain ⟨-, -, -, c33, c43, -⟩ := hk3.cells
  have c33' : w3.cell? ⟨x.p, 3, none⟩ = some (.int .i64 (d.op : Int)) := c33
  have hop' : (d.op : Int) ≤ 1000000000 := by omega
  have HK : Hid (Has w3 x (N + 1) (d.fail after e)) := hk3
  have HT : Hid (Turn x.bl w w3) := ht3
  have hpn : (x.p : Nat) < w.heap.size := h.plt
  have hst' : (Instr.mapUpdate 70 (.map (some x.mf)) (.int .i64 (IntKind.i64.wrap ((d.op : Int) + after))) (.int .i64 e)).run Try.prog w.drew = .ok () w3 := by rw [show IntKind.i64.wrap ((d.op : Int) + after) = (d.op : Int) + after by rw [IntKind.wrap_i64]; omega]; exact hst
  clear hk3 ht3 htn3 hm3 hop h c33 hst
  unfold ptr
  rcases he with rfl | rfl
  · go_enter Try.func14, Try.ntmps14
    go_wp2_with fail
    go_region_held3 (fun w' => w'.cell? ⟨x.p, 4, none⟩ = some (.map (some x.mf)) ∧ w'.cell? ⟨x.p, 3, none⟩ = some (.int .i64 (d.op : Int))) (go_keep) (fail)
    go_wp2
    go_ret
    exact ⟨rfl, HK.out, HT.out⟩
  · go_enter Try.func14, Try.ntmps14
    go_wp2_with fail
    go_region_held3 (fun w' => w'.cell? ⟨x.p, 4, none⟩ = some (.map (some x.mf)) ∧ w'.cell? ⟨x.p, 3, none⟩ = some (.int .i64 (d.op : Int))) (go_keep) (fail)
    go_wp2
    go_ret
    exact ⟨rfl, HK.out, HT.out⟩

set_option maxRecDepth 100000 in
set_option maxHeartbeats 1000000 in
theorem Cut_arg (w : World) (x : Pl) (after : Int) (h0 : after < 0 ∨ 1073741824 < after) :
    Calls Try.prog 17 #[ptr x.p, .int .i64 after] w fun r w' => r = .returned (.int .i64 2) ∧ w' = w := by
  unfold ptr
  by_cases h1 : after < 0
  · clear h0
    go_enter Try.func17, Try.ntmps17
    go_wp2
    go_ret
    exact ⟨rfl, rfl⟩
  · have h2 : 1073741824 < after := by omega
    clear h0
    go_enter Try.func17, Try.ntmps17
    go_wp2
    go_ret
    exact ⟨rfl, rfl⟩

set_option maxRecDepth 100000 in
set_option maxHeartbeats 1000000 in
theorem Cut_ok (w : World) (x : Pl) (N : Nat) (d : Dk.Dev) (h : Has w x N d) (hN : N ≤ 1000000000) (after : Int) (h0 : 0 ≤ after) (h1 : after ≤ 1073741824) :
    Calls Try.prog 17 #[ptr x.p, .int .i64 after] w fun r w' => r = .returned (.int .i64 0) ∧ Has w' x (N + 1) (d.cut after) ∧ Turn x.bl w w' := by
  obtain ⟨-, -, -, c3, -, c5, fz⟩ := h.cells
  have hop := h.hop
  have hop' : (d.op : Int) ≤ 1000000000 := by omega
  have hcu0 := h.ok.cu0
  have hcu1 := h.ok.cu1
  have hwr : IntKind.i64.wrap ((d.op : Int) + after) = (d.op : Int) + after := by rw [IntKind.wrap_i64]; omega
  have hok := Dk.cut_ok h.ok h0 (by omega)
  unfold ptr
  by_cases hle : d.cu ≤ (d.op : Int) + after
  · have HK : Hid (Has (w.drew.setCell ⟨x.p, 5, none⟩ (.int .i64 d.cu)) x (N + 1) (d.cut after)) :=
      h.drew.setF (N' := N + 1) (d' := d.cut after) 5 (.int .i64 d.cu) (by simp [fields, Dk.Dev.cut, hle]) rfl rfl rfl hok (by omega) (by simp only [Dk.Dev.cut]; omega)
    have HT : Hid (Turn x.bl w (w.drew.setCell ⟨x.p, 5, none⟩ (.int .i64 d.cu))) := (Turn.refl _ w).drew.join (turn_set _ x 5 _)
    clear hok h hop hN
    go_enter Try.func17, Try.ntmps17
    go_wp2_with fail
    go_region
    all_goals go_wp2
    all_goals go_ret
    all_goals exact ⟨rfl, HK.out, HT.out⟩
  · have HK : Hid (Has (w.drew.setCell ⟨x.p, 5, none⟩ (.int .i64 ((d.op : Int) + after))) x (N + 1) (d.cut after)) :=
      h.drew.setF (N' := N + 1) (d' := d.cut after) 5 (.int .i64 ((d.op : Int) + after)) (by simp [fields, Dk.Dev.cut, hle]) rfl rfl rfl hok (by omega) (by simp only [Dk.Dev.cut]; omega)
    have HT : Hid (Turn x.bl w (w.drew.setCell ⟨x.p, 5, none⟩ (.int .i64 ((d.op : Int) + after)))) := (Turn.refl _ w).drew.join (turn_set _ x 5 _)
    clear hok h hop hN
    go_enter Try.func17, Try.ntmps17
    go_wp2_with fail
    go_region
    all_goals go_wp2
    all_goals go_ret
    all_goals exact ⟨rfl, HK.out, HT.out⟩
end Go.Proofs.Ytccfoafcfnhejaa
