/-
  THE LAWS' since, does: a call on both trees.
-/
import Derived.Test.YtifolddmcibkdaaLBoth
import Derived.Deep.QuietTactic
import Derived.BigQuiet
import Derived.Deep.RegionHeld3
namespace Go.Proofs.Ytifolddmcibkdaa
open Go.RowKit

def opV (o : Tm.Op) : Value := .agg #[.int .i64 o.kind, .string o.path, .string o.text, .int .i64 o.n]
def Tm.asks (o : Tm.Op) (m : Nat) : Int := if o.n < 0 then wrap64 ((m : Int) + o.n) else o.n
set_option maxRecDepth 100000 in
theorem since_any (o : Tm.Op) (m : Nat) (w : World) : Calls Try.prog 32 #[opV o, .int .i64 (m : Int)] w fun e w' => e = .returned (.int .i64 (Tm.asks o m)) ∧ Below w.heap.size w w' := by
  unfold opV
  by_cases h : o.n < 0
  · have HA : Hid (Tm.asks o m = wrap64 ((m : Int) + o.n)) := by show _ = _; unfold Tm.asks; rw [if_pos h]
    go_enter Try.func32, Try.ntmps32
    go_wp2
    go_ret
    exact ⟨by rw [HA.out]; first | rfl | trace_state, (Below.refl _ _).alloc (Nat.le_refl _) _⟩
  · have HA : Hid (Tm.asks o m = o.n) := by show _ = _; unfold Tm.asks; rw [if_neg h]
    go_enter Try.func32, Try.ntmps32
    go_wp2
    go_ret
    exact ⟨by rw [HA.out]; rfl, (Below.refl _ _).alloc (Nat.le_refl _) _⟩

set_option maxRecDepth 100000 in
set_option maxHeartbeats 8000000 in
theorem does_any {w0 : World} (g r : Nat) (t : Tm.T) (A : List Nat) (o : Tm.Op) (w : World) (h : Both w0 w g r t A) (hk : Tm.Ok t) (hc : t.chs.length < 1000000) :
    Calls Try.prog 14 #[.pointer (some ⟨g, 0, none⟩), .pointer (some ⟨r, 0, none⟩), opV o] w fun e w' => e = .returned (.bool true) ∧ Both w0 w' g r (Tm.step t o) A ∧ KeepD A w w' := by
  unfold opV
  have hbx := heap_alloc_new w (.cells #[.int .i64 o.kind, .string o.path, .string o.text, .int .i64 o.n] 41)
  obtain ⟨Wc, hWc⟩ : ∃ Wc, w.alloc (.cells #[.int .i64 o.kind, .string o.path, .string o.text, .int .i64 o.n] 41) = Wc := ⟨_, rfl⟩
  rw [hWc] at hbx
  have hBc : Below w.heap.size w Wc := by rw [← hWc]; exact (Below.refl _ _).alloc (Nat.le_refl _) _
  have hO : Both w0 Wc g r t (A ++ [w.heap.size]) := h.more hBc (fun b hb => by rw [List.mem_singleton.1 hb, ← hWc]; simp)
  have hKA := (h.below hBc).2
  have k0 := (cell_of_row Wc w.heap.size 0 _ 41 (0, 0) hbx).trans rfl
  have k1 := (cell_of_row Wc w.heap.size 1 _ 41 (0, 0) hbx).trans rfl
  have k2 := (cell_of_row Wc w.heap.size 2 _ 41 (0, 0) hbx).trans rfl
  have k3 := (cell_of_row Wc w.heap.size 3 _ 41 (0, 0) hbx).trans rfl
  have HKA : Hid _ := hKA
  have HBX : Hid _ := hbx
  clear hbx hKA
  by_cases e0 : o.kind = 0
  · have q0 : (o.kind == 0) = true := by simp [e0]
    have HE : Hid (Tm.step t o = (Tm.write t o.path o.text).2) := by show _ = _; unfold Tm.step; rw [if_pos e0]
    clear e0
    go_enter Try.func14, Try.ntmps14
    go_wp2_with fail
    have hOd : Both w0 Wc.drew g r t (A ++ [w.heap.size]) := (hO.below ((Below.refl _ _).drew)).1
    go_region_held3 (fun W : World => W.cell? ⟨w.heap.size, 1, none⟩ = some (.string o.path) ∧ W.cell? ⟨w.heap.size, 2, none⟩ = some (.string o.text)) (first | exact ⟨k1, k2⟩ | exact ⟨k1b, k2b⟩ | exact ⟨k1c, k2c⟩)
      (first
        | (go_at_call 18; refine (BWrite o.path o.text hOd hk).mono ?_; rintro e w2 ⟨rfl, hM, hd⟩; have k1b := hd.cell (j := 1) (by simp) k1; have k2b := hd.cell (j := 2) (by simp) k2)
        | (go_at_call 28; refine (MWrite o.path o.text hM hk).mono ?_; rintro e w3 ⟨rfl, hB3, hd3⟩; have k1c := hd3.cell (j := 1) (by simp) k1b; have k2c := hd3.cell (j := 2) (by simp) k2b))
    have m1 : (((Tm.write t o.path o.text).1 : Int) == ((Tm.write t o.path o.text).1 : Int)) = true := by simp
    clear hM hO hOd k0 k1 k2 k3 k1b k2b k1c k2c
    go_wp2
    go_ret
    exact ⟨by first | rfl | simp, by rw [HE.out]; exact hB3.less, KeepD.trans (B := Wc) HKA.out (KeepD.trans (B := w2) hd.less hd3.less)⟩
  have q0 : (o.kind == 0) = false := by simp [e0]
  by_cases e1 : o.kind = 1
  · have q1 : (o.kind == 1) = true := by simp [e1]
    have HE : Hid (Tm.step t o = (Tm.remove t o.path).2) := by show _ = _; unfold Tm.step; rw [if_neg e0, if_pos e1]
    clear e0 e1
    go_enter Try.func14, Try.ntmps14
    go_wp2_with fail
    have hOd : Both w0 Wc.drew g r t (A ++ [w.heap.size]) := (hO.below ((Below.refl _ _).drew)).1
    go_region_held3 (fun W : World => W.cell? ⟨w.heap.size, 1, none⟩ = some (.string o.path)) (first | exact k1 | exact k1b | exact k1c)
      (first
        | (go_at_call 19; refine (BRemove o.path hOd hk).mono ?_; rintro e w2 ⟨rfl, hM, hd⟩; have k1b := hd.cell (j := 1) (by simp) k1)
        | (go_at_call 29; refine (MRemove o.path hM hk).mono ?_; rintro e w3 ⟨rfl, hB3, hd3⟩; have k1c := hd3.cell (j := 1) (by simp) k1b))
    have m1 : (((Tm.remove t o.path).1 : Int) == ((Tm.remove t o.path).1 : Int)) = true := by simp
    clear hM hO hOd k0 k1 k2 k3 k1b k1c
    go_wp2
    go_ret
    exact ⟨by first | rfl | simp, by rw [HE.out]; exact hB3.less, KeepD.trans (B := Wc) HKA.out (KeepD.trans (B := w2) hd.less hd3.less)⟩
  have q1 : (o.kind == 1) = false := by simp [e1]
  have HE : Hid (Tm.step t o = t) := by show _ = _; unfold Tm.step; rw [if_neg e0, if_neg e1]
  have hfew := hk.few
  have HB : Hid (∀ W, Below Wc.heap.size Wc W → Both w0 W g r (Tm.step t o) A ∧ KeepD A w W) := fun W hW => by
    obtain ⟨a1, a2⟩ := hO.below hW
    rw [HE.out]
    exact ⟨a1.less, KeepD.trans (B := Wc) HKA.out a2.less⟩
  clear e0 e1
  by_cases e2 : o.kind = 2
  · have q2 : (o.kind == 2) = true := by simp [e2]
    clear e2
    go_enter Try.func14, Try.ntmps14
    go_wp2_with fail
    refine (BRead o.path hO hk).mono ?_
    rintro e w2 ⟨rfl, hB2⟩
    have k1b := (hB2.cell (p := ⟨w.heap.size, 1, none⟩) (by rw [← hWc]; simp)).trans k1
    have hO2 := (hO.below hB2).1
    go_wp2_with fail
    refine (BReadR o.path hO2 hk).mono ?_
    rintro e w3 ⟨rfl, hB3⟩
    have hfin := HB.out w3 (hB2.trans (hB3.mono hB2.size))
    clear k0 k1 k2 k3 k1b hO hO2
    obtain ⟨x, y⟩ := Tm.read t o.path
    have b1 : (x.toList == x.toList) = true := by simp
    have b2 : ((y : Int) == (y : Int)) = true := by simp
    go_wp2
    go_ret
    exact ⟨rfl, hfin⟩
  have q2 : (o.kind == 2) = false := by simp [e2]
  clear e2
  by_cases e3 : o.kind = 3
  · have q3 : (o.kind == 3) = true := by simp [e3]
    clear e3
    go_enter Try.func14, Try.ntmps14
    go_wp2_with fail
    refine (BListed o.path hO hk).mono ?_
    rintro e w2 ⟨v2, rfl, hv2, hB2⟩
    have k1b := (hB2.cell (p := ⟨w.heap.size, 1, none⟩) (by rw [← hWc]; simp)).trans k1
    have hO2 := (hO.below hB2).1
    obtain ⟨ad2, c2, hve2, -⟩ := hv2.sl.shape
    subst hve2
    go_wp2_with fail
    refine (BListR o.path hO2 hk).mono ?_
    rintro e w3 ⟨v3, rfl, hv3, hB3⟩
    have hs2 := hv2.sl.below hB3 (Nat.le_refl _)
    have hs3 := hv3.sl
    have hll := list_len hk o.path
    clear k0 k1 k2 k3 k1b hO hO2
    go_wp2_with fail
    refine (texts_any w3 w3.heap.size _ _ _ _ (hs2.mono hB3.size) hs3 (by omega)).mono ?_
    rintro e w4 ⟨rfl, hB4⟩
    rw [decide_eq_true rfl]
    have hfin := HB.out w4 ((hB2.trans (hB3.mono hB2.size)).trans (hB4.mono (Nat.le_trans hB2.size hB3.size)))
    clear hs2 hs3 hll hv2 hv3
    go_wp2
    go_ret
    exact ⟨rfl, hfin⟩
  have q3 : (o.kind == 3) = false := by simp [e3]
  clear e3
  obtain ⟨vf, vc, c0, c1, -, hvc, hrlt⟩ := hO.cells
  obtain ⟨adc, cc, rfl, -⟩ := hvc.shape
  clear hvc c0
  go_enter Try.func14, Try.ntmps14
  go_wp2_with fail
  have hcl : r < Wc.heap.size := hrlt
  have hbl : w.heap.size < Wc.heap.size := by rw [← hWc]; simp
  go_region_held3 (fun W : World => W.cell? ⟨w.heap.size, 0, none⟩ = some (.int .i64 o.kind) ∧ W.cell? ⟨w.heap.size, 1, none⟩ = some (.string o.path) ∧ W.cell? ⟨w.heap.size, 2, none⟩ = some (.string o.text) ∧ W.cell? ⟨w.heap.size, 3, none⟩ = some (.int .i64 o.n) ∧ W.cell? ⟨r, 1, none⟩ = some (.slice adc t.chs.length cc))
    (first | exact ⟨k0, k1, k2, k3, c1⟩ | exact ⟨l0, l1, l2, l3, l4⟩)
    (first
      | (go_at_call 32; refine (since_any o t.chs.length _).mono ?_; rintro e w2 ⟨rfl, hB2⟩; have l0 := (hB2.cell (p := ⟨w.heap.size, 0, none⟩) hbl).trans k0; have l1 := (hB2.cell (p := ⟨w.heap.size, 1, none⟩) hbl).trans k1; have l2 := (hB2.cell (p := ⟨w.heap.size, 2, none⟩) hbl).trans k2; have l3 := (hB2.cell (p := ⟨w.heap.size, 3, none⟩) hbl).trans k3; have l4 := (hB2.cell (p := ⟨r, 1, none⟩) hcl).trans c1))
  have hB2' : Below Wc.heap.size Wc w2 := (Below.refl _ _).drew.trans hB2
  have hO2 := (hO.below hB2').1
  clear k0 k1 k2 k3 c1 l0 l1 l2 l3 l4 hB2
  generalize Tm.asks o t.chs.length = m
  go_wp2_with fail
  refine (BSince m hO2 hk).mono ?_
  rintro e w3 ⟨v3, rfl, hv3, hB3⟩
  have hO3 := (hO2.below hB3).1
  obtain ⟨ad3, c3, hve3, -⟩ := hv3.shape
  subst hve3
  go_wp2_with fail
  refine (BSinceR m hO3 hk).mono ?_
  rintro e w4 ⟨v4, rfl, hv4, hB4⟩
  have hs3 := (hv3.below hB4 (Nat.le_refl _)).mono hB4.size
  have hs4 := hv4.sl
  have hsl := since_len t m
  have HS4 : Hid _ := hs4
  obtain ⟨ad4, c4, hve4, -⟩ := hs4.shape
  subst hve4
  have hfin := HB.out w4 ((hB2'.trans (hB3.mono hB2'.size)).trans (hB4.mono (Nat.le_trans hB2'.size hB3.size)))
  have hBz := (hB2'.trans (hB3.mono hB2'.size)).trans (hB4.mono (Nat.le_trans hB2'.size hB3.size))
  clear hO hO2 hO3 hv4 hv3 hs4 hfin
  obtain ⟨x, hx⟩ : ∃ x, Tm.since t m = x := ⟨_, rfl⟩
  rw [hx] at hs3 HS4 hsl ⊢
  clear hx
  obtain ⟨L, bb⟩ := x
  have hsl2 : L.length ≤ t.chs.length := hsl
  have hs5 : StR.Sl w4 w4.heap.size (.slice ad3 L.length c3) L := hs3
  clear hs3 hsl
  have b1 : (bb == bb) = true := by simp
  go_wp2_with fail
  refine (texts_any w4 w4.heap.size _ _ L L hs5 HS4.out (by omega)).mono ?_
  rintro e w5 ⟨rfl, hB5⟩
  rw [decide_eq_true rfl]
  have hfin := HB.out w5 (hBz.trans (hB5.mono hBz.size))
  clear hs5 HS4
  go_wp2
  go_ret
  exact ⟨rfl, hfin⟩

end Go.Proofs.Ytifolddmcibkdaa
