/-
  WHAT THE LANDED CODE's size, Size, bodied, deep, Deep DO.
-/
import Derived.Test.YtfgdlnidfkjbdaaDoorAFoP
import Derived.Test.YtfgdlnidfkjbdaaDoorASame
namespace Go.Proofs.YtfgdlnidfkjbdaaDoor
open Go.RowKit

theorem Ac.ht_drop : ∀ {f : Ac.Fo} {k : Nat} {o : Int} {a : List (List UInt8)} {n : Int} {b r : Ac.Fo}, f.drop k = .cons o a n b r → 1 + Ac.ht b ≤ Ac.ht f
  | .nil, k, _, _, _, _, _, h => by rw [Ac.Fo.drop_nil] at h; cases h
  | .cons _ _ _ _ t, 0, _, _, _, _, _, h => by
    simp only [Ac.Fo.drop, Ac.Fo.cons.injEq] at h
    rw [Ac.ht, h.2.2.2.1]
    omega
  | .cons _ _ _ _ t, k + 1, _, _, _, _, _, h => by
    have := Ac.ht_drop (f := t) (k := k) h
    rw [Ac.ht]
    omega
theorem Ac.size_le_drop : ∀ (f : Ac.Fo) (k : Nat), Ac.size (f.drop k) ≤ Ac.size f
  | _, 0 => Nat.le_refl _
  | .nil, _ + 1 => Nat.le_refl _
  | .cons _ _ _ _ t, k + 1 => by
    have := Ac.size_le_drop t k
    rw [Ac.Fo.drop, Ac.size]
    omega
set_option maxRecDepth 100000 in
set_option maxHeartbeats 1000000 in
theorem size_any : ∀ (f : Ac.Fo) (v : Value) (w : World) (B k : Nat), FoS w B v f → B ≤ w.heap.size → Ac.ht f ≤ k + 1 → k ≤ 65536 → Ac.size f ≤ 1099511627 → Calls Tryd.prog 38 #[v, .int .i64 (k : Int)] w fun e w' => e = .returned (.int .i64 (Ac.size f : Int)) ∧ Below w.heap.size w w' := by
  refine Ac.fo_ind fun f ih => ?_
  intro v w B k h hB hh hk64 hs
  obtain ⟨ad, c, rfl, hle⟩ := h.shape
  have hfl := Ac.len_size f
  have HI : Hid _ := ih
  clear ih
  go_enter Tryd.func38, Tryd.ntmps38
  go_wp2
  go_loopw [5, 12] (fun n i w' => ∃ j m : Nat, j ≤ f.len ∧ i = .int .i64 (j : Int) ∧ n = .int .i64 (m : Int) ∧ Hid (m + Ac.size (f.drop j) = Ac.size f + (f.len - j)) ∧ Below w.heap.size w w') (fun _ i _ => f.len - (intOf i).toNat)
  case atStart => exact ⟨0, f.len, Nat.zero_le _, rfl, rfl, by show _ = _; simp [Ac.Fo.drop]; omega, Below.refl _ _⟩
  case round =>
    obtain ⟨j, m, hj, rfl, rfl, HM, hb⟩ := hrel
    have b2 : (f.len : Int) ≤ 1099511627 := by omega
    by_cases hlt : j < f.len
    · have i1 : (j : Int) < (f.len : Int) := by omega
      obtain ⟨o, a, n, b, r, e⟩ := Ac.Fo.drop_lt hlt
      obtain ⟨g, og, c', aa, ac, ba, bc, e1, hg, c0, c1, c2, c3, -, hbd⟩ := (h.below hb hB).at e hlt
      simp only [Value.slice.injEq] at e1
      obtain ⟨rfl, -, rfl⟩ := e1
      have h1 := HM.out
      have hle2 := Ac.size_le_drop f j
      rw [e, Ac.size] at h1 hle2
      have h2 := Ac.Fo.drop_next e
      have hht := Ac.ht_drop e
      have hZn := Rw.new wr #[.int .i64 o, .slice aa a.length ac, .int .i64 n, .slice ba b.len bc] 34
      have hZb := (Below.refl wr.heap.size wr).alloc (Nat.le_refl _) (.cells #[.int .i64 o, .slice aa a.length ac, .int .i64 n, .slice ba b.len bc] 34)
      by_cases hk : k = 0
      · have hbn : b = .nil := Ac.ht_nil (by omega)
        subst hbn
        have k0 : ¬ (0 : Int) < (k : Int) := by omega
        have HN : Hid (m + Ac.size (f.drop (j + 1)) = Ac.size f + (f.len - (j + 1))) := by show _ = _; rw [h2]; simp only [Ac.size] at h1; omega
        clear HM h1 h2 e hbd hs hfl HI hle2 hht
        go_wp2
        exact ⟨⟨j + 1, m, by omega, by go_num, rfl, HN.out, hb.trans (hZb.mono hb.size)⟩, by simp [intOf]; omega⟩
      · have k0 : (0 : Int) < (k : Int) := by omega
        have kb : (k : Int) ≤ 65536 := by omega
        have ke : ((k - 1 : Nat) : Int) = (k : Int) - 1 := by omega
        have hc := fun W (hW : Below wr.heap.size wr W) => HI.out j o a n b r e (.slice ba b.len bc) W B (k - 1) (hbd.below hW (by have := hb.size; omega)) (by have := hb.size; have := hW.size; omega) (by omega) (by omega) (by omega)
        rw [ke] at hc
        obtain ⟨sb, hsb⟩ : ∃ sb, Ac.size b = sb := ⟨_, rfl⟩
        rw [hsb] at hc h1 hle2
        have HN : Hid (m + sb + Ac.size (f.drop (j + 1)) = Ac.size f + (f.len - (j + 1))) := by show _ = _; rw [h2]; omega
        have b1 : (m : Int) + (sb : Int) ≤ 3099511627 := by omega
        clear HM h1 h2 hsb e hbd hs hfl HI hle2 hht ke
        go_upto_region 5 with fail
        generalize wr.alloc (.cells #[.int .i64 o, .slice aa a.length ac, .int .i64 n, .slice ba b.len bc] 34) = Z at hZn hZb ⊢
        have t3 : Z.cell? ⟨wr.heap.size, 3, none⟩ = some (.slice ba b.len bc) := hZn.cell 3
        go_wp2_with (first | (go_at_call 38; refine (hc Z hZb).mono ?_; rintro e w1 ⟨rfl, hb1⟩) | fail)
        exact ⟨⟨j + 1, m + sb, by omega, by go_num, by go_num, HN.out, hb.trans ((hZb.mono hb.size).trans (hb1.mono (by have := hZb.size; have := hb.size; omega)))⟩, by simp [intOf]; omega⟩
    · obtain rfl : j = f.len := by omega
      have i1 : ¬ (f.len : Int) < (f.len : Int) := by omega
      have HF : Hid (m = Ac.size f) := by
        have := HM.out
        rw [Ac.Fo.drop_len, Ac.size] at this
        show _ = _
        omega
      clear HM HI
      go_wp2
      go_ret
      rw [← HF.out]
      exact ⟨rfl, hb⟩

set_option maxRecDepth 100000 in
theorem Size_any (f : Ac.Fo) (v : Value) (w : World) (B : Nat) (h : FoS w B v f) (hB : B ≤ w.heap.size) (hh : Ac.ht f ≤ 65536) (hs : Ac.size f ≤ 1099511627) : Calls Tryd.prog 21 #[v] w fun e w' => e = .returned (.int .i64 (Ac.size f : Int)) ∧ Below w.heap.size w w' := by
  have hc := size_any f v w B 65536 h hB (by omega) (Nat.le_refl _) hs
  obtain ⟨ad, c, rfl, hle⟩ := h.shape
  go_enter Tryd.func21, Tryd.ntmps21
  go_wp2_with (first | (go_at_call 38; refine hc.mono ?_; rintro e w1 ⟨rfl, hb1⟩) | fail)
  go_ret
  exact ⟨rfl, hb1⟩
/-- has a statement a body? -/
def Ac.hasB (op : Int) (b : Ac.Fo) : Bool := Ac.opens op || decide (b ≠ .nil)
theorem Ac.len_pos {b : Ac.Fo} : 0 < b.len ↔ b ≠ .nil := by
  cases b with
  | nil => simp [Ac.Fo.len]
  | cons _ _ _ _ _ => simp [Ac.Fo.len]
set_option maxRecDepth 100000 in
theorem bodied_any (op n : Int) (b : Ac.Fo) (aa : Option Addr) (an ac : Nat) (ba : Option Addr) (bc : Nat) (w : World) (hL : Laid w) : Calls Tryd.prog 54 #[.agg #[.int .i64 op, .slice aa an ac, .int .i64 n, .slice ba b.len bc]] w fun e w' => e = .returned (.bool (Ac.hasB op b)) ∧ Below w.heap.size w w' := by
  have hbe := (Below.refl w.heap.size w).alloc (Nat.le_refl _) (.cells #[.int .i64 op, .slice aa an ac, .int .i64 n, .slice ba b.len bc] 34)
  have hYn := Rw.new w #[.int .i64 op, .slice aa an ac, .int .i64 n, .slice ba b.len bc] 34
  have hLY := hL.alloc (.cells #[.int .i64 op, .slice aa an ac, .int .i64 n, .slice ba b.len bc] 34)
  have HB : Hid (Ac.hasB op b = (Ac.opens op || decide (0 < (b.len : Int)))) := by
    show _ = _
    unfold Ac.hasB
    congr 1
    rw [decide_eq_decide, ← Ac.len_pos]
    omega
  generalize Ac.hasB op b = R at *
  by_cases h0 : 0 < op
  · by_cases h1 : op < 13
    · obtain ⟨k, rfl⟩ : ∃ k : Nat, op = (k : Int) := ⟨op.toNat, by omega⟩
      have hKB : ∀ Z, Laid Z → Z.cell? ⟨0, k * 5 + 4, none⟩ = some (.bool (Ac.opens (k : Int))) := fun Z h => h.kinds _ _ ((Ac.kCells_at k (by omega) 4 (by omega)).trans (by rw [show Ac.opens (k : Int) = Ac.kb k by unfold Ac.opens Ac.kb; congr 1; rw [eq_iff_iff]; omega]; rfl))
      have k2 : (0 : Int) ≤ (k : Int) := by omega
      generalize Ac.opens (k : Int) = OP at *
      cases OP with
      | true =>
        go_enter Tryd.func54, Tryd.ntmps54
        go_upto_region 1 with fail
        generalize w.alloc (.cells #[.int .i64 (k : Int), .slice aa an ac, .int .i64 n, .slice ba b.len bc] 34) = Y at hbe hYn hLY ⊢
        have t0 : Y.cell? ⟨w.heap.size, 0, none⟩ = some (.int .i64 (k : Int)) := hYn.cell 0
        have kk := hKB Y hLY
        go_wp2
        go_ret
        rw [HB.out]
        exact ⟨rfl, hbe⟩
      | false =>
        go_enter Tryd.func54, Tryd.ntmps54
        go_upto_region 1 with fail
        generalize w.alloc (.cells #[.int .i64 (k : Int), .slice aa an ac, .int .i64 n, .slice ba b.len bc] 34) = Y at hbe hYn hLY ⊢
        have t0 : Y.cell? ⟨w.heap.size, 0, none⟩ = some (.int .i64 (k : Int)) := hYn.cell 0
        have t3 : Y.cell? ⟨w.heap.size, 3, none⟩ = some (.slice ba b.len bc) := hYn.cell 3
        have kk := hKB Y hLY
        go_wp2
        go_ret
        rw [HB.out]
        exact ⟨by simp, hbe⟩
    · have hop : Ac.opens op = false := by unfold Ac.opens; rw [decide_eq_false_iff_not]; omega
      rw [hop] at HB
      go_enter Tryd.func54, Tryd.ntmps54
      go_upto_region 1 with fail
      generalize w.alloc (.cells #[.int .i64 op, .slice aa an ac, .int .i64 n, .slice ba b.len bc] 34) = Y at hbe hYn hLY ⊢
      have t0 : Y.cell? ⟨w.heap.size, 0, none⟩ = some (.int .i64 op) := hYn.cell 0
      have t3 : Y.cell? ⟨w.heap.size, 3, none⟩ = some (.slice ba b.len bc) := hYn.cell 3
      go_wp2
      go_ret
      rw [HB.out]
      exact ⟨by simp, hbe⟩
  · have hop : Ac.opens op = false := by unfold Ac.opens; rw [decide_eq_false_iff_not]; omega
    rw [hop] at HB
    go_enter Tryd.func54, Tryd.ntmps54
    go_upto_region 1 with fail
    generalize w.alloc (.cells #[.int .i64 op, .slice aa an ac, .int .i64 n, .slice ba b.len bc] 34) = Y at hbe hYn hLY ⊢
    have t0 : Y.cell? ⟨w.heap.size, 0, none⟩ = some (.int .i64 op) := hYn.cell 0
    have t3 : Y.cell? ⟨w.heap.size, 3, none⟩ = some (.slice ba b.len bc) := hYn.cell 3
    go_wp2
    go_ret
    rw [HB.out]
    exact ⟨by simp, hbe⟩

set_option maxRecDepth 100000 in
set_option maxHeartbeats 1000000 in
theorem deep_any : ∀ (f : Ac.Fo) (v : Value) (w : World) (B k : Nat), FoS w B v f → B ≤ w.heap.size → Laid w → Ac.ht f ≤ k → k ≤ 65536 → Ac.size f ≤ 1099511627 → Calls Tryd.prog 39 #[v, .int .i64 (k : Int)] w fun e w' => e = .returned (.int .i64 (Ac.deepL f : Int)) ∧ Below w.heap.size w w' := by
  refine Ac.fo_ind fun f ih => ?_
  intro v w B k h hB hL hh hk64 hs
  obtain ⟨ad, c, rfl, hle⟩ := h.shape
  have hfl := Ac.len_size f
  have hdh := Ac.deepL_ht f
  have HI : Hid _ := ih
  clear ih
  go_enter Tryd.func39, Tryd.ntmps39
  go_wp2
  go_loopw [5, 10] (fun n i w' => ∃ j m : Nat, j ≤ f.len ∧ i = .int .i64 (j : Int) ∧ n = .int .i64 (m : Int) ∧ Hid (max m (Ac.deepL (f.drop j)) = Ac.deepL f) ∧ Below w.heap.size w w') (fun _ i _ => f.len - (intOf i).toNat)
  case atStart => exact ⟨0, 0, Nat.zero_le _, rfl, rfl, by show _ = _; simp [Ac.Fo.drop], Below.refl _ _⟩
  case round =>
    obtain ⟨j, m, hj, rfl, rfl, HM, hb⟩ := hrel
    have b2 : (f.len : Int) ≤ 1099511627 := by omega
    by_cases hlt : j < f.len
    · have i1 : (j : Int) < (f.len : Int) := by omega
      obtain ⟨o, a, n, b, r, e⟩ := Ac.Fo.drop_lt hlt
      obtain ⟨g, og, c', aa, ac, ba, bc, e1, hg, c0, c1, c2, c3, -, hbd⟩ := (h.below hb hB).at e hlt
      simp only [Value.slice.injEq] at e1
      obtain ⟨rfl, -, rfl⟩ := e1
      have h1 := HM.out
      rw [e, Ac.deepL] at h1
      have h2 := Ac.Fo.drop_next e
      have hht := Ac.ht_drop e
      have hbs := Ac.size_body e
      have hZn := Rw.new wr #[.int .i64 o, .slice aa a.length ac, .int .i64 n, .slice ba b.len bc] 34
      have hZb := (Below.refl wr.heap.size wr).alloc (Nat.le_refl _) (.cells #[.int .i64 o, .slice aa a.length ac, .int .i64 n, .slice ba b.len bc] 34)
      have k0 : (0 : Int) < (k : Int) := by omega
      have kb : (k : Int) ≤ 65536 := by omega
      have ke : ((k - 1 : Nat) : Int) = (k : Int) - 1 := by omega
      have hLr := hL.below hb hL.size
      have hBo := fun W (hW : Below wr.heap.size wr W) => bodied_any o n b aa a.length ac ba bc W (hLr.below hW hLr.size)
      have hc := fun W (hW : Below wr.heap.size wr W) => HI.out j o a n b r e (.slice ba b.len bc) W B (k - 1) (hbd.below hW (by have := hb.size; omega)) (by have := hb.size; have := hW.size; omega) (hLr.below hW hLr.size) (by omega) (by omega) (by omega)
      rw [ke] at hc
      have hcond : (Ac.opens o = true ∨ b ≠ .nil) ↔ Ac.hasB o b = true := by unfold Ac.hasB; simp
      cases hB2 : Ac.hasB o b with
      | false =>
        rw [hB2] at hBo
        rw [if_neg (by rw [hcond, hB2]; simp)] at h1
        have HN : Hid (max m (Ac.deepL (f.drop (j + 1))) = Ac.deepL f) := by show _ = _; rw [h2]; omega
        clear HM h1 h2 e hbd hs hfl HI hht ke hcond hc
        go_upto_region 5 with fail
        generalize wr.alloc (.cells #[.int .i64 o, .slice aa a.length ac, .int .i64 n, .slice ba b.len bc] 34) = Z at hZn hZb ⊢
        have t0 : Z.cell? ⟨wr.heap.size, 0, none⟩ = some (.int .i64 o) := hZn.cell 0
        have t1 : Z.cell? ⟨wr.heap.size, 1, none⟩ = some (.slice aa a.length ac) := hZn.cell 1
        have t2 : Z.cell? ⟨wr.heap.size, 2, none⟩ = some (.int .i64 n) := hZn.cell 2
        have t3 : Z.cell? ⟨wr.heap.size, 3, none⟩ = some (.slice ba b.len bc) := hZn.cell 3
        go_wp2_with (first | (go_at_call 54; refine (hBo Z hZb).mono ?_; rintro e w1 ⟨rfl, hb1⟩) | fail)
        exact ⟨⟨j + 1, m, by omega, by go_num, rfl, HN.out, hb.trans ((hZb.mono hb.size).trans (hb1.mono (by have := hZb.size; have := hb.size; omega)))⟩, by simp [intOf]; omega⟩
      | true =>
        rw [hB2] at hBo
        rw [if_pos (by rw [hcond, hB2])] at h1
        obtain ⟨db, hdb⟩ : ∃ db, Ac.deepL b = db := ⟨_, rfl⟩
        rw [hdb] at hc h1
        obtain ⟨m', hm'⟩ : ∃ m', max m (1 + db) = m' := ⟨_, rfl⟩
        have HN : Hid (max m' (Ac.deepL (f.drop (j + 1))) = Ac.deepL f) := by show _ = _; rw [h2, ← hm']; omega
        have b1 : (1 : Int) + (db : Int) ≤ 1099511627 := by omega
        have HX : Hid (max (m : Int) (1 + (db : Int)) = (m' : Int)) := by show _ = _; omega
        clear HM h1 h2 e hbd hs hfl HI hht ke hcond hdb hm'
        go_upto_region 5 with fail
        generalize wr.alloc (.cells #[.int .i64 o, .slice aa a.length ac, .int .i64 n, .slice ba b.len bc] 34) = Z at hZn hZb ⊢
        have t0 : Z.cell? ⟨wr.heap.size, 0, none⟩ = some (.int .i64 o) := hZn.cell 0
        have t1 : Z.cell? ⟨wr.heap.size, 1, none⟩ = some (.slice aa a.length ac) := hZn.cell 1
        have t2 : Z.cell? ⟨wr.heap.size, 2, none⟩ = some (.int .i64 n) := hZn.cell 2
        have t3 : Z.cell? ⟨wr.heap.size, 3, none⟩ = some (.slice ba b.len bc) := hZn.cell 3
        go_wp2_with (first
          | (go_at_call 54; refine (hBo Z hZb).mono ?_; rintro e w1 ⟨rfl, hb1⟩; have t3b : w1.cell? ⟨wr.heap.size, 3, none⟩ = some (.slice ba b.len bc) := (hb1.cell (p := ⟨wr.heap.size, 3, none⟩) hZn.lt).trans t3)
          | (go_at_call 39; refine (hc w1 (hZb.trans (hb1.mono hZb.size))).mono ?_; rintro e w2 ⟨rfl, hb2⟩)
          | fail)
        exact ⟨⟨j + 1, m', by omega, by go_num, by rw [HX.out], HN.out, hb.trans ((hZb.mono hb.size).trans ((hb1.mono (by have := hZb.size; have := hb.size; omega)).trans (hb2.mono (by have := hZb.size; have := hb.size; have := hb1.size; omega))))⟩, by simp [intOf]; omega⟩
    · obtain rfl : j = f.len := by omega
      have i1 : ¬ (f.len : Int) < (f.len : Int) := by omega
      have HF : Hid (m = Ac.deepL f) := by
        have := HM.out
        rw [Ac.Fo.drop_len, Ac.deepL] at this
        show _ = _
        omega
      clear HM HI
      go_wp2
      go_ret
      rw [← HF.out]
      exact ⟨rfl, hb⟩
set_option maxRecDepth 100000 in
theorem Deep_any (f : Ac.Fo) (v : Value) (w : World) (B : Nat) (h : FoS w B v f) (hB : B ≤ w.heap.size) (hL : Laid w) (hh : Ac.ht f ≤ 65536) (hs : Ac.size f ≤ 1099511627) : Calls Tryd.prog 22 #[v] w fun e w' => e = .returned (.int .i64 (Ac.deepL f : Int)) ∧ Below w.heap.size w w' := by
  have hc := deep_any f v w B 65536 h hB hL hh (Nat.le_refl _) hs
  obtain ⟨ad, c, rfl, hle⟩ := h.shape
  go_enter Tryd.func22, Tryd.ntmps22
  go_wp2_with (first | (go_at_call 39; refine hc.mono ?_; rintro e w1 ⟨rfl, hb1⟩) | fail)
  go_ret
  exact ⟨rfl, hb1⟩

end Go.Proofs.YtfgdlnidfkjbdaaDoor
