/-
  WHAT THE LANDED CODE's same, Same DO; slices.Equal of texts, slices.EqualFunc of statements.
-/
import Derived.Test.YtfgdlnidfkjbdaaDoorASizeL
namespace Go.Proofs.YtfgdlnidfkjbdaaDoor
open Go.RowKit

set_option maxRecDepth 100000 in
set_option maxHeartbeats 1000000 in
theorem EqualS_any (a b : List (List UInt8)) (va vb : Value) (B : Nat) (w : World) (ha : TxR.Sl w B va a) (hb : TxR.Sl w B vb b) (hB : B ≤ w.heap.size) (hl : a.length ≤ 1099511627) :
    Calls Tryd.prog 46 #[va, vb] w fun e w' => e = .returned (.bool (decide (a = b))) ∧ Below w.heap.size w w' := by
  obtain ⟨ad, c, rfl, hle⟩ := ha.shape
  obtain ⟨bd, d, rfl, hld⟩ := hb.shape
  by_cases hlen : a.length = b.length
  · have i0 : ((a.length : Int) == (b.length : Int)) = true := by rw [beq_iff_eq]; omega
    obtain ⟨R, hR⟩ : ∃ R, decide (a = b) = R := ⟨_, rfl⟩
    rw [hR]
    have HR : Hid _ := hR
    clear hR
    have bl : (a.length : Int) ≤ 1099511627 := by omega
    have HLe : Hid _ := hlen
    have hbl : (a.length : Int) ≤ (b.length : Int) := by omega
    clear hlen
    go_enter Tryd.func46, Tryd.ntmps46
    go_wp2
    go_loopw [13] (fun i w' => ∃ j : Nat, j ≤ a.length ∧ i = .int .i64 (j : Int) ∧ Hid (a.take j = b.take j) ∧ Below w.heap.size w w') (fun i _ => a.length - (intOf i).toNat)
    case atStart => exact ⟨0, Nat.zero_le _, rfl, by show _ = _; simp, Below.refl _ _⟩
    case round =>
      obtain ⟨j, hj, rfl, HT, hbe⟩ := hrel
      by_cases hlt : j < a.length
      · have hlt2 : j < b.length := by have := HLe.out; omega
        have i1 : (j : Int) < (a.length : Int) := by omega
        have i2 : (j : Int) < (b.length : Int) := by omega
        obtain ⟨g1, o1, c1, e1, hg1, p1⟩ := TxR.at (ha.below hbe hB) hlt
        obtain ⟨g2, o2, c2, e2, hg2, p2⟩ := TxR.at (hb.below hbe hB) hlt2
        simp only [Value.slice.injEq] at e1 e2
        obtain ⟨rfl, -, rfl⟩ := e1
        obtain ⟨rfl, -, rfl⟩ := e2
        obtain ⟨S1, hS1⟩ : ∃ S, str a[j] = S := ⟨_, rfl⟩
        obtain ⟨S2, hS2⟩ : ∃ S, str b[j] = S := ⟨_, rfl⟩
        rw [hS1] at p1
        rw [hS2] at p2
        by_cases he : a[j] = b[j]
        · have q : (S1.toList == S2.toList) = true := by rw [← hS1, ← hS2, he]; exact beq_self_eq_true _
          have HT2 : Hid (a.take (j + 1) = b.take (j + 1)) := take_moreA hlt hlt2 HT.out he
          clear he hS1 hS2
          go_wp2
          go_quiet (fail)
          go_wp2
          exact ⟨⟨j + 1, by omega, by go_num, HT2.out, below_drewF hbe _⟩, by simp [intOf]; omega⟩
        · have q : (S1.toList == S2.toList) = false := by
            rw [beq_eq_false_iff_ne, ByteArray.toList_eq, ByteArray.toList_eq, ← hS1, ← hS2, str_toList, str_toList]
            exact he
          have HF : Hid (R = false) := by
            show _ = _
            rw [← HR.out]
            exact decide_eq_false fun h => he (by subst h; rfl)
          clear he hS1 hS2
          go_wp2
          go_quiet (fail)
          go_wp2
          go_ret
          rw [HF.out]
          exact ⟨rfl, below_drewF hbe _⟩
      · obtain rfl : j = a.length := by omega
        have i1 : ¬ (a.length : Int) < (a.length : Int) := by omega
        have HF : Hid (R = true) := by
          show _ = _
          rw [← HR.out, decide_eq_true_iff]
          have := HT.out
          rwa [List.take_length, HLe.out, List.take_length] at this
        clear HT
        go_wp2
        go_ret
        rw [HF.out]
        exact ⟨rfl, hbe⟩
  · have i0 : ((a.length : Int) == (b.length : Int)) = false := by rw [beq_eq_false_iff_ne]; omega
    have HF : Hid (decide (a = b) = false) := decide_eq_false fun h => hlen (by rw [h])
    generalize decide (a = b) = R at *
    clear hlen
    go_enter Tryd.func46, Tryd.ntmps46
    go_wp2
    go_ret
    rw [HF.out]
    exact ⟨rfl, Below.refl _ _⟩

/-- the closure's answer on two statements -/
def EltC (k : Nat) : Prop := ∀ (o1 n1 o2 n2 : Int) (a1 a2 : List (List UInt8)) (b1 b2 : Ac.Fo) (x1 x2 y1 y2 : Option Addr) (c1 c2 d1 d2 B gk : Nat) (w : World), TxR.Sl w B (.slice x1 a1.length c1) a1 → TxR.Sl w B (.slice x2 a2.length c2) a2 → FoS w B (.slice y1 b1.len d1) b1 → FoS w B (.slice y2 b2.len d2) b2 → B ≤ w.heap.size → w.cell? ⟨gk, 0, none⟩ = some (.int .i64 (k : Int)) → gk < w.heap.size →
    Ac.ht b1 ≤ k → Ac.ht b2 ≤ k → Ac.size b1 ≤ 1099511627 → Ac.nar 1099511627 b1 → a1.length ≤ 1099511627 →
    Calls Tryd.prog 45 #[.agg #[.int .i64 o1, .slice x1 a1.length c1, .int .i64 n1, .slice y1 b1.len d1], .agg #[.int .i64 o2, .slice x2 a2.length c2, .int .i64 n2, .slice y2 b2.len d2], .pointer (some ⟨gk, 0, none⟩)] w fun e w' => e = .returned (.bool (decide (o1 = o2 ∧ n1 = n2 ∧ a1 = a2 ∧ b1 = b2))) ∧ Below w.heap.size w w'
/-- what same does -/
def SameC (k : Nat) : Prop := ∀ (f g : Ac.Fo) (va vb : Value) (B : Nat) (w : World), FoS w B va f → FoS w B vb g → B ≤ w.heap.size → Ac.ht f ≤ k + 1 → Ac.ht g ≤ k + 1 → Ac.size f ≤ 1099511627 → Ac.nar 1099511627 f → k ≤ 65536 →
    Calls Tryd.prog 29 #[va, vb, .int .i64 (k : Int)] w fun e w' => e = .returned (.bool (decide (f = g))) ∧ Below w.heap.size w w'
theorem Ac.drop_eq : ∀ {f g : Ac.Fo} {j : Nat}, f.drop j = g.drop j → f.take j = g.take j → f = g
  | f, g, 0, h, _ => h
  | .nil, .nil, j + 1, _, _ => rfl
  | .nil, .cons _ _ _ _ _, j + 1, _, h => by simp [Ac.Fo.take] at h
  | .cons _ _ _ _ _, .nil, j + 1, _, h => by simp [Ac.Fo.take] at h
  | .cons _ _ _ _ t, .cons _ _ _ _ u, j + 1, h1, h2 => by
    simp only [Ac.Fo.take, Ac.Fo.cons.injEq] at h2
    obtain ⟨rfl, rfl, rfl, rfl, h2⟩ := h2
    rw [Ac.drop_eq (f := t) (g := u) (j := j) h1 h2]
theorem Ac.take_next : ∀ {f g : Ac.Fo} {j : Nat} {o : Int} {a : List (List UInt8)} {n : Int} {b r r' : Ac.Fo}, f.drop j = .cons o a n b r → g.drop j = .cons o a n b r' → f.take j = g.take j → f.take (j + 1) = g.take (j + 1)
  | f, g, 0, o, a, n, b, r, r', h1, h2, _ => by
    rw [show f = _ from h1, show g = _ from h2]
    cases r <;> cases r' <;> simp [Ac.Fo.take]
  | .nil, _, j + 1, _, _, _, _, _, _, h1, _, _ => by rw [Ac.Fo.drop_nil] at h1; cases h1
  | .cons _ _ _ _ _, .nil, j + 1, _, _, _, _, _, _, _, h2, _ => by rw [Ac.Fo.drop_nil] at h2; cases h2
  | .cons _ _ _ _ t, .cons _ _ _ _ u, j + 1, _, _, _, _, _, _, h1, h2, h3 => by
    simp only [Ac.Fo.take, Ac.Fo.cons.injEq] at h3 ⊢
    obtain ⟨rfl, rfl, rfl, rfl, h3⟩ := h3
    exact ⟨rfl, rfl, rfl, rfl, Ac.take_next (f := t) (g := u) (j := j) h1 h2 h3⟩
theorem Ac.take_len : ∀ f : Ac.Fo, f.take f.len = f
  | .nil => rfl
  | .cons _ _ _ _ t => by rw [Ac.Fo.len, Ac.Fo.take, Ac.take_len t]

set_option maxRecDepth 100000 in
set_option maxHeartbeats 1000000 in
theorem EqualF_any (k : Nat) (hE : EltC k) (f g : Ac.Fo) (va vb : Value) (B gk : Nat) (w : World) (h1 : FoS w B va f) (h2 : FoS w B vb g) (hB : B ≤ w.heap.size) (hk : w.cell? ⟨gk, 0, none⟩ = some (.int .i64 (k : Int))) (hgk : gk < w.heap.size) (ht1 : Ac.ht f ≤ k + 1) (ht2 : Ac.ht g ≤ k + 1) (hs : Ac.size f ≤ 1099511627) (hn : Ac.nar 1099511627 f) :
    Calls Tryd.prog 44 #[va, vb, .func (.func 45) #[] #[.pointer (some ⟨gk, 0, none⟩)]] w fun e w' => e = .returned (.bool (decide (f = g))) ∧ Below w.heap.size w w' := by
  obtain ⟨ad, c, rfl, hle⟩ := h1.shape
  obtain ⟨bd, d, rfl, hld⟩ := h2.shape
  have hfl := Ac.len_size f
  by_cases hlen : f.len = g.len
  · have i0 : ((f.len : Int) != (g.len : Int)) = false := by rw [bne_eq_false_iff_eq]; omega
    obtain ⟨R, hR⟩ : ∃ R, decide (f = g) = R := ⟨_, rfl⟩
    rw [hR]
    have HR : Hid _ := hR
    have bl : (f.len : Int) ≤ 1099511627 := by omega
    have HLe : Hid _ := hlen
    clear hR hlen
    go_enter Tryd.func44, Tryd.ntmps44
    go_wp2
    go_loopw [17] (fun i w' => ∃ j : Nat, j ≤ f.len ∧ i = .int .i64 (j : Int) ∧ Hid (f.take j = g.take j) ∧ Below w.heap.size w w') (fun i _ => f.len - (intOf i).toNat)
    case atStart => exact ⟨0, Nat.zero_le _, rfl, by show _ = _; cases f <;> cases g <;> rfl, Below.refl _ _⟩
    case round =>
      obtain ⟨j, hj, rfl, HT, hbe⟩ := hrel
      by_cases hlt : j < f.len
      · have hlt2 : j < g.len := by have := HLe.out; omega
        have i1 : (j : Int) < (f.len : Int) := by omega
        have i2 : (j : Int) < (g.len : Int) := by omega
        obtain ⟨o1, a1, n1, b1, r1, e1⟩ := Ac.Fo.drop_lt hlt
        obtain ⟨o2, a2, n2, b2, r2, e2⟩ := Ac.Fo.drop_lt hlt2
        obtain ⟨g1, og1, c1, x1, xc1, y1, yc1, q1, hg1, p10, p11, p12, p13, hta, hfa⟩ := (h1.below hbe hB).at e1 hlt
        obtain ⟨g2, og2, c2, x2, xc2, y2, yc2, q2, hg2, p20, p21, p22, p23, htb, hfb⟩ := (h2.below hbe hB).at e2 hlt2
        simp only [Value.slice.injEq] at q1 q2
        obtain ⟨rfl, -, rfl⟩ := q1
        obtain ⟨rfl, -, rfl⟩ := q2
        have hh1 := Ac.ht_drop e1
        have hh2 := Ac.ht_drop e2
        have hb1 := Ac.size_body e1
        obtain ⟨hna, hnb⟩ := Ac.nar_at hn e1
        have hBr : B ≤ wr.heap.size := by have := hbe.size; omega
        have hC := fun W (hW : Below wr.heap.size wr W) => hE o1 n1 o2 n2 a1 a2 b1 b2 x1 x2 y1 y2 xc1 xc2 yc1 yc2 B gk W (hta.below hW hBr) (htb.below hW hBr) (hfa.below hW hBr) (hfb.below hW hBr) (by have := hW.size; omega) ((hW.cell (p := ⟨gk, 0, none⟩) (by have := hbe.size; show gk < _; omega)).trans ((hbe.cell (p := ⟨gk, 0, none⟩) hgk).trans hk)) (by have := hbe.size; have := hW.size; omega) (by omega) (by omega) (by omega) hnb hna
        by_cases he : o1 = o2 ∧ n1 = n2 ∧ a1 = a2 ∧ b1 = b2
        · rw [decide_eq_true he] at hC
          have HT2 : Hid (f.take (j + 1) = g.take (j + 1)) := by
            obtain ⟨rfl, rfl, rfl, rfl⟩ := he
            exact Ac.take_next e1 e2 HT.out
          clear he e1 e2 hh1 hh2
          go_upto_region 6 with fail
          have hn1 := Rw.new wr #[.int .i64 o1, .slice x1 a1.length xc1, .int .i64 n1, .slice y1 b1.len yc1] 34
          have hw1 := (Below.refl wr.heap.size wr).alloc (Nat.le_refl _) (.cells #[.int .i64 o1, .slice x1 a1.length xc1, .int .i64 n1, .slice y1 b1.len yc1] 34)
          generalize wr.alloc (.cells #[.int .i64 o1, .slice x1 a1.length xc1, .int .i64 n1, .slice y1 b1.len yc1] 34) = W1 at hn1 hw1 ⊢
          have hg2r : g2 < wr.heap.size := by omega
          have p20' := (hw1.cell (p := ⟨g2, og2 + j * 4, none⟩) hg2r).trans p20
          have p21' := (hw1.cell (p := ⟨g2, og2 + j * 4 + 1, none⟩) hg2r).trans p21
          have p22' := (hw1.cell (p := ⟨g2, og2 + j * 4 + 2, none⟩) hg2r).trans p22
          have p23' := (hw1.cell (p := ⟨g2, og2 + j * 4 + 3, none⟩) hg2r).trans p23
          go_upto_region 7 with fail
          have hn2 := Rw.new W1 #[.int .i64 o2, .slice x2 a2.length xc2, .int .i64 n2, .slice y2 b2.len yc2] 34
          have hn1' := hn1.alloc (.cells #[.int .i64 o2, .slice x2 a2.length xc2, .int .i64 n2, .slice y2 b2.len yc2] 34)
          have hw2 := hw1.alloc hw1.size (.cells #[.int .i64 o2, .slice x2 a2.length xc2, .int .i64 n2, .slice y2 b2.len yc2] 34)
          generalize W1.alloc (.cells #[.int .i64 o2, .slice x2 a2.length xc2, .int .i64 n2, .slice y2 b2.len yc2] 34) = W2 at hn2 hn1' hw2 ⊢
          have u0 : W2.cell? ⟨wr.heap.size, 0, none⟩ = some (.int .i64 o1) := hn1'.cell 0
          have u1 : W2.cell? ⟨wr.heap.size, 1, none⟩ = some (.slice x1 a1.length xc1) := hn1'.cell 1
          have u2 : W2.cell? ⟨wr.heap.size, 2, none⟩ = some (.int .i64 n1) := hn1'.cell 2
          have u3 : W2.cell? ⟨wr.heap.size, 3, none⟩ = some (.slice y1 b1.len yc1) := hn1'.cell 3
          have v0 : W2.cell? ⟨W1.heap.size, 0, none⟩ = some (.int .i64 o2) := hn2.cell 0
          have v1 : W2.cell? ⟨W1.heap.size, 1, none⟩ = some (.slice x2 a2.length xc2) := hn2.cell 1
          have v2 : W2.cell? ⟨W1.heap.size, 2, none⟩ = some (.int .i64 n2) := hn2.cell 2
          have v3 : W2.cell? ⟨W1.heap.size, 3, none⟩ = some (.slice y2 b2.len yc2) := hn2.cell 3
          have hbe2 := hbe.trans (hw2.mono hbe.size)
          go_wp2_with (first | (go_at_call 45; refine (hC W2 hw2).mono ?_; rintro e w3 ⟨rfl, hb3⟩) | fail)
          exact ⟨⟨j + 1, by omega, by go_num, HT2.out, hbe2.trans (hb3.mono hbe2.size)⟩, by simp [intOf]; omega⟩
        · rw [decide_eq_false he] at hC
          have HF : Hid (R = false) := by
            show _ = _
            rw [← HR.out]
            refine decide_eq_false fun h => he ?_
            subst h
            rw [e1] at e2
            simp only [Ac.Fo.cons.injEq] at e2
            exact ⟨e2.1, e2.2.2.1, e2.2.1, e2.2.2.2.1⟩
          clear he e1 e2 hh1 hh2
          go_upto_region 6 with fail
          have hn1 := Rw.new wr #[.int .i64 o1, .slice x1 a1.length xc1, .int .i64 n1, .slice y1 b1.len yc1] 34
          have hw1 := (Below.refl wr.heap.size wr).alloc (Nat.le_refl _) (.cells #[.int .i64 o1, .slice x1 a1.length xc1, .int .i64 n1, .slice y1 b1.len yc1] 34)
          generalize wr.alloc (.cells #[.int .i64 o1, .slice x1 a1.length xc1, .int .i64 n1, .slice y1 b1.len yc1] 34) = W1 at hn1 hw1 ⊢
          have hg2r : g2 < wr.heap.size := by omega
          have p20' := (hw1.cell (p := ⟨g2, og2 + j * 4, none⟩) hg2r).trans p20
          have p21' := (hw1.cell (p := ⟨g2, og2 + j * 4 + 1, none⟩) hg2r).trans p21
          have p22' := (hw1.cell (p := ⟨g2, og2 + j * 4 + 2, none⟩) hg2r).trans p22
          have p23' := (hw1.cell (p := ⟨g2, og2 + j * 4 + 3, none⟩) hg2r).trans p23
          go_upto_region 7 with fail
          have hn2 := Rw.new W1 #[.int .i64 o2, .slice x2 a2.length xc2, .int .i64 n2, .slice y2 b2.len yc2] 34
          have hn1' := hn1.alloc (.cells #[.int .i64 o2, .slice x2 a2.length xc2, .int .i64 n2, .slice y2 b2.len yc2] 34)
          have hw2 := hw1.alloc hw1.size (.cells #[.int .i64 o2, .slice x2 a2.length xc2, .int .i64 n2, .slice y2 b2.len yc2] 34)
          generalize W1.alloc (.cells #[.int .i64 o2, .slice x2 a2.length xc2, .int .i64 n2, .slice y2 b2.len yc2] 34) = W2 at hn2 hn1' hw2 ⊢
          have u0 : W2.cell? ⟨wr.heap.size, 0, none⟩ = some (.int .i64 o1) := hn1'.cell 0
          have u1 : W2.cell? ⟨wr.heap.size, 1, none⟩ = some (.slice x1 a1.length xc1) := hn1'.cell 1
          have u2 : W2.cell? ⟨wr.heap.size, 2, none⟩ = some (.int .i64 n1) := hn1'.cell 2
          have u3 : W2.cell? ⟨wr.heap.size, 3, none⟩ = some (.slice y1 b1.len yc1) := hn1'.cell 3
          have v0 : W2.cell? ⟨W1.heap.size, 0, none⟩ = some (.int .i64 o2) := hn2.cell 0
          have v1 : W2.cell? ⟨W1.heap.size, 1, none⟩ = some (.slice x2 a2.length xc2) := hn2.cell 1
          have v2 : W2.cell? ⟨W1.heap.size, 2, none⟩ = some (.int .i64 n2) := hn2.cell 2
          have v3 : W2.cell? ⟨W1.heap.size, 3, none⟩ = some (.slice y2 b2.len yc2) := hn2.cell 3
          have hbe2 := hbe.trans (hw2.mono hbe.size)
          go_wp2_with (first | (go_at_call 45; refine (hC W2 hw2).mono ?_; rintro e w3 ⟨rfl, hb3⟩) | fail)
          go_ret
          rw [HF.out]
          exact ⟨rfl, hbe2.trans (hb3.mono hbe2.size)⟩
      · obtain rfl : j = f.len := by omega
        have i1 : ¬ (f.len : Int) < (f.len : Int) := by omega
        have HF : Hid (R = true) := by
          show _ = _
          rw [← HR.out, decide_eq_true_iff]
          have := HT.out
          rwa [Ac.take_len, HLe.out, Ac.take_len] at this
        clear HT
        go_wp2
        go_ret
        rw [HF.out]
        exact ⟨rfl, hbe⟩
  · have i0 : ((f.len : Int) != (g.len : Int)) = true := by rw [bne_iff_ne]; omega
    have HF : Hid (decide (f = g) = false) := decide_eq_false fun h => hlen (by rw [h])
    generalize decide (f = g) = R at *
    clear hlen
    go_enter Tryd.func44, Tryd.ntmps44
    go_wp2
    go_ret
    rw [HF.out]
    exact ⟨rfl, Below.refl _ _⟩

set_option maxRecDepth 100000 in
set_option maxHeartbeats 1000000 in
theorem elt_any (k : Nat) (hk64 : k ≤ 65536) (ih : ∀ k', k' < k → SameC k') : EltC k := by
  intro o1 n1 o2 n2 a1 a2 b1 b2 x1 x2 y1 y2 c1 c2 d1 d2 B gk w hta htb hfa hfb hB hk hgk hh1 hh2 hsz hnr hal
  obtain ⟨R, hR⟩ : ∃ R, decide (o1 = o2 ∧ n1 = n2 ∧ a1 = a2 ∧ b1 = b2) = R := ⟨_, rfl⟩
  rw [hR]
  have hEq := fun W (hW : Below w.heap.size w W) => EqualS_any a1 a2 (.slice x1 a1.length c1) (.slice x2 a2.length c2) B W (hta.below hW hB) (htb.below hW hB) (by have := hW.size; omega) hal
  have kb64 : (k : Int) ≤ 65536 := by omega
  by_cases ho : o1 = o2
  · have e0 : (o1 == o2) = true := by rw [beq_iff_eq]; exact ho
    by_cases hn : n1 = n2
    · have e1 : (n1 == n2) = true := by rw [beq_iff_eq]; exact hn
      by_cases ha : a1 = a2
      · rw [decide_eq_true ha] at hEq
        by_cases hk0 : k = 0
        · have hb1n := Ac.ht_nil (f := b1) (by omega)
          have hb2n := Ac.ht_nil (f := b2) (by omega)
          have HR : Hid (R = true) := by show _ = _; rw [← hR]; exact decide_eq_true ⟨ho, hn, ha, by rw [hb1n, hb2n]⟩
          have k0 : ((k : Int) == 0) = true := by rw [beq_iff_eq]; omega
          clear hR ho hn ha hk0 ih hb1n hb2n
          have hY := Rw.two w #[.int .i64 o1, .slice x1 a1.length c1, .int .i64 n1, .slice y1 b1.len d1] #[.int .i64 o2, .slice x2 a2.length c2, .int .i64 n2, .slice y2 b2.len d2] 34 34
          go_enter Tryd.func45, Tryd.ntmps45
          go_upto_region 1 with fail
          generalize (w.alloc (.cells #[.int .i64 o1, .slice x1 a1.length c1, .int .i64 n1, .slice y1 b1.len d1] 34)).alloc (.cells #[.int .i64 o2, .slice x2 a2.length c2, .int .i64 n2, .slice y2 b2.len d2] 34) = Y at hY ⊢
          obtain ⟨r0, r1, hYb, hYz⟩ := hY
          have HYz : Hid _ := hYz
          clear hYz
          have u0 : Y.cell? ⟨w.heap.size, 0, none⟩ = some (.int .i64 o1) := r0.cell 0
          have u1 : Y.cell? ⟨w.heap.size, 1, none⟩ = some (.slice x1 a1.length c1) := r0.cell 1
          have u2 : Y.cell? ⟨w.heap.size, 2, none⟩ = some (.int .i64 n1) := r0.cell 2
          have u3 : Y.cell? ⟨w.heap.size, 3, none⟩ = some (.slice y1 b1.len d1) := r0.cell 3
          have v0 : Y.cell? ⟨w.heap.size + 1, 0, none⟩ = some (.int .i64 o2) := r1.cell 0
          have v1 : Y.cell? ⟨w.heap.size + 1, 1, none⟩ = some (.slice x2 a2.length c2) := r1.cell 1
          have v2 : Y.cell? ⟨w.heap.size + 1, 2, none⟩ = some (.int .i64 n2) := r1.cell 2
          have v3 : Y.cell? ⟨w.heap.size + 1, 3, none⟩ = some (.slice y2 b2.len d2) := r1.cell 3
          go_wp2_with (first
            | (go_at_call 46; refine (hEq Y hYb).mono ?_; rintro e w1 ⟨rfl, hb1⟩; have u3b : w1.cell? ⟨w.heap.size, 3, none⟩ = some (.slice y1 b1.len d1) := (hb1.cell (p := ⟨w.heap.size, 3, none⟩) r0.lt).trans u3; have v3b : w1.cell? ⟨w.heap.size + 1, 3, none⟩ = some (.slice y2 b2.len d2) := (hb1.cell (p := ⟨w.heap.size + 1, 3, none⟩) r1.lt).trans v3; have kb : w1.cell? ⟨gk, 0, none⟩ = some (.int .i64 (k : Int)) := (hb1.cell (p := ⟨gk, 0, none⟩) (by have := hYb.size; show gk < _; omega)).trans ((hYb.cell (p := ⟨gk, 0, none⟩) hgk).trans hk))
            | fail)
          go_ret
          rw [HR.out]
          exact ⟨rfl, hYb.trans (hb1.mono hYb.size)⟩
        · have hSm := fun W (hW : Below w.heap.size w W) => ih (k - 1) (by omega) b1 b2 (.slice y1 b1.len d1) (.slice y2 b2.len d2) B W (hfa.below hW hB) (hfb.below hW hB) (by have := hW.size; omega) (by omega) (by omega) hsz hnr (by omega)
          have ke : ((k - 1 : Nat) : Int) = (k : Int) - 1 := by omega
          rw [ke] at hSm
          have k0 : ((k : Int) == 0) = false := by rw [beq_eq_false_iff_ne]; omega
          have k1 : (0 : Int) < (k : Int) := by omega
          have HR : Hid (R = decide (b1 = b2)) := by show _ = _; rw [← hR, decide_eq_decide]; exact ⟨fun h => h.2.2.2, fun h => ⟨ho, hn, ha, h⟩⟩
          generalize decide (b1 = b2) = BB at *
          clear hR ho hn ha hk0 ih ke
          have hY := Rw.two w #[.int .i64 o1, .slice x1 a1.length c1, .int .i64 n1, .slice y1 b1.len d1] #[.int .i64 o2, .slice x2 a2.length c2, .int .i64 n2, .slice y2 b2.len d2] 34 34
          go_enter Tryd.func45, Tryd.ntmps45
          go_upto_region 1 with fail
          generalize (w.alloc (.cells #[.int .i64 o1, .slice x1 a1.length c1, .int .i64 n1, .slice y1 b1.len d1] 34)).alloc (.cells #[.int .i64 o2, .slice x2 a2.length c2, .int .i64 n2, .slice y2 b2.len d2] 34) = Y at hY ⊢
          obtain ⟨r0, r1, hYb, hYz⟩ := hY
          have HYz : Hid _ := hYz
          clear hYz
          have u0 : Y.cell? ⟨w.heap.size, 0, none⟩ = some (.int .i64 o1) := r0.cell 0
          have u1 : Y.cell? ⟨w.heap.size, 1, none⟩ = some (.slice x1 a1.length c1) := r0.cell 1
          have u2 : Y.cell? ⟨w.heap.size, 2, none⟩ = some (.int .i64 n1) := r0.cell 2
          have u3 : Y.cell? ⟨w.heap.size, 3, none⟩ = some (.slice y1 b1.len d1) := r0.cell 3
          have v0 : Y.cell? ⟨w.heap.size + 1, 0, none⟩ = some (.int .i64 o2) := r1.cell 0
          have v1 : Y.cell? ⟨w.heap.size + 1, 1, none⟩ = some (.slice x2 a2.length c2) := r1.cell 1
          have v2 : Y.cell? ⟨w.heap.size + 1, 2, none⟩ = some (.int .i64 n2) := r1.cell 2
          have v3 : Y.cell? ⟨w.heap.size + 1, 3, none⟩ = some (.slice y2 b2.len d2) := r1.cell 3
          go_wp2_with (first
            | (go_at_call 46; refine (hEq Y hYb).mono ?_; rintro e w1 ⟨rfl, hb1⟩; have u3b : w1.cell? ⟨w.heap.size, 3, none⟩ = some (.slice y1 b1.len d1) := (hb1.cell (p := ⟨w.heap.size, 3, none⟩) r0.lt).trans u3; have v3b : w1.cell? ⟨w.heap.size + 1, 3, none⟩ = some (.slice y2 b2.len d2) := (hb1.cell (p := ⟨w.heap.size + 1, 3, none⟩) r1.lt).trans v3; have kb : w1.cell? ⟨gk, 0, none⟩ = some (.int .i64 (k : Int)) := (hb1.cell (p := ⟨gk, 0, none⟩) (by have := hYb.size; show gk < _; omega)).trans ((hYb.cell (p := ⟨gk, 0, none⟩) hgk).trans hk))
            | (go_at_call 29; refine (hSm w1 (hYb.trans (hb1.mono hYb.size))).mono ?_; rintro e w2 ⟨rfl, hb2⟩)
            | fail)
          go_ret
          rw [HR.out]
          exact ⟨rfl, hYb.trans ((hb1.mono hYb.size).trans (hb2.mono (by have := hYb.size; have := hb1.size; omega)))⟩
      · rw [decide_eq_false ha] at hEq
        have HR : Hid (R = false) := by show _ = _; rw [← hR]; exact decide_eq_false fun h => ha h.2.2.1
        clear hR ho hn ha ih
        have hY := Rw.two w #[.int .i64 o1, .slice x1 a1.length c1, .int .i64 n1, .slice y1 b1.len d1] #[.int .i64 o2, .slice x2 a2.length c2, .int .i64 n2, .slice y2 b2.len d2] 34 34
        go_enter Tryd.func45, Tryd.ntmps45
        go_upto_region 1 with fail
        generalize (w.alloc (.cells #[.int .i64 o1, .slice x1 a1.length c1, .int .i64 n1, .slice y1 b1.len d1] 34)).alloc (.cells #[.int .i64 o2, .slice x2 a2.length c2, .int .i64 n2, .slice y2 b2.len d2] 34) = Y at hY ⊢
        obtain ⟨r0, r1, hYb, hYz⟩ := hY
        have HYz : Hid _ := hYz
        clear hYz
        have u0 : Y.cell? ⟨w.heap.size, 0, none⟩ = some (.int .i64 o1) := r0.cell 0
        have u1 : Y.cell? ⟨w.heap.size, 1, none⟩ = some (.slice x1 a1.length c1) := r0.cell 1
        have u2 : Y.cell? ⟨w.heap.size, 2, none⟩ = some (.int .i64 n1) := r0.cell 2
        have u3 : Y.cell? ⟨w.heap.size, 3, none⟩ = some (.slice y1 b1.len d1) := r0.cell 3
        have v0 : Y.cell? ⟨w.heap.size + 1, 0, none⟩ = some (.int .i64 o2) := r1.cell 0
        have v1 : Y.cell? ⟨w.heap.size + 1, 1, none⟩ = some (.slice x2 a2.length c2) := r1.cell 1
        have v2 : Y.cell? ⟨w.heap.size + 1, 2, none⟩ = some (.int .i64 n2) := r1.cell 2
        have v3 : Y.cell? ⟨w.heap.size + 1, 3, none⟩ = some (.slice y2 b2.len d2) := r1.cell 3
        go_wp2_with (first
          | (go_at_call 46; refine (hEq Y hYb).mono ?_; rintro e w1 ⟨rfl, hb1⟩; have u3b : w1.cell? ⟨w.heap.size, 3, none⟩ = some (.slice y1 b1.len d1) := (hb1.cell (p := ⟨w.heap.size, 3, none⟩) r0.lt).trans u3; have v3b : w1.cell? ⟨w.heap.size + 1, 3, none⟩ = some (.slice y2 b2.len d2) := (hb1.cell (p := ⟨w.heap.size + 1, 3, none⟩) r1.lt).trans v3; have kb : w1.cell? ⟨gk, 0, none⟩ = some (.int .i64 (k : Int)) := (hb1.cell (p := ⟨gk, 0, none⟩) (by have := hYb.size; show gk < _; omega)).trans ((hYb.cell (p := ⟨gk, 0, none⟩) hgk).trans hk))
          | fail)
        go_ret
        rw [HR.out]
        exact ⟨rfl, hYb.trans (hb1.mono hYb.size)⟩
    · have e1 : (n1 == n2) = false := by rw [beq_eq_false_iff_ne]; exact hn
      have HR : Hid (R = false) := by show _ = _; rw [← hR]; exact decide_eq_false fun h => hn h.2.1
      clear hR ho hn ih
      have hY := Rw.two w #[.int .i64 o1, .slice x1 a1.length c1, .int .i64 n1, .slice y1 b1.len d1] #[.int .i64 o2, .slice x2 a2.length c2, .int .i64 n2, .slice y2 b2.len d2] 34 34
      go_enter Tryd.func45, Tryd.ntmps45
      go_upto_region 1 with fail
      generalize (w.alloc (.cells #[.int .i64 o1, .slice x1 a1.length c1, .int .i64 n1, .slice y1 b1.len d1] 34)).alloc (.cells #[.int .i64 o2, .slice x2 a2.length c2, .int .i64 n2, .slice y2 b2.len d2] 34) = Y at hY ⊢
      obtain ⟨r0, r1, hYb, hYz⟩ := hY
      have HYz : Hid _ := hYz
      clear hYz
      have u0 : Y.cell? ⟨w.heap.size, 0, none⟩ = some (.int .i64 o1) := r0.cell 0
      have u1 : Y.cell? ⟨w.heap.size, 1, none⟩ = some (.slice x1 a1.length c1) := r0.cell 1
      have u2 : Y.cell? ⟨w.heap.size, 2, none⟩ = some (.int .i64 n1) := r0.cell 2
      have u3 : Y.cell? ⟨w.heap.size, 3, none⟩ = some (.slice y1 b1.len d1) := r0.cell 3
      have v0 : Y.cell? ⟨w.heap.size + 1, 0, none⟩ = some (.int .i64 o2) := r1.cell 0
      have v1 : Y.cell? ⟨w.heap.size + 1, 1, none⟩ = some (.slice x2 a2.length c2) := r1.cell 1
      have v2 : Y.cell? ⟨w.heap.size + 1, 2, none⟩ = some (.int .i64 n2) := r1.cell 2
      have v3 : Y.cell? ⟨w.heap.size + 1, 3, none⟩ = some (.slice y2 b2.len d2) := r1.cell 3
      go_wp2
      go_ret
      rw [HR.out]
      exact ⟨rfl, hYb⟩
  · have e0 : (o1 == o2) = false := by rw [beq_eq_false_iff_ne]; exact ho
    have HR : Hid (R = false) := by show _ = _; rw [← hR]; exact decide_eq_false fun h => ho h.1
    clear hR ho ih
    have hY := Rw.two w #[.int .i64 o1, .slice x1 a1.length c1, .int .i64 n1, .slice y1 b1.len d1] #[.int .i64 o2, .slice x2 a2.length c2, .int .i64 n2, .slice y2 b2.len d2] 34 34
    go_enter Tryd.func45, Tryd.ntmps45
    go_upto_region 1 with fail
    generalize (w.alloc (.cells #[.int .i64 o1, .slice x1 a1.length c1, .int .i64 n1, .slice y1 b1.len d1] 34)).alloc (.cells #[.int .i64 o2, .slice x2 a2.length c2, .int .i64 n2, .slice y2 b2.len d2] 34) = Y at hY ⊢
    obtain ⟨r0, r1, hYb, hYz⟩ := hY
    have HYz : Hid _ := hYz
    clear hYz
    have u0 : Y.cell? ⟨w.heap.size, 0, none⟩ = some (.int .i64 o1) := r0.cell 0
    have u1 : Y.cell? ⟨w.heap.size, 1, none⟩ = some (.slice x1 a1.length c1) := r0.cell 1
    have u2 : Y.cell? ⟨w.heap.size, 2, none⟩ = some (.int .i64 n1) := r0.cell 2
    have u3 : Y.cell? ⟨w.heap.size, 3, none⟩ = some (.slice y1 b1.len d1) := r0.cell 3
    have v0 : Y.cell? ⟨w.heap.size + 1, 0, none⟩ = some (.int .i64 o2) := r1.cell 0
    have v1 : Y.cell? ⟨w.heap.size + 1, 1, none⟩ = some (.slice x2 a2.length c2) := r1.cell 1
    have v2 : Y.cell? ⟨w.heap.size + 1, 2, none⟩ = some (.int .i64 n2) := r1.cell 2
    have v3 : Y.cell? ⟨w.heap.size + 1, 3, none⟩ = some (.slice y2 b2.len d2) := r1.cell 3
    go_wp2
    go_ret
    rw [HR.out]
    exact ⟨rfl, hYb⟩

set_option maxRecDepth 100000 in
theorem same_step (k : Nat) (hE : EltC k) : SameC k := by
  intro f g va vb B w h1 h2 hB ht1 ht2 hs hn hk64
  have r0 := Rw.new w #[.int .i64 (k : Int)] 3
  have hb := (Below.refl w.heap.size w).alloc (Nat.le_refl _) (.cells #[.int .i64 (k : Int)] 3)
  have hC := EqualF_any k hE f g va vb B w.heap.size (w.alloc (.cells #[.int .i64 (k : Int)] 3)) (h1.below hb hB) (h2.below hb hB) (by have := hb.size; omega) (r0.cell 0) r0.lt ht1 ht2 hs hn
  obtain ⟨ad, c, rfl, hle⟩ := h1.shape
  obtain ⟨bd, d, rfl, hld⟩ := h2.shape
  generalize decide (f = g) = R at *
  go_enter Tryd.func29, Tryd.ntmps29
  go_upto_region 1 with fail
  generalize w.alloc (.cells #[.int .i64 (k : Int)] 3) = Y at r0 hb hC ⊢
  go_wp2_with (first | (go_at_call 44; refine hC.mono ?_; rintro e w1 ⟨rfl, hb1⟩) | fail)
  go_ret
  exact ⟨rfl, hb.trans (hb1.mono hb.size)⟩
theorem same_any (k : Nat) (hk : k ≤ 65536) : SameC k := by
  induction k using Nat.strongRecOn with
  | ind k ih => exact same_step k (elt_any k hk fun k' hk' => ih k' hk' (by omega))
set_option maxRecDepth 100000 in
theorem Same_any (f g : Ac.Fo) (va vb : Value) (B : Nat) (w : World) (h1 : FoS w B va f) (h2 : FoS w B vb g) (hB : B ≤ w.heap.size) (ht1 : Ac.ht f ≤ 65537) (ht2 : Ac.ht g ≤ 65537) (hs : Ac.size f ≤ 1099511627) (hn : Ac.nar 1099511627 f) :
    Calls Tryd.prog 15 #[va, vb] w fun e w' => e = .returned (.bool (decide (f = g))) ∧ Below w.heap.size w w' := by
  have hc := same_any 65536 (Nat.le_refl _) f g va vb B w h1 h2 hB ht1 ht2 hs hn (Nat.le_refl _)
  obtain ⟨ad, c, rfl, hle⟩ := h1.shape
  obtain ⟨bd, d, rfl, hld⟩ := h2.shape
  generalize decide (f = g) = R at *
  go_enter Tryd.func15, Tryd.ntmps15
  go_wp2_with (first | (go_at_call 29; refine hc.mono ?_; rintro e w1 ⟨rfl, hb1⟩) | fail)
  go_ret
  exact ⟨rfl, hb1⟩

end Go.Proofs.YtfgdlnidfkjbdaaDoor
