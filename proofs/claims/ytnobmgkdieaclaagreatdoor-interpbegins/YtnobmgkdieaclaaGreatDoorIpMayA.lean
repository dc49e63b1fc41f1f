/-
  WHAT THE LANDED CODE's mayAlone, may, May DO.
-/
import Derived.Test.YtnobmgkdieaclaaGreatDoorALineR
namespace Go.Proofs.YtnobmgkdieaclaaGreatDoor
open Go.RowKit

theorem Ac.alone_eq {k : Nat} (h1 : 1 ≤ k) (h2 : k ≤ 12) (a : List (List UInt8)) (n : Int) (b : Ac.Fo) (ha : a.length ≤ 140737488351232) :
    Ac.alone (k : Int) a n b = (decide (Ac.kl k ≤ (a.length : Int) ∧ (a.length : Int) ≤ Ac.km k) && ((n == 0) || (Ac.kn k && decide (0 ≤ n ∧ n ≤ 1000))) && (Ac.kb k || ((b.len : Int) == 0))) := by
  have hw : Ac.word (k : Int) ≠ [] := by
    have : ∀ i : Fin 13, i.1 ≠ 0 → Ac.word (i.1 : Int) ≠ [] := by decide
    exact this ⟨k, by omega⟩ (by simp; omega)
  have hA : Ac.argsOk (k : Int) a.length = decide (Ac.kl k ≤ (a.length : Int) ∧ (a.length : Int) ≤ Ac.km k) := by
    rw [Bool.eq_iff_iff, decide_eq_true_iff]
    unfold Ac.argsOk Ac.km Ac.kl
    by_cases c1 : k = 1 ∨ k = 2 ∨ k = 8 ∨ k = 11
    · rw [if_pos (show (k : Int) = 1 ∨ (k : Int) = 2 ∨ (k : Int) = 8 ∨ (k : Int) = 11 by omega), if_neg (show ¬ (k = 3 ∨ k = 9) by omega), if_pos c1, decide_eq_true_iff]; omega
    · rw [if_neg (show ¬ ((k : Int) = 1 ∨ (k : Int) = 2 ∨ (k : Int) = 8 ∨ (k : Int) = 11) by omega), if_neg c1]
      by_cases c2 : k = 3 ∨ k = 9
      · rw [if_pos (show (k : Int) = 3 ∨ (k : Int) = 9 by omega), if_pos c2, if_neg (show ¬ k = 12 by omega)]
        simp only [true_iff]
        omega
      · rw [if_neg (show ¬ ((k : Int) = 3 ∨ (k : Int) = 9) by omega), if_neg c2]
        by_cases c3 : k = 12
        · rw [if_pos (show (k : Int) = 12 by omega), if_pos c3, decide_eq_true_iff]; omega
        · rw [if_neg (show ¬ (k : Int) = 12 by omega), if_neg c3, decide_eq_true_iff]; omega
  have hO : Ac.opens (k : Int) = Ac.kb k := by
    unfold Ac.opens Ac.kb
    congr 1
    rw [eq_iff_iff]
    omega
  have hB : decide (b = .nil) = ((b.len : Int) == 0) := by
    rw [Bool.eq_iff_iff, decide_eq_true_iff, beq_iff_eq]
    cases b with
    | nil => simp [Ac.Fo.len]
    | cons _ _ _ _ t => simp only [Ac.Fo.len, reduceCtorEq, false_iff]; omega
  have hn : (decide (0 ≤ n ∧ n ≤ 1000) && decide ((k : Int) = 10 ∨ n = 0)) = ((n == 0) || (Ac.kn k && decide (0 ≤ n ∧ n ≤ 1000))) := by
    unfold Ac.kn
    rw [Bool.eq_iff_iff]
    simp only [Bool.and_eq_true, Bool.or_eq_true, decide_eq_true_eq, beq_iff_eq]
    omega
  unfold Ac.alone Ac.ok1
  rw [hA, hO, hB, decide_eq_true hw, Bool.true_and, Bool.and_assoc (decide (Ac.kl k ≤ (a.length : Int) ∧ (a.length : Int) ≤ Ac.km k)), hn]
theorem Ac.alone_out {op : Int} (h : op ≤ 0 ∨ 13 ≤ op) (a : List (List UInt8)) (n : Int) (b : Ac.Fo) : Ac.alone op a n b = false := by
  have hw : Ac.word op = [] := by
    apply Classical.byContradiction
    intro hn
    have := Ac.word_of hn
    omega
  unfold Ac.alone Ac.ok1
  rw [hw]
  simp

set_option maxRecDepth 100000 in
set_option maxHeartbeats 1000000 in
theorem mayAlone_in (k : Nat) (h1 : 1 ≤ k) (h2 : k ≤ 12) (n : Int) (a : List (List UInt8)) (b : Ac.Fo) (aa : Option Addr) (an ac : Nat) (ba : Option Addr) (bc : Nat) (w : World) (hL : Laid w) (han : an = a.length) (ha : a.length ≤ 140737488351232) : Calls Tryz.prog 87 #[.agg #[.int .i64 (k : Int), .slice aa an ac, .int .i64 n, .slice ba b.len bc]] w fun e w' => e = .returned (.bool (Ac.alone (k : Int) a n b)) ∧ Below w.heap.size w w' := by
  have hbe := (Below.refl w.heap.size w).alloc (Nat.le_refl _) (.cells #[.int .i64 (k : Int), .slice aa an ac, .int .i64 n, .slice ba b.len bc] 75)
  have hYn := Rw.new w #[.int .i64 (k : Int), .slice aa an ac, .int .i64 n, .slice ba b.len bc] 75
  have hLY := hL.alloc (.cells #[.int .i64 (k : Int), .slice aa an ac, .int .i64 n, .slice ba b.len bc] 75)
  have HR : Hid _ := Ac.alone_eq h1 h2 a n b ha
  rw [← han] at HR
  clear han ha
  have HK : Hid (∀ Z, Laid Z → ∀ f, f < 5 → ∀ u, (Ac.kRow k)[f]? = some u → Z.cell? ⟨0, k * 5 + f, none⟩ = some u) := fun Z h f hf u hu => h.kinds _ _ ((Ac.kCells_at k (by omega) f hf).trans hu)
  unfold Ac.kRow at HK
  generalize Ac.alone (k : Int) a n b = R at *
  generalize (⟨(Ac.kw k).toArray⟩ : ByteArray) = KW at *
  generalize Ac.kl k = KL at *
  generalize Ac.km k = KM at *
  generalize Ac.kn k = KN at *
  generalize Ac.kb k = KB at *
  have j1 : ¬ (k : Int) ≤ 0 := by omega
  have j2 : ¬ (13 : Int) ≤ (k : Int) := by omega
  have j3 : (0 : Int) ≤ (k : Int) := by omega
  have j4 : (k : Int) < 13 := by omega
  have hT := takes_any KW KL KM KN KB an
  have hM := mayNumber_any n
  generalize decide (KL ≤ (an : Int) ∧ (an : Int) ≤ KM) = TK at *
  generalize decide (0 ≤ n ∧ n ≤ 1000) = MN at *
  clear h1 h2
  cases TK with
  | false =>
    go_enter Tryz.func87, Tryz.ntmps87
    go_upto_region 1 with fail
    generalize w.alloc (.cells #[.int .i64 (k : Int), .slice aa an ac, .int .i64 n, .slice ba b.len bc] 75) = Y at hbe hYn hLY ⊢
    have t0 : Y.cell? ⟨w.heap.size, 0, none⟩ = some (.int .i64 (k : Int)) := hYn.cell 0
    have q0 := HK.out Y hLY 0 (by omega) _ rfl
    have q1 := HK.out Y hLY 1 (by omega) _ rfl
    have q2 := HK.out Y hLY 2 (by omega) _ rfl
    have q3 := HK.out Y hLY 3 (by omega) _ rfl
    have q4 := HK.out Y hLY 4 (by omega) _ rfl
    rw [Nat.add_zero] at q0
    have hZn := Rw.new Y #[.string KW, .int .i64 KL, .int .i64 KM, .bool KN, .bool KB] 120
    have hZb := hbe.alloc hbe.size (.cells #[.string KW, .int .i64 KL, .int .i64 KM, .bool KN, .bool KB] 120)
    have hYn2 := hYn.alloc (.cells #[.string KW, .int .i64 KL, .int .i64 KM, .bool KN, .bool KB] 120)
    go_upto_region 4 with fail
    generalize Y.alloc (.cells #[.string KW, .int .i64 KL, .int .i64 KM, .bool KN, .bool KB] 120) = Z at hZn hZb hYn2 ⊢
    have u0 : Z.cell? ⟨Y.heap.size, 0, none⟩ = some (.string KW) := hZn.cell 0
    have u1 : Z.cell? ⟨Y.heap.size, 1, none⟩ = some (.int .i64 KL) := hZn.cell 1
    have u2 : Z.cell? ⟨Y.heap.size, 2, none⟩ = some (.int .i64 KM) := hZn.cell 2
    have u3 : Z.cell? ⟨Y.heap.size, 3, none⟩ = some (.bool KN) := hZn.cell 3
    have u4 : Z.cell? ⟨Y.heap.size, 4, none⟩ = some (.bool KB) := hZn.cell 4
    have t1 : Z.cell? ⟨w.heap.size, 1, none⟩ = some (.slice aa an ac) := hYn2.cell 1
    have t2 : Z.cell? ⟨w.heap.size, 2, none⟩ = some (.int .i64 n) := hYn2.cell 2
    have t3 : Z.cell? ⟨w.heap.size, 3, none⟩ = some (.slice ba b.len bc) := hYn2.cell 3
    clear q0 q1 q2 q3 q4
    go_wp2_with (first
      | (go_at_call 95; refine (hT Z).mono ?_; rintro e w1 ⟨rfl, hb1⟩; have t2b : w1.cell? ⟨w.heap.size, 2, none⟩ = some (.int .i64 n) := (hb1.cell (p := ⟨w.heap.size, 2, none⟩) hYn2.lt).trans t2; have t3b : w1.cell? ⟨w.heap.size, 3, none⟩ = some (.slice ba b.len bc) := (hb1.cell (p := ⟨w.heap.size, 3, none⟩) hYn2.lt).trans t3; have u3b : w1.cell? ⟨Y.heap.size, 3, none⟩ = some (.bool KN) := (hb1.cell (p := ⟨Y.heap.size, 3, none⟩) hZn.lt).trans u3; have u4b : w1.cell? ⟨Y.heap.size, 4, none⟩ = some (.bool KB) := (hb1.cell (p := ⟨Y.heap.size, 4, none⟩) hZn.lt).trans u4)
      | (go_at_call 96; refine (hM _).mono ?_; rintro e w' ⟨rfl, rfl⟩)
      | fail)
    go_ret
    rw [HR.out]
    exact ⟨by simp, hZb.trans (hb1.mono hZb.size)⟩
  | true =>
    rcases Bool.eq_false_or_eq_true (n == 0) with hz | hz
    · rw [hz] at HR
      cases KB with
      | true =>
        go_enter Tryz.func87, Tryz.ntmps87
        go_upto_region 1 with fail
        generalize w.alloc (.cells #[.int .i64 (k : Int), .slice aa an ac, .int .i64 n, .slice ba b.len bc] 75) = Y at hbe hYn hLY ⊢
        have t0 : Y.cell? ⟨w.heap.size, 0, none⟩ = some (.int .i64 (k : Int)) := hYn.cell 0
        have q0 := HK.out Y hLY 0 (by omega) _ rfl
        have q1 := HK.out Y hLY 1 (by omega) _ rfl
        have q2 := HK.out Y hLY 2 (by omega) _ rfl
        have q3 := HK.out Y hLY 3 (by omega) _ rfl
        have q4 := HK.out Y hLY 4 (by omega) _ rfl
        rw [Nat.add_zero] at q0
        have hZn := Rw.new Y #[.string KW, .int .i64 KL, .int .i64 KM, .bool KN, .bool true] 120
        have hZb := hbe.alloc hbe.size (.cells #[.string KW, .int .i64 KL, .int .i64 KM, .bool KN, .bool true] 120)
        have hYn2 := hYn.alloc (.cells #[.string KW, .int .i64 KL, .int .i64 KM, .bool KN, .bool true] 120)
        go_upto_region 4 with fail
        generalize Y.alloc (.cells #[.string KW, .int .i64 KL, .int .i64 KM, .bool KN, .bool true] 120) = Z at hZn hZb hYn2 ⊢
        have u0 : Z.cell? ⟨Y.heap.size, 0, none⟩ = some (.string KW) := hZn.cell 0
        have u1 : Z.cell? ⟨Y.heap.size, 1, none⟩ = some (.int .i64 KL) := hZn.cell 1
        have u2 : Z.cell? ⟨Y.heap.size, 2, none⟩ = some (.int .i64 KM) := hZn.cell 2
        have u3 : Z.cell? ⟨Y.heap.size, 3, none⟩ = some (.bool KN) := hZn.cell 3
        have u4 : Z.cell? ⟨Y.heap.size, 4, none⟩ = some (.bool true) := hZn.cell 4
        have t1 : Z.cell? ⟨w.heap.size, 1, none⟩ = some (.slice aa an ac) := hYn2.cell 1
        have t2 : Z.cell? ⟨w.heap.size, 2, none⟩ = some (.int .i64 n) := hYn2.cell 2
        have t3 : Z.cell? ⟨w.heap.size, 3, none⟩ = some (.slice ba b.len bc) := hYn2.cell 3
        clear q0 q1 q2 q3 q4
        go_wp2_with (first
          | (go_at_call 95; refine (hT Z).mono ?_; rintro e w1 ⟨rfl, hb1⟩; have t2b : w1.cell? ⟨w.heap.size, 2, none⟩ = some (.int .i64 n) := (hb1.cell (p := ⟨w.heap.size, 2, none⟩) hYn2.lt).trans t2; have t3b : w1.cell? ⟨w.heap.size, 3, none⟩ = some (.slice ba b.len bc) := (hb1.cell (p := ⟨w.heap.size, 3, none⟩) hYn2.lt).trans t3; have u3b : w1.cell? ⟨Y.heap.size, 3, none⟩ = some (.bool KN) := (hb1.cell (p := ⟨Y.heap.size, 3, none⟩) hZn.lt).trans u3; have u4b : w1.cell? ⟨Y.heap.size, 4, none⟩ = some (.bool true) := (hb1.cell (p := ⟨Y.heap.size, 4, none⟩) hZn.lt).trans u4)
          | (go_at_call 96; refine (hM _).mono ?_; rintro e w' ⟨rfl, rfl⟩)
          | fail)
        go_ret
        rw [HR.out]
        exact ⟨by simp, hZb.trans (hb1.mono hZb.size)⟩
      | false =>
        go_enter Tryz.func87, Tryz.ntmps87
        go_upto_region 1 with fail
        generalize w.alloc (.cells #[.int .i64 (k : Int), .slice aa an ac, .int .i64 n, .slice ba b.len bc] 75) = Y at hbe hYn hLY ⊢
        have t0 : Y.cell? ⟨w.heap.size, 0, none⟩ = some (.int .i64 (k : Int)) := hYn.cell 0
        have q0 := HK.out Y hLY 0 (by omega) _ rfl
        have q1 := HK.out Y hLY 1 (by omega) _ rfl
        have q2 := HK.out Y hLY 2 (by omega) _ rfl
        have q3 := HK.out Y hLY 3 (by omega) _ rfl
        have q4 := HK.out Y hLY 4 (by omega) _ rfl
        rw [Nat.add_zero] at q0
        have hZn := Rw.new Y #[.string KW, .int .i64 KL, .int .i64 KM, .bool KN, .bool false] 120
        have hZb := hbe.alloc hbe.size (.cells #[.string KW, .int .i64 KL, .int .i64 KM, .bool KN, .bool false] 120)
        have hYn2 := hYn.alloc (.cells #[.string KW, .int .i64 KL, .int .i64 KM, .bool KN, .bool false] 120)
        go_upto_region 4 with fail
        generalize Y.alloc (.cells #[.string KW, .int .i64 KL, .int .i64 KM, .bool KN, .bool false] 120) = Z at hZn hZb hYn2 ⊢
        have u0 : Z.cell? ⟨Y.heap.size, 0, none⟩ = some (.string KW) := hZn.cell 0
        have u1 : Z.cell? ⟨Y.heap.size, 1, none⟩ = some (.int .i64 KL) := hZn.cell 1
        have u2 : Z.cell? ⟨Y.heap.size, 2, none⟩ = some (.int .i64 KM) := hZn.cell 2
        have u3 : Z.cell? ⟨Y.heap.size, 3, none⟩ = some (.bool KN) := hZn.cell 3
        have u4 : Z.cell? ⟨Y.heap.size, 4, none⟩ = some (.bool false) := hZn.cell 4
        have t1 : Z.cell? ⟨w.heap.size, 1, none⟩ = some (.slice aa an ac) := hYn2.cell 1
        have t2 : Z.cell? ⟨w.heap.size, 2, none⟩ = some (.int .i64 n) := hYn2.cell 2
        have t3 : Z.cell? ⟨w.heap.size, 3, none⟩ = some (.slice ba b.len bc) := hYn2.cell 3
        clear q0 q1 q2 q3 q4
        go_wp2_with (first
          | (go_at_call 95; refine (hT Z).mono ?_; rintro e w1 ⟨rfl, hb1⟩; have t2b : w1.cell? ⟨w.heap.size, 2, none⟩ = some (.int .i64 n) := (hb1.cell (p := ⟨w.heap.size, 2, none⟩) hYn2.lt).trans t2; have t3b : w1.cell? ⟨w.heap.size, 3, none⟩ = some (.slice ba b.len bc) := (hb1.cell (p := ⟨w.heap.size, 3, none⟩) hYn2.lt).trans t3; have u3b : w1.cell? ⟨Y.heap.size, 3, none⟩ = some (.bool KN) := (hb1.cell (p := ⟨Y.heap.size, 3, none⟩) hZn.lt).trans u3; have u4b : w1.cell? ⟨Y.heap.size, 4, none⟩ = some (.bool false) := (hb1.cell (p := ⟨Y.heap.size, 4, none⟩) hZn.lt).trans u4)
          | (go_at_call 96; refine (hM _).mono ?_; rintro e w' ⟨rfl, rfl⟩)
          | fail)
        go_ret
        rw [HR.out]
        exact ⟨by simp, hZb.trans (hb1.mono hZb.size)⟩
    · rw [hz] at HR
      cases KN with
      | false =>
        go_enter Tryz.func87, Tryz.ntmps87
        go_upto_region 1 with fail
        generalize w.alloc (.cells #[.int .i64 (k : Int), .slice aa an ac, .int .i64 n, .slice ba b.len bc] 75) = Y at hbe hYn hLY ⊢
        have t0 : Y.cell? ⟨w.heap.size, 0, none⟩ = some (.int .i64 (k : Int)) := hYn.cell 0
        have q0 := HK.out Y hLY 0 (by omega) _ rfl
        have q1 := HK.out Y hLY 1 (by omega) _ rfl
        have q2 := HK.out Y hLY 2 (by omega) _ rfl
        have q3 := HK.out Y hLY 3 (by omega) _ rfl
        have q4 := HK.out Y hLY 4 (by omega) _ rfl
        rw [Nat.add_zero] at q0
        have hZn := Rw.new Y #[.string KW, .int .i64 KL, .int .i64 KM, .bool false, .bool KB] 120
        have hZb := hbe.alloc hbe.size (.cells #[.string KW, .int .i64 KL, .int .i64 KM, .bool false, .bool KB] 120)
        have hYn2 := hYn.alloc (.cells #[.string KW, .int .i64 KL, .int .i64 KM, .bool false, .bool KB] 120)
        go_upto_region 4 with fail
        generalize Y.alloc (.cells #[.string KW, .int .i64 KL, .int .i64 KM, .bool false, .bool KB] 120) = Z at hZn hZb hYn2 ⊢
        have u0 : Z.cell? ⟨Y.heap.size, 0, none⟩ = some (.string KW) := hZn.cell 0
        have u1 : Z.cell? ⟨Y.heap.size, 1, none⟩ = some (.int .i64 KL) := hZn.cell 1
        have u2 : Z.cell? ⟨Y.heap.size, 2, none⟩ = some (.int .i64 KM) := hZn.cell 2
        have u3 : Z.cell? ⟨Y.heap.size, 3, none⟩ = some (.bool false) := hZn.cell 3
        have u4 : Z.cell? ⟨Y.heap.size, 4, none⟩ = some (.bool KB) := hZn.cell 4
        have t1 : Z.cell? ⟨w.heap.size, 1, none⟩ = some (.slice aa an ac) := hYn2.cell 1
        have t2 : Z.cell? ⟨w.heap.size, 2, none⟩ = some (.int .i64 n) := hYn2.cell 2
        have t3 : Z.cell? ⟨w.heap.size, 3, none⟩ = some (.slice ba b.len bc) := hYn2.cell 3
        clear q0 q1 q2 q3 q4
        go_wp2_with (first
          | (go_at_call 95; refine (hT Z).mono ?_; rintro e w1 ⟨rfl, hb1⟩; have t2b : w1.cell? ⟨w.heap.size, 2, none⟩ = some (.int .i64 n) := (hb1.cell (p := ⟨w.heap.size, 2, none⟩) hYn2.lt).trans t2; have t3b : w1.cell? ⟨w.heap.size, 3, none⟩ = some (.slice ba b.len bc) := (hb1.cell (p := ⟨w.heap.size, 3, none⟩) hYn2.lt).trans t3; have u3b : w1.cell? ⟨Y.heap.size, 3, none⟩ = some (.bool false) := (hb1.cell (p := ⟨Y.heap.size, 3, none⟩) hZn.lt).trans u3; have u4b : w1.cell? ⟨Y.heap.size, 4, none⟩ = some (.bool KB) := (hb1.cell (p := ⟨Y.heap.size, 4, none⟩) hZn.lt).trans u4)
          | (go_at_call 96; refine (hM _).mono ?_; rintro e w' ⟨rfl, rfl⟩)
          | fail)
        go_ret
        rw [HR.out]
        exact ⟨by simp, hZb.trans (hb1.mono hZb.size)⟩
      | true =>
        cases MN with
        | false =>
          go_enter Tryz.func87, Tryz.ntmps87
          go_upto_region 1 with fail
          generalize w.alloc (.cells #[.int .i64 (k : Int), .slice aa an ac, .int .i64 n, .slice ba b.len bc] 75) = Y at hbe hYn hLY ⊢
          have t0 : Y.cell? ⟨w.heap.size, 0, none⟩ = some (.int .i64 (k : Int)) := hYn.cell 0
          have q0 := HK.out Y hLY 0 (by omega) _ rfl
          have q1 := HK.out Y hLY 1 (by omega) _ rfl
          have q2 := HK.out Y hLY 2 (by omega) _ rfl
          have q3 := HK.out Y hLY 3 (by omega) _ rfl
          have q4 := HK.out Y hLY 4 (by omega) _ rfl
          rw [Nat.add_zero] at q0
          have hZn := Rw.new Y #[.string KW, .int .i64 KL, .int .i64 KM, .bool true, .bool KB] 120
          have hZb := hbe.alloc hbe.size (.cells #[.string KW, .int .i64 KL, .int .i64 KM, .bool true, .bool KB] 120)
          have hYn2 := hYn.alloc (.cells #[.string KW, .int .i64 KL, .int .i64 KM, .bool true, .bool KB] 120)
          go_upto_region 4 with fail
          generalize Y.alloc (.cells #[.string KW, .int .i64 KL, .int .i64 KM, .bool true, .bool KB] 120) = Z at hZn hZb hYn2 ⊢
          have u0 : Z.cell? ⟨Y.heap.size, 0, none⟩ = some (.string KW) := hZn.cell 0
          have u1 : Z.cell? ⟨Y.heap.size, 1, none⟩ = some (.int .i64 KL) := hZn.cell 1
          have u2 : Z.cell? ⟨Y.heap.size, 2, none⟩ = some (.int .i64 KM) := hZn.cell 2
          have u3 : Z.cell? ⟨Y.heap.size, 3, none⟩ = some (.bool true) := hZn.cell 3
          have u4 : Z.cell? ⟨Y.heap.size, 4, none⟩ = some (.bool KB) := hZn.cell 4
          have t1 : Z.cell? ⟨w.heap.size, 1, none⟩ = some (.slice aa an ac) := hYn2.cell 1
          have t2 : Z.cell? ⟨w.heap.size, 2, none⟩ = some (.int .i64 n) := hYn2.cell 2
          have t3 : Z.cell? ⟨w.heap.size, 3, none⟩ = some (.slice ba b.len bc) := hYn2.cell 3
          clear q0 q1 q2 q3 q4
          go_wp2_with (first
            | (go_at_call 95; refine (hT Z).mono ?_; rintro e w1 ⟨rfl, hb1⟩; have t2b : w1.cell? ⟨w.heap.size, 2, none⟩ = some (.int .i64 n) := (hb1.cell (p := ⟨w.heap.size, 2, none⟩) hYn2.lt).trans t2; have t3b : w1.cell? ⟨w.heap.size, 3, none⟩ = some (.slice ba b.len bc) := (hb1.cell (p := ⟨w.heap.size, 3, none⟩) hYn2.lt).trans t3; have u3b : w1.cell? ⟨Y.heap.size, 3, none⟩ = some (.bool true) := (hb1.cell (p := ⟨Y.heap.size, 3, none⟩) hZn.lt).trans u3; have u4b : w1.cell? ⟨Y.heap.size, 4, none⟩ = some (.bool KB) := (hb1.cell (p := ⟨Y.heap.size, 4, none⟩) hZn.lt).trans u4)
            | (go_at_call 96; refine (hM _).mono ?_; rintro e w' ⟨rfl, rfl⟩)
            | fail)
          go_ret
          rw [HR.out]
          exact ⟨by simp, hZb.trans (hb1.mono hZb.size)⟩
        | true =>
          cases KB with
          | true =>
            go_enter Tryz.func87, Tryz.ntmps87
            go_upto_region 1 with fail
            generalize w.alloc (.cells #[.int .i64 (k : Int), .slice aa an ac, .int .i64 n, .slice ba b.len bc] 75) = Y at hbe hYn hLY ⊢
            have t0 : Y.cell? ⟨w.heap.size, 0, none⟩ = some (.int .i64 (k : Int)) := hYn.cell 0
            have q0 := HK.out Y hLY 0 (by omega) _ rfl
            have q1 := HK.out Y hLY 1 (by omega) _ rfl
            have q2 := HK.out Y hLY 2 (by omega) _ rfl
            have q3 := HK.out Y hLY 3 (by omega) _ rfl
            have q4 := HK.out Y hLY 4 (by omega) _ rfl
            rw [Nat.add_zero] at q0
            have hZn := Rw.new Y #[.string KW, .int .i64 KL, .int .i64 KM, .bool true, .bool true] 120
            have hZb := hbe.alloc hbe.size (.cells #[.string KW, .int .i64 KL, .int .i64 KM, .bool true, .bool true] 120)
            have hYn2 := hYn.alloc (.cells #[.string KW, .int .i64 KL, .int .i64 KM, .bool true, .bool true] 120)
            go_upto_region 4 with fail
            generalize Y.alloc (.cells #[.string KW, .int .i64 KL, .int .i64 KM, .bool true, .bool true] 120) = Z at hZn hZb hYn2 ⊢
            have u0 : Z.cell? ⟨Y.heap.size, 0, none⟩ = some (.string KW) := hZn.cell 0
            have u1 : Z.cell? ⟨Y.heap.size, 1, none⟩ = some (.int .i64 KL) := hZn.cell 1
            have u2 : Z.cell? ⟨Y.heap.size, 2, none⟩ = some (.int .i64 KM) := hZn.cell 2
            have u3 : Z.cell? ⟨Y.heap.size, 3, none⟩ = some (.bool true) := hZn.cell 3
            have u4 : Z.cell? ⟨Y.heap.size, 4, none⟩ = some (.bool true) := hZn.cell 4
            have t1 : Z.cell? ⟨w.heap.size, 1, none⟩ = some (.slice aa an ac) := hYn2.cell 1
            have t2 : Z.cell? ⟨w.heap.size, 2, none⟩ = some (.int .i64 n) := hYn2.cell 2
            have t3 : Z.cell? ⟨w.heap.size, 3, none⟩ = some (.slice ba b.len bc) := hYn2.cell 3
            clear q0 q1 q2 q3 q4
            go_wp2_with (first
              | (go_at_call 95; refine (hT Z).mono ?_; rintro e w1 ⟨rfl, hb1⟩; have t2b : w1.cell? ⟨w.heap.size, 2, none⟩ = some (.int .i64 n) := (hb1.cell (p := ⟨w.heap.size, 2, none⟩) hYn2.lt).trans t2; have t3b : w1.cell? ⟨w.heap.size, 3, none⟩ = some (.slice ba b.len bc) := (hb1.cell (p := ⟨w.heap.size, 3, none⟩) hYn2.lt).trans t3; have u3b : w1.cell? ⟨Y.heap.size, 3, none⟩ = some (.bool true) := (hb1.cell (p := ⟨Y.heap.size, 3, none⟩) hZn.lt).trans u3; have u4b : w1.cell? ⟨Y.heap.size, 4, none⟩ = some (.bool true) := (hb1.cell (p := ⟨Y.heap.size, 4, none⟩) hZn.lt).trans u4)
              | (go_at_call 96; refine (hM _).mono ?_; rintro e w' ⟨rfl, rfl⟩)
              | fail)
            go_ret
            rw [HR.out]
            exact ⟨by simp, hZb.trans (hb1.mono hZb.size)⟩
          | false =>
            go_enter Tryz.func87, Tryz.ntmps87
            go_upto_region 1 with fail
            generalize w.alloc (.cells #[.int .i64 (k : Int), .slice aa an ac, .int .i64 n, .slice ba b.len bc] 75) = Y at hbe hYn hLY ⊢
            have t0 : Y.cell? ⟨w.heap.size, 0, none⟩ = some (.int .i64 (k : Int)) := hYn.cell 0
            have q0 := HK.out Y hLY 0 (by omega) _ rfl
            have q1 := HK.out Y hLY 1 (by omega) _ rfl
            have q2 := HK.out Y hLY 2 (by omega) _ rfl
            have q3 := HK.out Y hLY 3 (by omega) _ rfl
            have q4 := HK.out Y hLY 4 (by omega) _ rfl
            rw [Nat.add_zero] at q0
            have hZn := Rw.new Y #[.string KW, .int .i64 KL, .int .i64 KM, .bool true, .bool false] 120
            have hZb := hbe.alloc hbe.size (.cells #[.string KW, .int .i64 KL, .int .i64 KM, .bool true, .bool false] 120)
            have hYn2 := hYn.alloc (.cells #[.string KW, .int .i64 KL, .int .i64 KM, .bool true, .bool false] 120)
            go_upto_region 4 with fail
            generalize Y.alloc (.cells #[.string KW, .int .i64 KL, .int .i64 KM, .bool true, .bool false] 120) = Z at hZn hZb hYn2 ⊢
            have u0 : Z.cell? ⟨Y.heap.size, 0, none⟩ = some (.string KW) := hZn.cell 0
            have u1 : Z.cell? ⟨Y.heap.size, 1, none⟩ = some (.int .i64 KL) := hZn.cell 1
            have u2 : Z.cell? ⟨Y.heap.size, 2, none⟩ = some (.int .i64 KM) := hZn.cell 2
            have u3 : Z.cell? ⟨Y.heap.size, 3, none⟩ = some (.bool true) := hZn.cell 3
            have u4 : Z.cell? ⟨Y.heap.size, 4, none⟩ = some (.bool false) := hZn.cell 4
            have t1 : Z.cell? ⟨w.heap.size, 1, none⟩ = some (.slice aa an ac) := hYn2.cell 1
            have t2 : Z.cell? ⟨w.heap.size, 2, none⟩ = some (.int .i64 n) := hYn2.cell 2
            have t3 : Z.cell? ⟨w.heap.size, 3, none⟩ = some (.slice ba b.len bc) := hYn2.cell 3
            clear q0 q1 q2 q3 q4
            go_wp2_with (first
              | (go_at_call 95; refine (hT Z).mono ?_; rintro e w1 ⟨rfl, hb1⟩; have t2b : w1.cell? ⟨w.heap.size, 2, none⟩ = some (.int .i64 n) := (hb1.cell (p := ⟨w.heap.size, 2, none⟩) hYn2.lt).trans t2; have t3b : w1.cell? ⟨w.heap.size, 3, none⟩ = some (.slice ba b.len bc) := (hb1.cell (p := ⟨w.heap.size, 3, none⟩) hYn2.lt).trans t3; have u3b : w1.cell? ⟨Y.heap.size, 3, none⟩ = some (.bool true) := (hb1.cell (p := ⟨Y.heap.size, 3, none⟩) hZn.lt).trans u3; have u4b : w1.cell? ⟨Y.heap.size, 4, none⟩ = some (.bool false) := (hb1.cell (p := ⟨Y.heap.size, 4, none⟩) hZn.lt).trans u4)
              | (go_at_call 96; refine (hM _).mono ?_; rintro e w' ⟨rfl, rfl⟩)
              | fail)
            go_ret
            rw [HR.out]
            exact ⟨by simp, hZb.trans (hb1.mono hZb.size)⟩

set_option maxRecDepth 100000 in
theorem mayAlone_any (op n : Int) (a : List (List UInt8)) (b : Ac.Fo) (aa : Option Addr) (ac : Nat) (ba : Option Addr) (bc : Nat) (w : World) (hL : Laid w) (ha : a.length ≤ 140737488351232) : Calls Tryz.prog 87 #[.agg #[.int .i64 op, .slice aa a.length ac, .int .i64 n, .slice ba b.len bc]] w fun e w' => e = .returned (.bool (Ac.alone op a n b)) ∧ Below w.heap.size w w' := by
  by_cases h0 : op ≤ 0
  · rw [Ac.alone_out (.inl h0)]
    have hbe := (Below.refl w.heap.size w).alloc (Nat.le_refl _) (.cells #[.int .i64 op, .slice aa a.length ac, .int .i64 n, .slice ba b.len bc] 75)
    go_enter Tryz.func87, Tryz.ntmps87
    go_wp2
    go_ret
    exact ⟨rfl, hbe⟩
  · by_cases h1 : 13 ≤ op
    · rw [Ac.alone_out (.inr h1)]
      have hbe := (Below.refl w.heap.size w).alloc (Nat.le_refl _) (.cells #[.int .i64 op, .slice aa a.length ac, .int .i64 n, .slice ba b.len bc] 75)
      go_enter Tryz.func87, Tryz.ntmps87
      go_wp2
      go_ret
      exact ⟨rfl, hbe⟩
    · obtain ⟨k, rfl⟩ : ∃ k : Nat, op = (k : Int) := ⟨op.toNat, by omega⟩
      exact mayAlone_in k (by omega) (by omega) n a b aa a.length ac ba bc w hL rfl ha

end Go.Proofs.YtnobmgkdieaclaaGreatDoor
