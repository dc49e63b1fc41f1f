/-
  WHAT THE LANDED CODE's takes, fill DO.
-/
import Derived.Test.YtfgdlnidfkjbdaaDoorANum
import Derived.Test.YtfgdlnidfkjbdaaDoorALine
import Derived.Test.YtfgdlnidfkjbdaaDoorKit
import Derived.Deep.RegionHeld3
namespace Go.Proofs.YtfgdlnidfkjbdaaDoor
open Go.RowKit

theorem below_drewF {B : Nat} {a w : World} (h : Below B a w) (n : Nat) : Below B a (w.drewN n) := ⟨h.os, h.tape, h.output, h.size, h.block⟩
/-- a kind as it is handed on -/
def kAgg (W : ByteArray) (L M : Int) (N Bd : Bool) : Value := .agg #[.string W, .int .i64 L, .int .i64 M, .bool N, .bool Bd]

set_option maxRecDepth 100000 in
theorem takes_any (W : ByteArray) (L M : Int) (N Bd : Bool) (k : Nat) (w : World) : Calls Tryd.prog 62 #[.agg #[.string W, .int .i64 L, .int .i64 M, .bool N, .bool Bd], .int .i64 (k : Int)] w fun e w' => e = .returned (.bool (decide (L ≤ k ∧ (k : Int) ≤ M))) ∧ Below w.heap.size w w' := by
  have hbe := (Below.refl w.heap.size w).alloc (Nat.le_refl _) (.cells #[.string W, .int .i64 L, .int .i64 M, .bool N, .bool Bd] 86)
  by_cases h0 : L ≤ k
  · by_cases h1 : (k : Int) ≤ M
    · rw [decide_eq_true (And.intro h0 h1)]
      go_enter Tryd.func62, Tryd.ntmps62
      go_wp2
      go_ret
      exact ⟨rfl, hbe⟩
    · rw [decide_eq_false (fun h => h1 h.2)]
      go_enter Tryd.func62, Tryd.ntmps62
      go_wp2
      go_ret
      exact ⟨rfl, hbe⟩
  · rw [decide_eq_false (fun h => h0 h.1)]
    go_enter Tryd.func62, Tryd.ntmps62
    go_wp2
    go_ret
    exact ⟨rfl, hbe⟩

/-- a statement's result and whether it is one -/
theorem results_st {fn : Func} {p q : Tmp} (h : fn.results = #[.cell p 34, .tmp q]) (tmps : Array Value) (W : World) {g : Nat} {cs : Array Value} {v : Value} (hR : Rw W g cs 34) (hz : cs.size = 4) (hp : tmps.getD p undef = .pointer (some ⟨g, 0, none⟩)) (hq : tmps.getD q undef = v) :
    (results fn tmps).run Tryd.prog W = .ok (.tuple #[.agg cs, v]) W :=
  results_row_slot h tmps W g _ cs _ v hp hq hR Tryd.underlying34 rfl (by rw [hz]; kernel_rfl)
/-- what stands behind a first word, of a kind with these bounds -/
def Ac.fillP (L M : Int) (N : Bool) (l : List (List UInt8)) : Option (List (List UInt8) × Int) :=
  if N = true then match l with
    | [] => none
    | s :: r => (Ac.number s).bind fun (n : Nat) => if L ≤ r.length ∧ (r.length : Int) ≤ M then some (r, (n : Int)) else none
  else if L ≤ l.length ∧ (l.length : Int) ≤ M then some (l, 0) else none
/-- a statement without a body, or none -/
def StEnd (w : World) (base : Nat) (op : Int) : Option (List (List UInt8) × Int) → Value → Prop
  | none, v => v = .tuple #[.agg #[.int .i64 0, .slice none 0 0, .int .i64 0, .slice none 0 0], .bool false]
  | some (a, n), v => ∃ va, v = .tuple #[.agg #[.int .i64 op, va, .int .i64 n, .slice none 0 0], .bool true] ∧ TxR.Own w base va a

set_option maxRecDepth 100000 in
set_option maxHeartbeats 1000000 in
theorem fill_plain (W : ByteArray) (L M : Int) (Bd : Bool) (op : Int) (vb : Value) (l : List (List UInt8)) (B : Nat) (w : World) (hb : TxR.Sl w B vb l) (hB : B ≤ w.heap.size) (hlen : l.length ≤ 1099511) :
    Calls Tryd.prog 55 #[.agg #[.string W, .int .i64 L, .int .i64 M, .bool false, .bool Bd], .agg #[.int .i64 op, .slice none 0 0, .int .i64 0, .slice none 0 0], vb] w fun e w' => (∃ v, e = .returned v ∧ StEnd w' w.heap.size op (Ac.fillP L M false l) v) ∧ Below w.heap.size w w' := by
  obtain ⟨ad, c, rfl, hle⟩ := hb.shape
  have hT := takes_any W L M false Bd l.length
  by_cases hk : L ≤ l.length ∧ (l.length : Int) ≤ M
  · have HF : Hid (Ac.fillP L M false l = some (l, 0)) := by
      show _ = _
      unfold Ac.fillP
      rw [if_neg (by simp), if_pos hk]
    rw [decide_eq_true hk] at hT
    generalize Ac.fillP L M false l = R at *
    clear hk
    have hY := Rw.three w #[.string W, .int .i64 L, .int .i64 M, .bool false, .bool Bd] #[.int .i64 op, .slice none 0 0, .int .i64 0, .slice none 0 0] #[.int .i64 0, .slice none 0 0, .int .i64 0, .slice none 0 0] 86 34 34
    go_enter Tryd.func55, Tryd.ntmps55
    go_upto_region 1 with fail
    generalize ((w.alloc (.cells #[.string W, .int .i64 L, .int .i64 M, .bool false, .bool Bd] 86)).alloc (.cells #[.int .i64 op, .slice none 0 0, .int .i64 0, .slice none 0 0] 34)).alloc (.cells #[.int .i64 0, .slice none 0 0, .int .i64 0, .slice none 0 0] 34) = Y at hY ⊢
    obtain ⟨r0, r1, r2, hYb, hYz⟩ := hY
    have k0 : Y.cell? ⟨w.heap.size, 0, none⟩ = some (.string W) := r0.cell 0
    have k1 : Y.cell? ⟨w.heap.size, 1, none⟩ = some (.int .i64 L) := r0.cell 1
    have k2 : Y.cell? ⟨w.heap.size, 2, none⟩ = some (.int .i64 M) := r0.cell 2
    have k3 : Y.cell? ⟨w.heap.size, 3, none⟩ = some (.bool false) := r0.cell 3
    have k4 : Y.cell? ⟨w.heap.size, 4, none⟩ = some (.bool Bd) := r0.cell 4
    have HYz : Hid _ := hYz
    clear hYz
    go_upto_if 34 with (first | (go_at_call 62; refine (hT _).mono ?_; rintro e w1 ⟨rfl, hb1⟩) | fail)
    have hz := HYz.out
    replace r1 := r1.below hb1 (by omega)
    replace r2 := r2.below hb1 (by omega)
    have s1 : w1.cell? ⟨w.heap.size + 1, 1, none⟩ = some (.slice none 0 0) := r1.cell 1
    clear k0 k1 k2 k3 k4
    have hBw3 : w.heap.size + 3 ≤ w1.heap.size := by have := hb1.size; omega
    have hBw : w.heap.size ≤ w1.heap.size := by omega
    have hbl := (hb.below hYb hB).below hb1 (by omega)
    have HLn : Hid (([] : List (List UInt8)).length + l.length ≤ 1099511627) := by show _ ≤ _; simp only [List.length_nil]; omega
    have hO : TxR.Own w1 w1.heap.size (.slice none 0 0) [] := Rc.Own.nil _ _
    go_wp2_with (at_builtin; go_must (refine TxR.append rfl _ _ rfl w1.heap.size B _ _ [] l rfl hO rfl hbl HLn (Nat.le_refl _) ?_))
    intro va w2 hO2 hg2
    have hb2 : Below w1.heap.size w1 w2 := ⟨hg2.os, hg2.tape, hg2.output, hg2.size, fun k hk => hg2.block k hk (by simp [Value.ownBlock])⟩
    replace r1 := r1.below hb2 r1.lt
    replace r2 := r2.below hb2 r2.lt
    have s0 : w2.cell? ⟨w.heap.size + 1, 0, none⟩ = some (.int .i64 op) := r1.cell 0
    have s1 : w2.cell? ⟨w.heap.size + 1, 1, none⟩ = some (.slice none 0 0) := r1.cell 1
    have s2 : w2.cell? ⟨w.heap.size + 1, 2, none⟩ = some (.int .i64 0) := r1.cell 2
    have s3 : w2.cell? ⟨w.heap.size + 1, 3, none⟩ = some (.slice none 0 0) := r1.cell 3
    have z0 : w2.cell? ⟨w.heap.size + 1 + 1, 0, none⟩ = some (.int .i64 0) := r2.cell 0
    have z1 : w2.cell? ⟨w.heap.size + 1 + 1, 1, none⟩ = some (.slice none 0 0) := r2.cell 1
    have z2 : w2.cell? ⟨w.heap.size + 1 + 1, 2, none⟩ = some (.int .i64 0) := r2.cell 2
    have z3 : w2.cell? ⟨w.heap.size + 1 + 1, 3, none⟩ = some (.slice none 0 0) := r2.cell 3
    have f1 : w2.frozen? ⟨w.heap.size + 1, 1, none⟩ = false := r1.free 1
    have f20 : w2.frozen? ⟨w.heap.size + 1 + 1, 0, none⟩ = false := r2.free 0
    have f21 : w2.frozen? ⟨w.heap.size + 1 + 1, 1, none⟩ = false := r2.free 1
    have f22 : w2.frozen? ⟨w.heap.size + 1 + 1, 2, none⟩ = false := r2.free 2
    have f23 : w2.frozen? ⟨w.heap.size + 1 + 1, 3, none⟩ = false := r2.free 3
    clear hO hg2 HLn hbl
    obtain ⟨va, vn, vc, rfl⟩ := hO2.isSl
    go_wp2
    have hT1 := Turn.put1 w2 (w.heap.size + 1) 1 (.slice va vn vc)
    have r2' := r2.turn hT1 (by simp)
    have r3 := r2'.put4 (.int .i64 op) (.slice va vn vc) (.int .i64 0) (.slice none 0 0)
    have hT2 := Turn.put4 (w2.setCell ⟨w.heap.size + 1, 1, none⟩ (.slice va vn vc)) (w.heap.size + 1 + 1) (.int .i64 op) (.slice va vn vc) (.int .i64 0) (.slice none 0 0)
    have hO3 := Row.turn (Row.turn hO2 hT1 (fun g hg => by have := (hO2.lt g hg).1; simp; omega)) hT2 (fun g hg => by have := (hO2.lt g hg).1; simp; omega)
    refine bodyPost_ret (results_st Tryd.results55 _ _ r3 rfl rfl rfl) rfl ⟨⟨_, rfl, ?_⟩, ?_⟩
    · rw [HF.out]
      exact ⟨_, rfl, Rc.Own.low hO3 hBw⟩
    · exact hT2.bel (hT1.bel (hYb.trans ((hb1.mono (by omega)).trans (hb2.mono hBw))) (by simp)) (by simp; omega)
  · have HF : Hid (Ac.fillP L M false l = none) := by
      show _ = _
      unfold Ac.fillP
      rw [if_neg (by simp), if_neg hk]
    rw [decide_eq_false hk] at hT
    generalize Ac.fillP L M false l = R at *
    clear hk
    have hY := Rw.three w #[.string W, .int .i64 L, .int .i64 M, .bool false, .bool Bd] #[.int .i64 op, .slice none 0 0, .int .i64 0, .slice none 0 0] #[.int .i64 0, .slice none 0 0, .int .i64 0, .slice none 0 0] 86 34 34
    go_enter Tryd.func55, Tryd.ntmps55
    go_upto_region 1 with fail
    generalize ((w.alloc (.cells #[.string W, .int .i64 L, .int .i64 M, .bool false, .bool Bd] 86)).alloc (.cells #[.int .i64 op, .slice none 0 0, .int .i64 0, .slice none 0 0] 34)).alloc (.cells #[.int .i64 0, .slice none 0 0, .int .i64 0, .slice none 0 0] 34) = Y at hY ⊢
    obtain ⟨r0, r1, r2, hYb, hYz⟩ := hY
    have k0 : Y.cell? ⟨w.heap.size, 0, none⟩ = some (.string W) := r0.cell 0
    have k1 : Y.cell? ⟨w.heap.size, 1, none⟩ = some (.int .i64 L) := r0.cell 1
    have k2 : Y.cell? ⟨w.heap.size, 2, none⟩ = some (.int .i64 M) := r0.cell 2
    have k3 : Y.cell? ⟨w.heap.size, 3, none⟩ = some (.bool false) := r0.cell 3
    have k4 : Y.cell? ⟨w.heap.size, 4, none⟩ = some (.bool Bd) := r0.cell 4
    have HYz : Hid _ := hYz
    clear hYz
    go_upto_if 34 with (first | (go_at_call 62; refine (hT _).mono ?_; rintro e w1 ⟨rfl, hb1⟩) | fail)
    have hz := HYz.out
    replace r2 := r2.below hb1 (by omega)
    clear k0 k1 k2 k3 k4
    have z0 : w1.cell? ⟨w.heap.size + 1 + 1, 0, none⟩ = some (.int .i64 0) := r2.cell 0
    have z1 : w1.cell? ⟨w.heap.size + 1 + 1, 1, none⟩ = some (.slice none 0 0) := r2.cell 1
    have z2 : w1.cell? ⟨w.heap.size + 1 + 1, 2, none⟩ = some (.int .i64 0) := r2.cell 2
    have z3 : w1.cell? ⟨w.heap.size + 1 + 1, 3, none⟩ = some (.slice none 0 0) := r2.cell 3
    have f20 : w1.frozen? ⟨w.heap.size + 1 + 1, 0, none⟩ = false := r2.free 0
    have f21 : w1.frozen? ⟨w.heap.size + 1 + 1, 1, none⟩ = false := r2.free 1
    have f22 : w1.frozen? ⟨w.heap.size + 1 + 1, 2, none⟩ = false := r2.free 2
    have f23 : w1.frozen? ⟨w.heap.size + 1 + 1, 3, none⟩ = false := r2.free 3
    go_wp2
    have r3 := r2.put4 (.int .i64 0) (.slice none 0 0) (.int .i64 0) (.slice none 0 0)
    have hT2 := Turn.put4 w1 (w.heap.size + 1 + 1) (.int .i64 0) (.slice none 0 0) (.int .i64 0) (.slice none 0 0)
    refine bodyPost_ret (results_st Tryd.results55 _ _ r3 rfl rfl rfl) rfl ⟨⟨_, rfl, ?_⟩, ?_⟩
    · rw [HF.out]
      exact rfl
    · exact hT2.bel (hYb.trans (hb1.mono (by omega))) (by simp; omega)

set_option maxRecDepth 100000 in
set_option maxHeartbeats 1000000 in
theorem fill_num (W : ByteArray) (L M : Int) (Bd : Bool) (op : Int) (vb : Value) (l : List (List UInt8)) (B : Nat) (w : World) (hl : Laid w) (hb : TxR.Sl w B vb l) (hB : B ≤ w.heap.size) (hlen : l.length ≤ 1099511) (hwd : ∀ s ∈ l, s.length ≤ 1099511627) :
    Calls Tryd.prog 55 #[.agg #[.string W, .int .i64 L, .int .i64 M, .bool true, .bool Bd], .agg #[.int .i64 op, .slice none 0 0, .int .i64 0, .slice none 0 0], vb] w fun e w' => (∃ v, e = .returned v ∧ StEnd w' w.heap.size op (Ac.fillP L M true l) v) ∧ Below w.heap.size w w' := by
  obtain ⟨ad, c, rfl, hle⟩ := hb.shape
  cases l with
  | nil =>
    have HF : Hid (Ac.fillP L M true [] = none) := rfl
    generalize Ac.fillP L M true [] = R at *
    have hY := Rw.three w #[.string W, .int .i64 L, .int .i64 M, .bool true, .bool Bd] #[.int .i64 op, .slice none 0 0, .int .i64 0, .slice none 0 0] #[.int .i64 0, .slice none 0 0, .int .i64 0, .slice none 0 0] 86 34 34
    go_enter Tryd.func55, Tryd.ntmps55
    go_upto_region 1 with fail
    generalize ((w.alloc (.cells #[.string W, .int .i64 L, .int .i64 M, .bool true, .bool Bd] 86)).alloc (.cells #[.int .i64 op, .slice none 0 0, .int .i64 0, .slice none 0 0] 34)).alloc (.cells #[.int .i64 0, .slice none 0 0, .int .i64 0, .slice none 0 0] 34) = Y at hY ⊢
    obtain ⟨r0, r1, r2, hYb, hYz⟩ := hY
    have k3 : Y.cell? ⟨w.heap.size, 3, none⟩ = some (.bool true) := r0.cell 3
    have HYz : Hid _ := hYz
    clear hYz
    have z0 : Y.cell? ⟨w.heap.size + 1 + 1, 0, none⟩ = some (.int .i64 0) := r2.cell 0
    have z1 : Y.cell? ⟨w.heap.size + 1 + 1, 1, none⟩ = some (.slice none 0 0) := r2.cell 1
    have z2 : Y.cell? ⟨w.heap.size + 1 + 1, 2, none⟩ = some (.int .i64 0) := r2.cell 2
    have z3 : Y.cell? ⟨w.heap.size + 1 + 1, 3, none⟩ = some (.slice none 0 0) := r2.cell 3
    have f20 : Y.frozen? ⟨w.heap.size + 1 + 1, 0, none⟩ = false := r2.free 0
    have f21 : Y.frozen? ⟨w.heap.size + 1 + 1, 1, none⟩ = false := r2.free 1
    have f22 : Y.frozen? ⟨w.heap.size + 1 + 1, 2, none⟩ = false := r2.free 2
    have f23 : Y.frozen? ⟨w.heap.size + 1 + 1, 3, none⟩ = false := r2.free 3
    go_wp2
    have r3 := r2.put4 (.int .i64 0) (.slice none 0 0) (.int .i64 0) (.slice none 0 0)
    have hT2 := Turn.put4 Y (w.heap.size + 1 + 1) (.int .i64 0) (.slice none 0 0) (.int .i64 0) (.slice none 0 0)
    refine bodyPost_ret (results_st Tryd.results55 _ _ r3 rfl rfl rfl) rfl ⟨⟨_, rfl, ?_⟩, ?_⟩
    · rw [HF.out]
      exact rfl
    · exact hT2.bel (hYb) (by simp; omega)
  | cons s r =>
    obtain ⟨g, o, c', e, hg, hc0⟩ := TxR.at hb (k := 0) (by simp)
    simp only [Value.slice.injEq, List.length_cons, List.getElem_cons_zero, Nat.add_zero] at e hc0
    obtain ⟨rfl, -, rfl⟩ := e
    obtain ⟨A, hsl, htl⟩ := Rc.slice_tail hb 1 (by simp)
    simp only [List.length_cons, Nat.add_sub_cancel, List.drop_succ_cons, List.drop_zero] at htl hsl
    have hT := takes_any W L M true Bd r.length
    have hN := fun W hlW => readNumber_any (str s) W hlW (by rw [str_size]; exact hwd s (by simp))
    rw [bs, str_toList] at hN
    simp only [List.length_cons] at hle hlen ⊢
    have i0 : ((r.length : Int) + 1 == 0) = false := by rw [beq_eq_false_iff_ne]; omega
    have i1 : (0 : Int) < (r.length : Int) + 1 := by omega
    cases hn : Ac.number s with
    | none =>
      have HF : Hid (Ac.fillP L M true (s :: r) = none) := by show _ = _; simp [Ac.fillP, hn]
      generalize Ac.fillP L M true (s :: r) = R at *
      rw [hn] at hN
      have HZ : Hid (Ac.numZ s = 0) := by show _ = _; unfold Ac.numZ; rw [hn]; rfl
      generalize Ac.numZ s = Z at *
      clear hn
      have hY := Rw.three w #[.string W, .int .i64 L, .int .i64 M, .bool true, .bool Bd] #[.int .i64 op, .slice none 0 0, .int .i64 0, .slice none 0 0] #[.int .i64 0, .slice none 0 0, .int .i64 0, .slice none 0 0] 86 34 34
      go_enter Tryd.func55, Tryd.ntmps55
      go_upto_region 1 with fail
      generalize ((w.alloc (.cells #[.string W, .int .i64 L, .int .i64 M, .bool true, .bool Bd] 86)).alloc (.cells #[.int .i64 op, .slice none 0 0, .int .i64 0, .slice none 0 0] 34)).alloc (.cells #[.int .i64 0, .slice none 0 0, .int .i64 0, .slice none 0 0] 34) = Y at hY ⊢
      obtain ⟨r0, r1, r2, hYb, hYz⟩ := hY
      have k3 : Y.cell? ⟨w.heap.size, 3, none⟩ = some (.bool true) := r0.cell 3
      have HYz : Hid _ := hYz
      clear hYz
      have q0 : Y.cell? ⟨g, o, none⟩ = some (.string (str s)) := (hYb.cell (p := ⟨g, o, none⟩) (Nat.lt_of_lt_of_le hg hB)).trans hc0
      generalize str s = S at *
      go_upto_if 24 with (first | (go_at_call 70; refine (hN _ (hl.below hYb hl.size)).mono ?_; rintro e w1 ⟨rfl, hb1⟩) | fail)
      have hz := HYz.out
      replace r2 := r2.below hb1 (by omega)
      clear k3
      have z0 : w1.cell? ⟨w.heap.size + 1 + 1, 0, none⟩ = some (.int .i64 0) := r2.cell 0
      have z1 : w1.cell? ⟨w.heap.size + 1 + 1, 1, none⟩ = some (.slice none 0 0) := r2.cell 1
      have z2 : w1.cell? ⟨w.heap.size + 1 + 1, 2, none⟩ = some (.int .i64 0) := r2.cell 2
      have z3 : w1.cell? ⟨w.heap.size + 1 + 1, 3, none⟩ = some (.slice none 0 0) := r2.cell 3
      have f20 : w1.frozen? ⟨w.heap.size + 1 + 1, 0, none⟩ = false := r2.free 0
      have f21 : w1.frozen? ⟨w.heap.size + 1 + 1, 1, none⟩ = false := r2.free 1
      have f22 : w1.frozen? ⟨w.heap.size + 1 + 1, 2, none⟩ = false := r2.free 2
      have f23 : w1.frozen? ⟨w.heap.size + 1 + 1, 3, none⟩ = false := r2.free 3
      go_wp2
      have r3 := r2.put4 (.int .i64 0) (.slice none 0 0) (.int .i64 0) (.slice none 0 0)
      have hT2 := Turn.put4 w1 (w.heap.size + 1 + 1) (.int .i64 0) (.slice none 0 0) (.int .i64 0) (.slice none 0 0)
      refine bodyPost_ret (results_st Tryd.results55 _ _ r3 rfl rfl rfl) rfl ⟨⟨_, rfl, ?_⟩, ?_⟩
      · rw [HF.out]
        exact rfl
      · exact hT2.bel (hYb.trans (hb1.mono (by omega))) (by simp; omega)
    | some n =>
      rw [hn] at hN
      have HZ : Hid (Ac.numZ s = (n : Int)) := by show _ = _; unfold Ac.numZ; rw [hn]; rfl
      have HF : Hid (Ac.fillP L M true (s :: r) = if L ≤ r.length ∧ (r.length : Int) ≤ M then some (r, (n : Int)) else none) := by show _ = _; simp [Ac.fillP, hn]
      generalize Ac.fillP L M true (s :: r) = R at *
      rw [HZ.out] at hN
      clear hn HZ
      have hY := Rw.three w #[.string W, .int .i64 L, .int .i64 M, .bool true, .bool Bd] #[.int .i64 op, .slice none 0 0, .int .i64 0, .slice none 0 0] #[.int .i64 0, .slice none 0 0, .int .i64 0, .slice none 0 0] 86 34 34
      go_enter Tryd.func55, Tryd.ntmps55
      go_upto_region 1 with fail
      generalize ((w.alloc (.cells #[.string W, .int .i64 L, .int .i64 M, .bool true, .bool Bd] 86)).alloc (.cells #[.int .i64 op, .slice none 0 0, .int .i64 0, .slice none 0 0] 34)).alloc (.cells #[.int .i64 0, .slice none 0 0, .int .i64 0, .slice none 0 0] 34) = Y at hY ⊢
      obtain ⟨r0, r1, r2, hYb, hYz⟩ := hY
      have k3 : Y.cell? ⟨w.heap.size, 3, none⟩ = some (.bool true) := r0.cell 3
      have HYz : Hid _ := hYz
      clear hYz
      have q0 : Y.cell? ⟨g, o, none⟩ = some (.string (str s)) := (hYb.cell (p := ⟨g, o, none⟩) (Nat.lt_of_lt_of_le hg hB)).trans hc0
      generalize str s = S at *
      go_upto_if 24 with (first | (go_at_call 70; refine (hN _ (hl.below hYb hl.size)).mono ?_; rintro e w1 ⟨rfl, hb1⟩) | fail)
      have hz := HYz.out
      replace r0 := r0.below hb1 (by omega)
      replace r1 := r1.below hb1 (by omega)
      replace r2 := r2.below hb1 (by omega)
      have s2 : w1.cell? ⟨w.heap.size + 1, 2, none⟩ = some (.int .i64 0) := r1.cell 2
      have f2 : w1.frozen? ⟨w.heap.size + 1, 2, none⟩ = false := r1.free 2
      clear k3
      have hsl1 : ∀ W : World, (Instr.slice 32 (.slice (some ⟨g, o, none⟩) (r.length + 1) c) (some (.int .i64 1)) none none).run Tryd.prog W = .ok (.slice A r.length (c - 1)) W := hsl
      clear hsl
      go_upto_region 8 with fail
      go_region_with (fail)
      have hTn : Turn [w.heap.size + 1] w1 (w1.setCell ⟨w.heap.size + 1, 2, none⟩ (.int .i64 (n : Int))).drew := (Turn.put1 w1 (w.heap.size + 1) 2 (.int .i64 (n : Int))).drew
      have q0 : Rw (w1.setCell ⟨w.heap.size + 1, 2, none⟩ (.int .i64 (n : Int))).drew w.heap.size _ _ := r0.turn hTn (by simp)
      have q1 : Rw (w1.setCell ⟨w.heap.size + 1, 2, none⟩ (.int .i64 (n : Int))).drew (w.heap.size + 1) #[.int .i64 op, .slice none 0 0, .int .i64 (n : Int), .slice none 0 0] 34 := r1.set 2 (.int .i64 (n : Int)) (by simp)
      have q2 : Rw (w1.setCell ⟨w.heap.size + 1, 2, none⟩ (.int .i64 (n : Int))).drew (w.heap.size + 1 + 1) _ _ := r2.turn hTn (by simp)
      have hVb := hTn.bel (hYb.trans (hb1.mono (by omega))) (by simp)
      have hVz : w.heap.size + 3 ≤ (w1.setCell ⟨w.heap.size + 1, 2, none⟩ (.int .i64 (n : Int))).drew.heap.size := by have := hTn.size; have := hb1.size; omega
      generalize (w1.setCell ⟨w.heap.size + 1, 2, none⟩ (.int .i64 (n : Int))).drew = V at *
      clear r0 r1 r2 s2 f2 hTn hb1 hYb hz HYz hc0 hN
      have k0 : V.cell? ⟨w.heap.size, 0, none⟩ = some (.string W) := q0.cell 0
      have k1 : V.cell? ⟨w.heap.size, 1, none⟩ = some (.int .i64 L) := q0.cell 1
      have k2 : V.cell? ⟨w.heap.size, 2, none⟩ = some (.int .i64 M) := q0.cell 2
      have k3 : V.cell? ⟨w.heap.size, 3, none⟩ = some (.bool true) := q0.cell 3
      have k4 : V.cell? ⟨w.heap.size, 4, none⟩ = some (.bool Bd) := q0.cell 4
      have htl1 := htl.below hVb hB
      by_cases hk : L ≤ r.length ∧ (r.length : Int) ≤ M
      · rw [decide_eq_true hk] at hT
        rw [if_pos hk] at HF
        clear hk
        go_upto_if 34 with (first | (go_at_call 62; refine (hT _).mono ?_; rintro e w1 ⟨rfl, hb1⟩) | fail)
        clear k0 k1 k2 k3 k4
        have hz1 := hb1.size
        replace q1 := q1.below hb1 (by omega)
        replace q2 := q2.below hb1 (by omega)
        have s1 : w1.cell? ⟨w.heap.size + 1, 1, none⟩ = some (.slice none 0 0) := q1.cell 1
        have htl2 := htl1.below hb1 (by omega)
        have HLn : Hid (([] : List (List UInt8)).length + r.length ≤ 1099511627) := by show _ ≤ _; simp only [List.length_nil]; omega
        have hO : TxR.Own w1 w1.heap.size (.slice none 0 0) [] := Rc.Own.nil _ _
        go_wp2_with (at_builtin; go_must (refine TxR.append rfl _ _ rfl w1.heap.size B _ _ [] r rfl hO rfl htl2 HLn (Nat.le_refl _) ?_))
        intro va w2 hO2 hg2
        have hb2 : Below w1.heap.size w1 w2 := ⟨hg2.os, hg2.tape, hg2.output, hg2.size, fun k hk => hg2.block k hk (by simp [Value.ownBlock])⟩
        replace q1 := q1.below hb2 q1.lt
        replace q2 := q2.below hb2 q2.lt
        have s0 : w2.cell? ⟨w.heap.size + 1, 0, none⟩ = some (.int .i64 op) := q1.cell 0
        have s1 : w2.cell? ⟨w.heap.size + 1, 1, none⟩ = some (.slice none 0 0) := q1.cell 1
        have s2 : w2.cell? ⟨w.heap.size + 1, 2, none⟩ = some (.int .i64 (n : Int)) := q1.cell 2
        have s3 : w2.cell? ⟨w.heap.size + 1, 3, none⟩ = some (.slice none 0 0) := q1.cell 3
        have z0 : w2.cell? ⟨w.heap.size + 1 + 1, 0, none⟩ = some (.int .i64 0) := q2.cell 0
        have z1 : w2.cell? ⟨w.heap.size + 1 + 1, 1, none⟩ = some (.slice none 0 0) := q2.cell 1
        have z2 : w2.cell? ⟨w.heap.size + 1 + 1, 2, none⟩ = some (.int .i64 0) := q2.cell 2
        have z3 : w2.cell? ⟨w.heap.size + 1 + 1, 3, none⟩ = some (.slice none 0 0) := q2.cell 3
        have f1 : w2.frozen? ⟨w.heap.size + 1, 1, none⟩ = false := q1.free 1
        have f20 : w2.frozen? ⟨w.heap.size + 1 + 1, 0, none⟩ = false := q2.free 0
        have f21 : w2.frozen? ⟨w.heap.size + 1 + 1, 1, none⟩ = false := q2.free 1
        have f22 : w2.frozen? ⟨w.heap.size + 1 + 1, 2, none⟩ = false := q2.free 2
        have f23 : w2.frozen? ⟨w.heap.size + 1 + 1, 3, none⟩ = false := q2.free 3
        clear hO hg2 HLn
        obtain ⟨va, vn, vc, rfl⟩ := hO2.isSl
        go_wp2
        have hT1 := Turn.put1 w2 (w.heap.size + 1) 1 (.slice va vn vc)
        have q2' := q2.turn hT1 (by simp)
        have q3 := q2'.put4 (.int .i64 op) (.slice va vn vc) (.int .i64 (n : Int)) (.slice none 0 0)
        have hT2 := Turn.put4 (w2.setCell ⟨w.heap.size + 1, 1, none⟩ (.slice va vn vc)) (w.heap.size + 1 + 1) (.int .i64 op) (.slice va vn vc) (.int .i64 (n : Int)) (.slice none 0 0)
        have hO3 := Row.turn (Row.turn hO2 hT1 (fun g hg => by have := (hO2.lt g hg).1; simp; omega)) hT2 (fun g hg => by have := (hO2.lt g hg).1; simp; omega)
        refine bodyPost_ret (results_st Tryd.results55 _ _ q3 rfl rfl rfl) rfl ⟨⟨_, rfl, ?_⟩, ?_⟩
        · rw [HF.out]
          exact ⟨_, rfl, Rc.Own.low hO3 (by omega)⟩
        · exact hT2.bel (hT1.bel (hVb.trans ((hb1.mono (by omega)).trans (hb2.mono (by omega)))) (by simp)) (by simp; omega)
      · rw [decide_eq_false hk] at hT
        rw [if_neg hk] at HF
        clear hk
        go_upto_if 34 with (first | (go_at_call 62; refine (hT _).mono ?_; rintro e w1 ⟨rfl, hb1⟩) | fail)
        clear k0 k1 k2 k3 k4
        have hz1 := hb1.size
        replace q2 := q2.below hb1 (by omega)
        have z0 : w1.cell? ⟨w.heap.size + 1 + 1, 0, none⟩ = some (.int .i64 0) := q2.cell 0
        have z1 : w1.cell? ⟨w.heap.size + 1 + 1, 1, none⟩ = some (.slice none 0 0) := q2.cell 1
        have z2 : w1.cell? ⟨w.heap.size + 1 + 1, 2, none⟩ = some (.int .i64 0) := q2.cell 2
        have z3 : w1.cell? ⟨w.heap.size + 1 + 1, 3, none⟩ = some (.slice none 0 0) := q2.cell 3
        have f20 : w1.frozen? ⟨w.heap.size + 1 + 1, 0, none⟩ = false := q2.free 0
        have f21 : w1.frozen? ⟨w.heap.size + 1 + 1, 1, none⟩ = false := q2.free 1
        have f22 : w1.frozen? ⟨w.heap.size + 1 + 1, 2, none⟩ = false := q2.free 2
        have f23 : w1.frozen? ⟨w.heap.size + 1 + 1, 3, none⟩ = false := q2.free 3
        go_wp2
        have q3 := q2.put4 (.int .i64 0) (.slice none 0 0) (.int .i64 0) (.slice none 0 0)
        have hT2 := Turn.put4 w1 (w.heap.size + 1 + 1) (.int .i64 0) (.slice none 0 0) (.int .i64 0) (.slice none 0 0)
        refine bodyPost_ret (results_st Tryd.results55 _ _ q3 rfl rfl rfl) rfl ⟨⟨_, rfl, ?_⟩, ?_⟩
        · rw [HF.out]
          exact rfl
        · exact hT2.bel (hVb.trans (hb1.mono (by omega))) (by simp; omega)

theorem fill_any (W : ByteArray) (L M : Int) (N Bd : Bool) (op : Int) (vb : Value) (l : List (List UInt8)) (B : Nat) (w : World) (hl : Laid w) (hb : TxR.Sl w B vb l) (hB : B ≤ w.heap.size) (hlen : l.length ≤ 1099511) (hwd : ∀ s ∈ l, s.length ≤ 1099511627) :
    Calls Tryd.prog 55 #[.agg #[.string W, .int .i64 L, .int .i64 M, .bool N, .bool Bd], .agg #[.int .i64 op, .slice none 0 0, .int .i64 0, .slice none 0 0], vb] w fun e w' => (∃ v, e = .returned v ∧ StEnd w' w.heap.size op (Ac.fillP L M N l) v) ∧ Below w.heap.size w w' := by
  cases N with
  | true => exact fill_num W L M Bd op vb l B w hl hb hB hlen hwd
  | false => exact fill_plain W L M Bd op vb l B w hb hB hlen

end Go.Proofs.YtfgdlnidfkjbdaaDoor
