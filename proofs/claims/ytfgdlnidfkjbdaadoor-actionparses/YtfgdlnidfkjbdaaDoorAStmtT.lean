/-
  WHAT THE DOCUMENT's Stmt DOES.
-/
import Derived.Test.YtfgdlnidfkjbdaaDoorAStT
import Derived.Test.YtfgdlnidfkjbdaaDoorRecStep
import Derived.Deep.QuietTactic
import Derived.Deep.RegionLaw
namespace Go.Proofs.YtfgdlnidfkjbdaaDoor
open Go.RowKit

theorem Ac.stmt_none {s : List UInt8} {r : List (List UInt8)} (h : ∀ j : Nat, 1 ≤ j → j < 13 → Ac.word (j : Int) ≠ s) : Ac.stmtOf (s :: r) = none := by
  rw [Ac.stmtOf_cons]
  cases ho : Ac.opOf s with
  | none => rfl
  | some op =>
    obtain ⟨rfl, hw⟩ := Ac.opOf_some ho
    have hh := Ac.word_of hw
    have e : ((op.toNat : Nat) : Int) = op := by omega
    exact absurd (by rw [e]) (h op.toNat (by omega) (by omega))
theorem Ac.stmt_at {k : Nat} {s : List UInt8} {r : List (List UInt8)} (h1 : 1 ≤ k) (h2 : k < 13) (h : Ac.word (k : Int) = s) : Ac.stmtOf (s :: r) = Ac.stmtW (k : Int) r := by
  have hne : Ac.word (k : Int) ≠ [] := by
    have : ∀ i : Fin 13, i.1 ≠ 0 → Ac.word (i.1 : Int) ≠ [] := by decide
    exact this ⟨k, h2⟩ (by simp; omega)
  rw [Ac.stmtOf_cons, ← h, Ac.opOf_word hne, Option.bind_some]
theorem Ac.len_one : ∀ {r : List (List UInt8)}, r.length = 1 → ∃ t, r = [t]
  | [t], _ => ⟨t, rfl⟩
theorem Ac.repOf_ne : ∀ {r : List (List UInt8)}, ¬ r.length = 1 → Ac.repOf r = none
  | [], _ => rfl
  | [_], h => absurd rfl h
  | _ :: _ :: _, _ => rfl

set_option maxRecDepth 100000 in
theorem StmtT_nil (w : World) (ad : Option Addr) (c : Nat) : Calls Tryd.prog 42 #[.slice ad 0 c] w fun e w' => (∃ u, e = .returned u ∧ StT w' w.heap.size none u) ∧ Below w.heap.size w w' := by
  have r2 := Rw.new w #[.int .i64 0, .slice none 0 0, .int .i64 0, .slice none 0 0] 34
  have hYr := (Below.refl w.heap.size w).alloc (Nat.le_refl _) (.cells #[.int .i64 0, .slice none 0 0, .int .i64 0, .slice none 0 0] 34)
  have HN : Hid ((none : Option (Int × List (List UInt8) × Int)) = none) := rfl
  go_enter Tryd.func42, Tryd.ntmps42
  go_upto_region 1 with fail
  generalize w.alloc (.cells #[.int .i64 0, .slice none 0 0, .int .i64 0, .slice none 0 0] 34) = wr at r2 hYr ⊢
  have z0 : wr.cell? ⟨w.heap.size, 0, none⟩ = some (.int .i64 0) := r2.cell 0
  have z1 : wr.cell? ⟨w.heap.size, 1, none⟩ = some (.slice none 0 0) := r2.cell 1
  have z2 : wr.cell? ⟨w.heap.size, 2, none⟩ = some (.int .i64 0) := r2.cell 2
  have z3 : wr.cell? ⟨w.heap.size, 3, none⟩ = some (.slice none 0 0) := r2.cell 3
  have f20 : wr.frozen? ⟨w.heap.size, 0, none⟩ = false := r2.free 0
  have f21 : wr.frozen? ⟨w.heap.size, 1, none⟩ = false := r2.free 1
  have f22 : wr.frozen? ⟨w.heap.size, 2, none⟩ = false := r2.free 2
  have f23 : wr.frozen? ⟨w.heap.size, 3, none⟩ = false := r2.free 3
  have hT2 := Turn.put4 wr w.heap.size (.int .i64 0) (.slice none 0 0) (.int .i64 0) (.slice none 0 0)
  have q3 := r2.put4 (.int .i64 0) (.slice none 0 0) (.int .i64 0) (.slice none 0 0)
  go_wp2
  go_loopw [4] (fun i w' => i = .int .i64 1 ∧ w' = wr) (fun _ _ => 0)
  case atStart => exact ⟨rfl, rfl⟩
  case round =>
    obtain ⟨rfl, rfl⟩ := hrel
    go_wp2
    refine bodyPost_ret (results_st Tryd.results42 _ _ q3 rfl rfl rfl) rfl ⟨⟨_, rfl, ?_⟩, hT2.bel hYr (by simp)⟩
    exact ⟨_, _, _, _, _, rfl⟩

set_option maxRecDepth 100000 in
set_option maxHeartbeats 16000000 in
theorem StmtT_any (v : Value) (l : List (List UInt8)) (B : Nat) (w : World) (hv : TxR.Sl w B v l) (hB : B ≤ w.heap.size) (hlen : l.length ≤ 1099511) (hwd : ∀ s ∈ l, s.length ≤ 1099511627) :
    Calls Tryd.prog 42 #[v] w fun e w' => (∃ u, e = .returned u ∧ StT w' w.heap.size (Ac.stmtOf l) u) ∧ Below w.heap.size w w' := by
  obtain ⟨ad, c, rfl, hle⟩ := hv.shape
  cases l with
  | nil => exact StmtT_nil w ad c
  | cons s r =>
    have hY0 := Rw.new w #[.int .i64 0, .slice none 0 0, .int .i64 0, .slice none 0 0] 34
    have hYb := (Below.refl w.heap.size w).alloc (Nat.le_refl _) (.cells #[.int .i64 0, .slice none 0 0, .int .i64 0, .slice none 0 0] 34)
    have hYz := size_alloc w (.cells #[.int .i64 0, .slice none 0 0, .int .i64 0, .slice none 0 0] 34)
    obtain ⟨g, o, c', e, hg, hcw⟩ := TxR.at hv (k := 0) (by simp)
    simp only [Value.slice.injEq, List.length_cons, List.getElem_cons_zero, Nat.add_zero] at e hcw
    obtain ⟨rfl, -, rfl⟩ := e
    obtain ⟨A, hsl, htl⟩ := Rc.slice_tail hv 1 (by simp)
    simp only [List.length_cons, Nat.add_sub_cancel, List.drop_succ_cons, List.drop_zero] at htl hsl
    have hsl1 : ∀ W : World, (Instr.slice 32 (.slice (some ⟨g, o, none⟩) (r.length + 1) c) (some (.int .i64 1)) none none).run Tryd.prog W = .ok (.slice A r.length (c - 1)) W := hsl
    clear hsl
    simp only [List.length_cons] at hle hlen ⊢
    have rb : (r.length : Int) ≤ 1099510 := by omega
    have j2 : (0 : Int) < (r.length : Int) + 1 := by omega
    have hrl : r.length ≤ 1099510 := by omega
    have HSz : Hid _ := hlen
    have HLe : Hid _ := hle
    have HWD : Hid _ := hwd
    clear hlen hle hwd
    obtain ⟨X, hX⟩ : ∃ X, Ac.stmtOf (s :: r) = X := ⟨_, rfl⟩
    rw [hX]
    have HX : Hid _ := hX
    clear hX
    go_enter Tryd.func42, Tryd.ntmps42
    go_upto_region 1 with fail
    generalize w.alloc (.cells #[.int .i64 0, .slice none 0 0, .int .i64 0, .slice none 0 0] 34) = Y at hY0 hYb hYz ⊢
    have HYz : Hid _ := hYz
    clear hYz
    go_wp2
    go_loopw [4] (fun i w' => ∃ k : Nat, 1 ≤ k ∧ k ≤ 13 ∧ i = .int .i64 (k : Int) ∧ Hid (∀ j : Nat, 1 ≤ j → j < k → Ac.word (j : Int) ≠ s) ∧ Below Y.heap.size Y w') (fun i _ => 13 - (intOf i).toNat)
    case atStart => exact ⟨1, by omega, by omega, rfl, by show ∀ j : Nat, _; intro j h1 h2; omega, Below.refl _ _⟩
    case round =>
      obtain ⟨k, hk1, hk, rfl, HK, hbr⟩ := hrel
      have hYr := hYb.trans (hbr.mono (by have := HYz.out; omega))
      have r2 := hY0.below hbr hY0.lt
      have k0 : (0 : Int) ≤ (k : Int) := by omega
      have kb : (k : Int) ≤ 13 := by omega
      by_cases hex : k ≤ 12
      · have j1 : (k : Int) ≤ 12 := by omega
        have hc0 := (hYr.cell (p := ⟨g, o, none⟩) (Nat.lt_of_lt_of_le hg hB)).trans hcw
        have hWt := WordT_any (k : Int)
        obtain ⟨KW, hkw⟩ : ∃ KW, str (Ac.word (k : Int)) = KW := ⟨_, rfl⟩
        rw [hkw] at hWt
        obtain ⟨S, hS⟩ : ∃ S, str s = S := ⟨_, rfl⟩
        rw [hS] at hc0
        by_cases he : Ac.word (k : Int) = s
        · have he2 : (KW.toList == S.toList) = true := by
            rw [← hkw, ← hS, he]
            exact beq_self_eq_true _
          have HXk : Hid (X = Ac.stmtW (k : Int) r) := by show _ = _; rw [← HX.out]; exact Ac.stmt_at (r := r) hk1 (by omega) he
          clear hkw hS he HK HX
          by_cases h10 : k = 10
          · have e10 : ((k : Int) == 10) = true := by rw [beq_iff_eq]; omega
            by_cases hr1 : r.length = 1
            · obtain ⟨t, rfl⟩ := Ac.len_one hr1
              have HXn : Hid (X = (Ac.number t).map fun (n : Nat) => ((10 : Int), ([] : List (List UInt8)), (n : Int))) := by
                show _ = _
                rw [HXk.out, Ac.stmtW, if_pos (by omega), Ac.repOf]
              have hNm := fun W => NumberT_any (str t) W (by rw [str_size]; exact HWD.out t (by simp))
              rw [bs, str_toList] at hNm
              obtain ⟨g', o', c'', e', hg', hc1⟩ := TxR.at (hv.below hYr hB) (k := 1) (by simp)
              simp only [Value.slice.injEq, Option.some.injEq, Addr.mk.injEq, and_true, List.getElem_cons_succ, List.getElem_cons_zero] at e' hc1
              obtain ⟨⟨rfl, rfl⟩, -⟩ := e'
              obtain ⟨NI, hNI⟩ : ∃ NI, Ac.numI t = NI := ⟨_, rfl⟩
              rw [hNI] at hNm
              have HNI : Hid _ := hNI
              obtain ⟨T, hT⟩ : ∃ T, str t = T := ⟨_, rfl⟩
              rw [hT] at hNm hc1
              have nib : -1 ≤ NI ∧ NI ≤ 1000 := by
                rw [← hNI, Ac.numI]
                cases hn : Ac.number t with
                | none => simp
                | some n => have := (Ac.number_some hn).2; simp; omega
              obtain ⟨ni1, ni2⟩ := nib
              clear h10 hr1 HXk hNI hT
              go_wp2
              go_quiet ((go_at_call 56; refine Calls.quiet_of_same (hWt _)))
              have hq := below_drewF (Below.refl wr.heap.size wr) nq
              generalize wr.drewN nq = Wq at hq ⊢
              go_step
              go_upto_region 6 with fail
              have rx := Rw.new Wq #[.int .i64 (k : Int), .slice none 0 0, .int .i64 0, .slice none 0 0] 34
              have hZb := hq.alloc hq.size (.cells #[.int .i64 (k : Int), .slice none 0 0, .int .i64 0, .slice none 0 0] 34)
              generalize Wq.alloc (.cells #[.int .i64 (k : Int), .slice none 0 0, .int .i64 0, .slice none 0 0] 34) = Z at rx hZb ⊢
              have r2z := r2.below hZb r2.lt
              have hYz := hYr.trans (hZb.mono hYr.size)
              have hqx : w.heap.size < Wq.heap.size := by have := r2.lt; have := hq.size; omega
              have x0 : Z.cell? ⟨Wq.heap.size, 0, none⟩ = some (.int .i64 (k : Int)) := rx.cell 0
              have x1 : Z.cell? ⟨Wq.heap.size, 1, none⟩ = some (.slice none 0 0) := rx.cell 1
              have x2 : Z.cell? ⟨Wq.heap.size, 2, none⟩ = some (.int .i64 0) := rx.cell 2
              have x3 : Z.cell? ⟨Wq.heap.size, 3, none⟩ = some (.slice none 0 0) := rx.cell 3
              have hc1z : Z.cell? ⟨g, o + 1, none⟩ = some (.string T) := (hZb.cell (p := ⟨g, o + 1, none⟩) (by have := hYr.size; show g < _; omega)).trans hc1
              go_upto_region 10 with (first | (go_at_call 57; refine (hNm Z).mono ?_; rintro e w1 ⟨rfl, hb1⟩; have rx1 := rx.below hb1 rx.lt; have y2 : w1.cell? ⟨Wq.heap.size, 2, none⟩ = some (.int .i64 0) := rx1.cell 2; have fy2 : w1.frozen? ⟨Wq.heap.size, 2, none⟩ = false := rx1.free 2) | fail)
              have hTu := Turn.put1 w1 Wq.heap.size 2 (.int .i64 NI)
              have rx2 : Rw (w1.setCell ⟨Wq.heap.size, 2, none⟩ (.int .i64 NI)) Wq.heap.size #[.int .i64 (k : Int), .slice none 0 0, .int .i64 NI, .slice none 0 0] 34 := rx1.set 2 _ (by simp)
              have r2v : Rw (w1.setCell ⟨Wq.heap.size, 2, none⟩ (.int .i64 NI)) w.heap.size _ _ := (r2z.below hb1 r2z.lt).turn hTu (by simp; omega)
              have hbv := hTu.bel (hYz.trans (hb1.mono hYz.size)) (by simp; omega)
              clear x0 x1 x2 x3
              generalize w1.setCell ⟨Wq.heap.size, 2, none⟩ (.int .i64 NI) = V at rx2 r2v hbv ⊢
              have x0 : V.cell? ⟨Wq.heap.size, 0, none⟩ = some (.int .i64 (k : Int)) := rx2.cell 0
              have x1 : V.cell? ⟨Wq.heap.size, 1, none⟩ = some (.slice none 0 0) := rx2.cell 1
              have x2 : V.cell? ⟨Wq.heap.size, 2, none⟩ = some (.int .i64 NI) := rx2.cell 2
              have x3 : V.cell? ⟨Wq.heap.size, 3, none⟩ = some (.slice none 0 0) := rx2.cell 3
              have z0 : V.cell? ⟨w.heap.size, 0, none⟩ = some (.int .i64 0) := r2v.cell 0
              have z1 : V.cell? ⟨w.heap.size, 1, none⟩ = some (.slice none 0 0) := r2v.cell 1
              have z2 : V.cell? ⟨w.heap.size, 2, none⟩ = some (.int .i64 0) := r2v.cell 2
              have z3 : V.cell? ⟨w.heap.size, 3, none⟩ = some (.slice none 0 0) := r2v.cell 3
              have f20 : V.frozen? ⟨w.heap.size, 0, none⟩ = false := r2v.free 0
              have f21 : V.frozen? ⟨w.heap.size, 1, none⟩ = false := r2v.free 1
              have f22 : V.frozen? ⟨w.heap.size, 2, none⟩ = false := r2v.free 2
              have f23 : V.frozen? ⟨w.heap.size, 3, none⟩ = false := r2v.free 3
              have hT4 := (Turn.put4 V w.heap.size (.int .i64 (k : Int)) (.slice none 0 0) (.int .i64 NI) (.slice none 0 0)).drew
              have xs0 := (hT4.cell (p := ⟨Wq.heap.size, 0, none⟩) rx2.lt (by simp; omega)).trans x0
              have xs1 := (hT4.cell (p := ⟨Wq.heap.size, 1, none⟩) rx2.lt (by simp; omega)).trans x1
              have xs2 := (hT4.cell (p := ⟨Wq.heap.size, 2, none⟩) rx2.lt (by simp; omega)).trans x2
              have xs3 := (hT4.cell (p := ⟨Wq.heap.size, 3, none⟩) rx2.lt (by simp; omega)).trans x3
              have xd : V.drew.cell? ⟨Wq.heap.size, 0, none⟩ = some (.int .i64 (k : Int)) ∧ V.drew.cell? ⟨Wq.heap.size, 1, none⟩ = some (.slice none 0 0) ∧ V.drew.cell? ⟨Wq.heap.size, 2, none⟩ = some (.int .i64 NI) ∧ V.drew.cell? ⟨Wq.heap.size, 3, none⟩ = some (.slice none 0 0) := ⟨x0, x1, x2, x3⟩
              go_region_held3 (fun X : World => X.cell? ⟨Wq.heap.size, 0, none⟩ = some (.int .i64 (k : Int)) ∧ X.cell? ⟨Wq.heap.size, 1, none⟩ = some (.slice none 0 0) ∧ X.cell? ⟨Wq.heap.size, 2, none⟩ = some (.int .i64 NI) ∧ X.cell? ⟨Wq.heap.size, 3, none⟩ = some (.slice none 0 0)) (first | with_reducible exact xd | with_reducible exact ⟨xs0, xs1, xs2, xs3⟩ | fail) (fail)
              clear xs0 xs1 xs2 xs3 xd
              go_wp2
              have hfin := r2v.put4 (.int .i64 (k : Int)) (.slice none 0 0) (.int .i64 NI) (.slice none 0 0)
              refine bodyPost_ret (results_st Tryd.results42 _ _ hfin rfl rfl rfl) rfl ⟨⟨_, rfl, ?_⟩, hT4.bel hbv (by simp)⟩
              rw [HXn.out]
              cases hn : Ac.number t with
              | none =>
                have : NI = -1 := by rw [← HNI.out, Ac.numI, hn]
                subst this
                exact ⟨_, _, _, _, _, rfl⟩
              | some n =>
                have : NI = (n : Int) := by rw [← HNI.out, Ac.numI, hn]
                subst this
                have hd : decide ((0 : Int) ≤ (n : Int)) = true := decide_eq_true (by omega)
                have hk10 : (k : Int) = 10 := by simpa using e10
                refine ⟨none, 0, 0, ?_, Rc.Own.nil _ _⟩
                first
                  | (rw [hk10]; rfl)
                  | (simp [hk10])
            · have HXn : Hid (X = none) := by
                show _ = _
                rw [HXk.out, Ac.stmtW, if_pos (by omega), Ac.repOf_ne hr1]
              have n2 : ((r.length : Int) + 1 == 2) = false := by rw [beq_eq_false_iff_ne]; omega
              clear h10 hr1 HXk
              go_wp2
              go_quiet ((go_at_call 56; refine Calls.quiet_of_same (hWt _)))
              have hq := below_drewF (Below.refl wr.heap.size wr) nq
              generalize wr.drewN nq = Wq at hq ⊢
              go_step
              go_upto_region 6 with fail
              have rx := Rw.new Wq #[.int .i64 (k : Int), .slice none 0 0, .int .i64 0, .slice none 0 0] 34
              have hZb := hq.alloc hq.size (.cells #[.int .i64 (k : Int), .slice none 0 0, .int .i64 0, .slice none 0 0] 34)
              generalize Wq.alloc (.cells #[.int .i64 (k : Int), .slice none 0 0, .int .i64 0, .slice none 0 0] 34) = Z at rx hZb ⊢
              have r2z := r2.below hZb r2.lt
              have hYz := hYr.trans (hZb.mono hYr.size)
              have hqx : w.heap.size < Wq.heap.size := by have := r2.lt; have := hq.size; omega
              have x0 : Z.cell? ⟨Wq.heap.size, 0, none⟩ = some (.int .i64 (k : Int)) := rx.cell 0
              have x1 : Z.cell? ⟨Wq.heap.size, 1, none⟩ = some (.slice none 0 0) := rx.cell 1
              have x2 : Z.cell? ⟨Wq.heap.size, 2, none⟩ = some (.int .i64 0) := rx.cell 2
              have x3 : Z.cell? ⟨Wq.heap.size, 3, none⟩ = some (.slice none 0 0) := rx.cell 3
              have z0 : Z.cell? ⟨w.heap.size, 0, none⟩ = some (.int .i64 0) := r2z.cell 0
              have z1 : Z.cell? ⟨w.heap.size, 1, none⟩ = some (.slice none 0 0) := r2z.cell 1
              have z2 : Z.cell? ⟨w.heap.size, 2, none⟩ = some (.int .i64 0) := r2z.cell 2
              have z3 : Z.cell? ⟨w.heap.size, 3, none⟩ = some (.slice none 0 0) := r2z.cell 3
              have f20 : Z.frozen? ⟨w.heap.size, 0, none⟩ = false := r2z.free 0
              have f21 : Z.frozen? ⟨w.heap.size, 1, none⟩ = false := r2z.free 1
              have f22 : Z.frozen? ⟨w.heap.size, 2, none⟩ = false := r2z.free 2
              have f23 : Z.frozen? ⟨w.heap.size, 3, none⟩ = false := r2z.free 3
              go_wp2
              have hT2 := Turn.put4 Z w.heap.size (.int .i64 (k : Int)) (.slice none 0 0) (.int .i64 0) (.slice none 0 0)
              refine bodyPost_ret (results_st Tryd.results42 _ _ (r2z.put4 (.int .i64 (k : Int)) (.slice none 0 0) (.int .i64 0) (.slice none 0 0)) rfl rfl rfl) rfl ⟨⟨_, rfl, ?_⟩, hT2.bel hYz (by simp)⟩
              rw [HXn.out]
              exact ⟨_, _, _, _, _, rfl⟩
          · have e10 : ((k : Int) == 10) = false := by rw [beq_eq_false_iff_ne]; omega
            have HXn : Hid (X = if Ac.argsOk (k : Int) r.length = true then some ((k : Int), r, 0) else none) := by
              show _ = _
              rw [HXk.out, Ac.stmtW, if_neg (by omega)]
            have hAr := ArgsT_any (k : Int)
            have hok := Ac.argsOk_N (k : Int) r.length
            obtain ⟨AN, hAN⟩ : ∃ AN, Ac.argsN (k : Int) = AN := ⟨_, rfl⟩
            have hANc : AN = -1 ∨ AN = 0 ∨ AN = 1 ∨ AN = 2 := by
              rw [← hAN]
              unfold Ac.argsN
              split <;> (try split) <;> (try split) <;> simp
            rw [hAN] at hAr hok
            have HOK : Hid _ := hok
            clear h10 HXk hAN hok
            go_wp2
            go_quiet ((go_at_call 56; refine Calls.quiet_of_same (hWt _)))
            have hq := below_drewF (Below.refl wr.heap.size wr) nq
            generalize wr.drewN nq = Wq at hq ⊢
            go_step
            go_upto_region 6 with fail
            have rx := Rw.new Wq #[.int .i64 (k : Int), .slice none 0 0, .int .i64 0, .slice none 0 0] 34
            have hZb := hq.alloc hq.size (.cells #[.int .i64 (k : Int), .slice none 0 0, .int .i64 0, .slice none 0 0] 34)
            generalize Wq.alloc (.cells #[.int .i64 (k : Int), .slice none 0 0, .int .i64 0, .slice none 0 0] 34) = Z at rx hZb ⊢
            have r2z := r2.below hZb r2.lt
            have hYz := hYr.trans (hZb.mono hYr.size)
            have hqx : w.heap.size < Wq.heap.size := by have := r2.lt; have := hq.size; omega
            have x0 : Z.cell? ⟨Wq.heap.size, 0, none⟩ = some (.int .i64 (k : Int)) := rx.cell 0
            have x1 : Z.cell? ⟨Wq.heap.size, 1, none⟩ = some (.slice none 0 0) := rx.cell 1
            have x2 : Z.cell? ⟨Wq.heap.size, 2, none⟩ = some (.int .i64 0) := rx.cell 2
            have x3 : Z.cell? ⟨Wq.heap.size, 3, none⟩ = some (.slice none 0 0) := rx.cell 3
            have htz := (htl.below hYr hB).below hZb (by have := hYr.size; omega)
            have htd : TxR.Sl Z.drew B (.slice A r.length (c - 1)) r := htz.below (Below.refl B Z).drew (Nat.le_refl _)
            have HLn : Hid (r.length ≤ 1099511627) := by show _ ≤ _; omega
            have x1d : Z.drew.cell? ⟨Wq.heap.size, 1, none⟩ = some (.slice none 0 0) := x1
            have rxd : Rw Z.drew Wq.heap.size #[.int .i64 (k : Int), .slice none 0 0, .int .i64 0, .slice none 0 0] 34 := rx
            go_upto_region 11 with fail
            go_region_law
              (first | (refine Rc.step_nil TxR ?_ (.tmp 39) (.tmp 41) ?_ B _ r ?_ ?_ htd HLn ?_; (next => rfl); (next => rfl); (next => rfl); (next => rfl); intro va vn vc w1 hO1 hb1; have rx1 := rxd.below hb1 rx.lt; have y1 : w1.cell? ⟨Wq.heap.size, 1, none⟩ = some (.slice none 0 0) := rx1.cell 1; have fy1 : w1.frozen? ⟨Wq.heap.size, 1, none⟩ = false := rx1.free 1) | fail)
            all_goals (
              have hvn : vn = r.length := by obtain ⟨ad', c', e', -⟩ := hO1.sl.shape; simp only [Value.slice.injEq] at e'; exact e'.2.1
              subst hvn
              go_wp2
              go_upto_region 12 with fail
              have hTu := Turn.put1 w1 Wq.heap.size 1 (.slice va r.length vc)
              have rx2 : Rw (w1.setCell ⟨Wq.heap.size, 1, none⟩ (.slice va r.length vc)) Wq.heap.size #[.int .i64 (k : Int), .slice va r.length vc, .int .i64 0, .slice none 0 0] 34 := rx1.set 1 _ (by simp)
              have r2d : Rw Z.drew w.heap.size #[.int .i64 0, .slice none 0 0, .int .i64 0, .slice none 0 0] 34 := r2z
              have r2v : Rw (w1.setCell ⟨Wq.heap.size, 1, none⟩ (.slice va r.length vc)) w.heap.size _ _ := (r2d.below hb1 r2z.lt).turn hTu (by simp; omega)
              have hbv := hTu.bel (hYz.drew.trans (hb1.mono hYz.size)) (by simp; omega)
              have hOv : TxR.Own (w1.setCell ⟨Wq.heap.size, 1, none⟩ (.slice va r.length vc)) Z.heap.size (.slice va r.length vc) r := Row.turn hO1 hTu (fun g hg hx => by have h1 := (hO1.lt g hg).1; have h2 : Z.heap.size ≤ g := h1; have := rx.lt; simp at hx; omega)
              clear x0 x1 x2 x3 hO1
              generalize w1.setCell ⟨Wq.heap.size, 1, none⟩ (.slice va r.length vc) = V at rx2 r2v hbv hOv ⊢
              have x0 : V.cell? ⟨Wq.heap.size, 0, none⟩ = some (.int .i64 (k : Int)) := rx2.cell 0
              have x1 : V.cell? ⟨Wq.heap.size, 1, none⟩ = some (.slice va r.length vc) := rx2.cell 1
              have x2 : V.cell? ⟨Wq.heap.size, 2, none⟩ = some (.int .i64 0) := rx2.cell 2
              have x3 : V.cell? ⟨Wq.heap.size, 3, none⟩ = some (.slice none 0 0) := rx2.cell 3
              have z0 : V.cell? ⟨w.heap.size, 0, none⟩ = some (.int .i64 0) := r2v.cell 0
              have z1 : V.cell? ⟨w.heap.size, 1, none⟩ = some (.slice none 0 0) := r2v.cell 1
              have z2 : V.cell? ⟨w.heap.size, 2, none⟩ = some (.int .i64 0) := r2v.cell 2
              have z3 : V.cell? ⟨w.heap.size, 3, none⟩ = some (.slice none 0 0) := r2v.cell 3
              have f20 : V.frozen? ⟨w.heap.size, 0, none⟩ = false := r2v.free 0
              have f21 : V.frozen? ⟨w.heap.size, 1, none⟩ = false := r2v.free 1
              have f22 : V.frozen? ⟨w.heap.size, 2, none⟩ = false := r2v.free 2
              have f23 : V.frozen? ⟨w.heap.size, 3, none⟩ = false := r2v.free 3
              have r2d : Rw V.drew w.heap.size #[.int .i64 0, .slice none 0 0, .int .i64 0, .slice none 0 0] 34 := r2v
              have hT4 := Turn.put4 V.drew w.heap.size (.int .i64 (k : Int)) (.slice va r.length vc) (.int .i64 0) (.slice none 0 0)
              have xs0 := (hT4.cell (p := ⟨Wq.heap.size, 0, none⟩) rx2.lt (by simp; omega)).trans x0
              have xs1 := (hT4.cell (p := ⟨Wq.heap.size, 1, none⟩) rx2.lt (by simp; omega)).trans x1
              have xs2 := (hT4.cell (p := ⟨Wq.heap.size, 2, none⟩) rx2.lt (by simp; omega)).trans x2
              have xs3 := (hT4.cell (p := ⟨Wq.heap.size, 3, none⟩) rx2.lt (by simp; omega)).trans x3
              have xd : V.drew.cell? ⟨Wq.heap.size, 0, none⟩ = some (.int .i64 (k : Int)) ∧ V.drew.cell? ⟨Wq.heap.size, 1, none⟩ = some (.slice va r.length vc) ∧ V.drew.cell? ⟨Wq.heap.size, 2, none⟩ = some (.int .i64 0) ∧ V.drew.cell? ⟨Wq.heap.size, 3, none⟩ = some (.slice none 0 0) := ⟨x0, x1, x2, x3⟩
              have hfin := r2d.put4 (.int .i64 (k : Int)) (.slice va r.length vc) (.int .i64 0) (.slice none 0 0)
              have hOd : TxR.Own V.drew Z.heap.size (.slice va r.length vc) r := hOv
              have hOf := Row.turn hOd hT4 (fun g hg hx => by have h1 := (hOv.lt g hg).1; have := r2z.lt; simp at hx; omega)
              have hww : w.heap.size ≤ Z.heap.size := Nat.le_of_lt r2z.lt
              have hbv := hbv.drew
              have anb : -1 ≤ AN ∧ AN ≤ 2 := by omega
              obtain ⟨an1, an2⟩ := anb
              clear hANc
              by_cases hneg : AN < 0
              · have hd1 : decide (AN < 0) = true := decide_eq_true hneg
                have HD1 : Hid (decide (AN < 0) = true) := hd1
                refine wp_region_held_drew (S := fun X : World => X.cell? ⟨Wq.heap.size, 0, none⟩ = some (.int .i64 (k : Int)) ∧ X.cell? ⟨Wq.heap.size, 1, none⟩ = some (.slice va r.length vc) ∧ X.cell? ⟨Wq.heap.size, 2, none⟩ = some (.int .i64 0) ∧ X.cell? ⟨Wq.heap.size, 3, none⟩ = some (.slice none 0 0)) (by kernel_rfl) xd (fun hHeld => ?_)
                refine wpAnyH_take (i := 0) (v := ?_) rfl (by kernel_rfl) (by kernel_rfl) (by kernel_rfl) (fun _ _ _ h => h) (Or.inl ⟨(by simp [Region.wanted]), ?_⟩) (hHeld) ?_
                rotate_left
                · (intro w hSw; (try dsimp only at hSw); ((go_simp) <;> (with_reducible rfl)))
                try simp only [Act.put, List.setIfInBounds_toArray]
                refine wpAnyH_take (i := 1) (v := ?_) rfl (by kernel_rfl) (by kernel_rfl) (by kernel_rfl) (fun _ _ _ h => h) (Or.inl ⟨(by simp [Region.wanted]), ?_⟩) (hHeld) ?_
                rotate_left
                · (intro w hSw; (try dsimp only at hSw); ((go_simp) <;> (with_reducible rfl)))
                try simp only [Act.put]
                refine wpAnyH_ready (rs := [2]) (by kernel_rfl) (by simp) ?_
                refine AllReadyH.cons rfl (fun K hK => ?_) AllReadyH.nil
                go_simp
                refine (hAr _).mono ?_
                rintro e w5 ⟨rfl, rfl⟩
                refine hK.out _ _ (xd) (fun hHeld => ?_)
                clear hK K
                try simp only [Act.put, List.setIfInBounds_toArray, List.set_cons_zero, List.set_cons_succ]
                refine wpAnyH_take (i := 3) (v := ?_) rfl (by kernel_rfl) (by kernel_rfl) (by kernel_rfl) (fun _ _ _ h => h) (Or.inl ⟨(by simp [Region.wanted]), ?_⟩) (hHeld) ?_
                rotate_left
                · (intro w hSw; (try dsimp only at hSw); ((go_simp) <;> (with_reducible rfl)))
                try simp only [Act.put, List.setIfInBounds_toArray]
                refine wpAnyH_take (i := 4) (v := ?_) rfl (by kernel_rfl) (by kernel_rfl) (by kernel_rfl) (fun _ _ _ h => h) (Or.inl ⟨(by simp [Region.wanted]), ?_⟩) (hHeld) ?_
                rotate_left
                · (intro w hSw; (try dsimp only at hSw); ((go_simp) <;> (with_reducible rfl)))
                try simp only [Act.put]
                refine wpAnyH_take (i := 5) (v := undef) rfl (by kernel_rfl) (by kernel_rfl) (by kernel_rfl) (fun _ _ _ h => h) (Or.inr ⟨(by simp [Region.wanted, yielded]), rfl⟩) (hHeld) ?_
                try simp only [Act.put]
                refine wpAnyH_take (i := 6) (v := undef) rfl (by kernel_rfl) (by kernel_rfl) (by kernel_rfl) (fun _ _ _ h => h) (Or.inr ⟨(by simp [Region.wanted, yielded]), rfl⟩) (hHeld) ?_
                try simp only [Act.put]
                refine wpAnyH_take (i := 7) (v := undef) rfl (by kernel_rfl) (by kernel_rfl) (by kernel_rfl) (fun _ _ _ h => h) (Or.inr ⟨(by simp [Region.wanted, yielded]), rfl⟩) (hHeld) ?_
                try simp only [Act.put]
                refine wpAnyH_take (i := 8) (v := undef) rfl (by kernel_rfl) (by kernel_rfl) (by kernel_rfl) (fun _ _ _ h => h) (Or.inr ⟨(by simp [Region.wanted, yielded]), rfl⟩) (hHeld) ?_
                try simp only [Act.put]
                refine wpAnyH_take (i := 9) (v := undef) rfl (by kernel_rfl) (by kernel_rfl) (by kernel_rfl) (fun _ _ _ h => h) (Or.inr ⟨(by simp [Region.wanted, yielded]), rfl⟩) (hHeld) ?_
                try simp only [Act.put]
                refine wpAnyH_take (i := 10) (v := undef) rfl (by kernel_rfl) (by kernel_rfl) (by kernel_rfl) (fun _ _ _ h => h) (Or.inr ⟨(by simp [Region.wanted, yielded]), rfl⟩) (hHeld) ?_
                try simp only [Act.put]
                refine wpAnyH_take (i := 11) (v := ?_) rfl (by kernel_rfl) (by kernel_rfl) (by kernel_rfl) (fun _ _ _ h => h) (Or.inl ⟨(by simp [Region.wanted]), ?_⟩) (hHeld) ?_
                rotate_left
                · (intro w hSw; (try dsimp only at hSw); ((go_simp) <;> (with_reducible rfl)))
                try simp only [Act.put]
                refine wpAnyH_ready (rs := [12]) (by kernel_rfl) (by simp) ?_
                refine AllReadyH.cons rfl (fun K hK => ?_) AllReadyH.nil
                go_simp
                refine hK.out _ _ (⟨xs0, xs1, xs2, xs3⟩) (fun hHeld => ?_)
                clear hK K
                try simp only [Act.put, List.setIfInBounds_toArray, List.set_cons_zero, List.set_cons_succ]
                refine wpAnyH_ready (rs := [13]) (by kernel_rfl) (by simp) ?_
                refine AllReadyH.cons rfl (fun K hK => ?_) AllReadyH.nil
                go_simp
                refine hK.out _ _ (⟨xs0, xs1, xs2, xs3⟩) (fun hHeld => ?_)
                clear hK K
                try simp only [Act.put, List.setIfInBounds_toArray, List.set_cons_zero, List.set_cons_succ]
                refine wpAnyH_done (by kernel_rfl) ?_ _
                go_wp2
                refine bodyPost_ret (results_st Tryd.results42 _ _ hfin rfl rfl rfl) rfl ⟨⟨_, rfl, ?_⟩, hT4.bel hbv (by simp)⟩
                rw [HXn.out, HOK.out, HD1.out]
                exact ⟨_, _, _, rfl, Rc.Own.low hOf hww⟩
              · have hd1 : decide (AN < 0) = false := decide_eq_false hneg
                have HD1 : Hid (decide (AN < 0) = false) := hd1
                by_cases heq : AN = (r.length : Int)
                · have hbq : (AN == (r.length : Int)) = true := by rw [beq_iff_eq]; exact heq
                  have HD2 : Hid (decide (AN = (r.length : Int)) = true) := decide_eq_true heq
                  clear heq hneg
                  refine wp_region_held_drew (S := fun X : World => X.cell? ⟨Wq.heap.size, 0, none⟩ = some (.int .i64 (k : Int)) ∧ X.cell? ⟨Wq.heap.size, 1, none⟩ = some (.slice va r.length vc) ∧ X.cell? ⟨Wq.heap.size, 2, none⟩ = some (.int .i64 0) ∧ X.cell? ⟨Wq.heap.size, 3, none⟩ = some (.slice none 0 0)) (by kernel_rfl) xd (fun hHeld => ?_)
                  refine wpAnyH_take (i := 0) (v := ?_) rfl (by kernel_rfl) (by kernel_rfl) (by kernel_rfl) (fun _ _ _ h => h) (Or.inl ⟨(by simp [Region.wanted]), ?_⟩) (hHeld) ?_
                  rotate_left
                  · (intro w hSw; (try dsimp only at hSw); ((go_simp) <;> (with_reducible rfl)))
                  try simp only [Act.put, List.setIfInBounds_toArray]
                  refine wpAnyH_take (i := 1) (v := ?_) rfl (by kernel_rfl) (by kernel_rfl) (by kernel_rfl) (fun _ _ _ h => h) (Or.inl ⟨(by simp [Region.wanted]), ?_⟩) (hHeld) ?_
                  rotate_left
                  · (intro w hSw; (try dsimp only at hSw); ((go_simp) <;> (with_reducible rfl)))
                  try simp only [Act.put]
                  refine wpAnyH_ready (rs := [2]) (by kernel_rfl) (by simp) ?_
                  refine AllReadyH.cons rfl (fun K hK => ?_) AllReadyH.nil
                  go_simp
                  refine (hAr _).mono ?_
                  rintro e w5 ⟨rfl, rfl⟩
                  refine hK.out _ _ (xd) (fun hHeld => ?_)
                  clear hK K
                  try simp only [Act.put, List.setIfInBounds_toArray, List.set_cons_zero, List.set_cons_succ]
                  refine wpAnyH_take (i := 3) (v := ?_) rfl (by kernel_rfl) (by kernel_rfl) (by kernel_rfl) (fun _ _ _ h => h) (Or.inl ⟨(by simp [Region.wanted]), ?_⟩) (hHeld) ?_
                  rotate_left
                  · (intro w hSw; (try dsimp only at hSw); ((go_simp) <;> (with_reducible rfl)))
                  try simp only [Act.put, List.setIfInBounds_toArray]
                  refine wpAnyH_take (i := 4) (v := ?_) rfl (by kernel_rfl) (by kernel_rfl) (by kernel_rfl) (fun _ _ _ h => h) (Or.inl ⟨(by simp [Region.wanted]), ?_⟩) (hHeld) ?_
                  rotate_left
                  · (intro w hSw; (try dsimp only at hSw); ((go_simp) <;> (with_reducible rfl)))
                  try simp only [Act.put]
                  refine wpAnyH_take (i := 5) (v := ?_) rfl (by kernel_rfl) (by kernel_rfl) (by kernel_rfl) (fun _ _ _ h => h) (Or.inl ⟨(by simp [Region.wanted, yielded]), ?_⟩) (hHeld) ?_
                  rotate_left
                  · (intro w hSw; (try dsimp only at hSw); ((go_simp) <;> (with_reducible rfl)))
                  try simp only [Act.put]
                  refine wpAnyH_take (i := 7) (v := ?_) rfl (by kernel_rfl) (by kernel_rfl) (by kernel_rfl) (fun _ _ _ h => h) (Or.inl ⟨(by simp [Region.wanted, yielded]), ?_⟩) (hHeld) ?_
                  rotate_left
                  · (intro w hSw; (try dsimp only at hSw); ((go_simp) <;> (with_reducible rfl)))
                  try simp only [Act.put]
                  refine wpAnyH_take (i := 8) (v := ?_) rfl (by kernel_rfl) (by kernel_rfl) (by kernel_rfl) (fun _ _ _ h => h) (Or.inl ⟨(by simp [Region.wanted, yielded]), ?_⟩) (hHeld) ?_
                  rotate_left
                  · (intro w hSw; (try dsimp only at hSw); ((go_simp) <;> (with_reducible rfl)))
                  try simp only [Act.put]
                  refine wpAnyH_take (i := 9) (v := ?_) rfl (by kernel_rfl) (by kernel_rfl) (by kernel_rfl) (fun _ _ _ h => h) (Or.inl ⟨(by simp [Region.wanted, yielded]), ?_⟩) (hHeld) ?_
                  rotate_left
                  · (intro w hSw; (try dsimp only at hSw); ((go_simp) <;> (with_reducible rfl)))
                  try simp only [Act.put]
                  refine wpAnyH_ready (rs := [6]) (by kernel_rfl) (by simp) ?_
                  refine AllReadyH.cons rfl (fun K hK => ?_) AllReadyH.nil
                  go_simp
                  refine (hAr _).mono ?_
                  rintro e w5 ⟨rfl, rfl⟩
                  refine hK.out _ _ (xd) (fun hHeld => ?_)
                  clear hK K
                  try simp only [Act.put, List.setIfInBounds_toArray, List.set_cons_zero, List.set_cons_succ]
                  refine wpAnyH_take (i := 10) (v := ?_) rfl (by kernel_rfl) (by kernel_rfl) (by kernel_rfl) (fun _ _ _ h => h) (Or.inl ⟨(by simp [Region.wanted, yielded]), ?_⟩) (hHeld) ?_
                  rotate_left
                  · (intro w hSw; (try dsimp only at hSw); ((go_simp) <;> (with_reducible rfl)))
                  try simp only [Act.put, List.setIfInBounds_toArray]
                  refine wpAnyH_take (i := 11) (v := ?_) rfl (by kernel_rfl) (by kernel_rfl) (by kernel_rfl) (fun _ _ _ h => h) (Or.inl ⟨(by simp [Region.wanted]), ?_⟩) (hHeld) ?_
                  rotate_left
                  · (intro w hSw; (try dsimp only at hSw); ((go_simp) <;> (with_reducible rfl)))
                  try simp only [Act.put]
                  refine wpAnyH_ready (rs := [12]) (by kernel_rfl) (by simp) ?_
                  refine AllReadyH.cons rfl (fun K hK => ?_) AllReadyH.nil
                  go_simp
                  refine hK.out _ _ (⟨xs0, xs1, xs2, xs3⟩) (fun hHeld => ?_)
                  clear hK K
                  try simp only [Act.put, List.setIfInBounds_toArray, List.set_cons_zero, List.set_cons_succ]
                  refine wpAnyH_ready (rs := [13]) (by kernel_rfl) (by simp) ?_
                  refine AllReadyH.cons rfl (fun K hK => ?_) AllReadyH.nil
                  go_simp
                  refine hK.out _ _ (⟨xs0, xs1, xs2, xs3⟩) (fun hHeld => ?_)
                  clear hK K
                  try simp only [Act.put, List.setIfInBounds_toArray, List.set_cons_zero, List.set_cons_succ]
                  refine wpAnyH_done (by kernel_rfl) ?_ _
                  go_wp2
                  refine bodyPost_ret (results_st Tryd.results42 _ _ hfin rfl rfl rfl) rfl ⟨⟨_, rfl, ?_⟩, hT4.bel hbv (by simp)⟩
                  rw [HXn.out, HOK.out, HD1.out, HD2.out]
                  exact ⟨_, _, _, rfl, Rc.Own.low hOf hww⟩
                · have hbq : (AN == (r.length : Int)) = false := by rw [beq_eq_false_iff_ne]; exact heq
                  have HD2 : Hid (decide (AN = (r.length : Int)) = false) := decide_eq_false heq
                  clear heq hneg
                  refine wp_region_held_drew (S := fun X : World => X.cell? ⟨Wq.heap.size, 0, none⟩ = some (.int .i64 (k : Int)) ∧ X.cell? ⟨Wq.heap.size, 1, none⟩ = some (.slice va r.length vc) ∧ X.cell? ⟨Wq.heap.size, 2, none⟩ = some (.int .i64 0) ∧ X.cell? ⟨Wq.heap.size, 3, none⟩ = some (.slice none 0 0)) (by kernel_rfl) xd (fun hHeld => ?_)
                  refine wpAnyH_take (i := 0) (v := ?_) rfl (by kernel_rfl) (by kernel_rfl) (by kernel_rfl) (fun _ _ _ h => h) (Or.inl ⟨(by simp [Region.wanted]), ?_⟩) (hHeld) ?_
                  rotate_left
                  · (intro w hSw; (try dsimp only at hSw); ((go_simp) <;> (with_reducible rfl)))
                  try simp only [Act.put, List.setIfInBounds_toArray]
                  refine wpAnyH_take (i := 1) (v := ?_) rfl (by kernel_rfl) (by kernel_rfl) (by kernel_rfl) (fun _ _ _ h => h) (Or.inl ⟨(by simp [Region.wanted]), ?_⟩) (hHeld) ?_
                  rotate_left
                  · (intro w hSw; (try dsimp only at hSw); ((go_simp) <;> (with_reducible rfl)))
                  try simp only [Act.put]
                  refine wpAnyH_ready (rs := [2]) (by kernel_rfl) (by simp) ?_
                  refine AllReadyH.cons rfl (fun K hK => ?_) AllReadyH.nil
                  go_simp
                  refine (hAr _).mono ?_
                  rintro e w5 ⟨rfl, rfl⟩
                  refine hK.out _ _ (xd) (fun hHeld => ?_)
                  clear hK K
                  try simp only [Act.put, List.setIfInBounds_toArray, List.set_cons_zero, List.set_cons_succ]
                  refine wpAnyH_take (i := 3) (v := ?_) rfl (by kernel_rfl) (by kernel_rfl) (by kernel_rfl) (fun _ _ _ h => h) (Or.inl ⟨(by simp [Region.wanted]), ?_⟩) (hHeld) ?_
                  rotate_left
                  · (intro w hSw; (try dsimp only at hSw); ((go_simp) <;> (with_reducible rfl)))
                  try simp only [Act.put, List.setIfInBounds_toArray]
                  refine wpAnyH_take (i := 4) (v := ?_) rfl (by kernel_rfl) (by kernel_rfl) (by kernel_rfl) (fun _ _ _ h => h) (Or.inl ⟨(by simp [Region.wanted]), ?_⟩) (hHeld) ?_
                  rotate_left
                  · (intro w hSw; (try dsimp only at hSw); ((go_simp) <;> (with_reducible rfl)))
                  try simp only [Act.put]
                  refine wpAnyH_take (i := 5) (v := ?_) rfl (by kernel_rfl) (by kernel_rfl) (by kernel_rfl) (fun _ _ _ h => h) (Or.inl ⟨(by simp [Region.wanted, yielded]), ?_⟩) (hHeld) ?_
                  rotate_left
                  · (intro w hSw; (try dsimp only at hSw); ((go_simp) <;> (with_reducible rfl)))
                  try simp only [Act.put]
                  refine wpAnyH_take (i := 7) (v := ?_) rfl (by kernel_rfl) (by kernel_rfl) (by kernel_rfl) (fun _ _ _ h => h) (Or.inl ⟨(by simp [Region.wanted, yielded]), ?_⟩) (hHeld) ?_
                  rotate_left
                  · (intro w hSw; (try dsimp only at hSw); ((go_simp) <;> (with_reducible rfl)))
                  try simp only [Act.put]
                  refine wpAnyH_take (i := 8) (v := ?_) rfl (by kernel_rfl) (by kernel_rfl) (by kernel_rfl) (fun _ _ _ h => h) (Or.inl ⟨(by simp [Region.wanted, yielded]), ?_⟩) (hHeld) ?_
                  rotate_left
                  · (intro w hSw; (try dsimp only at hSw); ((go_simp) <;> (with_reducible rfl)))
                  try simp only [Act.put]
                  refine wpAnyH_take (i := 9) (v := ?_) rfl (by kernel_rfl) (by kernel_rfl) (by kernel_rfl) (fun _ _ _ h => h) (Or.inl ⟨(by simp [Region.wanted, yielded]), ?_⟩) (hHeld) ?_
                  rotate_left
                  · (intro w hSw; (try dsimp only at hSw); ((go_simp) <;> (with_reducible rfl)))
                  try simp only [Act.put]
                  refine wpAnyH_ready (rs := [6]) (by kernel_rfl) (by simp) ?_
                  refine AllReadyH.cons rfl (fun K hK => ?_) AllReadyH.nil
                  go_simp
                  refine (hAr _).mono ?_
                  rintro e w5 ⟨rfl, rfl⟩
                  refine hK.out _ _ (xd) (fun hHeld => ?_)
                  clear hK K
                  try simp only [Act.put, List.setIfInBounds_toArray, List.set_cons_zero, List.set_cons_succ]
                  refine wpAnyH_take (i := 10) (v := ?_) rfl (by kernel_rfl) (by kernel_rfl) (by kernel_rfl) (fun _ _ _ h => h) (Or.inl ⟨(by simp [Region.wanted, yielded]), ?_⟩) (hHeld) ?_
                  rotate_left
                  · (intro w hSw; (try dsimp only at hSw); ((go_simp) <;> (with_reducible rfl)))
                  try simp only [Act.put, List.setIfInBounds_toArray]
                  refine wpAnyH_take (i := 11) (v := ?_) rfl (by kernel_rfl) (by kernel_rfl) (by kernel_rfl) (fun _ _ _ h => h) (Or.inl ⟨(by simp [Region.wanted]), ?_⟩) (hHeld) ?_
                  rotate_left
                  · (intro w hSw; (try dsimp only at hSw); ((go_simp) <;> (with_reducible rfl)))
                  try simp only [Act.put]
                  refine wpAnyH_ready (rs := [12]) (by kernel_rfl) (by simp) ?_
                  refine AllReadyH.cons rfl (fun K hK => ?_) AllReadyH.nil
                  go_simp
                  refine hK.out _ _ (⟨xs0, xs1, xs2, xs3⟩) (fun hHeld => ?_)
                  clear hK K
                  try simp only [Act.put, List.setIfInBounds_toArray, List.set_cons_zero, List.set_cons_succ]
                  refine wpAnyH_ready (rs := [13]) (by kernel_rfl) (by simp) ?_
                  refine AllReadyH.cons rfl (fun K hK => ?_) AllReadyH.nil
                  go_simp
                  refine hK.out _ _ (⟨xs0, xs1, xs2, xs3⟩) (fun hHeld => ?_)
                  clear hK K
                  try simp only [Act.put, List.setIfInBounds_toArray, List.set_cons_zero, List.set_cons_succ]
                  refine wpAnyH_done (by kernel_rfl) ?_ _
                  go_wp2
                  refine bodyPost_ret (results_st Tryd.results42 _ _ hfin rfl rfl rfl) rfl ⟨⟨_, rfl, ?_⟩, hT4.bel hbv (by simp)⟩
                  rw [HXn.out, HOK.out, HD1.out, HD2.out]
                  exact ⟨_, _, _, _, _, rfl⟩)
        · have he2 : (KW.toList == S.toList) = false := by
            rw [beq_eq_false_iff_ne, ByteArray.toList_eq, ByteArray.toList_eq]
            intro h
            apply he
            rw [← hkw, ← hS, str_toList, str_toList] at h
            exact h
          have HK2 : Hid (∀ j : Nat, 1 ≤ j → j < k + 1 → Ac.word (j : Int) ≠ s) := by
            show ∀ j : Nat, _
            intro j h1 h2
            rcases Nat.lt_succ_iff_lt_or_eq.1 h2 with h | h
            · exact HK.out j h1 h
            · subst h
              exact he
          clear hkw hS he HK HX
          go_wp2
          go_quiet ((go_at_call 56; refine Calls.quiet_of_same (hWt _)))
          go_wp2
          go_roundw
          case rel => exact ⟨k + 1, by omega, by omega, by go_num, HK2.out, below_drewF hbr _⟩
          case measure => simp [intOf]; omega
      · have HN : Hid (X = none) := by
          show _ = _
          rw [← HX.out]
          exact Ac.stmt_none fun j h1 h2 => HK.out j h1 (by omega)
        have j1 : ¬ (k : Int) ≤ 12 := by omega
        have z0 : wr.cell? ⟨w.heap.size, 0, none⟩ = some (.int .i64 0) := r2.cell 0
        have z1 : wr.cell? ⟨w.heap.size, 1, none⟩ = some (.slice none 0 0) := r2.cell 1
        have z2 : wr.cell? ⟨w.heap.size, 2, none⟩ = some (.int .i64 0) := r2.cell 2
        have z3 : wr.cell? ⟨w.heap.size, 3, none⟩ = some (.slice none 0 0) := r2.cell 3
        have f20 : wr.frozen? ⟨w.heap.size, 0, none⟩ = false := r2.free 0
        have f21 : wr.frozen? ⟨w.heap.size, 1, none⟩ = false := r2.free 1
        have f22 : wr.frozen? ⟨w.heap.size, 2, none⟩ = false := r2.free 2
        have f23 : wr.frozen? ⟨w.heap.size, 3, none⟩ = false := r2.free 3
        have hT2 := Turn.put4 wr w.heap.size (.int .i64 0) (.slice none 0 0) (.int .i64 0) (.slice none 0 0)
        have q3 := r2.put4 (.int .i64 0) (.slice none 0 0) (.int .i64 0) (.slice none 0 0)
        clear HK HX
        go_wp2
        refine bodyPost_ret (results_st Tryd.results42 _ _ q3 rfl rfl rfl) rfl ⟨⟨_, rfl, ?_⟩, hT2.bel hYr (by simp)⟩
        rw [HN.out]
        exact ⟨_, _, _, _, _, rfl⟩

theorem stmtC : StmtC := fun v l B w h1 h2 h3 h4 => StmtT_any v l B w h1 h2 h3 h4

end Go.Proofs.YtfgdlnidfkjbdaaDoor
