/-
  WHAT THE LANDED CODE's readLine DOES.
-/
import Derived.Test.YtfgdlnidfkjbdaaDoorAFill
import Derived.Deep.MidRow
namespace Go.Proofs.YtfgdlnidfkjbdaaDoor
open Go.RowKit

namespace Ac
theorem rd_none {wd : List UInt8} {r : List (List UInt8)} (h : ∀ j, j < 13 → kw j ≠ wd) : rdLine (wd :: r) = none := by
  have h0 : sEnd ≠ wd := h 0 (by omega)
  unfold rdLine
  rw [if_neg (fun e => h0 (List.cons.inj e).1.symm), stmtOf_cons]
  cases ho : opOf wd with
  | none => rfl
  | some op =>
    obtain ⟨rfl, hw⟩ := opOf_some ho
    rcases word_of hw with rfl | rfl | rfl | rfl | rfl | rfl | rfl | rfl | rfl | rfl | rfl | rfl
    · exact absurd rfl (h 1 (by omega))
    · exact absurd rfl (h 2 (by omega))
    · exact absurd rfl (h 3 (by omega))
    · exact absurd rfl (h 4 (by omega))
    · exact absurd rfl (h 5 (by omega))
    · exact absurd rfl (h 6 (by omega))
    · exact absurd rfl (h 7 (by omega))
    · exact absurd rfl (h 8 (by omega))
    · exact absurd rfl (h 9 (by omega))
    · exact absurd rfl (h 10 (by omega))
    · exact absurd rfl (h 11 (by omega))
    · exact absurd rfl (h 12 (by omega))
/-- what is read, with its kind -/
def withOp (op : Int) : Option (List (List UInt8) × Int) → Option (Int × List (List UInt8) × Int)
  | none => none
  | some (a, n) => some (op, a, n)
theorem rd_found {k : Nat} {wd : List UInt8} {r : List (List UInt8)} (hk : k < 13) (h : kw k = wd) (hr : r.length ≤ 1099511627) : rdLine (wd :: r) = withOp (k : Int) (fillP (kl k) (km k) (kn k) r) := by
  by_cases h0 : k = 0
  · subst h0
    have hw : wd = sEnd := h.symm
    subst hw
    unfold rdLine fillP
    rw [if_neg (show ¬ kn 0 = true by decide)]
    cases r with
    | nil => rw [if_pos rfl, if_pos (by decide)]; rfl
    | cons s t =>
      rw [if_neg (by simp), if_neg, stmtOf_cons, opOf_end]
      · rfl
      · rintro ⟨-, h2⟩
        have : km 0 = 0 := rfl
        rw [this, List.length_cons] at h2
        omega
  · have hk2 : kw k = word (k : Int) := by unfold kw; rw [if_neg h0]
    rw [hk2] at h
    have hne : word (k : Int) ≠ [] := by
      have : ∀ i : Fin 13, i.1 ≠ 0 → word (i.1 : Int) ≠ [] := by decide
      exact this ⟨k, hk⟩ h0
    have hnE : word (k : Int) ≠ sEnd := by
      have : ∀ i : Fin 13, i.1 ≠ 0 → word (i.1 : Int) ≠ sEnd := by decide
      exact this ⟨k, hk⟩ h0
    unfold rdLine
    rw [if_neg (fun e => hnE (h.trans (List.cons.inj e).1)), stmtOf_cons, ← h, opOf_word hne, Option.bind_some, stmtW]
    unfold fillP
    by_cases h10 : k = 10
    · subst h10
      rw [if_pos (show ((10 : Nat) : Int) = 10 from rfl), if_pos (show kn 10 = true from rfl)]
      cases r with
      | nil => rfl
      | cons s t =>
        cases t with
        | nil =>
          rw [repOf]
          cases hn : number s with
          | none => simp [withOp, hn]
          | some n => simp [withOp, hn, kl, km]
        | cons u t =>
          rw [repOf]
          · cases hn : number s with
            | none => simp [withOp, hn]
            | some n =>
              have : ¬ ((t.length : Int) + 1 ≤ 0) := by omega
              simp [withOp, hn, kl, km, this]
          · simp
    · rw [if_neg (by omega), if_neg (show ¬ kn k = true by unfold kn; simpa using h10)]
      have hA : argsOk (k : Int) r.length = true ↔ (kl k ≤ (r.length : Int) ∧ (r.length : Int) ≤ km k) := by
        unfold argsOk km kl
        by_cases c1 : k = 1 ∨ k = 2 ∨ k = 8 ∨ k = 11
        · rw [if_pos (show (k : Int) = 1 ∨ (k : Int) = 2 ∨ (k : Int) = 8 ∨ (k : Int) = 11 by omega), if_neg (show ¬ (k = 3 ∨ k = 9) by omega), if_pos c1, decide_eq_true_iff]; omega
        · rw [if_neg (show ¬ ((k : Int) = 1 ∨ (k : Int) = 2 ∨ (k : Int) = 8 ∨ (k : Int) = 11) by omega), if_neg c1]
          by_cases c2 : k = 3 ∨ k = 9
          · rw [if_pos (show (k : Int) = 3 ∨ (k : Int) = 9 by omega), if_pos c2, if_neg (show ¬ k = 12 by omega)]
            simp only [true_iff]
            omega
          · rw [if_neg (show ¬ ((k : Int) = 3 ∨ (k : Int) = 9) by omega), if_neg c2]
            by_cases c3 : k = 12
            · rw [if_pos (show (k : Int) = 12 by omega), if_pos c3, decide_eq_true_iff]; omega
            · rw [if_neg (show ¬ (k : Int) = 12 by omega), if_neg c3, decide_eq_true_iff]; omega
      by_cases hc : argsOk (k : Int) r.length = true
      · rw [if_pos hc, if_pos (hA.1 hc)]; rfl
      · rw [if_neg hc, if_neg (fun e => hc (hA.2 e))]; rfl
end Ac
theorem kidx0 (W : World) : (Instr.index 87 (.agg Ac.kCells.toArray) (.int .i64 ((0 : Nat) : Int))).run Tryd.prog W = .ok (.agg #[.string (str (Ac.kw 0)), .int .i64 (Ac.kl 0), .int .i64 (Ac.km 0), .bool (Ac.kn 0), .bool (Ac.kb 0)]) W := by kernel_rfl
theorem kidx1 (W : World) : (Instr.index 87 (.agg Ac.kCells.toArray) (.int .i64 ((1 : Nat) : Int))).run Tryd.prog W = .ok (.agg #[.string (str (Ac.kw 1)), .int .i64 (Ac.kl 1), .int .i64 (Ac.km 1), .bool (Ac.kn 1), .bool (Ac.kb 1)]) W := by kernel_rfl
theorem kidx2 (W : World) : (Instr.index 87 (.agg Ac.kCells.toArray) (.int .i64 ((2 : Nat) : Int))).run Tryd.prog W = .ok (.agg #[.string (str (Ac.kw 2)), .int .i64 (Ac.kl 2), .int .i64 (Ac.km 2), .bool (Ac.kn 2), .bool (Ac.kb 2)]) W := by kernel_rfl
theorem kidx3 (W : World) : (Instr.index 87 (.agg Ac.kCells.toArray) (.int .i64 ((3 : Nat) : Int))).run Tryd.prog W = .ok (.agg #[.string (str (Ac.kw 3)), .int .i64 (Ac.kl 3), .int .i64 (Ac.km 3), .bool (Ac.kn 3), .bool (Ac.kb 3)]) W := by kernel_rfl
theorem kidx4 (W : World) : (Instr.index 87 (.agg Ac.kCells.toArray) (.int .i64 ((4 : Nat) : Int))).run Tryd.prog W = .ok (.agg #[.string (str (Ac.kw 4)), .int .i64 (Ac.kl 4), .int .i64 (Ac.km 4), .bool (Ac.kn 4), .bool (Ac.kb 4)]) W := by kernel_rfl
theorem kidx5 (W : World) : (Instr.index 87 (.agg Ac.kCells.toArray) (.int .i64 ((5 : Nat) : Int))).run Tryd.prog W = .ok (.agg #[.string (str (Ac.kw 5)), .int .i64 (Ac.kl 5), .int .i64 (Ac.km 5), .bool (Ac.kn 5), .bool (Ac.kb 5)]) W := by kernel_rfl
theorem kidx6 (W : World) : (Instr.index 87 (.agg Ac.kCells.toArray) (.int .i64 ((6 : Nat) : Int))).run Tryd.prog W = .ok (.agg #[.string (str (Ac.kw 6)), .int .i64 (Ac.kl 6), .int .i64 (Ac.km 6), .bool (Ac.kn 6), .bool (Ac.kb 6)]) W := by kernel_rfl
theorem kidx7 (W : World) : (Instr.index 87 (.agg Ac.kCells.toArray) (.int .i64 ((7 : Nat) : Int))).run Tryd.prog W = .ok (.agg #[.string (str (Ac.kw 7)), .int .i64 (Ac.kl 7), .int .i64 (Ac.km 7), .bool (Ac.kn 7), .bool (Ac.kb 7)]) W := by kernel_rfl
theorem kidx8 (W : World) : (Instr.index 87 (.agg Ac.kCells.toArray) (.int .i64 ((8 : Nat) : Int))).run Tryd.prog W = .ok (.agg #[.string (str (Ac.kw 8)), .int .i64 (Ac.kl 8), .int .i64 (Ac.km 8), .bool (Ac.kn 8), .bool (Ac.kb 8)]) W := by kernel_rfl
theorem kidx9 (W : World) : (Instr.index 87 (.agg Ac.kCells.toArray) (.int .i64 ((9 : Nat) : Int))).run Tryd.prog W = .ok (.agg #[.string (str (Ac.kw 9)), .int .i64 (Ac.kl 9), .int .i64 (Ac.km 9), .bool (Ac.kn 9), .bool (Ac.kb 9)]) W := by kernel_rfl
theorem kidx10 (W : World) : (Instr.index 87 (.agg Ac.kCells.toArray) (.int .i64 ((10 : Nat) : Int))).run Tryd.prog W = .ok (.agg #[.string (str (Ac.kw 10)), .int .i64 (Ac.kl 10), .int .i64 (Ac.km 10), .bool (Ac.kn 10), .bool (Ac.kb 10)]) W := by kernel_rfl
theorem kidx11 (W : World) : (Instr.index 87 (.agg Ac.kCells.toArray) (.int .i64 ((11 : Nat) : Int))).run Tryd.prog W = .ok (.agg #[.string (str (Ac.kw 11)), .int .i64 (Ac.kl 11), .int .i64 (Ac.km 11), .bool (Ac.kn 11), .bool (Ac.kb 11)]) W := by kernel_rfl
theorem kidx12 (W : World) : (Instr.index 87 (.agg Ac.kCells.toArray) (.int .i64 ((12 : Nat) : Int))).run Tryd.prog W = .ok (.agg #[.string (str (Ac.kw 12)), .int .i64 (Ac.kl 12), .int .i64 (Ac.km 12), .bool (Ac.kn 12), .bool (Ac.kb 12)]) W := by kernel_rfl
theorem kidx (i : Nat) (hi : i < 13) (W : World) : (Instr.index 87 (.agg Ac.kCells.toArray) (.int .i64 (i : Int))).run Tryd.prog W = .ok (.agg #[.string (str (Ac.kw i)), .int .i64 (Ac.kl i), .int .i64 (Ac.km i), .bool (Ac.kn i), .bool (Ac.kb i)]) W := by
  match i, hi with
  | 0, _ => exact kidx0 W
  | 1, _ => exact kidx1 W
  | 2, _ => exact kidx2 W
  | 3, _ => exact kidx3 W
  | 4, _ => exact kidx4 W
  | 5, _ => exact kidx5 W
  | 6, _ => exact kidx6 W
  | 7, _ => exact kidx7 W
  | 8, _ => exact kidx8 W
  | 9, _ => exact kidx9 W
  | 10, _ => exact kidx10 W
  | 11, _ => exact kidx11 W
  | 12, _ => exact kidx12 W
theorem Laid.load {w : World} (h : Laid w) : (Instr.loadAt 87 (.pointer (some ⟨0, 0, none⟩))).run Tryd.prog w = .ok (.agg Ac.kCells.toArray) w :=
  run_loadAt_mid w _ 0 _ Ac.kCells _ (fun j v hv => by rw [Nat.zero_add]; exact h.kinds j v hv) Tryd.underlying87 rfl (by kernel_rfl)

/-- how the reading of a line ends -/
def LnEnd (w : World) (base : Nat) : Option (Int × List (List UInt8) × Int) → Value → Prop
  | none, v => v = .tuple #[.agg #[.int .i64 0, .slice none 0 0, .int .i64 0, .slice none 0 0], .bool false]
  | some (op, a, n), v => ∃ va, v = .tuple #[.agg #[.int .i64 op, va, .int .i64 n, .slice none 0 0], .bool true] ∧ TxR.Own w base va a

set_option maxRecDepth 100000 in
set_option maxHeartbeats 1000000 in
theorem readLine_any (vb : Value) (l : List (List UInt8)) (B : Nat) (w : World) (hl : Laid w) (hb : TxR.Sl w B vb l) (hB : B ≤ w.heap.size) (hlen : l.length ≤ 1099511) (hwd : ∀ s ∈ l, s.length ≤ 1099511627) :
    Calls Tryd.prog 41 #[vb] w fun e w' => (∃ v, e = .returned v ∧ LnEnd w' w.heap.size (Ac.rdLine l) v) ∧ Below w.heap.size w w' := by
  obtain ⟨ad, c, rfl, hle⟩ := hb.shape
  cases l with
  | nil =>
    have HF : Hid (Ac.rdLine [] = none) := rfl
    generalize Ac.rdLine [] = R at *
    have r0 := Rw.new w #[.int .i64 0, .slice none 0 0, .int .i64 0, .slice none 0 0] 34
    have hYb := (Below.refl w.heap.size w).alloc (Nat.le_refl _) (.cells #[.int .i64 0, .slice none 0 0, .int .i64 0, .slice none 0 0] 34)
    go_enter Tryd.func41, Tryd.ntmps41
    go_upto_region 1 with fail
    generalize w.alloc (.cells #[.int .i64 0, .slice none 0 0, .int .i64 0, .slice none 0 0] 34) = Y at r0 hYb ⊢
    have z0 : Y.cell? ⟨w.heap.size, 0, none⟩ = some (.int .i64 0) := r0.cell 0
    have z1 : Y.cell? ⟨w.heap.size, 1, none⟩ = some (.slice none 0 0) := r0.cell 1
    have z2 : Y.cell? ⟨w.heap.size, 2, none⟩ = some (.int .i64 0) := r0.cell 2
    have z3 : Y.cell? ⟨w.heap.size, 3, none⟩ = some (.slice none 0 0) := r0.cell 3
    have f20 : Y.frozen? ⟨w.heap.size, 0, none⟩ = false := r0.free 0
    have f21 : Y.frozen? ⟨w.heap.size, 1, none⟩ = false := r0.free 1
    have f22 : Y.frozen? ⟨w.heap.size, 2, none⟩ = false := r0.free 2
    have f23 : Y.frozen? ⟨w.heap.size, 3, none⟩ = false := r0.free 3
    go_wp2
    have q3 := r0.put4 (.int .i64 0) (.slice none 0 0) (.int .i64 0) (.slice none 0 0)
    have hT2 := Turn.put4 Y w.heap.size (.int .i64 0) (.slice none 0 0) (.int .i64 0) (.slice none 0 0)
    refine bodyPost_ret (results_st Tryd.results41 _ _ q3 rfl rfl rfl) rfl ⟨⟨_, rfl, ?_⟩, ?_⟩
    · rw [HF.out]
      exact rfl
    · exact hT2.bel hYb (by simp)
  | cons s r =>
    obtain ⟨g, o, c', e, hg, hc0⟩ := TxR.at hb (k := 0) (by simp)
    simp only [Value.slice.injEq, List.length_cons, List.getElem_cons_zero, Nat.add_zero] at e hc0
    obtain ⟨rfl, -, rfl⟩ := e
    obtain ⟨A, hsl, htl⟩ := Rc.slice_tail hb 1 (by simp)
    simp only [List.length_cons, Nat.add_sub_cancel, List.drop_succ_cons, List.drop_zero] at htl hsl
    have hsl1 : ∀ W : World, (Instr.slice 32 (.slice (some ⟨g, o, none⟩) (r.length + 1) c) (some (.int .i64 1)) none none).run Tryd.prog W = .ok (.slice A r.length (c - 1)) W := hsl
    clear hsl
    simp only [List.length_cons] at hle hlen ⊢
    have i0 : ((r.length : Int) + 1 == 0) = false := by rw [beq_eq_false_iff_ne]; omega
    have i1 : (0 : Int) < (r.length : Int) + 1 := by omega
    have HR : Hid _ := fun k (hk : k < 13) (h : Ac.kw k = s) => Ac.rd_found (r := r) hk h (by omega)
    have HN : Hid _ := Ac.rd_none (wd := s) (r := r)
    generalize Ac.rdLine (s :: r) = R at *
    have r0 := Rw.new w #[.int .i64 0, .slice none 0 0, .int .i64 0, .slice none 0 0] 34
    have hYb := (Below.refl w.heap.size w).alloc (Nat.le_refl _) (.cells #[.int .i64 0, .slice none 0 0, .int .i64 0, .slice none 0 0] 34)
    have hYz := size_alloc w (.cells #[.int .i64 0, .slice none 0 0, .int .i64 0, .slice none 0 0] 34)
    go_enter Tryd.func41, Tryd.ntmps41
    go_upto_region 1 with fail
    generalize w.alloc (.cells #[.int .i64 0, .slice none 0 0, .int .i64 0, .slice none 0 0] 34) = Y at r0 hYb hYz ⊢
    have HYz : Hid _ := hYz
    clear hYz
    have hlY := hl.below hYb hl.size
    have hrg : Y.rangeAt 0 0 Ac.kCells := fun j v hv => by rw [Nat.zero_add]; exact hlY.kinds j v hv
    go_upto_region 3 with fail
    go_wp2_with (refine wpList_load_mid rfl 87 (.global 0) rfl 0 0 rfl Ac.kCells _ hrg Tryd.underlying87 rfl (by kernel_rfl) ?_)
    have hix := kidx
    generalize Value.agg Ac.kCells.toArray = KV at hix ⊢
    go_loopw [11] (fun i w' => ∃ k : Nat, k ≤ 13 ∧ i = .int .i64 (k : Int) ∧ Hid (∀ j, j < k → Ac.kw j ≠ s) ∧ Below Y.heap.size Y w') (fun i _ => 13 - (intOf i).toNat)
    case atStart => exact ⟨0, by omega, rfl, by show ∀ j, _; intro j hj; omega, Below.refl _ _⟩
    case round =>
      obtain ⟨k, hk, rfl, HK, hbr⟩ := hrel
      have hYr := hYb.trans (hbr.mono (by have := HYz.out; omega))
      by_cases hlt : k < 13
      · have j1 : (k : Int) < 13 := by omega
        have hx := hix k hlt
        obtain ⟨KW, hkw⟩ : ∃ KW, str (Ac.kw k) = KW := ⟨_, rfl⟩
        rw [hkw] at hx
        obtain ⟨S, hS⟩ : ∃ S, str s = S := ⟨_, rfl⟩
        have hzn := Rw.new wr #[.string KW, .int .i64 (Ac.kl k), .int .i64 (Ac.km k), .bool (Ac.kn k), .bool (Ac.kb k)] 86
        have hZb := (Below.refl wr.heap.size wr).alloc (Nat.le_refl _) (.cells #[.string KW, .int .i64 (Ac.kl k), .int .i64 (Ac.km k), .bool (Ac.kn k), .bool (Ac.kb k)] 86)
        go_upto_region 6 with fail
        generalize wr.alloc (.cells #[.string KW, .int .i64 (Ac.kl k), .int .i64 (Ac.km k), .bool (Ac.kn k), .bool (Ac.kb k)] 86) = Z at hzn hZb ⊢
        have hZr := hYr.trans (hZb.mono hYr.size)
        have q0 : Z.cell? ⟨g, o, none⟩ = some (.string S) := by rw [← hS]; exact (hZr.cell (p := ⟨g, o, none⟩) (Nat.lt_of_lt_of_le hg hB)).trans hc0
        have k0 : Z.cell? ⟨wr.heap.size, 0, none⟩ = some (.string KW) := hzn.cell 0
        have k1 : Z.cell? ⟨wr.heap.size, 1, none⟩ = some (.int .i64 (Ac.kl k)) := hzn.cell 1
        have k2 : Z.cell? ⟨wr.heap.size, 2, none⟩ = some (.int .i64 (Ac.km k)) := hzn.cell 2
        have k3 : Z.cell? ⟨wr.heap.size, 3, none⟩ = some (.bool (Ac.kn k)) := hzn.cell 3
        have k4 : Z.cell? ⟨wr.heap.size, 4, none⟩ = some (.bool (Ac.kb k)) := hzn.cell 4
        have hBY : Below Y.heap.size Y Z := hbr.trans (hZb.mono hbr.size)
        by_cases he : Ac.kw k = s
        · have he2 : (KW.toList == S.toList) = true := by
            rw [← hkw, ← hS, he]
            exact beq_self_eq_true _
          have HF : Hid _ := HR.out k hlt he
          have hlZ := hl.below hZr hl.size
          clear hkw hS he HR HN HK hix hbr hc0
          have hFill := fun (W : World) (h : Below Z.heap.size Z W) => fill_any KW (Ac.kl k) (Ac.km k) (Ac.kn k) (Ac.kb k) (k : Int) (.slice A r.length (c - 1)) r B W (hlZ.below h hlZ.size) ((htl.below hZr hB).below h (by have := hZr.size; omega)) (by have := hZr.size; have := h.size; omega) (by omega) (fun x hx => hwd x (by simp [hx]))
          generalize Ac.fillP (Ac.kl k) (Ac.km k) (Ac.kn k) r = F at *
          have hzz : w.heap.size < Z.heap.size := by have := hBY.size; have := HYz.out; omega
          have r1 := r0.below hBY (by have := HYz.out; omega)
          generalize Ac.kl k = KL at *
          generalize Ac.km k = KM at *
          generalize Ac.kn k = KN at *
          generalize Ac.kb k = KB at *
          have hZd : ∀ q, Below Z.heap.size Z (Z.drewN q) := fun q => below_drewF (Below.refl _ _) q
          cases F with
          | none =>
            have hFill : ∀ (W : World) (h : Below Z.heap.size Z W), Calls Tryd.prog 55 #[.agg #[.string KW, .int .i64 KL, .int .i64 KM, .bool KN, .bool KB], .agg #[.int .i64 (k : Int), .slice none 0 0, .int .i64 0, .slice none 0 0], .slice A r.length (c - 1)] W fun e w' => e = .returned (.tuple #[.agg #[.int .i64 0, .slice none 0 0, .int .i64 0, .slice none 0 0], .bool false]) ∧ Below Z.heap.size Z w' := by
              intro W h
              refine (hFill W h).mono ?_
              rintro e w' ⟨⟨v, rfl, rfl⟩, hb⟩
              exact ⟨rfl, h.trans (hb.mono h.size)⟩
            go_quiet (fail)
            go_wp2
            go_region_with (first | (go_at_call 55; refine (hFill _ (by first | exact hZd _ | exact (hZd _).drew | exact (hZd _).drew.drew | exact (hZd _).drew.drew.drew)).mono ?_; rintro e w2 ⟨rfl, hB2⟩; have r2 := r1.below hB2 hzz; have z0 : w2.cell? ⟨w.heap.size, 0, none⟩ = some (.int .i64 0) := r2.cell 0; have z1 : w2.cell? ⟨w.heap.size, 1, none⟩ = some (.slice none 0 0) := r2.cell 1; have z2 : w2.cell? ⟨w.heap.size, 2, none⟩ = some (.int .i64 0) := r2.cell 2; have z3 : w2.cell? ⟨w.heap.size, 3, none⟩ = some (.slice none 0 0) := r2.cell 3; have f20 : w2.frozen? ⟨w.heap.size, 0, none⟩ = false := r2.free 0; have f21 : w2.frozen? ⟨w.heap.size, 1, none⟩ = false := r2.free 1; have f22 : w2.frozen? ⟨w.heap.size, 2, none⟩ = false := r2.free 2; have f23 : w2.frozen? ⟨w.heap.size, 3, none⟩ = false := r2.free 3) | fail)
            go_wp2
            have q3 := r2.put4 (.int .i64 0) (.slice none 0 0) (.int .i64 0) (.slice none 0 0)
            have hT2 := Turn.put4 w2 w.heap.size (.int .i64 0) (.slice none 0 0) (.int .i64 0) (.slice none 0 0)
            have hbf := hT2.bel (hZr.trans (hB2.mono hZr.size)) (by simp)
            refine bodyPost_ret (results_st Tryd.results41 _ _ q3 rfl rfl rfl) rfl ⟨⟨_, rfl, ?_⟩, hbf⟩
            rw [HF.out]
            exact rfl
          | some x =>
            obtain ⟨a, n⟩ := x
            have hFill : ∀ (W : World) (h : Below Z.heap.size Z W), Calls Tryd.prog 55 #[.agg #[.string KW, .int .i64 KL, .int .i64 KM, .bool KN, .bool KB], .agg #[.int .i64 (k : Int), .slice none 0 0, .int .i64 0, .slice none 0 0], .slice A r.length (c - 1)] W fun e w' => (∃ va vn vc, e = .returned (.tuple #[.agg #[.int .i64 (k : Int), .slice va vn vc, .int .i64 n, .slice none 0 0], .bool true]) ∧ TxR.Own w' Z.heap.size (.slice va vn vc) a) ∧ Below Z.heap.size Z w' := by
              intro W h
              refine (hFill W h).mono ?_
              rintro e w' ⟨⟨v, rfl, va, rfl, hO⟩, hb⟩
              obtain ⟨ad, vn, vc, rfl⟩ := hO.isSl
              exact ⟨⟨ad, vn, vc, rfl, hO.low h.size⟩, h.trans (hb.mono h.size)⟩
            go_quiet (fail)
            go_wp2
            go_region_with (first | (go_at_call 55; refine (hFill _ (by first | exact hZd _ | exact (hZd _).drew | exact (hZd _).drew.drew | exact (hZd _).drew.drew.drew)).mono ?_; rintro e w2 ⟨⟨va, vn, vc, rfl, hO⟩, hB2⟩; have r2 := r1.below hB2 hzz; have z0 : w2.cell? ⟨w.heap.size, 0, none⟩ = some (.int .i64 0) := r2.cell 0; have z1 : w2.cell? ⟨w.heap.size, 1, none⟩ = some (.slice none 0 0) := r2.cell 1; have z2 : w2.cell? ⟨w.heap.size, 2, none⟩ = some (.int .i64 0) := r2.cell 2; have z3 : w2.cell? ⟨w.heap.size, 3, none⟩ = some (.slice none 0 0) := r2.cell 3; have f20 : w2.frozen? ⟨w.heap.size, 0, none⟩ = false := r2.free 0; have f21 : w2.frozen? ⟨w.heap.size, 1, none⟩ = false := r2.free 1; have f22 : w2.frozen? ⟨w.heap.size, 2, none⟩ = false := r2.free 2; have f23 : w2.frozen? ⟨w.heap.size, 3, none⟩ = false := r2.free 3) | fail)
            go_wp2
            have q3 := r2.put4 (.int .i64 (k : Int)) (.slice va vn vc) (.int .i64 n) (.slice none 0 0)
            have hT2 := Turn.put4 w2 w.heap.size (.int .i64 (k : Int)) (.slice va vn vc) (.int .i64 n) (.slice none 0 0)
            have hbf := hT2.bel (hZr.trans (hB2.mono hZr.size)) (by simp)
            have hO3 := Row.turn hO hT2 (fun g hg => by have := (hO.lt g hg).1; simp; omega)
            refine bodyPost_ret (results_st Tryd.results41 _ _ q3 rfl rfl rfl) rfl ⟨⟨_, rfl, ?_⟩, hbf⟩
            rw [HF.out]
            exact ⟨_, rfl, Rc.Own.low hO3 (by omega)⟩
        · have he2 : (KW.toList == S.toList) = false := by
            rw [beq_eq_false_iff_ne, ByteArray.toList_eq, ByteArray.toList_eq]
            intro h
            apply he
            rw [← hkw, ← hS, str_toList, str_toList] at h
            exact h
          have HK2 : Hid (∀ j, j < k + 1 → Ac.kw j ≠ s) := by
            show ∀ j, _
            intro j hj
            rcases Nat.lt_succ_iff_lt_or_eq.1 hj with h | h
            · exact HK.out j h
            · subst h; exact he
          clear hkw hS he HR HN HK hix
          go_quiet (fail)
          go_wp2
          go_roundw
          case rel => exact ⟨k + 1, by omega, by go_num, HK2.out, below_drewF hBY _⟩
          case measure => simp [intOf]; omega
      · obtain rfl : k = 13 := by omega
        have j1 : ¬ ((13 : Nat) : Int) < 13 := by omega
        have HF : Hid _ := HN.out HK.out
        have hz := HYz.out
        replace r0 := r0.below hbr (by omega)
        have z0 : wr.cell? ⟨w.heap.size, 0, none⟩ = some (.int .i64 0) := r0.cell 0
        have z1 : wr.cell? ⟨w.heap.size, 1, none⟩ = some (.slice none 0 0) := r0.cell 1
        have z2 : wr.cell? ⟨w.heap.size, 2, none⟩ = some (.int .i64 0) := r0.cell 2
        have z3 : wr.cell? ⟨w.heap.size, 3, none⟩ = some (.slice none 0 0) := r0.cell 3
        have f20 : wr.frozen? ⟨w.heap.size, 0, none⟩ = false := r0.free 0
        have f21 : wr.frozen? ⟨w.heap.size, 1, none⟩ = false := r0.free 1
        have f22 : wr.frozen? ⟨w.heap.size, 2, none⟩ = false := r0.free 2
        have f23 : wr.frozen? ⟨w.heap.size, 3, none⟩ = false := r0.free 3
        clear HR HN HK hix hrg
        go_wp2
        have q3 := r0.put4 (.int .i64 0) (.slice none 0 0) (.int .i64 0) (.slice none 0 0)
        have hT2 := Turn.put4 wr w.heap.size (.int .i64 0) (.slice none 0 0) (.int .i64 0) (.slice none 0 0)
        refine bodyPost_ret (results_st Tryd.results41 _ _ q3 rfl rfl rfl) rfl ⟨⟨_, rfl, ?_⟩, ?_⟩
        · rw [HF.out]
          exact rfl
        · exact hT2.bel hYr (by simp)

end Go.Proofs.YtfgdlnidfkjbdaaDoor
