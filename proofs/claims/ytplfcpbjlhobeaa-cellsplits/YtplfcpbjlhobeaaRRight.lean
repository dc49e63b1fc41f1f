/-
  THE WALK OF THE DOCUMENT's Right.
-/
import Derived.Test.YtplfcpbjlhobeaaCKit
import Derived.Deep.DeepCutAuto
import Derived.Deep.CutBlock
namespace Go.Proofs.Ytplfcpbjlhobeaa
open Go.RowKit

theorem lt_of_heap {w : World} {b : Nat} {o : Obj} (h : w.heap[b]? = some o) : b < w.heap.size := (Array.getElem?_eq_some_iff.1 h).1
theorem cells3_of {w : World} {p : Nat} {a b c : Value} {t : TypeId} {f : Nat × Nat} (h : w.heap[p]? = some (.cells #[a, b, c] t f)) :
    w.cell? ⟨p, 0, none⟩ = some a ∧ w.cell? ⟨p, 1, none⟩ = some b ∧ w.cell? ⟨p, 2, none⟩ = some c := by
  refine ⟨?_, ?_, ?_⟩
  · rw [cell_of_row w p 0 _ t f h]; rfl
  · rw [cell_of_row w p 1 _ t f h]; rfl
  · rw [cell_of_row w p 2 _ t f h]; rfl
theorem cells4_of {w : World} {p : Nat} {a b c d : Value} {t : TypeId} {f : Nat × Nat} (h : w.heap[p]? = some (.cells #[a, b, c, d] t f)) :
    w.cell? ⟨p, 0, none⟩ = some a ∧ w.cell? ⟨p, 1, none⟩ = some b ∧ w.cell? ⟨p, 2, none⟩ = some c ∧ w.cell? ⟨p, 3, none⟩ = some d := by
  refine ⟨?_, ?_, ?_, ?_⟩
  · rw [cell_of_row w p 0 _ t f h]; rfl
  · rw [cell_of_row w p 1 _ t f h]; rfl
  · rw [cell_of_row w p 2 _ t f h]; rfl
  · rw [cell_of_row w p 3 _ t f h]; rfl

set_option maxRecDepth 100000 in
set_option maxHeartbeats 2000000 in
theorem Right_any (n : Cm.Nd) (v : Value) (B : Nat) (w : World) (hv : NdS w B v n) (hB : B ≤ w.heap.size) (hl : n.items.length ≤ 1000000) (hk : n.kids.length ≤ 1000000) :
    Calls Try.prog 17 #[v] w fun e w' => e = .returned (.bool (decide (Cm.Right n))) ∧ Below w.heap.size w w' := by
  obtain ⟨vi, vk, rfl, ⟨ad, c, rfl, hc, hn, hi⟩, ⟨kd, d, rfl, hd, hkn, hki⟩⟩ := hv
  have Hi : Hid _ := hi
  have Hki : Hid _ := hki
  clear hi hki
  go_enter Try.func17, Try.ntmps17
  go_wp2
  go_loopw [3] (fun i wr => ∃ k : Nat, k ≤ n.items.length ∧ i = .int .i64 (k : Int) ∧ (∀ j, j < k → Cm.OkAt n j) ∧ wr.heap[w.heap.size]? = some (.cells #[.bool n.leaf, .slice ad n.items.length c, .slice kd n.kids.length d] 28 (0, 0)) ∧ Below w.heap.size w wr)
    (fun i _ => n.items.length - (intOf i).toNat)
  case atStart => exact ⟨0, Nat.zero_le _, rfl, fun j hj => absurd hj (Nat.not_lt_zero _), heap_alloc_new w _, (Below.refl _ w).alloc (Nat.le_refl _) _⟩
  case round =>
    obtain ⟨k, hkl, rfl, hok, hbx, hbr⟩ := hrel
    have n0 := cell_of_row wr w.heap.size 0 _ _ _ hbx
    have n1 := cell_of_row wr w.heap.size 1 _ _ _ hbx
    have n2 := cell_of_row wr w.heap.size 2 _ _ _ hbx
    simp only [List.getElem?_toArray, List.getElem?_cons_zero, List.getElem?_cons_succ] at n0 n1 n2
    have Hok : Hid _ := hok
    clear hok
    by_cases hlt : k < n.items.length
    · obtain ⟨b, o, rfl, hbl, hcs⟩ := Hi.out (by intro h; rw [h] at hlt; simp at hlt)
      have hbk := hbr.block b (Nat.lt_of_lt_of_le hbl hB)
      obtain ⟨c0, c1, c2, c3⟩ := hcs k hlt
      replace c0 := (World.cell?_of_block (a := ⟨b, o + k * 4, none⟩) hbk).trans c0
      replace c1 := (World.cell?_of_block (a := ⟨b, o + k * 4 + 1, none⟩) hbk).trans c1
      replace c2 := (World.cell?_of_block (a := ⟨b, o + k * 4 + 2, none⟩) hbk).trans c2
      replace c3 := (World.cell?_of_block (a := ⟨b, o + k * 4 + 3, none⟩) hbk).trans c3
      obtain ⟨pk, hpk⟩ : ∃ pk, (n.items.getD (k - 1) Cm.zero).key = pk := ⟨_, rfl⟩
      have cp : 0 < k → wr.cell? ⟨b, o + (k - 1) * 4, none⟩ = some (.string pk) := fun h0 => by
        rw [← hpk]; exact (World.cell?_of_block (a := ⟨b, o + (k - 1) * 4, none⟩) hbk).trans (hcs (k - 1) (by omega)).1
      obtain ⟨x, hx⟩ : ∃ x, n.items.getD k Cm.zero = x := ⟨_, rfl⟩
      rw [hx] at c0 c1 c2 c3
      have Hx : Hid _ := hx
      have Hpk : Hid _ := hpk
      obtain ⟨xk, xv, xp, xl⟩ := x
      simp only at c0 c1 c2 c3
      clear hx hpk hcs Hi hbk
      have Hat : Hid (Cm.OkAt n k ↔ (Cm.OkK xk ∧ (0 < k → Cm.kl pk xk = true)) ∧ Cm.OkI n.leaf ⟨xk, xv, xp, xl⟩) := by
        show _ ↔ _
        unfold Cm.OkAt; rw [Hx.out, Hpk.out]; exact and_assoc.symm
      go_upto_region 5 with fail
      have hWx := heap_alloc_new wr (.cells #[.string xk, .string xv, .int .i64 xp, .int .i64 xl] 24)
      have hWb := hbr.alloc hbr.size (.cells #[.string xk, .string xv, .int .i64 xp, .int .i64 xl] 24)
      have hWn := (((Below.refl _ wr).alloc (Nat.le_refl _) (.cells #[.string xk, .string xv, .int .i64 xp, .int .i64 xl] 24)).block w.heap.size (lt_of_heap hbx)).trans hbx
      have cp2 : 0 < k → (wr.alloc (.cells #[.string xk, .string xv, .int .i64 xp, .int .i64 xl] 24)).cell? ⟨b, o + (k - 1) * 4, none⟩ = some (.string pk) := fun h0 =>
        (((Below.refl _ wr).alloc (Nat.le_refl _) (.cells #[.string xk, .string xv, .int .i64 xp, .int .i64 xl] 24)).cell (p := ⟨b, o + (k - 1) * 4, none⟩) (by have := hbr.size; show b < _; omega)).trans (cp h0)
      generalize wr.alloc (.cells #[.string xk, .string xv, .int .i64 xp, .int .i64 xl] 24) = W at *
      generalize wr.heap.size = X at *
      clear hbx n0 n1 n2 c0 c1 c2 c3 cp hbr
      obtain ⟨n0, n1, n2⟩ := cells3_of hWn
      obtain ⟨x0, x1, x2, x3⟩ := cells4_of hWx
      go_cut [45] (fun t wx => ∃ bad : Bool, t = .bool bad ∧ (bad = !decide (Cm.OkK xk ∧ (0 < k → Cm.kl pk xk = true))) ∧ ∃ q, wx = W.drewN q)
      case first =>
        by_cases h1 : xk.size < 1
        · have b1 : decide ((xk.size : Int) < 1) = true := decide_eq_true (by omega)
          have E : Hid (decide (Cm.OkK xk ∧ (0 < k → Cm.kl pk xk = true)) = false) := by
            show _ = _; rw [decide_eq_false_iff_not]; unfold Cm.OkK; omega
          clear h1
          go_quiet (fail)
          go_wp2
          go_meet
          exact ⟨_, rfl, by rw [E.out]; rfl, _, rfl⟩
        · have b1 : decide ((xk.size : Int) < 1) = false := decide_eq_false (by omega)
          by_cases h2 : 64 < xk.size
          · have b2 : decide ((64 : Int) < (xk.size : Int)) = true := decide_eq_true (by omega)
            have E : Hid (decide (Cm.OkK xk ∧ (0 < k → Cm.kl pk xk = true)) = false) := by
              show _ = _; rw [decide_eq_false_iff_not]; unfold Cm.OkK; omega
            clear h1 h2
            go_quiet (fail)
            go_wp2
            go_meet
            exact ⟨_, rfl, by rw [E.out]; rfl, _, rfl⟩
          · have b2 : decide ((64 : Int) < (xk.size : Int)) = false := decide_eq_false (by omega)
            have hK : Cm.OkK xk := by unfold Cm.OkK; omega
            have E : Hid (decide (Cm.OkK xk ∧ (0 < k → Cm.kl pk xk = true)) = decide (0 < k → Cm.kl pk xk = true)) := by show _ = _; simp [hK]
            clear h1 h2 hK
            by_cases h3 : 0 < k
            · have cp' := cp2 h3
              have b3 : decide (0 < k) = true := decide_eq_true h3
              have E2 : Hid (decide (0 < k → Cm.kl pk xk = true) = Op.bytesLess pk.toList xk.toList) := by
                show _ = Cm.kl pk xk
                by_cases h : Cm.kl pk xk = true <;> simp [h, h3]
              have Hk : Hid (0 < k) := h3
              obtain ⟨m, hm⟩ : ∃ m, k = m + 1 := ⟨k - 1, by omega⟩
              have hm' : k - 1 = m := by omega
              rw [hm'] at cp'
              have i2 : (m : Int) < (n.items.length : Int) := by omega
              have i3 : (k : Int) - 1 = (m : Int) := by omega
              clear cp2 h3 hm hm'
              go_quiet (fail)
              go_wp2
              go_meet
              exact ⟨_, rfl, by rw [E.out, E2.out], _, rfl⟩
            · have b3 : decide ((0 : Int) < (k : Int)) = false := decide_eq_false (by omega)
              have E2 : Hid (decide (0 < k → Cm.kl pk xk = true) = true) := by show _ = _; simp [h3]
              clear cp2
              go_quiet (fail)
              go_wp2
              go_meet
              exact ⟨_, rfl, by rw [E.out, E2.out]; rfl, _, rfl⟩
      case rest =>
        obtain ⟨bad, rfl, hbad, q, rfl⟩ := hcut
        have Hbad : Hid _ := hbad
        replace hWx : (W.drewN q).heap[X]? = _ := hWx
        replace hWn : (W.drewN q).heap[w.heap.size]? = _ := hWn
        replace hWb : Below w.heap.size w (W.drewN q) := ⟨hWb.os, hWb.tape, hWb.output, hWb.size, hWb.block⟩
        generalize W.drewN q = W' at *
        clear hbad n0 n1 n2 x0 x1 x2 x3 cp2
        obtain ⟨n0, n1, n2⟩ := cells3_of hWn
        obtain ⟨x0, x1, x2, x3⟩ := cells4_of hWx
        cases bad
        · go_upto_region 7 with fail
          go_cut [5] (fun t wx => ∃ bi : Bool, t = .bool bi ∧ bi = decide (Cm.Inline ⟨xk, xv, xp, xl⟩) ∧ W' = wx)
          case first =>
            go_wp2
            all_goals go_meet
            all_goals refine ⟨_, rfl, ?_, rfl⟩
            all_goals first | (simp [Cm.Inline, *]; done) | (simp [Cm.Inline, *]; omega)
          case rest =>
            obtain ⟨bi, rfl, hbi, rfl⟩ := hcut
            have Hbi : Hid _ := hbi
            clear hbi
            go_upto_region 8 with fail
            go_cut [6] (fun t wx => ∃ bc : Bool, t = .bool bc ∧ bc = decide (Cm.Chain ⟨xk, xv, xp, xl⟩) ∧ W' = wx)
            case first =>
              have hsn := str_none xv
              by_cases hv0 : xv.size = 0
              · have hv1 : xv.toList = [] := hsn.2 hv0
                clear hsn
                go_wp2
                all_goals go_meet
                all_goals refine ⟨_, rfl, ?_, rfl⟩
                all_goals first | (simp [Cm.Chain, *]; done) | (simp [Cm.Chain, *]; omega)
              · have hv1 : ¬ xv.toList = [] := fun e => hv0 (hsn.1 e)
                clear hsn
                go_wp2
                all_goals go_meet
                all_goals refine ⟨_, rfl, ?_, rfl⟩
                all_goals first | (simp [Cm.Chain, *]; done) | (simp [Cm.Chain, *]; omega)
            case rest =>
              obtain ⟨bc, rfl, hbc, rfl⟩ := hcut
              have Hbc : Hid _ := hbc
              clear hbc
              go_upto_region 9 with fail
              go_cut [112] (fun t wx => ∃ bad : Bool, t = .bool bad ∧ bad = (!decide (Cm.OkI n.leaf ⟨xk, xv, xp, xl⟩)) ∧ W' = wx)
              case first =>
                have hsn := str_none xv
                generalize hlf : n.leaf = lf at *
                cases lf
                · by_cases hv0 : xv.size = 0
                  · have hv1 : xv.toList = [] := hsn.2 hv0
                    clear hsn
                    go_wp2
                    all_goals go_meet
                    all_goals refine ⟨_, rfl, ?_, rfl⟩
                    all_goals first | (simp [Cm.OkI, Cm.Bare, *]; done) | (simp [Cm.OkI, Cm.Bare, *]; omega) | (simp [Cm.OkI, Cm.Bare, *]; rfl)
                  · have hv1 : ¬ xv.toList = [] := fun e => hv0 (hsn.1 e)
                    clear hsn
                    go_wp2
                    all_goals go_meet
                    all_goals refine ⟨_, rfl, ?_, rfl⟩
                    all_goals first | (simp [Cm.OkI, Cm.Bare, *]; done) | (simp [Cm.OkI, Cm.Bare, *]; omega) | (simp [Cm.OkI, Cm.Bare, *]; rfl)
                · clear hsn
                  cases bi <;> cases bc
                  all_goals go_wp2
                  all_goals go_meet
                  all_goals refine ⟨_, rfl, ?_, rfl⟩
                  all_goals
                    have e1 := Hbi.out
                    have e2 := Hbc.out
                    simp only [Bool.false_eq, Bool.true_eq, decide_eq_true_eq, decide_eq_false_iff_not] at e1 e2
                    simp [Cm.OkI, e1, e2]
              case rest =>
                obtain ⟨bad, rfl, hbad2, rfl⟩ := hcut
                have Hbad2 : Hid _ := hbad2
                clear hbad2
                cases bad
                · go_wp2
                  refine ⟨⟨k + 1, by omega, by go_num, fun j hj => ?_, hWn, hWb⟩, by simp [intOf]; omega⟩
                  by_cases hjk : j < k
                  · exact Hok.out j hjk
                  · obtain rfl : j = k := by omega
                    refine Hat.out.2 ⟨?_, ?_⟩
                    · have := Hbad.out
                      simpa using this
                    · have := Hbad2.out
                      simpa using this
                · go_wp2
                  go_ret
                  refine ⟨?_, hWb⟩
                  have e : decide (Cm.Right n) = false := by
                    rw [decide_eq_false_iff_not]
                    intro hR
                    have := Hbad2.out
                    simp only [Bool.true_eq, Bool.not_eq_true', decide_eq_false_iff_not] at this
                    exact this (Hat.out.1 (hR.1 k hlt)).2
                  rw [e]
                  rfl
        · go_wp2
          go_ret
          refine ⟨?_, hWb⟩
          have e : decide (Cm.Right n) = false := by
            rw [decide_eq_false_iff_not]
            intro hR
            have := Hbad.out
            simp only [Bool.true_eq, Bool.not_eq_true', decide_eq_false_iff_not] at this
            exact this (Hat.out.1 (hR.1 k hlt)).1
          rw [e]
          rfl
    · obtain rfl : k = n.items.length := by omega
      clear Hi
      generalize hlf : n.leaf = lf at *
      cases lf
      · have Hlf : Hid _ := hlf
        clear hlf
        go_wp2
        go_loopw [7] (fun i wx => ∃ k : Nat, k ≤ n.kids.length ∧ i = .int .i64 (k : Int) ∧ (∀ j, j < k → Cm.KidOk (n.kids.getD j 0)) ∧ wx.heap[w.heap.size]? = some (.cells #[.bool false, .slice ad n.items.length c, .slice kd n.kids.length d] 28 (0, 0)) ∧ Below w.heap.size w wx)
          (fun i _ => n.kids.length - (intOf i).toNat)
        case atStart => exact ⟨0, Nat.zero_le _, rfl, fun j hj => absurd hj (Nat.not_lt_zero _), hbx, hbr⟩
        case round =>
          obtain ⟨k, hkk, rfl, hok2, hbx2, hbr2⟩ := hrel
          obtain ⟨m0, m1, m2⟩ := cells3_of hbx2
          have Hok2 : Hid _ := hok2
          clear hok2 n0 n1 n2
          by_cases hlt2 : k < n.kids.length
          · obtain ⟨b, o, rfl, hbl, hcs⟩ := Hki.out (by intro h; rw [h] at hlt2; simp at hlt2)
            have ck := (hbr2.cell (p := ⟨b, o + k, none⟩) (Nat.lt_of_lt_of_le hbl hB)).trans (hcs k hlt2)
            obtain ⟨y, hy⟩ : ∃ y, n.kids.getD k 0 = y := ⟨_, rfl⟩
            rw [hy] at ck
            have Hy : Hid _ := hy
            have i2 : (k : Int) < (n.kids.length : Int) := by omega
            clear hcs hy Hki
            by_cases h1 : y < 1
            · have b1 : decide (y < 1) = true := decide_eq_true h1
              go_wp2
              go_ret
              refine ⟨?_, ⟨hbr2.os, hbr2.tape, hbr2.output, hbr2.size, hbr2.block⟩⟩
              have e : decide (Cm.Right n) = false := by
                rw [decide_eq_false_iff_not]
                intro hR
                have h := hR.2
                rw [Hlf.out, if_neg (by simp)] at h
                have := h.1 y (by rw [← Hy.out]; simp [List.getD, List.getElem?_eq_getElem hlt2])
                unfold Cm.KidOk at this
                omega
              rw [e]
              rfl
            · have b1 : decide (y < 1) = false := decide_eq_false h1
              by_cases h2 : 65535 < y
              · have b2 : decide (65535 < y) = true := decide_eq_true h2
                go_wp2
                go_ret
                refine ⟨?_, ⟨hbr2.os, hbr2.tape, hbr2.output, hbr2.size, hbr2.block⟩⟩
                have e : decide (Cm.Right n) = false := by
                  rw [decide_eq_false_iff_not]
                  intro hR
                  have h := hR.2
                  rw [Hlf.out, if_neg (by simp)] at h
                  have := h.1 y (by rw [← Hy.out]; simp [List.getD, List.getElem?_eq_getElem hlt2])
                  unfold Cm.KidOk at this
                  omega
                rw [e]
                rfl
              · have b2 : decide (65535 < y) = false := decide_eq_false h2
                have HK : Hid (Cm.KidOk y) := by show _ ∧ _; omega
                clear h1 h2
                go_wp2
                refine ⟨⟨k + 1, by omega, by go_num, fun j hj => ?_, hbx2, ⟨hbr2.os, hbr2.tape, hbr2.output, hbr2.size, hbr2.block⟩⟩, by simp [intOf]; omega⟩
                by_cases hjk : j < k
                · exact Hok2.out j hjk
                · obtain rfl : j = k := by omega
                  rw [Hy.out]; exact HK.out
          · obtain rfl : k = n.kids.length := by omega
            clear Hki
            have E : Hid (decide (Cm.Right n) = (decide (1 ≤ n.items.length) && decide (n.kids.length = n.items.length + 1))) := by
              show _ = _
              rw [Bool.eq_iff_iff, Bool.and_eq_true, decide_eq_true_iff, decide_eq_true_iff, decide_eq_true_iff]
              unfold Cm.Right
              rw [Hlf.out, if_neg (by simp)]
              refine ⟨fun h => ⟨h.2.2.1, h.2.2.2⟩, fun h => ⟨Hok.out, fun x hx => ?_, h.1, h.2⟩⟩
              obtain ⟨j, hj, rfl⟩ := List.mem_iff_getElem.1 hx
              have := Hok2.out j hj
              simpa [List.getD, List.getElem?_eq_getElem hj] using this
            by_cases h1 : 1 ≤ n.items.length
            · have b1 : decide ((1 : Int) ≤ (n.items.length : Int)) = true := decide_eq_true (by omega)
              go_wp2
              go_ret
              refine ⟨?_, hbr2⟩
              rw [E.out, decide_eq_true h1, Bool.true_and]
              have e : ((n.kids.length : Int) == (n.items.length : Int) + 1) = decide (n.kids.length = n.items.length + 1) := by
                rw [Bool.eq_iff_iff]; simp; omega
              rw [← e]
              rfl
            · have b1 : decide ((1 : Int) ≤ (n.items.length : Int)) = false := decide_eq_false (by omega)
              go_wp2
              go_ret
              refine ⟨?_, hbr2⟩
              rw [E.out, decide_eq_false h1]
              rfl
      · have Hlf : Hid _ := hlf
        clear hlf
        go_wp2
        go_ret
        refine ⟨?_, hbr⟩
        have e : decide (Cm.Right n) = decide (n.kids = []) := by
          rw [decide_eq_decide]
          unfold Cm.Right
          rw [Hlf.out, if_pos rfl]
          exact ⟨fun h => h.2, fun h => ⟨Hok.out, h⟩⟩
        rw [e]
        cases hks : n.kids with
        | nil => rfl
        | cons y r => simp; omega
end Go.Proofs.Ytplfcpbjlhobeaa
