/-
  WHAT THE DOCUMENT's Alike DOES.
-/
import Derived.Test.YtfgdlnidfkjbdaaDoorALine
import Derived.BigQuiet
namespace Go.Proofs.YtfgdlnidfkjbdaaDoor
open Go.RowKit

theorem below_drewA {B : Nat} {a w : World} (h : Below B a w) (n : Nat) : Below B a (w.drewN n) := ⟨h.os, h.tape, h.output, h.size, h.block⟩
theorem take_moreA {α : Type} {a c : List α} {k : Nat} (h1 : k < a.length) (h2 : k < c.length) (h : a.take k = c.take k) (e : a[k] = c[k]) : a.take (k + 1) = c.take (k + 1) := by
  rw [List.take_succ_eq_append_getElem h1, List.take_succ_eq_append_getElem h2, h, e]

set_option maxRecDepth 100000 in
set_option maxHeartbeats 4000000 in
theorem AlikeT_any (va vb : Value) (A C : List (List (List UInt8))) (w : World) (B : Nat) (ha : LiS w B va A) (hb : LiS w B vb C) (hBw : B ≤ w.heap.size) (hAl : A.length ≤ 1099511627) (hwl : ∀ x ∈ A, x.length ≤ 1099511627) :
    Calls Tryd.prog 19 #[va, vb] w fun e w' => e = .returned (.bool (decide (A = C))) ∧ Below w.heap.size w w' := by
  obtain ⟨ad, c, rfl, hle⟩ := ha.shape
  obtain ⟨ad', c', rfl, hle'⟩ := hb.shape
  have HWL : Hid _ := hwl
  clear hwl
  obtain ⟨D, hDD⟩ : ∃ D, decide (A = C) = D := ⟨_, rfl⟩
  rw [hDD]
  have HNE : Hid (A ≠ C → D = false) := fun h => by rw [← hDD]; exact decide_eq_false h
  have HEQ : Hid (A = C → D = true) := fun h => by rw [← hDD]; exact decide_eq_true h
  clear hDD
  go_enter Tryd.func19, Tryd.ntmps19
  by_cases hlen : A.length = C.length
  · have n1 : ((A.length : Int) != (C.length : Int)) = false := by rw [bne_eq_false_iff_eq]; omega
    have HLE : Hid _ := hlen
    clear hlen
    go_wp2
    go_loopw [5] (fun k wr => ∃ i : Nat, i ≤ A.length ∧ k = .int .i64 (i : Int) ∧ Hid (A.take i = C.take i) ∧ Below w.heap.size w wr) (fun k _ => A.length - (intOf k).toNat)
    case atStart => exact ⟨0, Nat.zero_le _, rfl, by simp [Hid], Below.refl _ _⟩
    case round =>
      obtain ⟨i, hi, rfl, HT, hD⟩ := hrel
      by_cases hlt : i < A.length
      · have hlt' : i < C.length := by have := HLE.out; omega
        have i1 : (i : Int) < (A.length : Int) := by omega
        have i2 : (i : Int) < (C.length : Int) := by omega
        have hwl := HWL.out A[i] (List.getElem_mem hlt)
        obtain ⟨b, o, c1, ad1, c2, e, hb1, p0, hW⟩ := (ha.below hD hBw).at hlt
        simp only [Value.slice.injEq] at e
        obtain ⟨rfl, -, rfl⟩ := e
        obtain ⟨b', o', c1', ad1', c2', e, hb1', p0', hW'⟩ := (hb.below hD hBw).at hlt'
        simp only [Value.slice.injEq] at e
        obtain ⟨rfl, -, rfl⟩ := e
        obtain ⟨x, hx⟩ : ∃ x, A[i] = x := ⟨_, rfl⟩
        obtain ⟨y, hy⟩ : ∃ y, C[i] = y := ⟨_, rfl⟩
        rw [hx] at p0 hW hwl
        rw [hy] at p0' hW'
        have HX : Hid _ := hx
        have HY : Hid _ := hy
        have HNO : Hid (x ≠ y → D = false) := fun h => HNE.out fun h2 => absurd (by rw [← hx, ← hy]; subst h2; rfl) h
        clear hx hy
        by_cases hl : x.length = y.length
        · have m3 : ((x.length : Int) != (y.length : Int)) = false := by rw [bne_eq_false_iff_eq]; omega
          have HL : Hid _ := hl
          clear hl
          go_wp2_with fail
          go_quiet (fail)
          go_wp2
          clear p0 p0' hW hW'
          go_loopw [6] (fun k W => ∃ j : Nat, j ≤ x.length ∧ k = .int .i64 (j : Int) ∧ Hid (x.take j = y.take j) ∧ Below w.heap.size w W) (fun k _ => x.length - (intOf k).toNat)
          case atStart => exact ⟨0, Nat.zero_le _, rfl, by simp [Hid], below_drewA hD _⟩
          case round =>
            obtain ⟨j, hj, rfl, HT2, hB2⟩ := hrel
            obtain ⟨bq, oq, c3, ad3, c4, e, -, p2, hW⟩ := (ha.below hB2 hBw).at hlt
            simp only [Value.slice.injEq, Option.some.injEq, Addr.mk.injEq] at e
            obtain ⟨⟨rfl, rfl, -⟩, -, -⟩ := e
            obtain ⟨bq, oq, c3', ad3', c4', e, -, p2', hW'⟩ := (hb.below hB2 hBw).at hlt'
            simp only [Value.slice.injEq, Option.some.injEq, Addr.mk.injEq] at e
            obtain ⟨⟨rfl, rfl, -⟩, -, -⟩ := e
            rw [HX.out] at p2 hW
            rw [HY.out] at p2' hW'
            by_cases hjl : j < x.length
            · have hjl' : j < y.length := by have := HL.out; omega
              have j1 : (j : Int) < (x.length : Int) := by omega
              have j2 : (j : Int) < (y.length : Int) := by omega
              obtain ⟨b2, o2, cc2, e, -, r0⟩ := TxR.at hW hjl
              simp only [Value.slice.injEq] at e
              obtain ⟨rfl, -, rfl⟩ := e
              obtain ⟨b3, o3, cc3, e, -, s0⟩ := TxR.at hW' hjl'
              simp only [Value.slice.injEq] at e
              obtain ⟨rfl, -, rfl⟩ := e
              obtain ⟨u, hu⟩ : ∃ u, x[j] = u := ⟨_, rfl⟩
              obtain ⟨v, hv⟩ : ∃ v, y[j] = v := ⟨_, rfl⟩
              rw [hu] at r0
              rw [hv] at s0
              by_cases ht : u = v
              · have HT3 : Hid (x.take (j + 1) = y.take (j + 1)) := take_moreA hjl hjl' HT2.out (by rw [hu, hv, ht])
                subst ht
                clear hu hv hW hW' HT2
                go_wp2_with fail
                go_quiet (fail)
                go_wp2
                exact ⟨⟨j + 1, by omega, by go_num, HT3, by first | exact hB2 | exact below_drewA hB2 _⟩, by simp [intOf]; omega⟩
              · have HF : Hid (D = false) := HNO.out fun h => ht (by rw [← hu, ← hv]; subst h; rfl)
                have m5 : ¬ (str u).toList = (str v).toList := by rw [ByteArray.toList_eq, ByteArray.toList_eq, str_toList, str_toList]; exact ht
                have m6 : ((str u).toList != (str v).toList) = true := by rw [bne_iff_ne]; exact m5
                have m7 : ((str u).toList == (str v).toList) = false := by rw [beq_eq_false_iff_ne]; exact m5
                clear hu hv hW hW' HT2 ht
                go_wp2_with fail
                go_quiet (fail)
                go_wp2
                go_ret
                rw [HF.out]
                exact ⟨rfl, by first | exact hB2 | exact below_drewA hB2 _⟩
            · obtain rfl : j = x.length := by omega
              have j1 : ¬ (x.length : Int) < (x.length : Int) := by omega
              have HXY : Hid (A.take (i + 1) = C.take (i + 1)) := by
                refine take_moreA hlt hlt' HT.out ?_
                have hw := HT2.out
                rw [List.take_length, List.take_of_length_le (by rw [← HL.out]; omega)] at hw
                rw [HX.out, HY.out, hw]
              clear HT HT2 HNO hW hW'
              go_wp2
              exact ⟨⟨i + 1, by omega, by go_num, HXY, hB2⟩, by simp [intOf]; omega⟩
        · have m3 : ((x.length : Int) != (y.length : Int)) = true := by rw [bne_iff_ne]; omega
          have HF : Hid (D = false) := HNO.out fun h => hl (by rw [h])
          clear hl HNO
          go_wp2_with fail
          go_quiet (fail)
          go_wp2
          go_ret
          rw [HF.out]
          exact ⟨rfl, below_drewA hD _⟩
      · obtain rfl : i = A.length := by omega
        have i1 : ¬ (A.length : Int) < (A.length : Int) := by omega
        have HE : Hid (A = C) := by
          show _ = _
          have := HT.out
          rwa [List.take_length, List.take_of_length_le (by rw [← HLE.out]; omega)] at this
        clear HT
        go_wp2
        go_ret
        rw [HEQ.out HE.out]
        exact ⟨rfl, hD⟩
  · have n1 : ((A.length : Int) != (C.length : Int)) = true := by rw [bne_iff_ne]; omega
    have HF : Hid (D = false) := HNE.out fun h => hlen (by rw [h])
    clear hlen
    go_wp2
    go_ret
    rw [HF.out]
    exact ⟨rfl, Below.refl _ _⟩

end Go.Proofs.YtfgdlnidfkjbdaaDoor
