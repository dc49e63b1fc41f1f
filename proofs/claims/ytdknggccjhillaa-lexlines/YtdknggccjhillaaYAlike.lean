/-
  WHAT THE LAWS' alike DOES.
-/
import Derived.Test.YtdknggccjhillaaYSame
import Derived.Deep.RegionHeld3
namespace Go.Proofs.Ytdknggccjhillaa
open Go.RowKit

/-- a line without its number and places -/
def Lx.bareL (l : Lx.L) : Bool × List (List UInt8 × Bool × Bool) := (l.ind, l.words.map fun v => (v.text, v.quoted, v.mark))
theorem map_at {A C : List Lx.L} (h : A.map Lx.bareL = C.map Lx.bareL) {i : Nat} (h1 : i < A.length) (h2 : i < C.length) : Lx.bareL (A.getD i Lx.noL) = Lx.bareL (C.getD i Lx.noL) := by
  have := congrArg (fun l => l[i]?) h
  simp only [List.getElem?_map, List.getElem?_eq_getElem h1, List.getElem?_eq_getElem h2, Option.map_some, Option.some.injEq] at this
  simpa [List.getD, List.getElem?_eq_getElem h1, List.getElem?_eq_getElem h2] using this

set_option maxRecDepth 100000 in
set_option maxHeartbeats 4000000 in
theorem alike_any (va vb : Value) (A C : List Lx.L) (w : World) (B : Nat) (ha : LnsS w B va A) (hb : LnsS w B vb C) (hBw : B ≤ w.heap.size) (hAl : A.length ≤ 1099511627) (hwl : ∀ x ∈ A, x.words.length ≤ 1099511627) :
    Calls Try.prog 27 #[va, vb] w fun e w' => e = .returned (.bool (decide (A.map Lx.bareL = C.map Lx.bareL))) ∧ Below w.heap.size w w' := by
  obtain ⟨ad, c, rfl, hle⟩ := ha.shape
  obtain ⟨ad', c', rfl, hle'⟩ := hb.shape
  have HWL : Hid _ := hwl
  clear hwl
  obtain ⟨D, hDD⟩ : ∃ D, decide (A.map Lx.bareL = C.map Lx.bareL) = D := ⟨_, rfl⟩
  rw [hDD]
  have HNE : Hid (A.map Lx.bareL ≠ C.map Lx.bareL → D = false) := fun h => by rw [← hDD]; exact decide_eq_false h
  have HEQ : Hid (A.map Lx.bareL = C.map Lx.bareL → D = true) := fun h => by rw [← hDD]; exact decide_eq_true h
  clear hDD
  go_enter Try.func27, Try.ntmps27
  by_cases hlen : A.length = C.length
  · have n1 : ((A.length : Int) != (C.length : Int)) = false := by rw [bne_eq_false_iff_eq]; omega
    have HLE : Hid _ := hlen
    clear hlen
    go_wp2
    go_loopw [5] (fun k wr => ∃ i : Nat, i ≤ A.length ∧ k = .int .i64 (i : Int) ∧ Hid ((A.map Lx.bareL).take i = (C.map Lx.bareL).take i) ∧ Below w.heap.size w wr) (fun k _ => A.length - (intOf k).toNat)
    case atStart => exact ⟨0, Nat.zero_le _, rfl, by simp [Hid], Below.refl _ _⟩
    case round =>
      obtain ⟨i, hi, rfl, HT, hD⟩ := hrel
      by_cases hlt : i < A.length
      · have hlt' : i < C.length := by have := HLE.out; omega
        have i1 : (i : Int) < (A.length : Int) := by omega
        have i2 : (i : Int) < (C.length : Int) := by omega
        have hwl := HWL.out (A.getD i Lx.noL) (by simp [List.getD, List.getElem?_eq_getElem hlt])
        obtain ⟨b, o, c1, ad1, c2, e, hb1, p0, p1, p2, hW⟩ := (ha.below hD hBw).at i hlt
        simp only [Value.slice.injEq] at e
        obtain ⟨rfl, -, rfl⟩ := e
        obtain ⟨b', o', c1', ad1', c2', e, hb1', p0', p1', p2', hW'⟩ := (hb.below hD hBw).at i hlt'
        simp only [Value.slice.injEq] at e
        obtain ⟨rfl, -, rfl⟩ := e
        obtain ⟨x, hx⟩ : ∃ x, A.getD i Lx.noL = x := ⟨_, rfl⟩
        obtain ⟨y, hy⟩ : ∃ y, C.getD i Lx.noL = y := ⟨_, rfl⟩
        rw [hx] at p0 p1 p2 hW hwl
        rw [hy] at p0' p1' p2' hW'
        have HX : Hid _ := hx
        have HY : Hid _ := hy
        have HNO : Hid (Lx.bareL x ≠ Lx.bareL y → D = false) := fun h => HNE.out fun h2 => absurd (by rw [← hx, ← hy]; exact map_at h2 hlt hlt') h
        clear hx hy
        by_cases hd : x.ind = y.ind
        · have m2 : (x.ind == y.ind) = true := by rw [beq_iff_eq]; exact hd
          by_cases hl : x.words.length = y.words.length
          · have m3 : ((x.words.length : Int) != (y.words.length : Int)) = false := by rw [bne_eq_false_iff_eq]; omega
            have HD : Hid _ := hd
            have HL : Hid _ := hl
            clear hd hl
            go_wp2_with fail
            go_quiet (fail)
            go_wp2
            clear p0 p1 p2 p0' p1' p2' hW hW'
            go_loopw [6] (fun k W => ∃ j : Nat, j ≤ x.words.length ∧ k = .int .i64 (j : Int) ∧ Hid ((x.words.map fun v => (v.text, v.quoted, v.mark)).take j = (y.words.map fun v => (v.text, v.quoted, v.mark)).take j) ∧ Below w.heap.size w W) (fun k _ => x.words.length - (intOf k).toNat)
            case atStart => exact ⟨0, Nat.zero_le _, rfl, by simp [Hid], below_drewN hD _⟩
            case round =>
              obtain ⟨j, hj, rfl, HT2, hB2⟩ := hrel
              obtain ⟨bq, oq, c3, ad3, c4, e, -, -, -, p2, hW⟩ := (ha.below hB2 hBw).at i hlt
              simp only [Value.slice.injEq, Option.some.injEq, Addr.mk.injEq] at e
              obtain ⟨⟨rfl, rfl, -⟩, -, -⟩ := e
              obtain ⟨bq, oq, c3', ad3', c4', e, -, -, -, p2', hW'⟩ := (hb.below hB2 hBw).at i hlt'
              simp only [Value.slice.injEq, Option.some.injEq, Addr.mk.injEq] at e
              obtain ⟨⟨rfl, rfl, -⟩, -, -⟩ := e
              rw [HX.out] at p2 hW
              rw [HY.out] at p2' hW'
              by_cases hjl : j < x.words.length
              · have hjl' : j < y.words.length := by have := HL.out; omega
                have j1 : (j : Int) < (x.words.length : Int) := by omega
                have j2 : (j : Int) < (y.words.length : Int) := by omega
                obtain ⟨b2, o2, cc2, e, -, r0, r1, r2, r3, r4⟩ := WdR.at hW j hjl
                simp only [Value.slice.injEq] at e
                obtain ⟨rfl, -, rfl⟩ := e
                obtain ⟨b3, o3, cc3, e, -, s0, s1, s2, s3, s4⟩ := WdR.at hW' j hjl'
                simp only [Value.slice.injEq] at e
                obtain ⟨rfl, -, rfl⟩ := e
                obtain ⟨u, hu⟩ : ∃ u, x.words.getD j Lx.noV = u := ⟨_, rfl⟩
                obtain ⟨v, hv⟩ : ∃ v, y.words.getD j Lx.noV = v := ⟨_, rfl⟩
                rw [hu] at r0 r1 r2 r3 r4
                rw [hv] at s0 s1 s2 s3 s4
                have HU : Hid _ := hu
                have HV : Hid _ := hv
                clear hu hv hW hW'
                go_upto_region 11 with fail
                go_cut [7, 8] (fun t7 t8 X => ∃ g1 g2 : Nat, t7 = .pointer (some ⟨g1, 0, none⟩) ∧ t8 = .pointer (some ⟨g2, 0, none⟩) ∧ X.heap[g1]? = some (.cells #[.string (str u.text), .int .i64 u.line, .int .i64 u.col, .bool u.quoted, .bool u.mark] 35 (0, 0)) ∧ X.heap[g2]? = some (.cells #[.string (str v.text), .int .i64 v.line, .int .i64 v.col, .bool v.quoted, .bool v.mark] 35 (0, 0)) ∧ Below w.heap.size w X)
                case first =>
                  have hBA : ∀ o1 o2 : Obj, Below w.heap.size w ((wr.alloc o1).alloc o2).drew := fun o1 o2 => ((hB2.alloc hB2.size o1).alloc (hB2.alloc hB2.size o1).size o2).drew
                  go_region_held3 (fun X : World => X.cell? ⟨b, o + i * 3 + 2, none⟩ = some (.slice (some ⟨b2, o2, none⟩) x.words.length c4) ∧ X.cell? ⟨b', o' + i * 3 + 2, none⟩ = some (.slice (some ⟨b3, o3, none⟩) y.words.length c4') ∧ X.cell? ⟨b2, o2 + j * 5, none⟩ = some (.string (str u.text)) ∧ X.cell? ⟨b2, o2 + j * 5 + 1, none⟩ = some (.int .i64 u.line) ∧ X.cell? ⟨b2, o2 + j * 5 + 2, none⟩ = some (.int .i64 u.col) ∧ X.cell? ⟨b2, o2 + j * 5 + 3, none⟩ = some (.bool u.quoted) ∧ X.cell? ⟨b2, o2 + j * 5 + 4, none⟩ = some (.bool u.mark) ∧ X.cell? ⟨b3, o3 + j * 5, none⟩ = some (.string (str v.text)) ∧ X.cell? ⟨b3, o3 + j * 5 + 1, none⟩ = some (.int .i64 v.line) ∧ X.cell? ⟨b3, o3 + j * 5 + 2, none⟩ = some (.int .i64 v.col) ∧ X.cell? ⟨b3, o3 + j * 5 + 3, none⟩ = some (.bool v.quoted) ∧ X.cell? ⟨b3, o3 + j * 5 + 4, none⟩ = some (.bool v.mark)) (go_keep) (fail)
                  all_goals go_wp2
                  all_goals (go_meet; first | exact ⟨_, _, rfl, rfl, heap_alloc2_old _ _ _, heap_alloc2_new _ _ _, hBA _ _⟩ | exact ⟨_, _, rfl, rfl, heap_alloc2_new _ _ _, heap_alloc2_old _ _ _, hBA _ _⟩)
                case rest =>
                  obtain ⟨g1, g2, rfl, rfl, k1, k2, hB3⟩ := hcut
                  clear p2 p2' r0 r1 r2 r3 r4 s0 s1 s2 s3 s4 hB2
                  have r0 : wc.cell? ⟨g1, 0, none⟩ = some (.string (str u.text)) := by simp [World.cell?, k1]
                  have r3 : wc.cell? ⟨g1, 3, none⟩ = some (.bool u.quoted) := by simp [World.cell?, k1]
                  have r4 : wc.cell? ⟨g1, 4, none⟩ = some (.bool u.mark) := by simp [World.cell?, k1]
                  have s0 : wc.cell? ⟨g2, 0, none⟩ = some (.string (str v.text)) := by simp [World.cell?, k2]
                  have s3 : wc.cell? ⟨g2, 3, none⟩ = some (.bool v.quoted) := by simp [World.cell?, k2]
                  have s4 : wc.cell? ⟨g2, 4, none⟩ = some (.bool v.mark) := by simp [World.cell?, k2]
                  clear k1 k2
                  have HNW : Hid ((u.text, u.quoted, u.mark) ≠ (v.text, v.quoted, v.mark) → D = false) := fun hn => HNO.out fun h => hn (by
                    have h2 := congrArg (fun p => p.2[j]?) h
                    have e1 := HU.out
                    have e2 := HV.out
                    simp only [List.getD, List.getElem?_eq_getElem hjl, List.getElem?_eq_getElem hjl', Option.getD_some] at e1 e2
                    simpa only [Lx.bareL, List.getElem?_map, List.getElem?_eq_getElem hjl, List.getElem?_eq_getElem hjl', Option.map_some, Option.some.injEq, e1, e2] using h2)
                  by_cases ht : u.text = v.text
                  · rw [← ht] at s0
                    by_cases hq : u.quoted = v.quoted
                    · rw [← hq] at s3
                      by_cases hm : u.mark = v.mark
                      · rw [← hm] at s4
                        have HT3 : Hid ((x.words.map fun v => (v.text, v.quoted, v.mark)).take (j + 1) = (y.words.map fun v => (v.text, v.quoted, v.mark)).take (j + 1)) := by
                          show _ = _
                          refine take_more ([], false, false) (by rw [List.length_map]; exact hjl) (by rw [List.length_map]; exact hjl') HT2.out ?_
                          have e1 := HU.out
                          have e2 := HV.out
                          simp only [List.getD, List.getElem?_eq_getElem hjl, List.getElem?_eq_getElem hjl', Option.getD_some] at e1 e2
                          simp only [List.getD, List.getElem?_map, List.getElem?_eq_getElem hjl, List.getElem?_eq_getElem hjl', Option.map_some, Option.getD_some, e1, e2, ht, hq, hm]
                        clear ht hq hm HNW
                        go_wp2_with fail
                        try go_quiet (fail)
                        go_wp2
                        exact ⟨⟨j + 1, by omega, by go_num, HT3, by first | exact hB3 | exact below_drewN hB3 _⟩, by simp [intOf]; omega⟩
                      · have HF : Hid _ := HNW.out (fun h => hm (by simpa using congrArg (fun p => p.2.2) h))
                        have m4 : (u.mark == v.mark) = false := by rw [beq_eq_false_iff_ne]; exact hm
                        clear ht hq hm HNW
                        go_wp2_with fail
                        try go_quiet (fail)
                        go_wp2
                        go_ret
                        rw [HF.out]
                        exact ⟨rfl, by first | exact hB3 | exact below_drewN hB3 _⟩
                    · have HF : Hid _ := HNW.out (fun h => hq (by simpa using congrArg (fun p => p.2.1) h))
                      have m4 : (u.quoted == v.quoted) = false := by rw [beq_eq_false_iff_ne]; exact hq
                      clear ht hq HNW
                      go_wp2_with fail
                      try go_quiet (fail)
                      go_wp2
                      go_ret
                      rw [HF.out]
                      exact ⟨rfl, by first | exact hB3 | exact below_drewN hB3 _⟩
                  · have HF : Hid _ := HNW.out (fun h => ht (by simpa using congrArg (fun p => p.1) h))
                    have m5 : ¬ (str u.text).toList = (str v.text).toList := by rw [ByteArray.toList_eq, ByteArray.toList_eq, str_toList, str_toList]; exact ht
                    have m6 : ((str u.text).toList != (str v.text).toList) = true := by rw [bne_iff_ne]; exact m5
                    have m7 : ((str u.text).toList == (str v.text).toList) = false := by rw [beq_eq_false_iff_ne]; exact m5
                    clear ht HNW
                    go_wp2_with fail
                    try go_quiet (fail)
                    go_wp2
                    go_ret
                    rw [HF.out]
                    exact ⟨rfl, by first | exact hB3 | exact below_drewN hB3 _⟩
              · obtain rfl : j = x.words.length := by omega
                have j1 : ¬ (x.words.length : Int) < (x.words.length : Int) := by omega
                have HXY : Hid ((A.map Lx.bareL).take (i + 1) = (C.map Lx.bareL).take (i + 1)) := by
                  show _ = _
                  refine take_more (Lx.bareL Lx.noL) (by rw [List.length_map]; exact hlt) (by rw [List.length_map]; exact hlt') HT.out ?_
                  have hw := HT2.out
                  rw [List.take_of_length_le (by rw [List.length_map]; omega), List.take_of_length_le (by rw [List.length_map, ← HL.out]; omega)] at hw
                  have e1 := HX.out
                  have e2 := HY.out
                  simp only [List.getD, List.getElem?_eq_getElem hlt, List.getElem?_eq_getElem hlt', Option.getD_some] at e1 e2
                  simp only [List.getD, List.getElem?_map, List.getElem?_eq_getElem hlt, List.getElem?_eq_getElem hlt', Option.map_some, Option.getD_some, e1, e2, Lx.bareL, HD.out, hw]
                clear HT HT2 HNO hW hW'
                go_wp2
                refine ⟨⟨i + 1, by omega, by go_num, HXY, hB2⟩, by simp [intOf]; omega⟩
          · have m3 : ((x.words.length : Int) != (y.words.length : Int)) = true := by rw [bne_iff_ne]; omega
            have HF : Hid _ := HNO.out fun h => hl (by have := congrArg (fun p => p.2.length) h; simpa [Lx.bareL] using this)
            clear hd hl HNO
            go_wp2_with fail
            go_quiet (fail)
            go_wp2
            go_ret
            rw [HF.out]
            exact ⟨rfl, below_drewN hD _⟩
        · have m2 : (x.ind == y.ind) = false := by rw [beq_eq_false_iff_ne]; exact hd
          have HF : Hid _ := HNO.out fun h => hd (congrArg Prod.fst h)
          clear hd HNO
          go_wp2_with fail
          go_quiet (fail)
          go_wp2
          go_ret
          rw [HF.out]
          exact ⟨rfl, below_drewN hD _⟩
      · obtain rfl : i = A.length := by omega
        have i1 : ¬ (A.length : Int) < (A.length : Int) := by omega
        have HE : Hid (A.map Lx.bareL = C.map Lx.bareL) := by
          show _ = _
          have := HT.out
          rwa [List.take_of_length_le (by rw [List.length_map]; omega), List.take_of_length_le (by rw [List.length_map, ← HLE.out]; omega)] at this
        clear HT
        go_wp2
        go_ret
        rw [HEQ.out HE.out]
        exact ⟨rfl, hD⟩
  · have n1 : ((A.length : Int) != (C.length : Int)) = true := by rw [bne_iff_ne]; omega
    have HF : Hid (D = false) := HNE.out fun h => hlen (by simpa using congrArg List.length h)
    clear hlen
    go_wp2
    go_ret
    rw [HF.out]
    exact ⟨rfl, Below.refl _ _⟩

end Go.Proofs.Ytdknggccjhillaa
