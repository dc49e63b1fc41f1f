/-
  THE LANDED Fold AND Print.
-/
import Derived.Test.YtppcfidaalejfaaDZWrit
import Derived.Test.YtppcfidaalejfaaDpC
import Derived.Test.YtppcfidaalejfaaDpFoldT
import Derived.Test.YtppcfidaalejfaaBd
namespace Go.Proofs.Ytppcfidaalejfaa
open Go.RowKit

set_option maxRecDepth 100000 in
theorem mayWord_any (s : ByteArray) (w : World) (hs : s.size ≤ 1099511627) : Calls Try.prog 48 #[.string s] w fun e w' => e = .returned (.bool (Dp.mayW (bs s))) ∧ w' = w := by
  obtain ⟨R, hR⟩ : ∃ R, Dp.mayW (bs s) = R := ⟨_, rfl⟩
  rw [hR]
  have HR : Hid (Dp.mayW (bs s) = R) := hR
  clear hR
  go_enter Try.func48, Try.ntmps48
  go_wp2
  go_loopw [6] (fun i wr => ∃ k : Nat, k ≤ s.size ∧ i = .int .i64 (k : Int) ∧ Hid (((bs s).take k).all (fun c => decide (32 ≤ c)) = true) ∧ wr = w) (fun i _ => s.size - (intOf i).toNat)
  case atStart => exact ⟨0, Nat.zero_le _, rfl, rfl, rfl⟩
  case round =>
    obtain ⟨k, hk, rfl, HA, rfl⟩ := hrel
    by_cases hlt : k < s.size
    · have i1 : (k : Int) < (s.size : Int) := by omega
      have ht : (bs s).take (k + 1) = (bs s).take k ++ [s[k]] := List.take_succ_eq_append_getElem (l := bs s) (by rw [bs_length]; exact hlt)
      have hlow : ((s[k].toNat : Int) < 32) ↔ s[k] < 32 := by
        rw [UInt8.lt_iff_toNat_lt]
        show _ ↔ s[k].toNat < 32
        omega
      by_cases hl : s[k] < 32
      · have l32 := hlow.2 hl
        have HF : Hid (R = false) := by
          show _ = _
          rw [← HR.out]
          have h1 : (bs s).all (fun c => decide (32 ≤ c)) = false := by
            rw [← Bool.not_eq_true, List.all_eq_true]
            intro h
            have := h s[k] (by have : s[k] ∈ (bs s).take (k + 1) := by rw [ht]; simp
                               exact List.mem_of_mem_take this)
            rw [decide_eq_true_eq] at this
            exact UInt8.not_lt.2 this hl
          unfold Dp.mayW
          rw [h1, Bool.and_false]
        clear hl hlow ht
        go_wp2
        go_ret
        rw [HF.out]
        exact ⟨rfl, rfl⟩
      · have l32 : ¬ (s[k].toNat : Int) < 32 := fun h => hl (hlow.1 h)
        have HB : Hid (((bs s).take (k + 1)).all (fun c => decide (32 ≤ c)) = true) := by
          show _ = _
          rw [ht, List.all_append, HA.out]
          simp [UInt8.not_lt.1 hl]
        clear hl hlow ht
        go_wp2
        exact ⟨⟨k + 1, by omega, by go_num, HB, trivial⟩, by simp [intOf]; omega⟩
    · obtain rfl : k = s.size := by omega
      have i1 : ¬ (s.size : Int) < (s.size : Int) := by omega
      have HF : Hid (R = !(s.toList == [])) := by
        show _ = _
        rw [← HR.out]
        have h1 := HA.out
        rw [List.take_of_length_le (by rw [bs_length]; exact Nat.le_refl _)] at h1
        unfold Dp.mayW
        rw [h1, Bool.and_true, ByteArray.toList_eq]
        show decide (bs s ≠ []) = !(bs s == [])
        cases bs s <;> rfl
      cases hq : (s.toList == []) with
      | true =>
        rw [hq] at HF
        go_wp2
        go_ret
        rw [HF.out]
        exact ⟨rfl, rfl⟩
      | false =>
        rw [hq] at HF
        go_wp2
        go_ret
        rw [HF.out]
        exact ⟨rfl, rfl⟩

set_option maxRecDepth 100000 in
set_option maxHeartbeats 2000000 in
theorem mayL_any (w : World) (x1 : List UInt8) (x2 : List (List UInt8)) (ad : Option Addr) (c B : Nat) (hW : BR.Sl w B (.slice ad x2.length c) x2) (hB : B ≤ w.heap.size) (h1 : x1.length ≤ 1000000) (h2 : x2.length ≤ 1000000) (h3 : ∀ d ∈ x2, d.length ≤ 1000000) :
    Calls Try.prog 32 #[.agg #[.string (str x1), .slice ad x2.length c]] w fun e w' => e = .returned (.bool (Dp.may (x1, x2))) ∧ Below w.heap.size w w' := by
  obtain ⟨R, hR⟩ : ∃ R, Dp.may (x1, x2) = R := ⟨_, rfl⟩
  rw [hR]
  have HNO : Hid (∀ j (h : j < x2.length), Dp.mayW x2[j] = false → R = false) := fun j h hm => by
    rw [← hR]
    unfold Dp.may
    have : x2.all Dp.mayW = false := by
      rw [← Bool.not_eq_true, List.all_eq_true]
      intro hall
      rw [hall x2[j] (List.getElem_mem h)] at hm; cases hm
    rw [this, Bool.and_false]
  have HYES : Hid (x2.all Dp.mayW = true → R = Dp.mayW x1) := fun h => by
    rw [← hR]
    unfold Dp.may
    rw [h, Bool.and_true]
  clear hR
  have H3 : Hid _ := h3
  have hm1 := fun W => mayWord_any (str x1) W (by rw [str_size]; omega)
  rw [bs_str] at hm1
  have hq0 := Rw.new w #[.string (str x1), .slice ad x2.length c] 32
  have hb0 := below_alloc1 w (.cells #[.string (str x1), .slice ad x2.length c] 32)
  have hW0 := hW.below hb0 hB
  clear h3 hW
  generalize str x1 = st at *
  go_enter Try.func32, Try.ntmps32
  go_upto_region 1 with fail
  generalize w.alloc (.cells #[.string st, .slice ad x2.length c] 32) = W0 at *
  have k0 : W0.cell? ⟨w.heap.size, 0, none⟩ = some (.string st) := hq0.cell 0
  have k1 : W0.cell? ⟨w.heap.size, 1, none⟩ = some (.slice ad x2.length c) := hq0.cell 1
  go_wp2
  go_loopw [8] (fun k wr => ∃ j : Nat, j ≤ x2.length ∧ k = .int .i64 (j : Int) ∧ Hid ((x2.take j).all Dp.mayW = true) ∧ W0 = wr) (fun k _ => x2.length - (intOf k).toNat)
  case atStart => exact ⟨0, Nat.zero_le _, rfl, rfl, rfl⟩
  case round =>
    obtain ⟨j, hj, rfl, HT, rfl⟩ := hrel
    by_cases hjl : j < x2.length
    · have j1 : (j : Int) < (x2.length : Int) := by omega
      obtain ⟨b2, o2, cc2, e, hb2, r0⟩ := BR.ix hW0 hjl
      simp only [Value.slice.injEq] at e
      obtain ⟨rfl, -, rfl⟩ := e
      have HN := HNO.out j hjl
      have HT2 : Hid (∀ t, Dp.mayW x2[j] = t → (x2.take (j + 1)).all Dp.mayW = t) := fun t ht => by
        rw [List.take_succ_eq_append_getElem hjl, List.all_append, HT.out, Bool.true_and]
        simp [ht]
      have hdl := H3.out x2[j] (List.getElem_mem hjl)
      generalize x2[j] = d at *
      have hm := mayWord_any (str d) W0 (by rw [str_size]; omega)
      rw [bs_str] at hm
      generalize str d = sd at *
      cases hmd : Dp.mayW d with
      | true =>
        rw [hmd] at hm
        have HX : Hid _ := HT2.out true hmd
        clear HN hmd
        go_wp2_with fail
        refine hm.mono ?_
        rintro e w1 ⟨rfl, hw1⟩
        rw [hw1]
        clear hw1 hm
        go_wp2
        exact ⟨⟨j + 1, by omega, by go_num, HX, trivial⟩, by simp [intOf]; omega⟩
      | false =>
        rw [hmd] at hm
        have HF : Hid (R = false) := HN hmd
        clear HN hmd
        go_wp2_with fail
        refine hm.mono ?_
        rintro e w1 ⟨rfl, hw1⟩
        rw [hw1]
        clear hw1 hm
        go_wp2
        go_ret
        rw [HF.out]
        exact ⟨rfl, hb0⟩
    · obtain rfl : j = x2.length := by omega
      have j1 : ¬ (x2.length : Int) < (x2.length : Int) := by omega
      have HF : Hid (R = Dp.mayW x1) := HYES.out (by have := HT.out; rwa [List.take_length] at this)
      have hm := hm1 W0
      clear hm1
      go_wp2_with fail
      refine hm.mono ?_
      rintro e w1 ⟨rfl, hw1⟩
      rw [hw1]
      clear hw1 hm
      go_wp2
      go_ret
      rw [HF.out]
      exact ⟨rfl, hb0⟩

theorem bs_cat (a b : ByteArray) : bs (a ++ b) = bs a ++ bs b := by simp [bs, ByteArray.data_append]
set_option maxRecDepth 100000 in
set_option maxHeartbeats 8000000 in
theorem FoldL_any (wd : Int) (v : Value) (A : List Dp.Rule) (w : World) (B : Nat) (ha : DrS w B v A) (hB : B ≤ w.heap.size) (hV : Dp.vol A ≤ 100000) :
    Calls Try.prog 18 #[.int .i64 wd, v] w fun e w' => e = .returned (.tuple #[.string (str (Dp.printed (some wd) A).1), .int .i64 (Dp.printed (some wd) A).2]) ∧ Below w.heap.size w w' := by
  have hlA := Dp.vol_len A
  have hwl : ∀ x ∈ A, x.1.length ≤ 1000000 ∧ x.2.length ≤ 1000000 ∧ ∀ d ∈ x.2, d.length ≤ 1000000 := fun x hx => by
    have h1 := Dp.vol_mem hx
    have h2 := Dp.sum_len x.2
    exact ⟨by omega, by omega, fun d hd => by have := Dp.sum_mem hd; omega⟩
  obtain ⟨ad, c, rfl, hle⟩ := ha.shape
  have HWL : Hid _ := hwl
  have HPV : Hid ((Dp.print (some wd) A).length ≤ 5000000) := by
    have := Dp.print_vol (some wd) A
    show _ ≤ _
    omega
  have hbA : A.length ≤ 1000000 := by omega
  clear hwl hlA hV
  obtain ⟨P, hP⟩ : ∃ P, Dp.printed (some wd) A = P := ⟨_, rfl⟩
  rw [hP]
  have HNO : Hid (∀ i, i < A.length → Dp.may (A.getD i Dp.noR) = false → P = ([], 2)) := fun i hi h => by
    rw [← hP]
    unfold Dp.printed
    rw [if_neg]
    rw [List.all_eq_true]
    intro hall
    have := hall (A.getD i Dp.noR) (by simp [List.getD, List.getElem?_eq_getElem hi])
    rw [h] at this; cases this
  have HYES : Hid ((A.take A.length).all Dp.may = true → P = (Dp.print (some wd) A, 0)) := fun h => by
    rw [List.take_length] at h
    rw [← hP]
    unfold Dp.printed
    rw [if_pos h]
  clear hP
  obtain ⟨T, hT⟩ : ∃ T, Dp.print (some wd) A = T := ⟨_, rfl⟩
  have HT : Hid _ := hT
  rw [hT] at HPV HYES
  clear hT
  have hBd0 := Bd.new w
  have hb0 := below_alloc1 w (.cells #[.pointer none, .slice none 0 0] 68)
  have hz0 : (w.alloc (.cells #[.pointer none, .slice none 0 0] 68)).heap.size = w.heap.size + 1 := size_alloc _ _
  go_enter Try.func18, Try.ntmps18
  go_wp2
  go_loopw [16] (fun k wr => ∃ (i : Nat) (X : List UInt8), i ≤ A.length ∧ k = .int .i64 (i : Int) ∧ Bd wr w.heap.size w.heap.size X ∧ w.heap.size < wr.heap.size ∧ Hid ((A.take i).all Dp.may = true) ∧ Hid (T = X ++ Dp.print (some wd) (A.drop i)) ∧ Below w.heap.size w wr) (fun k _ => A.length - (intOf k).toNat)
  case atStart => exact ⟨0, [], Nat.zero_le _, rfl, hBd0, by rw [hz0]; omega, rfl, HT.out.symm, hb0⟩
  case round =>
    clear hBd0 hb0 hz0
    obtain ⟨i, X, hi, rfl, hBd, hzr, HM, HX, hBe⟩ := hrel
    by_cases hlt : i < A.length
    · have i1 : (i : Int) < (A.length : Int) := by omega
      have ha1 := ha.below (hBe.mono hB) (Nat.le_refl _)
      obtain ⟨hw1, hw2, hw3⟩ := HWL.out (A.getD i Dp.noR) (by simp [List.getD, List.getElem?_eq_getElem hlt])
      obtain ⟨b, o, c1, ad1, c2, e, hb1, p0, p1, hW⟩ := ha1.at i hlt
      simp only [Value.slice.injEq] at e
      obtain ⟨rfl, -, rfl⟩ := e
      have HD : Hid (Dp.print (some wd) (A.drop i) = Dp.line (some wd) (A.getD i Dp.noR) ++ Dp.print (some wd) (A.drop (i + 1))) := Dp.print_drop (some wd) A i hlt
      have HN1 : Hid _ := HNO.out i hlt
      have HM1 : Hid (Dp.may (A.getD i Dp.noR) = true → (A.take (i + 1)).all Dp.may = true) := fun h => by
        rw [List.take_succ_eq_append_getElem hlt, List.all_append, HM.out]
        have e : A[i] = A.getD i Dp.noR := by simp [List.getD, List.getElem?_eq_getElem hlt]
        show (true && (Dp.may A[i] && true)) = true
        rw [e, h]; rfl
      obtain ⟨x, hx⟩ : ∃ x, A.getD i Dp.noR = x := ⟨_, rfl⟩
      rw [hx] at p0 p1 hW hw1 hw2 hw3 HD HN1 HM1
      clear hx ha1 HM
      obtain ⟨x1, x2⟩ := x
      simp only at hw1 hw2 p0 p1 hW
      have HW3 : Hid (True ∧ True ∧ ∀ d ∈ x2, d.length ≤ 1000000) := ⟨trivial, trivial, hw3⟩
      obtain ⟨R, hR⟩ : ∃ R, Dp.print (some wd) (A.drop (i + 1)) = R := ⟨_, rfl⟩
      have HR : Hid _ := hR
      rw [hR] at HD
      clear hR
      have HX1 : Hid (T = (X ++ Dp.written x1 ++ [58]) ++ (Dp.deps (some wd) ((Dp.written x1).length + 1) x2 ++ [10] ++ R)) := by
        show _ = _
        rw [HX.out, HD.out]
        unfold Dp.line
        simp
      have hxl : X.length + (Dp.written x1).length + 1 ≤ 5000000 := by
        have h1 := congrArg List.length HX1.out
        have h2 := HPV.out
        simp only [List.length_append, List.length_cons, List.length_nil] at h1
        omega
      clear HX HD
      have hq0 := Rw.new wr #[.string (str x1), .slice ad1 x2.length c2] 32
      have hbn := below_alloc1 wr (.cells #[.string (str x1), .slice ad1 x2.length c2] 32)
      have hW1 := hW.below hbn (Nat.le_trans hB hBe.size)
      have hBd1 := hBd.alloc (.cells #[.string (str x1), .slice ad1 x2.length c2] 32)
      have hBe1 := hBe.trans (hbn.mono hBe.size)
      have hz1 : (wr.alloc (.cells #[.string (str x1), .slice ad1 x2.length c2] 32)).heap.size = wr.heap.size + 1 := size_alloc _ _
      have hml := fun W hW' hBB => mayL_any W x1 x2 ad1 c2 B hW' hBB hw1 hw2 hw3
      have hWr := fun W => written_any W (str x1) (by rw [str_size]; omega)
      rw [bs_str] at hWr
      clear hw3 hBd hBe hW hbn
      generalize str x1 = s1 at *
      go_upto_region 5 with fail
      generalize wr.alloc (.cells #[.string s1, .slice ad1 x2.length c2] 32) = W1 at *
      have k0 : W1.cell? ⟨wr.heap.size, 0, none⟩ = some (.string s1) := hq0.cell 0
      have k1 : W1.cell? ⟨wr.heap.size, 1, none⟩ = some (.slice ad1 x2.length c2) := hq0.cell 1
      clear p0 p1
      have hml := hml W1 hW1 (by omega)
      cases hmx : Dp.may (x1, x2) with
      | false =>
        rw [hmx] at hml
        have HF : Hid (P = ([], 2)) := HN1.out hmx
        go_wp2_with fail
        refine hml.mono ?_
        rintro e W2 ⟨rfl, hb2⟩
        have hB2 := hBe1.trans (hb2.mono hBe1.size)
        go_wp2
        go_ret2
        rw [HF.out]
        exact ⟨rfl, hB2⟩
      | true =>
        rw [hmx] at hml
        have HM2 : Hid _ := HM1.out hmx
        go_wp2_with fail
        refine hml.mono ?_
        rintro e W2 ⟨rfl, hb2⟩
        have hq2 := hq0.below hb2 hq0.lt
        have hW2 := hW1.below hb2 (by omega)
        have hBd2 := hBd1.below hb2
        have hB2 := hBe1.trans (hb2.mono hBe1.size)
        have hzz := hb2.size
        have k0' : W2.cell? ⟨wr.heap.size, 0, none⟩ = some (.string s1) := hq2.cell 0
        clear hml hq0 hW1 hBd1 hBe1 hb2 k0 k1
        go_wp2_with fail
        refine (hWr W2).mono ?_
        rintro e W3 ⟨rfl, hb3⟩
        have hq3 := hq2.below hb3 hq2.lt
        have hW3 := hW2.below hb3 (by omega)
        have hBd3 := hBd2.below hb3
        have hB3 := hB2.trans (hb3.mono hB2.size)
        have hzz3 := hb3.size
        clear hWr hq2 hW2 hBd2 hB2 hb3 k0'
        obtain ⟨t1, ht1⟩ : ∃ t1, str (Dp.written x1) = t1 := ⟨_, rfl⟩
        have hbt : bs t1 = Dp.written x1 := by rw [← ht1, bs_str]
        have hts : t1.size = (Dp.written x1).length := by rw [← bs_length, hbt]
        rw [ht1]
        clear ht1
        go_wp2_with fail
        obtain ⟨hd, hhd⟩ : ∃ hd, t1 ++ (⟨#[58]⟩ : ByteArray) = hd := ⟨_, rfl⟩
        have hdb : bs hd = Dp.written x1 ++ [58] := by rw [← hhd, bs_cat, hbt]
        have hds : hd.size = (Dp.written x1).length + 1 := by rw [← bs_length, hdb, List.length_append, List.length_cons, List.length_nil]
        rw [hhd]
        clear hhd hbt hts
        refine (WriteString_any W3 w.heap.size w.heap.size X hd hBd3 (by omega) (by omega) (by omega)).mono ?_
        rintro e W4 ⟨rfl, hBd4, hb4, hok4⟩
        have hq4 : Rw W4 wr.heap.size #[.string s1, .slice ad1 x2.length c2] 32 := hok4 wr.heap.size _ hq3 (by simp; omega) (fun c fz h => by simp only [Obj.cells.injEq] at h; exact absurd h.2.1 (by decide))
        have k1 : W4.cell? ⟨wr.heap.size, 1, none⟩ = some (.slice ad1 x2.length c2) := hq4.cell 1
        have hW4 := hW3.below hb4 hB
        have hB4 := hB3.trans hb4
        have hz4 := hb4.size
        rw [hdb, ← List.append_assoc] at hBd4
        have HX2 : Hid (T = (X ++ Dp.written x1 ++ [58]) ++ (Dp.deps (some wd) ((hd.size : Nat) : Int) x2 ++ [10] ++ R)) := by
          show _ = _
          rw [HX1.out, hds]
          rfl
        have hhl : hd.size ≤ (X ++ Dp.written x1 ++ [58]).length := by rw [hds]; simp only [List.length_append, List.length_cons, List.length_nil]; omega
        clear hBd3 hq3 hW3 hB3 hb4 hok4 hq4 HX1 hdb hds
        generalize X ++ Dp.written x1 ++ [58] = Y0 at *
        have hzw : w.heap.size < W4.heap.size := by omega
        clear hxl hz1 hzz hzz3 hz4
        go_wp2
        go_loopw [10, 34] (fun n k wq => ∃ (j nn : Nat) (Y : List UInt8), j ≤ x2.length ∧ k = .int .i64 (j : Int) ∧ n = .int .i64 (nn : Int) ∧ nn ≤ Y.length ∧ Bd wq w.heap.size w.heap.size Y ∧ w.heap.size < wq.heap.size ∧ BR.Sl wq B (.slice ad1 x2.length c2) x2 ∧ Below w.heap.size w wq ∧ Hid (T = Y ++ (Dp.deps (some wd) (nn : Int) (x2.drop j) ++ [10] ++ R))) (fun _ k _ => x2.length - (intOf k).toNat)
        case atStart => exact ⟨0, hd.size, Y0, Nat.zero_le _, rfl, rfl, hhl, hBd4, hzw, hW4, hB4, HX2⟩
        case round =>
          clear hBd4 hzw hW4 hB4 HX2 hhl k1
          obtain ⟨j, nn, Y, hj, rfl, rfl, hnY, hBq, hzq, hWq, hbq, HY⟩ := hrel
          have hyl : Y.length ≤ 5000000 := by
            have h1 := congrArg List.length HY.out
            have h2 := HPV.out
            simp only [List.length_append] at h1
            omega
          by_cases hjl : j < x2.length
          · have j1 : (j : Int) < (x2.length : Int) := by omega
            obtain ⟨b2, o2, cc2, e, hb2, r0⟩ := BR.ix hWq hjl
            simp only [Value.slice.injEq] at e
            obtain ⟨rfl, -, rfl⟩ := e
            have hd1 := HW3.out.2.2 x2[j] (List.getElem_mem hjl)
            have HY2 : Hid (Dp.deps (some wd) (nn : Int) (x2.drop j) = if wd < (nn : Int) + 1 + (Dp.written x2[j]).length then [32, 92, 10, 32, 32] ++ (Dp.written x2[j] ++ Dp.deps (some wd) (2 + (Dp.written x2[j]).length) (x2.drop (j + 1))) else 32 :: (Dp.written x2[j] ++ Dp.deps (some wd) ((nn : Int) + 1 + (Dp.written x2[j]).length) (x2.drop (j + 1)))) := by
              show _ = _
              rw [List.drop_eq_getElem_cons hjl]
              exact Dp.deps_fold _ _ _ _
            generalize x2[j] = d at *
            have hdl : (Dp.written d).length ≤ 5000000 := by
              have h1 := congrArg List.length HY.out
              have h2 := HPV.out
              rw [HY2.out] at h1
              split at h1 <;> simp only [List.length_append, List.length_cons] at h1 <;> omega
            have hWr := written_any wr (str d) (by rw [str_size]; omega)
            rw [bs_str] at hWr
            generalize str d = sd at *
            go_wp2_with fail
            refine hWr.mono ?_
            rintro e W5 ⟨rfl, hb5⟩
            have hB5 := hBq.below hb5
            have hW5 := hWq.below hb5 (by omega)
            have hbb5 := hbq.trans (hb5.mono (by omega))
            have hz5 := hb5.size
            clear hWr hBq hWq hbq hb5 r0
            obtain ⟨t2, ht2⟩ : ∃ t2, str (Dp.written d) = t2 := ⟨_, rfl⟩
            have hbt : bs t2 = Dp.written d := by rw [← ht2, bs_str]
            have hts : t2.size = (Dp.written d).length := by rw [← bs_length, hbt]
            rw [ht2]
            clear ht2
            go_upto_region 14 with fail
            obtain ⟨sw, hsw⟩ : ∃ sw, (⟨#[32]⟩ : ByteArray) ++ t2 = sw := ⟨_, rfl⟩
            have hswb : bs sw = 32 :: Dp.written d := by rw [← hsw, bs_cat, hbt]; rfl
            have hsws : sw.size = 1 + (Dp.written d).length := by rw [← bs_length, hswb, List.length_cons]; omega
            rw [hsw]
            have hswl : sw.size ≤ 5000001 := by omega
            clear hsw hbt hts
            have hm1 : (nn : Int) + (sw.size : Int) ≤ 9223372036854775807 := by omega
            by_cases hc : wd < (nn : Int) + (sw.size : Int)
            · have hc2 : (nn : Int) + (sw.size : Int) > wd := hc
              have HZ : Hid (T = (Y ++ [32, 92, 10, 32] ++ bs sw) ++ (Dp.deps (some wd) ((1 + sw.size : Nat) : Int) (x2.drop (j + 1)) ++ [10] ++ R)) := by
                show _ = _
                rw [HY.out, HY2.out, if_pos (by omega), hswb, show ((1 + sw.size : Nat) : Int) = 2 + ((Dp.written d).length : Int) by omega]
                simp
              have hyl2 : (Y ++ [32, 92, 10, 32]).length = Y.length + 4 := by rw [List.length_append]; rfl
              have hfin : 1 + sw.size ≤ (Y ++ [32, 92, 10, 32] ++ bs sw).length := by rw [List.length_append, hyl2, bs_length]; omega
              clear HY HY2 hc hswb hsws hdl
              go_wp2_with fail
              refine (WriteString_any W5 w.heap.size w.heap.size Y ⟨#[32, 92, 10, 32]⟩ hB5 (by omega) (by decide) (by omega)).mono ?_
              rintro e W6 ⟨rfl, hB6, hb6, -⟩
              have hB6 : Bd W6 w.heap.size w.heap.size (Y ++ [32, 92, 10, 32]) := hB6
              have hW6 := hW5.below hb6 hB
              have hbb6 := hbb5.trans hb6
              have hz6 := hb6.size
              clear hB5 hW5 hbb5 hb6
              go_wp2_with fail
              refine (WriteString_any W6 w.heap.size w.heap.size _ sw hB6 (by omega) (by omega) (by omega)).mono ?_
              rintro e W7 ⟨rfl, hB7, hb7, -⟩
              have hW7 := hW6.below hb7 hB
              have hbb7 := hbb6.trans hb7
              have hz7 := hb7.size
              clear hB6 hW6 hbb6 hb7
              go_wp2
              exact ⟨⟨j + 1, 1 + sw.size, _, by omega, by go_num, by go_num, hfin, hB7, by omega, hW7, hbb7, HZ⟩, by simp [intOf]; omega⟩
            · have hc2 : ¬ (nn : Int) + (sw.size : Int) > wd := hc
              have HZ : Hid (T = (Y ++ bs sw) ++ (Dp.deps (some wd) ((nn + sw.size : Nat) : Int) (x2.drop (j + 1)) ++ [10] ++ R)) := by
                show _ = _
                rw [HY.out, HY2.out, if_neg (by omega), hswb, show ((nn + sw.size : Nat) : Int) = (nn : Int) + 1 + ((Dp.written d).length : Int) by omega]
                simp
              have hfin : nn + sw.size ≤ (Y ++ bs sw).length := by rw [List.length_append, bs_length]; omega
              clear HY HY2 hc hswb hsws hdl
              go_wp2_with fail
              refine (WriteString_any W5 w.heap.size w.heap.size Y sw hB5 (by omega) (by omega) (by omega)).mono ?_
              rintro e W7 ⟨rfl, hB7, hb7, -⟩
              have hW7 := hW5.below hb7 hB
              have hbb7 := hbb5.trans hb7
              have hz7 := hb7.size
              clear hB5 hW5 hbb5 hb7
              go_wp2
              exact ⟨⟨j + 1, nn + sw.size, _, by omega, by go_num, by go_num, hfin, hB7, by omega, hW7, hbb7, HZ⟩, by simp [intOf]; omega⟩
          · obtain rfl : j = x2.length := by omega
            have j1 : ¬ (x2.length : Int) < (x2.length : Int) := by omega
            have HZ : Hid (T = (Y ++ [10]) ++ Dp.print (some wd) (A.drop (i + 1))) := by
              show _ = _
              rw [HY.out, List.drop_length, HR.out]
              simp [Dp.deps]
            clear HY
            go_wp2_with fail
            refine (WriteByte_any wr w.heap.size w.heap.size Y 10 hBq (by omega) (by omega)).mono ?_
            rintro e W7 ⟨rfl, hB7, hb7, -⟩
            have hbb7 := hbq.trans hb7
            have hz7 := hb7.size
            clear hBq hWq hbq hb7
            go_wp2
            exact ⟨⟨i + 1, _, by omega, by go_num, hB7, by omega, HM2, HZ, hbb7⟩, by simp [intOf]; omega⟩
    · obtain rfl : i = A.length := by omega
      have i1 : ¬ (A.length : Int) < (A.length : Int) := by omega
      have HE : Hid (T = X) := by
        show _ = _
        rw [HX.out, List.drop_length]
        simp [Dp.print]
      have HP2 : Hid (P = (T, 0)) := HYES.out HM.out
      have hst := String_any wr w.heap.size w.heap.size X hBd (by omega)
      clear HX
      go_wp2_with fail
      refine hst.mono ?_
      rintro e W2 ⟨rfl, hb2⟩
      have hB2 := hBe.trans hb2
      go_wp2
      go_ret2
      rw [HP2.out, HE.out]
      exact ⟨rfl, hB2⟩

theorem foldC : FoldC := fun wd v A w B ha hB hV => FoldL_any wd v A w B ha hB hV

namespace Dp
theorem deps_big (wd : Int) : ∀ (r : List B) (n : Int), n + ((deps none n r).length : Nat) ≤ wd → deps (some wd) n r = deps none n r
  | [], _, _ => rfl
  | d :: r, n, h => by
    rw [deps_none] at h ⊢
    simp only [List.length_cons, List.length_append] at h
    have hp := deps_plain r n (n + 1 + (written d).length)
    rw [hp] at h ⊢
    rw [deps_fold, if_neg (by omega), deps_big wd r _ (by omega)]
theorem line_big (wd : Int) (u : Rule) (h : ((line none u).length : Int) ≤ wd) : line (some wd) u = line none u := by
  unfold line at h ⊢
  simp only [List.length_append, List.length_cons, List.length_nil] at h
  rw [deps_big wd u.2 _ (by omega)]
theorem print_big (wd : Int) : ∀ (A : List Rule), ((print none A).length : Int) ≤ wd → print (some wd) A = print none A
  | [], _ => rfl
  | u :: A, h => by
    have e : ∀ f, print f (u :: A) = line f u ++ print f A := fun f => by simp [print]
    rw [e] at h
    rw [e, e]
    rw [List.length_append] at h
    rw [line_big wd u (by omega), print_big wd A (by omega)]
theorem printed_big (A : List Rule) (h : ((print none A).length : Int) ≤ 9223372036854775807) : printed (some 9223372036854775807) A = printed none A := by
  unfold printed
  rw [print_big _ A h]
end Dp

set_option maxRecDepth 100000 in
theorem printC : PrintC := by
  intro v A w B hv hB hV
  have h := FoldL_any 9223372036854775807 v A w B hv hB hV
  rw [Dp.printed_big A (by have := Dp.print_vol none A; omega)] at h
  go_enter Try.func16, Try.ntmps16
  go_wp2_with fail
  refine h.mono ?_
  rintro e w2 ⟨rfl, hb⟩
  go_wp2
  go_ret2
  exact ⟨rfl, hb⟩

end Go.Proofs.Ytppcfidaalejfaa
