/-
  WHAT THE DOCUMENT's May, Written, Right AND Fold DO.
-/
import Derived.Test.YtppcfidaalejfaaDpVol
namespace Go.Proofs.Ytppcfidaalejfaa
open Go.RowKit

set_option maxRecDepth 100000 in
theorem MayD_any (s : ByteArray) (w : World) (hs : s.size ≤ 1099511627) : Calls Try.prog 47 #[.string s] w fun e w' => e = .returned (.bool (Dp.mayW (bs s))) ∧ w' = w := by
  obtain ⟨R, hR⟩ : ∃ R, Dp.mayW (bs s) = R := ⟨_, rfl⟩
  rw [hR]
  have HR : Hid (Dp.mayW (bs s) = R) := hR
  clear hR
  go_enter Try.func47, Try.ntmps47
  go_wp2
  go_loopw [3] (fun i wr => ∃ k : Nat, k ≤ s.size ∧ i = .int .i64 (k : Int) ∧ Hid (((bs s).take k).all (fun c => decide (32 ≤ c)) = true) ∧ wr = w) (fun i _ => s.size - (intOf i).toNat)
  case atStart => exact ⟨0, Nat.zero_le _, rfl, rfl, rfl⟩
  case round =>
    obtain ⟨k, hk, rfl, HA, rfl⟩ := hrel
    by_cases hlt : k < s.size
    · have i1 : (k : Int) < (s.size : Int) := by omega
      have ht : (bs s).take (k + 1) = (bs s).take k ++ [s[k]] := List.take_succ_eq_append_getElem (l := bs s) (by rw [bs_length]; exact hlt)
      have hlow : ((s[k].toNat : Int) < 32) ↔ s[k] < 32 := by
        rw [UInt8.lt_iff_toNat_lt]
        show _ ↔ s[k].toNat < 32
        omega
      by_cases hl : s[k] < 32
      · have l32 := hlow.2 hl
        have HF : Hid (R = false) := by
          show _ = _
          rw [← HR.out]
          have h1 : (bs s).all (fun c => decide (32 ≤ c)) = false := by
            rw [← Bool.not_eq_true, List.all_eq_true]
            intro h
            have := h s[k] (by have : s[k] ∈ (bs s).take (k + 1) := by rw [ht]; simp
                               exact List.mem_of_mem_take this)
            rw [decide_eq_true_eq] at this
            exact UInt8.not_lt.2 this hl
          unfold Dp.mayW
          rw [h1, Bool.and_false]
        clear hl hlow ht
        go_wp2
        go_ret
        rw [HF.out]
        exact ⟨rfl, rfl⟩
      · have l32 : ¬ (s[k].toNat : Int) < 32 := fun h => hl (hlow.1 h)
        have HB : Hid (((bs s).take (k + 1)).all (fun c => decide (32 ≤ c)) = true) := by
          show _ = _
          rw [ht, List.all_append, HA.out]
          simp [UInt8.not_lt.1 hl]
        clear hl hlow ht
        go_wp2
        exact ⟨⟨k + 1, by omega, by go_num, HB, trivial⟩, by simp [intOf]; omega⟩
    · obtain rfl : k = s.size := by omega
      have i1 : ¬ (s.size : Int) < (s.size : Int) := by omega
      have HF : Hid (R = decide (0 < s.size)) := by
        show _ = _
        rw [← HR.out]
        have h1 := HA.out
        rw [List.take_of_length_le (by rw [bs_length]; exact Nat.le_refl _)] at h1
        unfold Dp.mayW
        rw [h1, Bool.and_true, Bool.eq_iff_iff, decide_eq_true_eq, decide_eq_true_eq, ← bs_length]
        exact List.length_pos_iff.symm
      go_wp2
      go_ret
      rw [HF.out]
      exact ⟨rfl, rfl⟩

set_option maxRecDepth 100000 in
set_option maxHeartbeats 2000000 in
theorem WrittenD_any (s : ByteArray) (w : World) (hs : s.size ≤ 1099511627) : Calls Try.prog 31 #[.string s] w fun e w' => e = .returned (.string (str (Dp.written (bs s)))) ∧ Below w.heap.size w w' := by
  go_enter Try.func31, Try.ntmps31
  go_wp2
  go_loopw [3, 4] (fun v i wr => ∃ k : Nat, k ≤ s.size ∧ i = .int .i64 (k : Int) ∧ Own wr w.heap.size v (Dp.written ((bs s).take k)) ∧ Below w.heap.size w wr) (fun _ i _ => s.size - (intOf i).toNat)
  case atStart => exact ⟨0, Nat.zero_le _, rfl, Own.nil _ _, Below.refl _ _⟩
  case round =>
    obtain ⟨k, hk, rfl, hO, hB⟩ := hrel
    by_cases hlt : k < s.size
    · have i1 : (k : Int) < (s.size : Int) := by omega
      have ht : (bs s).take (k + 1) = (bs s).take k ++ [s[k]] := List.take_succ_eq_append_getElem (l := bs s) (by rw [bs_length]; exact hlt)
      have hwl := Dp.written_len ((bs s).take k)
      rw [List.length_take] at hwl
      have HWt : Hid (Dp.written ((bs s).take (k + 1)) = Dp.written ((bs s).take k) ++ (if Dp.esc s[k] then [92, s[k]] else [s[k]])) := by
        show _ = _
        rw [ht, Dp.written_app, Dp.written_cons]
        simp [Dp.written]
      generalize Dp.written ((bs s).take k) = J at *
      have Hl : Hid (J.length ≤ 1099511627800) := by show _ ≤ _; omega
      have Hl2 : Hid ((J ++ [92]).length ≤ 1099511627800) := by show _ ≤ _; rw [List.length_append, List.length_cons, List.length_nil]; omega
      have f32 := beq_lit s[k] 32
      have f58 := beq_lit s[k] 58
      have f92 := beq_lit s[k] 92
      rw [show ((32 : UInt8).toNat : Int) = 32 from rfl] at f32
      rw [show ((58 : UInt8).toNat : Int) = 58 from rfl] at f58
      rw [show ((92 : UInt8).toNat : Int) = 92 from rfl] at f92
      have hbs := hB.size
      clear hwl ht
      by_cases he : Dp.esc s[k] = true
      · have HX : Hid (Dp.written ((bs s).take (k + 1)) = (J ++ [92]) ++ [s[k]]) := by
          show _ = _
          rw [HWt.out, if_pos he]; simp
        have hor : s[k] = 32 ∨ (s[k] ≠ 32 ∧ s[k] = 58) ∨ (s[k] ≠ 32 ∧ s[k] ≠ 58 ∧ s[k] = 92) := by
          unfold Dp.esc at he
          simp only [Bool.or_eq_true, decide_eq_true_eq] at he
          by_cases h1 : s[k] = 32
          · exact .inl h1
          · by_cases h2 : s[k] = 58
            · exact .inr (.inl ⟨h1, h2⟩)
            · exact .inr (.inr ⟨h1, h2, he.resolve_left (by simp [h1, h2])⟩)
        clear he HWt
        rcases hor with h | ⟨h1, h⟩ | ⟨h1, h2, h⟩
        · rw [decide_eq_true h] at f32
          clear h f58 f92
          go_wp2_with (at_builtin; go_must (refine wpList_append_byte wr rfl (.tmp 27) (.tmp 28) rfl w.heap.size _ J _ 92 rfl rfl hO rfl Hl hbs ?_))
          intro v1 w1 h1 h2
          have hbs1 : w.heap.size ≤ w1.heap.size := Nat.le_trans hbs h2.size
          clear hO Hl
          go_wp2_with (at_builtin; go_must (refine wpList_append_byte w1 rfl (.tmp 30) (.tmp 34) rfl w.heap.size _ (J ++ [92]) _ s[k] rfl rfl h1 rfl Hl2 hbs1 ?_))
          intro v2 w2 h3 h4
          go_wp2
          refine ⟨⟨k + 1, by omega, by go_num, ?_, (hB.trans h2).trans h4⟩, by simp [intOf]; omega⟩
          rw [HX.out]; simpa using h3
        · rw [decide_eq_false h1] at f32
          rw [decide_eq_true h] at f58
          clear h h1 f92
          go_wp2_with (at_builtin; go_must (refine wpList_append_byte wr rfl (.tmp 27) (.tmp 28) rfl w.heap.size _ J _ 92 rfl rfl hO rfl Hl hbs ?_))
          intro v1 w1 h1 h2
          have hbs1 : w.heap.size ≤ w1.heap.size := Nat.le_trans hbs h2.size
          clear hO Hl
          go_wp2_with (at_builtin; go_must (refine wpList_append_byte w1 rfl (.tmp 30) (.tmp 34) rfl w.heap.size _ (J ++ [92]) _ s[k] rfl rfl h1 rfl Hl2 hbs1 ?_))
          intro v2 w2 h3 h4
          go_wp2
          refine ⟨⟨k + 1, by omega, by go_num, ?_, (hB.trans h2).trans h4⟩, by simp [intOf]; omega⟩
          rw [HX.out]; simpa using h3
        · rw [decide_eq_false h1] at f32
          rw [decide_eq_false h2] at f58
          rw [decide_eq_true h] at f92
          clear h h1 h2
          go_wp2_with (at_builtin; go_must (refine wpList_append_byte wr rfl (.tmp 27) (.tmp 28) rfl w.heap.size _ J _ 92 rfl rfl hO rfl Hl hbs ?_))
          intro v1 w1 h1 h2
          have hbs1 : w.heap.size ≤ w1.heap.size := Nat.le_trans hbs h2.size
          clear hO Hl
          go_wp2_with (at_builtin; go_must (refine wpList_append_byte w1 rfl (.tmp 30) (.tmp 34) rfl w.heap.size _ (J ++ [92]) _ s[k] rfl rfl h1 rfl Hl2 hbs1 ?_))
          intro v2 w2 h3 h4
          go_wp2
          refine ⟨⟨k + 1, by omega, by go_num, ?_, (hB.trans h2).trans h4⟩, by simp [intOf]; omega⟩
          rw [HX.out]; simpa using h3
      · have HX : Hid (Dp.written ((bs s).take (k + 1)) = J ++ [s[k]]) := by
          show _ = _
          rw [HWt.out, if_neg he]
        rw [Bool.not_eq_true] at he
        unfold Dp.esc at he
        simp only [Bool.or_eq_false_iff, decide_eq_false_iff_not] at he
        obtain ⟨⟨h1, h2⟩, h3⟩ := he
        rw [decide_eq_false h1] at f32
        rw [decide_eq_false h2] at f58
        rw [decide_eq_false h3] at f92
        clear h1 h2 h3 HWt
        go_wp2_with (at_builtin; go_must (refine wpList_append_byte wr rfl (.tmp 30) (.tmp 34) rfl w.heap.size _ J _ s[k] rfl rfl hO rfl Hl hbs ?_))
        intro v1 w1 h1 h2
        go_wp2
        refine ⟨⟨k + 1, by omega, by go_num, ?_, hB.trans h2⟩, by simp [intOf]; omega⟩
        rw [HX.out]; exact h1
    · obtain rfl : k = s.size := by omega
      rw [List.take_of_length_le (by rw [bs_length]; exact Nat.le_refl _)] at hO
      have i1 : ¬ (s.size : Int) < (s.size : Int) := by omega
      have hcv := conv_byts hO.byts
      go_wp2
      go_ret
      exact ⟨rfl, hB⟩


set_option maxRecDepth 100000 in
set_option maxHeartbeats 2000000 in
theorem RightD_any (v : Value) (A : List Dp.Rule) (w : World) (B : Nat) (ha : DrS w B v A) (hAl : A.length ≤ 1099511627) (hwl : ∀ x ∈ A, x.1.length ≤ 1099511627 ∧ x.2.length ≤ 1099511627 ∧ ∀ d ∈ x.2, d.length ≤ 1099511627) :
    Calls Try.prog 30 #[v] w fun e w' => e = .returned (.bool (A.all Dp.may)) ∧ w' = w := by
  obtain ⟨ad, c, rfl, hle⟩ := ha.shape
  have HWL : Hid _ := hwl
  clear hwl
  obtain ⟨D, hDD⟩ : ∃ D, A.all Dp.may = D := ⟨_, rfl⟩
  rw [hDD]
  have HNO : Hid (∀ i, i < A.length → Dp.may (A.getD i Dp.noR) = false → D = false) := fun i hi h => by
    rw [← hDD, ← Bool.not_eq_true, List.all_eq_true]
    intro hall
    have := hall (A.getD i Dp.noR) (by simp [List.getD, List.getElem?_eq_getElem hi])
    rw [h] at this; cases this
  have HYES : Hid ((A.take A.length).all Dp.may = true → D = true) := fun h => by rw [← hDD, ← h, List.take_length]
  clear hDD
  go_enter Try.func30, Try.ntmps30
  go_wp2
  go_loopw [3] (fun k wr => ∃ i : Nat, i ≤ A.length ∧ k = .int .i64 (i : Int) ∧ Hid ((A.take i).all Dp.may = true) ∧ wr = w) (fun k _ => A.length - (intOf k).toNat)
  case atStart => exact ⟨0, Nat.zero_le _, rfl, rfl, rfl⟩
  case round =>
    obtain ⟨i, hi, rfl, HT, rfl⟩ := hrel
    by_cases hlt : i < A.length
    · have i1 : (i : Int) < (A.length : Int) := by omega
      obtain ⟨hw1, hw2, hw3⟩ := HWL.out (A.getD i Dp.noR) (by simp [List.getD, List.getElem?_eq_getElem hlt])
      obtain ⟨b, o, c1, ad1, c2, e, hb1, p0, p1, hW⟩ := ha.at i hlt
      simp only [Value.slice.injEq] at e
      obtain ⟨rfl, -, rfl⟩ := e
      have HN1 : Hid _ := HNO.out i hlt
      have hT1 : (A.take (i + 1)).all Dp.may = ((A.take i).all Dp.may && Dp.may (A.getD i Dp.noR)) := by
        rw [List.take_succ_eq_append_getElem hlt, List.all_append]
        simp [List.getD, List.getElem?_eq_getElem hlt]
      have HT1 : Hid ((A.take (i + 1)).all Dp.may = Dp.may (A.getD i Dp.noR)) := by show _ = _; rw [hT1, HT.out, Bool.true_and]
      obtain ⟨x, hx⟩ : ∃ x, A.getD i Dp.noR = x := ⟨_, rfl⟩
      rw [hx] at p0 p1 hW hw1 hw2 hw3 HN1 HT1
      clear hx hT1
      obtain ⟨x1, x2⟩ := x
      have HW3 : Hid _ := hw3
      have hm := MayD_any (str x1) wr (by rw [str_size]; exact hw1)
      rw [bs_str] at hm
      have HTX : Hid (Dp.may (x1, x2) = (Dp.mayW x1 && x2.all Dp.mayW)) := rfl
      clear hw3
      generalize str x1 = s1 at *
      by_cases hm1 : Dp.mayW x1 = true
      · rw [hm1] at hm HTX
        rw [Bool.true_and] at HTX
        clear hm1
        go_wp2_with fail
        refine hm.mono ?_
        rintro e w1 ⟨rfl, hw1⟩
        rw [hw1]
        clear hw1 hm
        go_wp2
        go_loopw [4] (fun k wq => ∃ j : Nat, j ≤ x2.length ∧ k = .int .i64 (j : Int) ∧ Hid ((x2.take j).all Dp.mayW = true) ∧ wq = wr) (fun k _ => x2.length - (intOf k).toNat)
        case atStart => exact ⟨0, Nat.zero_le _, rfl, rfl, rfl⟩
        case round =>
          obtain ⟨j, hj, rfl, HT2, rfl⟩ := hrel
          by_cases hjl : j < x2.length
          · have j1 : (j : Int) < (x2.length : Int) := by omega
            obtain ⟨b2, o2, cc2, e, -, r0⟩ := BR.ix hW hjl
            simp only [Value.slice.injEq] at e
            obtain ⟨rfl, -, rfl⟩ := e
            have hd := HW3.out x2[j] (List.getElem_mem hjl)
            have HT3 : Hid ((x2.take (j + 1)).all Dp.mayW = Dp.mayW x2[j]) := by
              show _ = _
              rw [List.take_succ_eq_append_getElem hjl, List.all_append, HT2.out]; simp
            have HNX : Hid (Dp.mayW x2[j] = false → x2.all Dp.mayW = false) := fun h => by
              rw [← Bool.not_eq_true, List.all_eq_true]
              intro hall
              rw [hall x2[j] (List.getElem_mem hjl)] at h; cases h
            generalize x2[j] = d at *
            have hm := MayD_any (str d) wr (by rw [str_size]; exact hd)
            rw [bs_str] at hm
            generalize str d = sd at *
            by_cases hm2 : Dp.mayW d = true
            · rw [hm2] at hm HT3
              clear hm2 HNX
              go_wp2_with fail
              refine hm.mono ?_
              rintro e w1 ⟨rfl, hw1⟩
              rw [hw1]
              clear hw1 hm
              go_wp2
              exact ⟨⟨j + 1, by omega, by go_num, HT3, trivial⟩, by simp [intOf]; omega⟩
            · rw [Bool.not_eq_true] at hm2
              have HF : Hid (D = false) := HN1.out (by rw [HTX.out, HNX.out hm2])
              rw [hm2] at hm
              clear hm2 HNX
              go_wp2_with fail
              refine hm.mono ?_
              rintro e w1 ⟨rfl, hw1⟩
              rw [hw1]
              clear hw1 hm
              go_wp2
              go_ret
              rw [HF.out]
              exact ⟨rfl, rfl⟩
          · obtain rfl : j = x2.length := by omega
            have j1 : ¬ (x2.length : Int) < (x2.length : Int) := by omega
            have HT3 : Hid ((A.take (i + 1)).all Dp.may = true) := by
              show _ = _
              have h := HT2.out
              rw [List.take_length] at h
              rw [HT1.out, HTX.out, h]
            clear HT1 HT HT2
            go_wp2
            exact ⟨⟨i + 1, by omega, by go_num, HT3, trivial⟩, by simp [intOf]; omega⟩
      · rw [Bool.not_eq_true] at hm1
        have HF : Hid (D = false) := HN1.out (by rw [HTX.out, hm1, Bool.false_and])
        rw [hm1] at hm
        clear hm1
        go_wp2_with fail
        refine hm.mono ?_
        rintro e w1 ⟨rfl, hw1⟩
        rw [hw1]
        clear hw1 hm
        go_wp2
        go_ret
        rw [HF.out]
        exact ⟨rfl, rfl⟩
    · obtain rfl : i = A.length := by omega
      have i1 : ¬ (A.length : Int) < (A.length : Int) := by omega
      have HE : Hid (D = true) := HYES.out HT.out
      clear HT
      go_wp2
      go_ret
      rw [HE.out]
      exact ⟨rfl, rfl⟩

end Go.Proofs.Ytppcfidaalejfaa
