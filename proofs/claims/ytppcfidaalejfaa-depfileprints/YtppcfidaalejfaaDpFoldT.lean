/-
  WHAT THE DOCUMENT's Fold DOES.
-/
import Derived.Test.YtppcfidaalejfaaDpFold
namespace Go.Proofs.Ytppcfidaalejfaa
open Go.RowKit


set_option maxRecDepth 100000 in
set_option maxHeartbeats 4000000 in
theorem FoldD_any (fold : Option Int) (wd : Int) (hwd : ∀ x, fold = some x → x = wd) (v : Value) (A : List Dp.Rule) (w : World) (B : Nat) (ha : DrS w B v A) (hB : B ≤ w.heap.size) (hV : Dp.vol A ≤ 1000000) :
    Calls Try.prog 17 #[.bool (Dp.pl fold), .int .i64 wd, v] w fun e w' => e = .returned (.tuple #[.string (str (Dp.printed fold A).1), .int .i64 (Dp.printed fold A).2]) ∧ Below w.heap.size w w' := by
  have hlA := Dp.vol_len A
  have hwl : ∀ x ∈ A, x.1.length ≤ 1000000 ∧ x.2.length ≤ 1000000 ∧ ∀ d ∈ x.2, d.length ≤ 1000000 := fun x hx => by
    have h1 := Dp.vol_mem hx
    have h2 := Dp.sum_len x.2
    exact ⟨by omega, by omega, fun d hd => by have := Dp.sum_mem hd; omega⟩
  have hR := RightD_any v A w B ha (by omega) (fun x hx => ⟨by have := (hwl x hx).1; omega, by have := (hwl x hx).2.1; omega, fun d hd => by have := (hwl x hx).2.2 d hd; omega⟩)
  obtain ⟨ad, c, rfl, hle⟩ := ha.shape
  have HWL : Hid _ := hwl
  have HPV : Hid ((Dp.print fold A).length ≤ 5000000) := by
    have := Dp.print_vol fold A
    show _ ≤ _
    omega
  have hbA : A.length ≤ 1000000 := by omega
  clear hwl hlA hV
  obtain ⟨pb, hpb⟩ : ∃ pb, Dp.pl fold = pb := ⟨_, rfl⟩
  rw [hpb]
  have HPB : Hid (∀ r n d, Dp.deps fold n (d :: r) = if pb = false ∧ wd < n + 1 + (Dp.written d).length then [32, 92, 10, 32, 32] ++ (Dp.written d ++ Dp.deps fold (2 + (Dp.written d).length) r) else 32 :: (Dp.written d ++ Dp.deps fold (n + 1 + (Dp.written d).length) r)) := by
    intro r n d
    cases fold with
    | none =>
      rw [← hpb, Dp.deps_none, if_neg (by simp [Dp.pl]), Dp.deps_plain r n (n + 1 + (Dp.written d).length)]
    | some x =>
      have := hwd x rfl
      subst this
      rw [Dp.deps_fold, ← hpb]
      simp [Dp.pl]
  clear hpb hwd
  obtain ⟨P, hP⟩ : ∃ P, Dp.printed fold A = P := ⟨_, rfl⟩
  rw [hP]
  have HP : Hid _ := hP
  clear hP
  cases hall : A.all Dp.may with
  | false =>
    rw [hall] at hR
    have HF : Hid (P = ([], 2)) := by
      show _ = _
      rw [← HP.out]
      unfold Dp.printed
      rw [hall, if_neg (by simp)]
    clear hall
    go_enter Try.func17, Try.ntmps17
    go_wp2_with fail
    refine hR.mono ?_
    rintro e w1 ⟨rfl, hw1⟩
    rw [hw1]
    clear hw1 hR
    go_wp2
    go_ret2
    rw [HF.out]
    exact ⟨rfl, Below.refl _ _⟩
  | true =>
    rw [hall] at hR
    have HF : Hid (P = (Dp.print fold A, 0)) := by
      show _ = _
      rw [← HP.out]
      unfold Dp.printed
      rw [hall, if_pos rfl]
    clear hall HP
    obtain ⟨T, hT⟩ : ∃ T, Dp.print fold A = T := ⟨_, rfl⟩
    have HT : Hid _ := hT
    rw [hT] at HPV HF
    clear hT
    go_enter Try.func17, Try.ntmps17
    go_wp2_with fail
    refine hR.mono ?_
    rintro e w1 ⟨rfl, hw1⟩
    rw [hw1]
    clear hw1 hR
    go_wp2
    go_loopw [8, 9] (fun vb k wr => ∃ (i : Nat) (X : List UInt8), i ≤ A.length ∧ k = .int .i64 (i : Int) ∧ Own wr w.heap.size vb X ∧ Below w.heap.size w wr ∧ Hid (T = X ++ Dp.print fold (A.drop i))) (fun _ k _ => A.length - (intOf k).toNat)
    case atStart => exact ⟨0, [], Nat.zero_le _, rfl, Own.nil _ _, Below.refl _ _, HT.out.symm⟩
    case round =>
      obtain ⟨i, X, hi, rfl, hO, hBe, HX⟩ := hrel
      by_cases hlt : i < A.length
      · have i1 : (i : Int) < (A.length : Int) := by omega
        have ha1 := ha.below (hBe.mono hB) (Nat.le_refl _)
        obtain ⟨hw1, hw2, hw3⟩ := HWL.out (A.getD i Dp.noR) (by simp [List.getD, List.getElem?_eq_getElem hlt])
        obtain ⟨b, o, c1, ad1, c2, e, hb1, p0, p1, hW⟩ := ha1.at i hlt
        simp only [Value.slice.injEq] at e
        obtain ⟨rfl, -, rfl⟩ := e
        have HD : Hid (Dp.print fold (A.drop i) = Dp.line fold (A.getD i Dp.noR) ++ Dp.print fold (A.drop (i + 1))) := Dp.print_drop fold A i hlt
        obtain ⟨x, hx⟩ : ∃ x, A.getD i Dp.noR = x := ⟨_, rfl⟩
        rw [hx] at p0 p1 hW hw1 hw2 hw3 HD
        clear hx ha1
        obtain ⟨x1, x2⟩ := x
        simp only at hw1 hw2
        obtain ⟨va, vc, rfl, hvc, -⟩ := hO.byts
        have HW3 : Hid _ := hw3
        clear hw3
        obtain ⟨R, hR⟩ : ∃ R, Dp.print fold (A.drop (i + 1)) = R := ⟨_, rfl⟩
        have HR : Hid _ := hR
        rw [hR] at HD
        clear hR
        have HX1 : Hid (T = (X ++ Dp.written x1 ++ [58]) ++ (Dp.deps fold ((Dp.written x1).length + 1) x2 ++ [10] ++ R)) := by
          show _ = _
          rw [HX.out, HD.out]
          unfold Dp.line
          simp
        clear HX HD
        have hxl : X.length + (Dp.written x1).length + 1 ≤ 5000000 := by
          have h1 := congrArg List.length HX1.out
          have h2 := HPV.out
          simp only [List.length_append, List.length_cons, List.length_nil] at h1
          omega
        have hWr := WrittenD_any (str x1) wr (by rw [str_size]; omega)
        rw [bs_str] at hWr
        generalize str x1 = s1 at *
        go_wp2_with fail
        refine hWr.mono ?_
        rintro e w1 ⟨rfl, hB1⟩
        have p1 := (hB1.cell (p := ⟨b, o + i * 2 + 1, none⟩) (Nat.lt_of_lt_of_le hb1 (Nat.le_trans hB hBe.size))).trans p1
        have hW := hW.below hB1 (Nat.le_trans hB hBe.size)
        have hO := hO.below hB1 (Nat.le_refl _)
        have hBe := hBe.trans (hB1.mono hBe.size)
        clear hB1 hWr p0
        obtain ⟨t1, ht1⟩ : ∃ t1, str (Dp.written x1) = t1 := ⟨_, rfl⟩
        have hbt : bs t1 = Dp.written x1 := by rw [← ht1, bs_str]
        have hts : t1.size = (Dp.written x1).length := by rw [← bs_length, hbt]
        rw [ht1]
        have HBT : Hid _ := hbt
        have Hl1 : Hid (X.length + t1.size ≤ 1099511627800) := by rw [hts]; show _ ≤ _; omega
        have Hl2 : Hid ((X ++ bs t1).length ≤ 1099511627800) := by rw [hbt]; show _ ≤ _; rw [List.length_append]; omega
        have hbs := hBe.size
        have HF0 : Hid (X.length + (Dp.written x1).length + 1 ≤ 5000000) := hxl
        clear ht1 hbt hts hxl
        go_wp2_with (at_builtin; go_must (refine wpList_append_text rfl (.tmp 24) (.tmp 30) rfl w.heap.size _ X t1 rfl hO rfl Hl1 hbs ?_))
        intro v2 w2 hO2 hB2
        have p1 := (hB2.cell (p := ⟨b, o + i * 2 + 1, none⟩) (Nat.lt_of_lt_of_le hb1 hB)).trans p1
        have hW := hW.below hB2 hB
        have hBe := hBe.trans hB2
        have hbs := hBe.size
        clear hB2 hO Hl1
        go_wp2_with (at_builtin; go_must (refine wpList_append_byte w2 rfl (.tmp 32) (.tmp 33) rfl w.heap.size _ (X ++ bs t1) _ 58 rfl rfl hO2 rfl Hl2 hbs ?_))
        intro v3 w3 hO3 hB3
        have p1 := (hB3.cell (p := ⟨b, o + i * 2 + 1, none⟩) (Nat.lt_of_lt_of_le hb1 hB)).trans p1
        have hW := hW.below hB3 hB
        have hBe := hBe.trans hB3
        have hbs := hBe.size
        rw [HBT.out] at hO3
        clear hB3 hO2 Hl2 HBT
        obtain ⟨F, hF⟩ : ∃ F, X.length = F := ⟨_, rfl⟩
        have HF1 : Hid _ := hF
        rw [hF]
        clear hF
        go_wp2
        go_loopw [8, 10, 11] (fun vb f k wq => ∃ (j Fr : Nat) (Y : List UInt8), j ≤ x2.length ∧ k = .int .i64 (j : Int) ∧ f = .int .i64 (Fr : Int) ∧ Fr ≤ Y.length ∧ Own wq w.heap.size vb Y ∧ Below w.heap.size w wq ∧ wq.cell? ⟨b, o + i * 2 + 1, none⟩ = some (.slice ad1 x2.length c2) ∧ BR.Sl wq B (.slice ad1 x2.length c2) x2 ∧ Hid (T = Y ++ (Dp.deps fold ((Y.length : Int) - Fr) (x2.drop j) ++ [10] ++ R))) (fun _ _ k _ => x2.length - (intOf k).toNat)
        case atStart =>
          refine ⟨0, F, _, Nat.zero_le _, rfl, rfl, ?_, hO3, hBe, p1, hW, ?_⟩
          · rw [← HF1.out]; simp only [List.length_append]; omega
          · show _ = _
            rw [HX1.out, ← HF1.out, List.drop_zero, ← List.append_assoc X]
            have e : (((X ++ Dp.written x1 ++ [58]).length : Int) - (X.length : Int)) = ((Dp.written x1).length : Int) + 1 := by
              simp only [List.length_append, List.length_cons, List.length_nil]; omega
            rw [e]
        case round =>
          obtain ⟨j, Fr, Y, hj, rfl, rfl, hFr, hOY, hBq, q1, hWq, HY⟩ := hrel
          obtain ⟨ya, yc, rfl, hyc, -⟩ := hOY.byts
          have hyl : Y.length ≤ 5000000 := by
            have h1 := congrArg List.length HY.out
            have h2 := HPV.out
            simp only [List.length_append] at h1
            omega
          by_cases hjl : j < x2.length
          · have j1 : (j : Int) < (x2.length : Int) := by omega
            obtain ⟨b2, o2, cc2, e, hb2, r0⟩ := BR.ix hWq hjl
            simp only [Value.slice.injEq] at e
            obtain ⟨rfl, -, rfl⟩ := e
            have hd := HW3.out x2[j] (List.getElem_mem hjl)
            have HY2 : Hid (Dp.deps fold ((Y.length : Int) - Fr) (x2.drop j) = if pb = false ∧ wd < (Y.length : Int) - Fr + 1 + (Dp.written x2[j]).length then [32, 92, 10, 32, 32] ++ (Dp.written x2[j] ++ Dp.deps fold (2 + (Dp.written x2[j]).length) (x2.drop (j + 1))) else 32 :: (Dp.written x2[j] ++ Dp.deps fold ((Y.length : Int) - Fr + 1 + (Dp.written x2[j]).length) (x2.drop (j + 1)))) := by
              show _ = _
              rw [List.drop_eq_getElem_cons hjl]
              exact HPB.out _ _ _
            generalize x2[j] = d at *
            have hWr := WrittenD_any (str d) wr (by rw [str_size]; omega)
            rw [bs_str] at hWr
            have hdl : (Dp.written d).length ≤ 5000000 := by
              have h1 := congrArg List.length HY.out
              have h2 := HPV.out
              rw [HY2.out] at h1
              split at h1 <;> simp only [List.length_append, List.length_cons] at h1 <;> omega
            generalize str d = sd at *
            go_wp2_with fail
            refine hWr.mono ?_
            rintro e w4 ⟨rfl, hB4⟩
            have q1 := (hB4.cell (p := ⟨b, o + i * 2 + 1, none⟩) (Nat.lt_of_lt_of_le hb1 (Nat.le_trans hB hBq.size))).trans q1
            have hWq := hWq.below hB4 (Nat.le_trans hB hBq.size)
            have hOY := hOY.below hB4 (Nat.le_refl _)
            have hBq := hBq.trans (hB4.mono hBq.size)
            clear hB4 hWr r0
            obtain ⟨t1, ht1⟩ : ∃ t1, str (Dp.written d) = t1 := ⟨_, rfl⟩
            have hbt : bs t1 = Dp.written d := by rw [← ht1, bs_str]
            have hts : t1.size = (Dp.written d).length := by rw [← bs_length, hbt]
            rw [ht1]
            have HBT : Hid _ := hbt
            have htl : t1.size ≤ 5000000 := by omega
            have hbs := hBq.size
            rw [← hts] at HY2
            rw [← hbt] at HY2
            clear ht1 hbt hts hdl HBT
            have hlr : ∀ (L : List UInt8) (n : Nat), L.length ≤ 5000000 + n → n ≤ 10 → Hid (L.length ≤ 1099511627800) := fun L n h h2 => by show _ ≤ _; omega
            have PLAIN : ∀ (hc : ¬ (pb = false ∧ wd < (Y.length : Int) - Fr + 1 + t1.size)), Hid (T = (Y ++ [32] ++ bs t1) ++ (Dp.deps fold (((Y ++ [32] ++ bs t1).length : Int) - Fr) (x2.drop (j + 1)) ++ [10] ++ R)) := fun hc => by
              show _ = _
              rw [HY.out, HY2.out, if_neg hc]
              have e : ((Y ++ [32] ++ bs t1).length : Int) - Fr = (Y.length : Int) - Fr + 1 + t1.size := by
                simp only [List.length_append, List.length_cons, List.length_nil, bs_length]; omega
              rw [e]; simp
            have FOLD : ∀ (hc : pb = false ∧ wd < (Y.length : Int) - Fr + 1 + t1.size), Hid (T = (Y ++ [32, 92, 10] ++ [32] ++ [32] ++ bs t1) ++ (Dp.deps fold (((Y ++ [32, 92, 10] ++ [32] ++ [32] ++ bs t1).length : Int) - ((Y ++ [32, 92, 10]).length : Nat)) (x2.drop (j + 1)) ++ [10] ++ R)) := fun hc => by
              show _ = _
              rw [HY.out, HY2.out, if_pos hc]
              have e : ((Y ++ [32, 92, 10] ++ [32] ++ [32] ++ bs t1).length : Int) - ((Y ++ [32, 92, 10]).length : Nat) = 2 + t1.size := by
                simp only [List.length_append, List.length_cons, List.length_nil, bs_length]; omega
              rw [e]; simp
            clear HY HY2
            cases pb with
            | true =>
              have HZ := PLAIN (by simp)
              clear PLAIN FOLD
              have Hl1 : Hid (Y.length ≤ 1099511627800) := hlr Y 0 (by omega) (by omega)
              obtain ⟨Z1, hZ1⟩ : ∃ Z, Y ++ [32] = Z := ⟨_, rfl⟩
              have hz1 : Z1.length = Y.length + 1 := by rw [← hZ1, List.length_append, List.length_cons, List.length_nil]
              rw [hZ1] at HZ
              have HZ1 : Hid _ := hZ1
              clear hZ1
              have Hl2 : Hid (Z1.length + t1.size ≤ 1099511627800) := by show _ ≤ _; omega
              clear hlr
              go_wp2_with (at_builtin; go_must (refine wpList_append_byte w4 rfl (.tmp 75) (.tmp 76) rfl w.heap.size _ Y _ 32 rfl rfl hOY rfl Hl1 hbs ?_))
              intro v5 w5 hO5 hB5
              rw [HZ1.out] at hO5
              have hB6 := hBq.trans hB5
              have hbs5 := hB6.size
              clear hOY Hl1
              go_wp2_with (at_builtin; go_must (refine wpList_append_text rfl (.tmp 78) (.tmp 79) rfl w.heap.size _ Z1 t1 rfl hO5 rfl Hl2 hbs5 ?_))
              intro v6 w6 hO6 hB7
              have q1 := ((hB5.trans hB7).cell (p := ⟨b, o + i * 2 + 1, none⟩) (Nat.lt_of_lt_of_le hb1 hB)).trans q1
              have hWq := hWq.below (hB5.trans hB7) hB
              go_wp2
              exact ⟨⟨j + 1, Fr, _, by omega, by go_num, rfl, by rw [List.length_append]; omega, hO6, hB6.trans hB7, q1, hWq, HZ⟩, by simp [intOf]; omega⟩
            | false =>
              by_cases hc : wd < (Y.length : Int) - Fr + 1 + t1.size
              · have HZ := FOLD ⟨rfl, hc⟩
                have hc2 : (Y.length : Int) - Fr + 1 + t1.size > wd := hc
                clear PLAIN FOLD hc
                have Hl0 : Hid (Y.length + (ByteArray.mk #[32, 92, 10]).size ≤ 1099511627800) := by show _ ≤ _; have : (ByteArray.mk #[32, 92, 10]).size = 3 := rfl; omega
                obtain ⟨Z1, hZ1⟩ : ∃ Z, Y ++ [32, 92, 10] = Z := ⟨_, rfl⟩
                have hz1 : Z1.length = Y.length + 3 := by rw [← hZ1, List.length_append]; rfl
                rw [hZ1] at HZ
                obtain ⟨Z2, hZ2⟩ : ∃ Z, Z1 ++ [32] = Z := ⟨_, rfl⟩
                have hz2 : Z2.length = Y.length + 4 := by rw [← hZ2, List.length_append, hz1]; rfl
                rw [hZ2] at HZ
                obtain ⟨Z3, hZ3⟩ : ∃ Z, Z2 ++ [32] = Z := ⟨_, rfl⟩
                have hz3 : Z3.length = Y.length + 5 := by rw [← hZ3, List.length_append, hz2]; rfl
                rw [hZ3] at HZ
                have HZ1 : Hid _ := hZ1
                have HZ2 : Hid _ := hZ2
                have HZ3 : Hid _ := hZ3
                have Hl1 : Hid (Z1.length ≤ 1099511627800) := hlr _ 3 (by omega) (by omega)
                have Hl2 : Hid (Z2.length ≤ 1099511627800) := hlr _ 4 (by omega) (by omega)
                have Hl3 : Hid (Z3.length + t1.size ≤ 1099511627800) := by show _ ≤ _; omega
                have hz4 : Z1.length ≤ Z3.length := by omega
                have hz5 : Z1.length ≤ 5000003 := by omega
                clear hlr hZ1 hZ2 hZ3 hz1 hz2 hz3
                go_wp2_with (at_builtin; go_must (refine wpList_append_text rfl (.tmp 68) (.const (.string (ByteArray.mk #[32, 92, 10]))) rfl w.heap.size _ Y (ByteArray.mk #[32, 92, 10]) rfl hOY rfl Hl0 hbs ?_))
                intro v5 w5 hO5 hB5
                have hO5 : Own w5 w.heap.size v5 (Y ++ [32, 92, 10]) := hO5
                rw [HZ1.out] at hO5
                have hB6 := hBq.trans hB5
                have hbs5 := hB6.size
                clear hOY Hl0
                obtain ⟨a5, c5, rfl, hc5, -⟩ := hO5.byts
                go_wp2_with (at_builtin; go_must (refine wpList_append_byte w5 rfl (.tmp 72) (.tmp 73) rfl w.heap.size _ Z1 _ 32 rfl rfl hO5 rfl Hl1 hbs5 ?_))
                intro v6 w6 hO6 hB7
                rw [HZ2.out] at hO6
                have hB8 := hB6.trans hB7
                have hbs6 := hB8.size
                clear hO5 Hl1
                go_wp2_with (at_builtin; go_must (refine wpList_append_byte w6 rfl (.tmp 75) (.tmp 76) rfl w.heap.size _ Z2 _ 32 rfl rfl hO6 rfl Hl2 hbs6 ?_))
                intro v7 w7 hO7 hB9
                rw [HZ3.out] at hO7
                have hB10 := hB8.trans hB9
                have hbs7 := hB10.size
                clear hO6 Hl2
                go_wp2_with (at_builtin; go_must (refine wpList_append_text rfl (.tmp 78) (.tmp 79) rfl w.heap.size _ Z3 t1 rfl hO7 rfl Hl3 hbs7 ?_))
                intro v8 w8 hO8 hB11
                have hBB := ((hB5.trans hB7).trans hB9).trans hB11
                have q1 := (hBB.cell (p := ⟨b, o + i * 2 + 1, none⟩) (Nat.lt_of_lt_of_le hb1 hB)).trans q1
                have hWq := hWq.below hBB hB
                go_wp2
                exact ⟨⟨j + 1, Z1.length, _, by omega, by go_num, rfl, by rw [List.length_append]; omega, hO8, hB10.trans hB11, q1, hWq, HZ⟩, by simp [intOf]; omega⟩
              · have HZ := PLAIN (by simp [hc])
                have hc2 : ¬ (Y.length : Int) - Fr + 1 + t1.size > wd := hc
                clear PLAIN FOLD hc
                have Hl1 : Hid (Y.length ≤ 1099511627800) := hlr Y 0 (by omega) (by omega)
                obtain ⟨Z1, hZ1⟩ : ∃ Z, Y ++ [32] = Z := ⟨_, rfl⟩
                have hz1 : Z1.length = Y.length + 1 := by rw [← hZ1, List.length_append, List.length_cons, List.length_nil]
                rw [hZ1] at HZ
                have HZ1 : Hid _ := hZ1
                clear hZ1
                have Hl2 : Hid (Z1.length + t1.size ≤ 1099511627800) := by show _ ≤ _; omega
                clear hlr
                go_wp2_with (at_builtin; go_must (refine wpList_append_byte w4 rfl (.tmp 75) (.tmp 76) rfl w.heap.size _ Y _ 32 rfl rfl hOY rfl Hl1 hbs ?_))
                intro v5 w5 hO5 hB5
                rw [HZ1.out] at hO5
                have hB6 := hBq.trans hB5
                have hbs5 := hB6.size
                clear hOY Hl1
                go_wp2_with (at_builtin; go_must (refine wpList_append_text rfl (.tmp 78) (.tmp 79) rfl w.heap.size _ Z1 t1 rfl hO5 rfl Hl2 hbs5 ?_))
                intro v6 w6 hO6 hB7
                have q1 := ((hB5.trans hB7).cell (p := ⟨b, o + i * 2 + 1, none⟩) (Nat.lt_of_lt_of_le hb1 hB)).trans q1
                have hWq := hWq.below (hB5.trans hB7) hB
                go_wp2
                exact ⟨⟨j + 1, Fr, _, by omega, by go_num, rfl, by rw [List.length_append]; omega, hO6, hB6.trans hB7, q1, hWq, HZ⟩, by simp [intOf]; omega⟩
          · obtain rfl : j = x2.length := by omega
            have j1 : ¬ (x2.length : Int) < (x2.length : Int) := by omega
            have HZ : Hid (T = (Y ++ [10]) ++ R) := by
              show _ = _
              rw [HY.out, List.drop_length]
              simp [Dp.deps]
            have Hl1 : Hid (Y.length ≤ 1099511627800) := by show _ ≤ _; omega
            have hbs := hBq.size
            clear HY
            go_wp2_with (at_builtin; go_must (refine wpList_append_byte wr rfl (.tmp 81) (.tmp 82) rfl w.heap.size _ Y _ 10 rfl rfl hOY rfl Hl1 hbs ?_))
            intro v5 w5 hO5 hB5
            rw [← HR.out] at HZ
            go_wp2
            exact ⟨⟨i + 1, _, by omega, by go_num, hO5, hBq.trans hB5, HZ⟩, by simp [intOf]; omega⟩
      · obtain rfl : i = A.length := by omega
        have i1 : ¬ (A.length : Int) < (A.length : Int) := by omega
        have hcv := conv_byts hO.byts
        have HE : Hid (T = X) := by
          show _ = _
          rw [HX.out, List.drop_length]
          simp [Dp.print]
        clear HX
        go_wp2
        go_ret2
        rw [HF.out, HE.out]
        exact ⟨rfl, hBe⟩

end Go.Proofs.Ytppcfidaalejfaa
