/-
  WHAT written AND Write DO.
-/
import Derived.Test.YthpipbkbldlfjaaZText
import Derived.Test.YthpipbkbldlfjaaZLog
namespace Go.Proofs.Ythpipbkbldlfjaa
open Go.RowKit

set_option maxRecDepth 100000 in
theorem written_any (u : Lx.V) (w : World) (hu : u.text.length ≤ 1099511) : Calls Try.prog 67 #[wdV u] w fun e w' => e = .returned (.string (str (Lx.vtext u))) ∧ Below w.heap.size w w' := by
  have HVT : Hid (Lx.vtext u = if u.mark = true then u.text else if u.quoted = true then Lx.quote u.text else Lx.show_ u.text) := rfl
  generalize Lx.vtext u = VT at *
  obtain ⟨ut, ul, uc, uq, um⟩ := u
  simp only at HVT hu
  have hsz : (str ut).size ≤ 1099511 := by rw [str_size]; exact hu
  have hB := (Below.refl w.heap.size w).alloc (Nat.le_refl _) (.cells #[.string (str ut), .int .i64 ul, .int .i64 uc, .bool uq, .bool um] 36)
  unfold wdV
  go_enter Try.func67, Try.ntmps67
  cases um with
  | true =>
    rw [if_pos rfl] at HVT
    go_wp2
    go_ret
    rw [HVT.out]
    exact ⟨rfl, hB⟩
  | false =>
    rw [if_neg (by simp)] at HVT
    cases uq with
    | true =>
      rw [if_pos rfl] at HVT
      go_wp2_with fail
      refine (Quote_any (str ut) _ hsz).mono ?_
      rintro e w3 ⟨rfl, hb3⟩
      go_wp2
      go_ret
      rw [HVT.out, bs_str]
      exact ⟨rfl, hB.trans (hb3.mono hB.size)⟩
    | false =>
      rw [if_neg (by simp)] at HVT
      go_wp2_with fail
      refine (Show_any (str ut) _ hsz).mono ?_
      rintro e w3 ⟨rfl, hb3⟩
      go_wp2
      go_ret
      rw [HVT.out, bs_str]
      exact ⟨rfl, hB.trans (hb3.mono hB.size)⟩

theorem LBk.others {w w' : World} {g b : Nat} {num : Int} {ind : Bool} {v : Value} (h : LBk w g num ind v) (ho : Lib.OthersKept 5 (some b) w w') (hne : g ≠ b) : LBk w' g num ind v :=
  ho g _ h (by simpa using hne) (by intro c fz e; simp only [Obj.cells.injEq] at e; exact absurd e.2.1 (by decide))
theorem WAt.others {w w' : World} {g b : Nat} {v : Lx.V} (h : WAt w g v) (ho : Lib.OthersKept 5 (some b) w w') (hne : g ≠ b) : WAt w' g v :=
  ho g _ h (by simpa using hne) (by intro c fz e; simp only [Obj.cells.injEq] at e; exact absurd e.2.1 (by decide))

set_option maxRecDepth 100000 in
set_option maxHeartbeats 4000000 in
theorem Write_any (v : Value) (L : List Lx.L) (w : World) (B : Nat) (h : LnsS w B v L) (hBw : B ≤ w.heap.size) (htot : (Lx.vwrite L).length ≤ 1099511627) (hLl : L.length ≤ 1099511627) (hwl : ∀ x ∈ L, x.words.length ≤ 1099511627) (htx : ∀ x ∈ L, ∀ u ∈ x.words, u.text.length ≤ 1099511) :
    Calls Try.prog 39 #[v] w fun e w' => e = .returned (.string (str (Lx.vwrite L))) ∧ Below w.heap.size w w' := by
  obtain ⟨ad, c, rfl, hle⟩ := h.shape
  have HW : Hid (Lx.vwrite L = [] ++ Lx.vwrite (L.drop 0)) := rfl
  obtain ⟨TT, hTT⟩ : ∃ T, Lx.vwrite L = T := ⟨_, rfl⟩
  rw [hTT] at HW htot ⊢
  clear hTT
  have HWL : Hid _ := hwl
  have HTX : Hid _ := htx
  clear hwl htx
  have hb0 := Bd.new w
  have hB0 := (Below.refl w.heap.size w).alloc (Nat.le_refl _) (.cells #[.pointer none, .slice none 0 0] 92)
  go_enter Try.func39, Try.ntmps39
  go_wp2
  go_loopw [10] (fun k wr => ∃ (i : Nat) (X : List UInt8), i ≤ L.length ∧ k = .int .i64 (i : Int) ∧ Bd wr w.heap.size w.heap.size X ∧ Hid (TT = X ++ Lx.vwrite (L.drop i)) ∧ Below w.heap.size w wr ∧ w.heap.size < wr.heap.size) (fun k _ => L.length - (intOf k).toNat)
  case atStart => exact ⟨0, [], Nat.zero_le _, rfl, hb0, HW, hB0, by show _ < (w.heap.push _).size; rw [Array.size_push]; omega⟩
  case round =>
    clear hb0 hB0 HW
    obtain ⟨i, X, hi, rfl, hb, HX, hB, hz⟩ := hrel
    by_cases hlt : i < L.length
    · have i1 : (i : Int) < (L.length : Int) := by omega
      have hd := Lx.ldrop hlt
      have hwl := HWL.out (L.getD i Lx.noL) (by simp [List.getD, List.getElem?_eq_getElem hlt])
      have HTX2 : Hid _ := HTX.out (L.getD i Lx.noL) (by simp [List.getD, List.getElem?_eq_getElem hlt])
      obtain ⟨bk, o, c', ad2, c2, e, hbk, p0w, p1w, p2w, hWS⟩ := h.at i hlt
      simp only [Value.slice.injEq] at e
      obtain ⟨rfl, -, rfl⟩ := e
      have hbw : bk < w.heap.size := Nat.lt_of_lt_of_le hbk hBw
      have p0 := (hB.cell (p := ⟨bk, o + i * 3, none⟩) hbw).trans p0w
      have p1 := (hB.cell (p := ⟨bk, o + i * 3 + 1, none⟩) hbw).trans p1w
      have p2 := (hB.cell (p := ⟨bk, o + i * 3 + 2, none⟩) hbw).trans p2w
      clear p0w p1w p2w
      have HX2 : Hid (TT = X ++ ((if (L.getD i Lx.noL).ind = true then [9] else []) ++ (Lx.wrest true (L.getD i Lx.noL).words ++ [10] ++ Lx.vwrite (L.drop (i + 1))))) := by
        show _ = _
        rw [HX.out, hd]
        simp [Lx.vwrite, Lx.vline]
      have hlX : X.length ≤ 1099511627 := by
        have := congrArg List.length HX.out
        rw [List.length_append] at this
        omega
      clear hd HX
      obtain ⟨x, hx⟩ : ∃ x, L.getD i Lx.noL = x := ⟨_, rfl⟩
      rw [hx] at hwl HTX2 p0 p1 p2 HX2 hWS
      clear hx
      obtain ⟨TL, hTL⟩ : ∃ TL, [10] ++ Lx.vwrite (L.drop (i + 1)) = TL := ⟨_, rfl⟩
      have HTL : Hid _ := hTL
      rw [List.append_assoc (Lx.wrest true x.words), hTL] at HX2
      clear hTL
      obtain ⟨xn, xi, xw⟩ := x
      simp only at hwl HTX2 p0 p1 p2 HX2 hWS
      have HWS : Hid (∀ W, Below w.heap.size w W → WdR.Sl W B (.slice ad2 xw.length c2) xw) := fun W hW => hWS.below hW hBw
      clear hWS
      have hb1 := hb.alloc (.cells #[.int .i64 xn, .bool xi, .slice ad2 xw.length c2] 48)
      have hB1 := hB.alloc hB.size (.cells #[.int .i64 xn, .bool xi, .slice ad2 xw.length c2] 48)
      have hx1 : LBk (wr.alloc (.cells #[.int .i64 xn, .bool xi, .slice ad2 xw.length c2] 48)) wr.heap.size xn xi (.slice ad2 xw.length c2) := heap_alloc_new wr _
      go_upto_if 15 with fail
      clear p0 p1 p2 hb hB
      generalize wr.alloc (.cells #[.int .i64 xn, .bool xi, .slice ad2 xw.length c2] 48) = W1 at *
      generalize wr.heap.size = gx at *
      go_cut [16] (fun _ W => ∃ Y, Bd W w.heap.size w.heap.size Y ∧ Hid (TT = Y ++ (Lx.wrest true xw ++ TL)) ∧ Below w.heap.size w W ∧ LBk W gx xn xi (.slice ad2 xw.length c2))
      case first =>
        cases xi with
        | true =>
          rw [if_pos rfl] at HX2
          have HX3 : Hid (TT = (X ++ [9]) ++ (Lx.wrest true xw ++ TL)) := by
            show _ = _
            rw [HX2.out, List.append_assoc]
          clear HX2
          go_wp2_with fail
          refine (WriteByte_any _ w.heap.size w.heap.size _ 9 hb1 hlX hB1.size).mono ?_
          rintro e w3 ⟨rfl, hb3, hB4, ho⟩
          go_wp2
          go_meet
          case rel => exact ⟨_, hb3, HX3, hB1.trans hB4, hx1.others ho (by omega)⟩
        | false =>
          rw [if_neg (by simp), List.nil_append] at HX2
          go_wp2
          go_meet
          case rel => exact ⟨X, hb1, HX2, hB1, hx1⟩
      case rest =>
        obtain ⟨Y, hbY, HY, hBY, hxY⟩ := hcut
        clear hb1 HX2 hB1 hlX hx1
        obtain ⟨x0, x1, x2⟩ := hxY.cells
        go_wp2
        clear x0 x1 x2
        go_loopw [20] (fun k wr => ∃ (kk : Nat) (Z : List UInt8), kk ≤ xw.length ∧ k = .int .i64 (kk : Int) ∧ Bd wr w.heap.size w.heap.size Z ∧ Hid (TT = Z ++ (Lx.wrest (decide (kk = 0)) (xw.drop kk) ++ TL)) ∧ Below w.heap.size w wr ∧ w.heap.size < wr.heap.size) (fun k _ => xw.length - (intOf k).toNat)
        case atStart => exact ⟨0, Y, Nat.zero_le _, rfl, hbY, HY, hBY, by have := hxY.lt; omega⟩
        case round =>
          clear hbY HY hBY hxY
          obtain ⟨kk, Z, hkk, rfl, hbZ, HZ, hBZ, hz2⟩ := hrel
          have hlZ : Z.length ≤ 1099511627 := by
            have := congrArg List.length HZ.out
            rw [List.length_append] at this
            omega
          have hW := HWS.out _ hBZ
          by_cases hkl : kk < xw.length
          · have i2 : (kk : Int) < (xw.length : Int) := by omega
            have hd := Lx.vdrop hkl
            have hul := HTX2.out (xw.getD kk Lx.noV) (by simp [List.getD, List.getElem?_eq_getElem hkl])
            obtain ⟨b2, o2, cc2, e, hb2, q0, q1, q2, q3, q4⟩ := WdR.at hW kk hkl
            simp only [Value.slice.injEq] at e
            obtain ⟨rfl, -, rfl⟩ := e
            obtain ⟨u, hu⟩ : ∃ u, xw.getD kk Lx.noV = u := ⟨_, rfl⟩
            rw [hu] at hd hul q0 q1 q2 q3 q4
            clear hu
            rw [hd, Lx.wrest] at HZ
            clear hd hW
            obtain ⟨ut, ul, uc, uq, um⟩ := u
            simp only at q0 q1 q2 q3 q4 hul
            have hb3 := hbZ.alloc (.cells #[.string (str ut), .int .i64 ul, .int .i64 uc, .bool uq, .bool um] 36)
            have hB3 := hBZ.alloc hBZ.size (.cells #[.string (str ut), .int .i64 ul, .int .i64 uc, .bool uq, .bool um] 36)
            have hw3 : WAt (wr.alloc (.cells #[.string (str ut), .int .i64 ul, .int .i64 uc, .bool uq, .bool um] 36)) wr.heap.size ⟨ut, ul, uc, uq, um⟩ := heap_alloc_new wr _
            go_upto_if 26 with fail
            clear q0 q1 q2 q3 q4 hbZ hBZ
            generalize wr.alloc (.cells #[.string (str ut), .int .i64 ul, .int .i64 uc, .bool uq, .bool um] 36) = W3 at *
            generalize wr.heap.size = gw at *
            go_cut [27] (fun _ W => ∃ Y, Bd W w.heap.size w.heap.size Y ∧ Hid (TT = Y ++ (Lx.vtext ⟨ut, ul, uc, uq, um⟩ ++ (Lx.wrest false (xw.drop (kk + 1)) ++ TL))) ∧ Below w.heap.size w W ∧ WAt W gw ⟨ut, ul, uc, uq, um⟩)
            case first =>
              by_cases hk0 : kk = 0
              · subst hk0
                have HZ3 : Hid (TT = Z ++ (Lx.vtext ⟨ut, ul, uc, uq, um⟩ ++ (Lx.wrest false (xw.drop (0 + 1)) ++ TL))) := by
                  show _ = _
                  rw [HZ.out]; simp
                clear HZ
                go_wp2
                go_meet
                case rel => exact ⟨Z, hb3, HZ3, hB3, hw3⟩
              · have HZ3 : Hid (TT = (Z ++ [32]) ++ (Lx.vtext ⟨ut, ul, uc, uq, um⟩ ++ (Lx.wrest false (xw.drop (kk + 1)) ++ TL))) := by
                  show _ = _
                  rw [HZ.out, if_neg (by simpa using hk0)]; simp
                have i3 : (0 : Int) < (kk : Int) := by omega
                clear HZ hk0
                go_wp2_with fail
                refine (WriteByte_any _ w.heap.size w.heap.size _ 32 hb3 hlZ hB3.size).mono ?_
                rintro e w4 ⟨rfl, hb4, hB4, ho⟩
                go_wp2
                go_meet
                case rel => exact ⟨_, hb4, HZ3, hB3.trans hB4, hw3.others ho (by omega)⟩
            case rest =>
              obtain ⟨Z2, hbZ2, HZ2, hBZ2, hwZ2⟩ := hcut
              clear hb3 HZ hB3 hlZ hw3
              obtain ⟨y0, y1, y2, y3, y4⟩ := hwZ2.cells
              simp only at y0 y1 y2 y3 y4
              have HF : Hid (TT = (Z2 ++ Lx.vtext ⟨ut, ul, uc, uq, um⟩) ++ (Lx.wrest false (xw.drop (kk + 1)) ++ TL)) := by
                show _ = _
                rw [HZ2.out, List.append_assoc]
              clear HZ2
              have hlv : Z2.length + (Lx.vtext ⟨ut, ul, uc, uq, um⟩).length ≤ 1099511627 := by
                have := congrArg List.length HF.out
                rw [List.length_append, List.length_append] at this
                omega
              have hwr := written_any ⟨ut, ul, uc, uq, um⟩ wc hul
              obtain ⟨VT, hVT⟩ : ∃ VT, Lx.vtext ⟨ut, ul, uc, uq, um⟩ = VT := ⟨_, rfl⟩
              rw [hVT] at hwr HF hlv
              clear hVT
              unfold wdV at hwr
              simp only at hwr
              go_wp2_with fail
              refine hwr.mono ?_
              rintro e w5 ⟨rfl, hB5⟩
              have hb5 := hbZ2.below hB5
              have hB6 := hBZ2.trans (hB5.mono hBZ2.size)
              have hz5 : w.heap.size < w5.heap.size := Nat.lt_of_lt_of_le (Nat.lt_of_le_of_lt (by omega) hwZ2.lt) hB5.size
              clear hbZ2 hBZ2 hwZ2 y0 y1 y2 y3 y4 hB5 hwr
              go_wp2_with fail
              refine (WriteString_any _ w.heap.size w.heap.size _ _ hb5 (by omega) (by rw [str_size]; omega) hB6.size).mono ?_
              rintro e w6 ⟨rfl, hb6, hB7, -⟩
              rw [bs_str] at hb6
              have hz6 : w.heap.size < w6.heap.size := Nat.lt_of_lt_of_le hz5 hB7.size
              go_wp2
              exact ⟨⟨kk + 1, _, by omega, by go_num, hb6, HF, hB6.trans hB7, hz6⟩, by simp [intOf]; omega⟩
          · obtain rfl : kk = xw.length := by omega
            have i2 : ¬ (xw.length : Int) < (xw.length : Int) := by omega
            have HZ3 : Hid (TT = (Z ++ [10]) ++ Lx.vwrite (L.drop (i + 1))) := by
              show _ = _
              rw [HZ.out, List.drop_length, Lx.wrest, List.nil_append, ← HTL.out, List.append_assoc]
            clear HZ hW
            go_wp2_with fail
            refine (WriteByte_any _ w.heap.size w.heap.size _ 10 hbZ hlZ hBZ.size).mono ?_
            rintro e w4 ⟨rfl, hb4, hB4, -⟩
            have hz4 : w.heap.size < w4.heap.size := Nat.lt_of_lt_of_le hz2 hB4.size
            go_wp2
            exact ⟨⟨i + 1, _, by omega, by go_num, hb4, HZ3, hBZ.trans hB4, hz4⟩, by simp [intOf]; omega⟩
    · obtain rfl : i = L.length := by omega
      have i1 : ¬ (L.length : Int) < (L.length : Int) := by omega
      have HE : Hid (TT = X) := by
        show _ = _
        rw [HX.out, List.drop_length]; simp [Lx.vwrite]
      clear HX
      go_wp2_with fail
      refine (String_any _ w.heap.size w.heap.size _ hb hB.size).mono ?_
      rintro e w4 ⟨rfl, hB4⟩
      go_wp2
      go_ret
      rw [HE.out]
      exact ⟨rfl, hB.trans hB4⟩

end Go.Proofs.Ythpipbkbldlfjaa
