/-
  WHAT THE DOCUMENT's Write DOES, of any lines.
-/
import Derived.Test.YthpipbkbldlfjaaYRow
namespace Go.Proofs.Ythpipbkbldlfjaa
open Go.RowKit

def Lx.vtext (v : Lx.V) : List UInt8 := if v.mark = true then v.text else if v.quoted = true then Lx.quote v.text else Lx.show_ v.text
/-- the words from a place on, a blank ahead of each but the line's first -/
def Lx.wrest : Bool → List Lx.V → List UInt8
  | _, [] => []
  | first, v :: r => (if first = true then [] else [32]) ++ (Lx.vtext v ++ Lx.wrest false r)
def Lx.vline (l : Lx.L) : List UInt8 := (if l.ind = true then [9] else []) ++ (Lx.wrest true l.words ++ [10])
def Lx.vwrite (L : List Lx.L) : List UInt8 := L.flatMap Lx.vline
theorem Lx.wrest_one (b : Bool) (ws : List Lx.V) (hb : b = true ∨ ws = []) : Lx.wrest b ws = Lx.inter (ws.map Lx.vtext) := by
  cases ws with
  | nil => simp [Lx.wrest, Lx.inter]
  | cons v r =>
    rcases hb with rfl | hb
    · rw [Lx.wrest, if_pos rfl, List.nil_append]
      induction r generalizing v with
      | nil => simp [Lx.wrest, Lx.inter]
      | cons u r ih =>
        rw [Lx.wrest, if_neg (by simp), ih u]
        simp [Lx.inter, List.intercalate]
    · cases hb
theorem bs_str (l : List UInt8) : bs (str l) = l := str_toList l
def Lx.noV : Lx.V := ⟨[], 0, 0, false, false⟩
theorem Lx.vdrop {l : List Lx.V} {k : Nat} (h : k < l.length) : l.drop k = l.getD k Lx.noV :: l.drop (k + 1) := by
  rw [List.drop_eq_getElem_cons h]
  simp [List.getD, List.getElem?_eq_getElem h]
theorem Lx.ldrop {l : List Lx.L} {k : Nat} (h : k < l.length) : l.drop k = l.getD k Lx.noL :: l.drop (k + 1) := by
  rw [List.drop_eq_getElem_cons h]
  simp [List.getD, List.getElem?_eq_getElem h]
theorem WdR.at {w : World} {B : Nat} {v : Value} {l : List Lx.V} (h : WdR.Sl w B v l) (j : Nat) (hj : j < l.length) :
    ∃ b o c, v = .slice (some ⟨b, o, none⟩) l.length c ∧ b < B ∧ w.cell? ⟨b, o + j * 5, none⟩ = some (.string (str (l.getD j Lx.noV).text)) ∧ w.cell? ⟨b, o + j * 5 + 1, none⟩ = some (.int .i64 (l.getD j Lx.noV).line) ∧ w.cell? ⟨b, o + j * 5 + 2, none⟩ = some (.int .i64 (l.getD j Lx.noV).col) ∧ w.cell? ⟨b, o + j * 5 + 3, none⟩ = some (.bool (l.getD j Lx.noV).quoted) ∧ w.cell? ⟨b, o + j * 5 + 4, none⟩ = some (.bool (l.getD j Lx.noV).mark) := by
  obtain ⟨b, o, c, rfl, hb, hc⟩ := h.cells j hj
  have e : l.getD j Lx.noV = l[j] := by simp [List.getD, List.getElem?_eq_getElem hj]
  rw [e]
  exact ⟨b, o, c, rfl, hb, hc 0 _ (by decide) rfl, hc 1 _ (by decide) rfl, hc 2 _ (by decide) rfl, hc 3 _ (by decide) rfl, hc 4 _ (by decide) rfl⟩

set_option maxRecDepth 100000 in
set_option maxHeartbeats 4000000 in
theorem WriteT_any (v : Value) (L : List Lx.L) (w : World) (B : Nat) (h : LnsS w B v L) (hBw : B ≤ w.heap.size) (htot : (Lx.vwrite L).length ≤ 1099511627) (hLl : L.length ≤ 1099511627) (hwl : ∀ x ∈ L, x.words.length ≤ 1099511627) (htx : ∀ x ∈ L, ∀ u ∈ x.words, u.text.length ≤ 1099511) :
    Calls Try.prog 40 #[v] w fun e w' => e = .returned (.string (str (Lx.vwrite L))) ∧ Below w.heap.size w w' := by
  obtain ⟨ad, c, rfl, hle⟩ := h.shape
  have HW : Hid (Lx.vwrite L = [] ++ Lx.vwrite (L.drop 0)) := rfl
  obtain ⟨TT, hTT⟩ : ∃ T, Lx.vwrite L = T := ⟨_, rfl⟩
  rw [hTT] at HW htot ⊢
  clear hTT
  have HWL : Hid _ := hwl
  have HTX : Hid _ := htx
  clear hwl htx
  go_enter Try.func40, Try.ntmps40
  go_wp2
  go_loopw [3, 4] (fun s k wr => ∃ (i : Nat) (X : List UInt8), i ≤ L.length ∧ k = .int .i64 (i : Int) ∧ Own wr w.heap.size s X ∧ Hid (TT = X ++ Lx.vwrite (L.drop i)) ∧ Below w.heap.size w wr) (fun _ k _ => L.length - (intOf k).toNat)
  case atStart => exact ⟨0, [], Nat.zero_le _, rfl, Own.nil _ _, HW, Below.refl _ _⟩
  case round =>
    obtain ⟨i, X, hi, rfl, hO, HX, hB⟩ := hrel
    clear HW
    have hs := h.below hB hBw
    by_cases hlt : i < L.length
    · have i1 : (i : Int) < (L.length : Int) := by omega
      have hd := Lx.ldrop hlt
      have hwl := HWL.out (L.getD i Lx.noL) (by simp [List.getD, List.getElem?_eq_getElem hlt])
      have HTX2 : Hid _ := HTX.out (L.getD i Lx.noL) (by simp [List.getD, List.getElem?_eq_getElem hlt])
      obtain ⟨b, o, c', ad2, c2, e, hb, -, p1, -, -⟩ := hs.at i hlt
      simp only [Value.slice.injEq] at e
      obtain ⟨rfl, -, rfl⟩ := e
      have HX2 : Hid (TT = X ++ ((if (L.getD i Lx.noL).ind = true then [9] else []) ++ (Lx.wrest true (L.getD i Lx.noL).words ++ [10] ++ Lx.vwrite (L.drop (i + 1))))) := by
        show _ = _
        rw [HX.out, hd]
        simp [Lx.vwrite, Lx.vline]
      have hlX : X.length ≤ 1099511627 := by
        have := congrArg List.length HX.out
        rw [List.length_append] at this
        omega
      clear hd HX
      have hat := hs.at i hlt
      obtain ⟨x, hx⟩ : ∃ x, L.getD i Lx.noL = x := ⟨_, rfl⟩
      rw [hx] at hwl HTX2 p1 HX2 hat
      have HXI : Hid _ := hx
      clear hx
      obtain ⟨a5, n5, c5, rfl⟩ := own_sl hO
      obtain ⟨TL, hTL⟩ : ∃ TL, [10] ++ Lx.vwrite (L.drop (i + 1)) = TL := ⟨_, rfl⟩
      have HTL : Hid _ := hTL
      rw [List.append_assoc (Lx.wrest true x.words), hTL] at HX2
      clear hTL
      go_upto_if 17 with fail
      go_cut [3] (fun s w' => ∃ Y, Own w' w.heap.size s Y ∧ Hid (TT = Y ++ (Lx.wrest true x.words ++ TL)) ∧ Below w.heap.size w w')
      case first =>
        cases hxi : x.ind with
        | true =>
          rw [hxi, if_pos rfl] at HX2
          rw [hxi] at p1
          have HX3 : Hid (TT = (X ++ [9]) ++ (Lx.wrest true x.words ++ TL)) := by
            show _ = _
            rw [HX2.out, List.append_assoc]
          clear hxi HX2
          have hb4 : Byts (wr.alloc (.cells #[.int .u8 9] 5)) (wr.heap.size + 1) (.slice (some ⟨wr.heap.size, 0, none⟩) 1 1) [9] := byts_lit wr #[.int .u8 9] [9] 1 (by simp [bV]) rfl
          have hO4 := hO.alloc (.cells #[.int .u8 9] 5)
          have hB4 := hB.alloc hB.size (.cells #[.int .u8 9] 5)
          have HLn : Hid (X.length + ([9] : List UInt8).length ≤ 1099511627800) := by show _ ≤ _; simp only [List.length_cons, List.length_nil]; omega
          go_wp2_with (at_builtin; go_must (refine wpList_append_byts rfl _ _ rfl w.heap.size (wr.heap.size + 1) _ _ X [9] rfl hO4 rfl hb4 HLn hB4.size ?_))
          intro v5 w5 hO5 hg5
          have hB5 := hB4.grown hg5 hB4.size fun j e => (World.ownsRow.lt hO4 j e).1
          clear hb4 hO4 hB4 HLn hg5 hO
          go_wp2
          go_meet
          case rel => exact ⟨_, hO5, HX3, hB5⟩
        | false =>
          rw [hxi, if_neg (by simp), List.nil_append] at HX2
          rw [hxi] at p1
          clear hxi
          go_wp2
          go_meet
          case rel => exact ⟨X, hO, HX2, hB⟩
      case rest =>
        obtain ⟨Y, hOY, HY, hBY⟩ := hcut
        clear hO HX2 hB hlX hs p1 hat
        obtain ⟨a6, n6, c6, rfl⟩ := own_sl hOY
        go_wp2
        go_loopw [3, 5] (fun s k wr => ∃ (kk : Nat) (Y : List UInt8), kk ≤ x.words.length ∧ k = .int .i64 (kk : Int) ∧ Own wr w.heap.size s Y ∧ Hid (TT = Y ++ (Lx.wrest (decide (kk = 0)) (x.words.drop kk) ++ TL)) ∧ Below w.heap.size w wr) (fun _ k _ => x.words.length - (intOf k).toNat)
        case atStart => exact ⟨0, Y, Nat.zero_le _, rfl, hOY, HY, hBY⟩
        case round =>
          obtain ⟨kk, Z, hkk, rfl, hOZ, HZ, hBZ⟩ := hrel
          clear hOY HY hBY
          have hlZ : Z.length ≤ 1099511627 := by
            have := congrArg List.length HZ.out
            rw [List.length_append] at this
            omega
          obtain ⟨b', o', c'', ad3, c3, e, -, -, -, p3, hW⟩ := (h.below hBZ hBw).at i hlt
          simp only [Value.slice.injEq, Option.some.injEq, Addr.mk.injEq] at e
          obtain ⟨⟨rfl, rfl, -⟩, -, -⟩ := e
          rw [HXI.out] at p3 hW
          obtain ⟨a7, n7, c7, rfl⟩ := own_sl hOZ
          by_cases hkl : kk < x.words.length
          · have i2 : (kk : Int) < (x.words.length : Int) := by omega
            have hd := Lx.vdrop hkl
            have hul := HTX2.out (x.words.getD kk Lx.noV) (by simp [List.getD, List.getElem?_eq_getElem hkl])
            obtain ⟨u, hu⟩ : ∃ u, x.words.getD kk Lx.noV = u := ⟨_, rfl⟩
            rw [hu] at hd hul
            have HU : Hid _ := hu
            clear hu
            rw [hd, Lx.wrest] at HZ
            clear hd
            go_upto_if 32 with fail
            go_cut [3] (fun s w' => ∃ Y, Own w' w.heap.size s Y ∧ Hid (TT = Y ++ (Lx.vtext u ++ (Lx.wrest false (x.words.drop (kk + 1)) ++ TL))) ∧ Below w.heap.size w w')
            case first =>
              by_cases hk0 : kk = 0
              · subst hk0
                have HZ3 : Hid (TT = Z ++ (Lx.vtext u ++ (Lx.wrest false (x.words.drop (0 + 1)) ++ TL))) := by
                  show _ = _
                  rw [HZ.out]; simp
                clear HZ
                go_wp2
                go_meet
                case rel => exact ⟨Z, hOZ, HZ3, hBZ⟩
              · have HZ3 : Hid (TT = (Z ++ [32]) ++ (Lx.vtext u ++ (Lx.wrest false (x.words.drop (kk + 1)) ++ TL))) := by
                  show _ = _
                  rw [HZ.out, if_neg (by simpa using hk0)]; simp
                have i3 : (0 : Int) < (kk : Int) := by omega
                clear HZ hk0
                have hb4 : Byts (wr.alloc (.cells #[.int .u8 32] 5)) (wr.heap.size + 1) (.slice (some ⟨wr.heap.size, 0, none⟩) 1 1) [32] := byts_lit wr #[.int .u8 32] [32] 1 (by simp [bV]) rfl
                have hO4 := hOZ.alloc (.cells #[.int .u8 32] 5)
                have hB4 := hBZ.alloc hBZ.size (.cells #[.int .u8 32] 5)
                have HLn : Hid (Z.length + ([32] : List UInt8).length ≤ 1099511627800) := by show _ ≤ _; simp only [List.length_cons, List.length_nil]; omega
                go_wp2_with (at_builtin; go_must (refine wpList_append_byts rfl _ _ rfl w.heap.size (wr.heap.size + 1) _ _ Z [32] rfl hO4 rfl hb4 HLn hB4.size ?_))
                intro v5 w5 hO5 hg5
                have hB5 := hB4.grown hg5 hB4.size fun j e => (World.ownsRow.lt hO4 j e).1
                clear hb4 hO4 hB4 HLn hg5 hOZ
                go_wp2
                go_meet
                case rel => exact ⟨_, hO5, HZ3, hB5⟩
            case rest =>
              obtain ⟨Z2, hO2, HZ2, hB2⟩ := hcut
              clear hOZ HZ hBZ hlZ p3 hW
              obtain ⟨b', o', c'', ad4, c4, e, -, -, -, p3, hW⟩ := (h.below hB2 hBw).at i hlt
              simp only [Value.slice.injEq, Option.some.injEq, Addr.mk.injEq] at e
              obtain ⟨⟨rfl, rfl, -⟩, -, -⟩ := e
              rw [HXI.out] at p3 hW
              obtain ⟨b2, o2, cc2, e, -, q0, q1, q2, q3, q4⟩ := WdR.at hW kk hkl
              simp only [Value.slice.injEq] at e
              obtain ⟨rfl, -, rfl⟩ := e
              rw [HU.out] at q0 q1 q2 q3 q4
              clear hW
              obtain ⟨a8, n8, c8, rfl⟩ := own_sl hO2
              have HT : Hid (TT = Z2 ++ (Lx.vtext u ++ (Lx.wrest false (x.words.drop (kk + 1)) ++ TL))) := HZ2
              have HF : Hid (TT = (Z2 ++ Lx.vtext u) ++ (Lx.wrest false (x.words.drop (kk + 1)) ++ TL)) := by
                show _ = _
                rw [HZ2.out, List.append_assoc]
              clear HZ2
              have hlv : Z2.length + (Lx.vtext u).length ≤ 1099511627 := by
                have := congrArg List.length HF.out
                rw [List.length_append, List.length_append] at this
                omega
              have HVT : Hid (Lx.vtext u = if u.mark = true then u.text else if u.quoted = true then Lx.quote u.text else Lx.show_ u.text) := rfl
              obtain ⟨ut, ul, uc, uq, um⟩ := u
              simp only at q0 q1 q2 q3 q4 HVT hul
              generalize Lx.vtext ⟨ut, ul, uc, uq, um⟩ = VT at *
              have hO4 : ∀ o, Own (wc.alloc o) w.heap.size (.slice a8 n8 c8) Z2 := fun o => hO2.alloc o
              have hB4 : ∀ o, Below w.heap.size w (wc.alloc o) := fun o => hB2.alloc hB2.size o
              have hsz : (str ut).size = ut.length := str_size ut
              cases um with
              | true =>
                rw [if_pos rfl] at HVT
                obtain rfl := HVT.out
                have HLn : Hid (Z2.length + (str VT).size ≤ 1099511627800) := by show _ ≤ _; rw [hsz]; omega
                clear hsz
                go_wp2_with (at_builtin; go_must (refine wpList_append_text rfl _ _ rfl w.heap.size _ Z2 (str VT) rfl (hO4 _) rfl HLn (hB4 _).size ?_))
                intro v5 w5 hO5 hb5
                have hB5 := (hB4 _).trans hb5
                rw [bs_str] at hO5
                clear hb5 HLn hO2
                go_wp2
                exact ⟨⟨kk + 1, _, by omega, by go_num, hO5, HF.out, hB5⟩, by simp [intOf]; omega⟩
              | false =>
                rw [if_neg (by simp)] at HVT
                cases uq with
                | true =>
                  rw [if_pos rfl] at HVT
                  go_wp2_with fail
                  refine (QuoteT_any (str ut) _ (by rw [hsz]; exact hul)).mono ?_
                  rintro e w3 ⟨rfl, hb3⟩
                  rw [bs_str, ← HVT.out]
                  have hO3 := World.ownsRow.kept (hO4 _) (row := none) ⟨hb3.os, hb3.tape, hb3.output, hb3.size, fun k hk _ => hb3.block k hk⟩ (by simp [Value.ownBlock]; cases a8 <;> simp)
                  have hB3 := (hB4 _).trans (hb3.mono (hB4 _).size)
                  have HLn : Hid (Z2.length + (str VT).size ≤ 1099511627800) := by show _ ≤ _; rw [str_size]; omega
                  clear hsz hb3
                  go_wp2_with (at_builtin; go_must (refine wpList_append_text rfl _ _ rfl w.heap.size _ Z2 (str VT) rfl hO3 rfl HLn hB3.size ?_))
                  intro v5 w5 hO5 hb5
                  have hB5 := hB3.trans hb5
                  rw [bs_str] at hO5
                  clear hb5 HLn hO2 hO3
                  go_wp2
                  exact ⟨⟨kk + 1, _, by omega, by go_num, hO5, HF.out, hB5⟩, by simp [intOf]; omega⟩
                | false =>
                  rw [if_neg (by simp)] at HVT
                  go_wp2_with fail
                  refine (ShowT_any (str ut) _ (by rw [hsz]; exact hul)).mono ?_
                  rintro e w3 ⟨rfl, hb3⟩
                  rw [bs_str, ← HVT.out]
                  have hO3 := World.ownsRow.kept (hO4 _) (row := none) ⟨hb3.os, hb3.tape, hb3.output, hb3.size, fun k hk _ => hb3.block k hk⟩ (by simp [Value.ownBlock]; cases a8 <;> simp)
                  have hB3 := (hB4 _).trans (hb3.mono (hB4 _).size)
                  have HLn : Hid (Z2.length + (str VT).size ≤ 1099511627800) := by show _ ≤ _; rw [str_size]; omega
                  clear hsz hb3
                  go_wp2_with (at_builtin; go_must (refine wpList_append_text rfl _ _ rfl w.heap.size _ Z2 (str VT) rfl hO3 rfl HLn hB3.size ?_))
                  intro v5 w5 hO5 hb5
                  have hB5 := hB3.trans hb5
                  rw [bs_str] at hO5
                  clear hb5 HLn hO2 hO3
                  go_wp2
                  exact ⟨⟨kk + 1, _, by omega, by go_num, hO5, HF.out, hB5⟩, by simp [intOf]; omega⟩
          · obtain rfl : kk = x.words.length := by omega
            have i2 : ¬ (x.words.length : Int) < (x.words.length : Int) := by omega
            have HZ3 : Hid (TT = (Z ++ [10]) ++ Lx.vwrite (L.drop (i + 1))) := by
              show _ = _
              rw [HZ.out, List.drop_length, Lx.wrest, List.nil_append, ← HTL.out, List.append_assoc]
            clear HZ hW
            have hb4 : Byts (wr.alloc (.cells #[.int .u8 10] 5)) (wr.heap.size + 1) (.slice (some ⟨wr.heap.size, 0, none⟩) 1 1) [10] := byts_lit wr #[.int .u8 10] [10] 1 (by simp [bV]) rfl
            have hO4 := hOZ.alloc (.cells #[.int .u8 10] 5)
            have hB4 := hBZ.alloc hBZ.size (.cells #[.int .u8 10] 5)
            have HLn : Hid (Z.length + ([10] : List UInt8).length ≤ 1099511627800) := by show _ ≤ _; simp only [List.length_cons, List.length_nil]; omega
            go_wp2_with (at_builtin; go_must (refine wpList_append_byts rfl _ _ rfl w.heap.size (wr.heap.size + 1) _ _ Z [10] rfl hO4 rfl hb4 HLn hB4.size ?_))
            intro v5 w5 hO5 hg5
            have hB5 := hB4.grown hg5 hB4.size fun j e => (World.ownsRow.lt hO4 j e).1
            clear hb4 hO4 hB4 HLn hg5 hOZ
            go_wp2
            exact ⟨⟨i + 1, _, by omega, by go_num, hO5, HZ3, hB5⟩, by simp [intOf]; omega⟩
    · obtain rfl : i = L.length := by omega
      have i1 : ¬ (L.length : Int) < (L.length : Int) := by omega
      have HE : Hid (TT = X) := by
        show _ = _
        rw [HX.out, List.drop_length]; simp [Lx.vwrite]
      clear HX
      have hcv := conv_byts hO.byts
      obtain ⟨a5, n5, c5, rfl⟩ := own_sl hO
      go_wp2
      go_ret
      rw [HE.out]
      exact ⟨rfl, hB⟩

end Go.Proofs.Ythpipbkbldlfjaa
