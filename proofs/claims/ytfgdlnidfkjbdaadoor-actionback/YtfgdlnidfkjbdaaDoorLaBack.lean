/-
  ActionBack's walk.
-/
import Derived.Test.YtfgdlnidfkjbdaaDoorABackP
import Derived.Test.YtfgdlnidfkjbdaaDoorLaCut
import Derived.Test.YtfgdlnidfkjbdaaDoorASameL
import Derived.Test.YtfgdlnidfkjbdaaDoorAAlike
import Derived.Test.YtfgdlnidfkjbdaaDoorZLines
namespace Go.Proofs.YtfgdlnidfkjbdaaDoor
open Go.RowKit

theorem LnsS.mono {w : World} {B B' : Nat} {v : Value} {L : List Lx.L} (h : LnsS w B v L) (hB : B ≤ B') : LnsS w B' v L := by
  obtain ⟨ps, h1, h2, h3⟩ := h
  exact ⟨ps, h1.mono hB, h2, fun p hp => ⟨(h3 p hp).1, (h3 p hp).2.1, (h3 p hp).2.2.mono hB⟩⟩
/-- what Lines answers of a list that may be -/
theorem lines_may {f : Ac.Fo} {v : Value} {w : World} {B : Nat} (h : FoS w B v f) (hB : B ≤ w.heap.size) (hL : Laid w) (hm : Ac.may f = true) (hs : Ac.size f ≤ 1099511627) (hn : Ac.nar 1099511600 f) :
    Calls Tryd.prog 16 #[v] w fun e w' => (∃ va vc, e = .returned (.tuple #[.slice va (Ac.all f).length vc, .int .i64 0]) ∧ LiS w' w'.heap.size (.slice va (Ac.all f).length vc) (Ac.all f)) ∧ Below w.heap.size w w' := by
  have hc := ALines_any f v w B h hB hL hs hn
  rw [hm] at hc
  refine hc.mono ?_
  rintro e w' ⟨⟨va, vn, vc, rs, rfl, h1, h2⟩, hb⟩
  have hl : LiS w' w'.heap.size (.slice va vn vc) (Ac.all f) := ⟨rs, h1.sl, h2.row⟩
  obtain ⟨a', c', he, -⟩ := hl.shape
  simp only [Value.slice.injEq] at he
  obtain ⟨rfl, rfl, rfl⟩ := he
  exact ⟨⟨_, _, rfl, hl⟩, hb⟩
/-- what lex.Lines answers of a list's text -/
theorem lex_may {f : Ac.Fo} {S : ByteArray} (hS : str (Ac.print f) = S) (w : World) (hs : S.size ≤ 32768) :
    Calls Tryd.prog 20 #[.string S] w fun e w' => (∃ va vc M, e = .returned (.tuple #[.slice va (Ac.all f).length vc, .agg #[.int .i64 0, .int .i64 0]]) ∧ LnsS w' w'.heap.size (.slice va (Ac.all f).length vc) M ∧ Hid (∀ i (hi : i < (Ac.all f).length), Ac.Says (M.getD i Lx.noL) (Ac.all f)[i])) ∧ Below w.heap.size w w' := by
  have hc := Lines_any S w hs
  subst hS
  rw [bs, str_toList] at hc
  obtain ⟨L, h1, h2⟩ := Ac.lex_print f
  rw [h1] at hc
  refine hc.mono ?_
  rintro e w' ⟨⟨v, rfl, hO⟩, hb⟩
  obtain ⟨hl, hsay⟩ := Ac.says_all (t := bs (str (Ac.print f))) h2
  have hO2 := hO.s
  obtain ⟨a', c', he, -⟩ := hO2.shape
  rw [hl] at he
  subst he
  exact ⟨⟨_, _, _, rfl, hO2, hsay⟩, hb⟩

/-- what Parse answers of lines that are an action -/
theorem parse_yes {ls : List (List (List UInt8))} {f : Ac.Fo} (hp : Ac.parse ls = .ok f) (hF : Fit ls) {v : Value} {W : World} {B : Nat} (hv : LiS W B v ls) (hB : B ≤ W.heap.size) (hL : Laid W) :
    Calls Tryd.prog 11 #[v] W fun e w' => (∃ va vc, e = .returned (.tuple #[.slice va f.len vc, .agg #[.int .i64 0, .int .i64 0]]) ∧ FoS w' w'.heap.size (.slice va f.len vc) f) ∧ Below W.heap.size W w' := by
  have hc := Parse_any v ls B W hL hv hB hF
  rw [hp] at hc
  refine hc.mono ?_
  rintro e w' ⟨⟨va, vn, vc, rfl, hN⟩, hb⟩
  obtain ⟨ad', c', he, -⟩ := hN.foS.shape
  simp only [Value.slice.injEq] at he
  obtain ⟨rfl, rfl, rfl⟩ := he
  exact ⟨⟨va, vc, rfl, hN.foS⟩, hb⟩

set_option maxRecDepth 100000 in
set_option maxHeartbeats 1000000 in
theorem back_walk (v : Value) (ls : List (List (List UInt8))) (w : World) (hL : Laid w) (hv : LiS w w.heap.size v ls) (hz : Sized ls) :
    Calls Tryd.prog 5 #[v] w fun e w' => e = .returned (.bool true) ∧ Below w.heap.size w w' := by
  have hW := works_any w hL
  have hWd := fun W (h : Below w.heap.size w W) => wide_any v ls w.heap.size W (hv.below h (Nat.le_refl _)) hz
  obtain ⟨ad, c, rfl, hle⟩ := hv.shape
  by_cases hbig : 262144 ≤ Ac.bulk ls
  · rw [decide_eq_true hbig] at hWd
    go_enter Tryd.func5, Tryd.ntmps5
    go_wp2_with (first
      | (go_at_call 9; refine hW.mono ?_; rintro e w1 ⟨rfl, hb1⟩)
      | (go_at_call 10; refine (hWd _ hb1).mono ?_; rintro e w2 ⟨rfl, rfl⟩)
      | fail)
    go_ret
    exact ⟨rfl, hb1⟩
  · rw [decide_eq_false hbig] at hWd
    have hF : Fit ls := fit_bulk (by omega)
    have hln : ls.length ≤ 262144 := by have := Ac.bulk_len ls; omega
    have lb : (ls.length : Int) ≤ 262144 := by omega
    have hP1 := fun W (h : Below w.heap.size w W) => Parse_any (.slice ad ls.length c) ls w.heap.size W (hL.below h hL.size) (hv.below h (Nat.le_refl _)) h.size hF
    clear hz
    go_enter Tryd.func5, Tryd.ntmps5
    go_upto_region 5 with (first
      | (go_at_call 9; refine hW.mono ?_; rintro e w1 ⟨rfl, hb1⟩)
      | (go_at_call 10; refine (hWd _ hb1).mono ?_; rintro e w2 ⟨rfl, rfl⟩)
      | fail)
    clear hW hWd
    cases hp1 : Ac.parse ls with
    | bad x =>
      obtain ⟨e1, j1⟩ := x
      have ne1 := parse_err hp1
      have hj1 := parse_at hp1
      rw [hp1] at hP1
      have n1 : (e1 == 0) = false := by rw [beq_eq_false_iff_ne]; exact ne1
      have n2 : (e1 != 0) = true := by rw [bne_iff_ne]; exact ne1
      have n3 : (0 : Int) ≤ (j1 : Int) := by omega
      have n4 : (j1 : Int) ≤ (ls.length : Int) := by omega
      have hP1' : ∀ W, Below w.heap.size w W → Calls Tryd.prog 11 #[.slice ad ls.length c] W fun e w' => e = .returned (.tuple #[.slice none 0 0, .agg #[.int .i64 e1, .int .i64 (j1 : Int)]]) ∧ Below W.heap.size W w' := hP1
      clear hP1 ne1 hp1 hj1 hbig
      go_upto_region 6 with (first | (go_at_call 11; refine (hP1' _ hb1).mono ?_; rintro e w3 ⟨rfl, hb3⟩) | fail)
      have r7 := Rw.new w3 #[.int .i64 e1, .int .i64 (j1 : Int)] 28
      have hbv := (hb1.trans (hb3.mono hb1.size)).alloc (hb1.trans (hb3.mono hb1.size)).size (.cells #[.int .i64 e1, .int .i64 (j1 : Int)] 28)
      generalize w3.alloc (.cells #[.int .i64 e1, .int .i64 (j1 : Int)] 28) = V1 at r7 hbv ⊢
      have a0 : V1.cell? ⟨w3.heap.size, 0, none⟩ = some (.int .i64 e1) := r7.cell 0
      have a1 : V1.cell? ⟨w3.heap.size, 1, none⟩ = some (.int .i64 (j1 : Int)) := r7.cell 1
      go_wp2
      go_ret
      exact ⟨rfl, hbv⟩
    | ok f1 =>
      have hP1' := fun W (h : Below w.heap.size w W) => parse_yes hp1 hF (hv.below h (Nat.le_refl _)) h.size (hL.below h hL.size)
      obtain ⟨hm1, hall⟩ := Ac.parse_ok hp1
      obtain ⟨hh1, hs1⟩ := Ac.may_ht hm1
      have hn1 := parse_nar hp1 hF
      have hn2 : Ac.nar 1099511600 f1 := Ac.all_nar f1 (fun l hl => by rw [hall] at hl; have := hF.2.1 l hl; omega) (Ac.may_iff.1 hm1).1
      have hT1 : (Ac.print f1).length ≤ 1000000000 := by have h := Ac.text_len (Ac.all f1); rw [hall] at h; unfold Ac.print; rw [hall]; omega
      have hwd : ∀ l ∈ Ac.all f1, l.length ≤ 1099511 ∧ ∀ s ∈ l, s.length ≤ 1099511 := fun l hl => by
        rw [hall] at hl
        refine ⟨hF.2.1 l hl, fun s hs => ?_⟩
        have h1 := Ac.bulk_mem hl
        have h2 := Ac.bulkL_mem hs
        omega
      go_upto_region 6 with (first | (go_at_call 11; refine (hP1' _ hb1).mono ?_; rintro e w3 ⟨⟨va, vc, rfl, hf3⟩, hb3⟩) | fail)
      have r7 := Rw.new w3 #[.int .i64 0, .int .i64 0] 28
      have hbv := (hb1.trans (hb3.mono hb1.size)).alloc (hb1.trans (hb3.mono hb1.size)).size (.cells #[.int .i64 0, .int .i64 0] 28)
      have hal := (Below.refl w3.heap.size w3).alloc (Nat.le_refl _) (.cells #[.int .i64 0, .int .i64 0] 28)
      have hf1 := (hf3.below hal (Nat.le_refl _)).mono hal.size
      generalize w3.alloc (.cells #[.int .i64 0, .int .i64 0] 28) = V1 at r7 hbv hf1 ⊢
      have a0 : V1.cell? ⟨w3.heap.size, 0, none⟩ = some (.int .i64 0) := r7.cell 0
      have a1 : V1.cell? ⟨w3.heap.size, 1, none⟩ = some (.int .i64 0) := r7.cell 1
      have hLw := fun W (h : Below V1.heap.size V1 W) => hL.below (hbv.trans (h.mono hbv.size)) hL.size
      have hLn := fun W (h : Below V1.heap.size V1 W) => lines_may (hf1.below h (Nat.le_refl _)) h.size (hLw W h) hm1 hs1 hn2
      have hPr := fun W (h : Below V1.heap.size V1 W) => Print_any f1 _ W _ (hf1.below h (Nat.le_refl _)) h.size (hLw W h) hm1 hs1 hn2 hT1 hwd
      have hMy := fun W (h : Below V1.heap.size V1 W) => May_any f1 _ W _ (hf1.below h (Nat.le_refl _)) h.size (hLw W h) hs1 hn1
      obtain ⟨S, hS⟩ : ∃ S, str (Ac.print f1) = S := ⟨_, rfl⟩
      have hLx := fun W (h : S.size ≤ 32768) => lex_may (f := f1) hS W h
      rw [hall] at hLn hLx
      rw [hS] at hPr
      rw [hm1] at hMy
      have hv1 : LiS V1 V1.heap.size (.slice ad ls.length c) ls := (hv.below hbv (Nat.le_refl _)).mono hbv.size
      have hPp := fun (xa : Option Addr) (xc B : Nat) W (hx : LiS W B (.slice xa ls.length xc) ls) (hB : B ≤ W.heap.size) (hl : Laid W) => parse_yes hp1 hF hx hB hl
      have HSZ : Hid (S.size = (Ac.print f1).length) := by show _ = _; rw [← hS, str_size]
      have hSb : (S.size : Int) ≤ 1000000000 := by have := HSZ.out; omega
      clear hP1 hP1' hT1 hwd hS hbig hb1 hb3 hal hf3 hp1 hall
      go_upto_region 10 with (first
        | (go_at_call 16; refine (hLn _ (Below.refl _ _)).mono ?_; rintro e w4 ⟨⟨xa, xc, rfl, xS⟩, hb4⟩)
        | (go_at_call 17; refine (hPr _ hb4).mono ?_; rintro e w5 ⟨rfl, hb5⟩; have hb6 := hb4.trans (hb5.mono hb4.size))
        | fail)
      have xS5 := (xS.below hb5 (Nat.le_refl _))
      have hAk := fun W (h : Below w5.heap.size w5 W) => AlikeT_any (.slice xa ls.length xc) (.slice ad ls.length c) ls ls W W.heap.size (((xS5.below h hb5.size).mono (Nat.le_trans hb5.size h.size))) ((hv1.below (hb6.trans (h.mono hb6.size)) (Nat.le_refl _)).mono (hb6.trans (h.mono hb6.size)).size) (Nat.le_refl _) (by omega) (fun x hx => by have := hF.2.1 x hx; omega)
      simp only [decide_true] at hAk
      go_upto_region 12 with (first
        | (go_at_call 18; refine (hMy _ hb6).mono ?_; rintro e w7 ⟨rfl, hb7⟩)
        | (go_at_call 19; refine (hAk _ hb7).mono ?_; rintro e w8 ⟨rfl, hb8⟩; have hb9 := hb7.trans (hb8.mono hb7.size))
        | fail)
      have hbA := hb6.trans (hb9.mono hb6.size)
      have xS8 := xS5.below hb9 hb5.size
      have hzx : w4.heap.size ≤ w8.heap.size := Nat.le_trans hb5.size hb9.size
      have hPb := hPp xa xc _ w8 xS8 hzx (hLw _ hbA)
      clear hLn hPr hMy hAk hPp xS xS5 hb4 hb5 hb6 hb7 hb8 hb9
      go_upto_region 13 with (first | (go_at_call 11; refine hPb.mono ?_; rintro e w10 ⟨⟨ya, yc, rfl, yS⟩, hb10⟩) | fail)
      have r10 := Rw.new w10 #[.int .i64 0, .int .i64 0] 28
      have hal := (Below.refl w10.heap.size w10).alloc (Nat.le_refl _) (.cells #[.int .i64 0, .int .i64 0] 28)
      have hbB := (hbA.trans (hb10.mono hbA.size)).trans (hal.mono (hbA.trans (hb10.mono hbA.size)).size)
      have yS2 := (yS.below hal (Nat.le_refl _)).mono hal.size
      generalize w10.alloc (.cells #[.int .i64 0, .int .i64 0] 28) = V2 at r10 hbB yS2 ⊢
      have b0 : V2.cell? ⟨w10.heap.size, 0, none⟩ = some (.int .i64 0) := r10.cell 0
      have b1 : V2.cell? ⟨w10.heap.size, 1, none⟩ = some (.int .i64 0) := r10.cell 1
      have hSm := Same_any f1 f1 (.slice va f1.len vc) (.slice ya f1.len yc) V2.heap.size V2 ((hf1.below hbB (Nat.le_refl _)).mono hbB.size) yS2 (Nat.le_refl _) (by omega) (by omega) hs1 hn1
      simp only [decide_true] at hSm
      clear hPb yS yS2 hal hb10
      go_upto_region 15 with (first | (go_at_call 15; refine hSm.mono ?_; rintro e w12 ⟨rfl, hb12⟩) | fail)
      have hbC := hbB.trans (hb12.mono hbB.size)
      have hwC := hbv.trans (hbC.mono hbv.size)
      clear hSm b0 b1 r10 hbB hb12
      by_cases hlong : 32768 < S.size
      · have i5 : (32768 : Int) < (S.size : Int) := by omega
        go_wp2
        go_ret
        exact ⟨rfl, hwC⟩
      · have i5 : ¬ (32768 : Int) < (S.size : Int) := by omega
        have hLq := hLx w12 (by omega)
        clear hLx hlong
        go_upto_region 18 with (first | (go_at_call 20; refine hLq.mono ?_; rintro e w13 ⟨⟨ma, mc, M, rfl, mS, HM⟩, hb13⟩) | fail)
        have r13 := Rw.new w13 #[.int .i64 0, .int .i64 0] 28
        have hal := (Below.refl w13.heap.size w13).alloc (Nat.le_refl _) (.cells #[.int .i64 0, .int .i64 0] 28)
        have hbD := (hbC.trans (hb13.mono hbC.size)).trans (hal.mono (hbC.trans (hb13.mono hbC.size)).size)
        have mS2 := (mS.below hal (Nat.le_refl _)).mono hal.size
        generalize w13.alloc (.cells #[.int .i64 0, .int .i64 0] 28) = V3 at r13 hbD mS2 ⊢
        have b0 : V3.cell? ⟨w13.heap.size, 0, none⟩ = some (.int .i64 0) := r13.cell 0
        have b1 : V3.cell? ⟨w13.heap.size, 1, none⟩ = some (.int .i64 0) := r13.cell 1
        have hv3 := (hv1.below hbD (Nat.le_refl _)).mono hbD.size
        have hw3 := hbv.trans (hbD.mono hbv.size)
        have HLB : Hid (∀ l ∈ ls, l.length ≤ 1099511) := hF.2.1
        clear hLq mS hal hb13 hbC hwC hv1
        go_wp2
        go_loopw [13] (fun t W => ∃ i : Nat, i ≤ ls.length ∧ t = .int .i64 (i : Int) ∧ Below V3.heap.size V3 W) (fun t _ => ls.length - (intOf t).toNat)
        case atStart => exact ⟨0, Nat.zero_le _, rfl, Below.refl _ _⟩
        case round =>
          clear a0 a1 b0 b1 r13 r7
          obtain ⟨i, hi, rfl, hbr⟩ := hrel
          by_cases hlt : i < ls.length
          · have i1 : (i : Int) < (ls.length : Int) := by omega
            have hy := HM.out i hlt
            have hlb := HLB.out ls[i] (List.getElem_mem hlt)
            have hln1 := hy.len
            obtain ⟨b, o, c1, ad1, c2, e, hb1, -, p1, p2, hW⟩ := (mS2.below hbr (Nat.le_refl _)).at i (by obtain ⟨a', c', he, -⟩ := mS2.shape; simp only [Value.slice.injEq] at he; omega)
            simp only [Value.slice.injEq] at e
            obtain ⟨rfl, -, rfl⟩ := e
            obtain ⟨g, o', c', aa, ac, e, hg, q0, hQ⟩ := (hv3.below hbr (Nat.le_refl _)).at hlt
            simp only [Value.slice.injEq] at e
            obtain ⟨rfl, -, rfl⟩ := e
            rw [hln1] at p2 hW
            rw [hy.ind] at p1
            obtain ⟨l, hl⟩ : ∃ l, ls[i] = l := ⟨_, rfl⟩
            rw [hl] at p2 hW q0 hQ hlb
            have HY : Hid (Ac.Says (M.getD i Lx.noL) l) := by rw [hl] at hy; exact hy
            have HL : Hid _ := hl
            clear hy hln1 hl
            have ll : (l.length : Int) ≤ 1099511 := by omega
            go_wp2_with fail
            go_quiet (fail)
            go_wp2
            have hbq := below_drewA hbr nq
            generalize wr.drewN nq = wo at hbq ⊢
            clear p1 p2 hW q0 hQ hbr
            go_loopw [14] (fun t W => ∃ k : Nat, k ≤ l.length ∧ t = .int .i64 (k : Int) ∧ Below V3.heap.size V3 W) (fun t _ => l.length - (intOf t).toNat)
            case atStart => exact ⟨0, Nat.zero_le _, rfl, hbq⟩
            case round =>
              obtain ⟨k, hk, rfl, hbk⟩ := hrel
              obtain ⟨b', o2, c3, ad3, c4, e, -, -, -, p2, hW⟩ := (mS2.below hbk (Nat.le_refl _)).at i (by obtain ⟨a', c', he, -⟩ := mS2.shape; simp only [Value.slice.injEq] at he; omega)
              simp only [Value.slice.injEq, Option.some.injEq, Addr.mk.injEq] at e
              obtain ⟨⟨rfl, rfl, -⟩, -, -⟩ := e
              obtain ⟨g', o3, c5, aa2, ac2, e, -, q0, hQ⟩ := (hv3.below hbk (Nat.le_refl _)).at hlt
              simp only [Value.slice.injEq, Option.some.injEq, Addr.mk.injEq] at e
              obtain ⟨⟨rfl, rfl, -⟩, -, -⟩ := e
              rw [HY.out.len] at p2 hW
              rw [HL.out] at q0 hQ
              by_cases hkl : k < l.length
              · have k1 : (k : Int) < (l.length : Int) := by omega
                obtain ⟨b4, o4, rfl, -, r0, r4⟩ := word_at HY.out hW hkl
                obtain ⟨b5, o5, c6, e, -, s0⟩ := TxR.at hQ hkl
                simp only [Value.slice.injEq] at e
                obtain ⟨rfl, -, rfl⟩ := e
                obtain ⟨u, hu⟩ : ∃ u, l[k] = u := ⟨_, rfl⟩
                rw [hu] at r0 s0
                clear hu hW hQ
                go_wp2_with fail
                go_quiet (fail)
                go_wp2
                exact ⟨⟨k + 1, by omega, by go_num, by first | exact hbk | exact below_drewA hbk _⟩, by simp [intOf]; omega⟩
              · obtain rfl : k = l.length := by omega
                have k1 : ¬ (l.length : Int) < (l.length : Int) := by omega
                go_wp2
                exact ⟨⟨i + 1, by omega, by go_num, by first | exact hbk | exact below_drewA hbk _⟩, by simp [intOf]; omega⟩
          · obtain rfl : i = ls.length := by omega
            have i1 : ¬ (ls.length : Int) < (ls.length : Int) := by omega
            go_wp2
            go_ret
            exact ⟨rfl, hw3.trans (hbr.mono hw3.size)⟩

end Go.Proofs.YtfgdlnidfkjbdaaDoor
