/-
  WHAT THE LANDED CODE's Print DOES OF A LIST THAT MAY BE.
-/
import Derived.Test.YtfgdlnidfkjbdaaDoorALines
import Derived.Test.YtfgdlnidfkjbdaaDoorZText
namespace Go.Proofs.YtfgdlnidfkjbdaaDoor
open Go.RowKit

namespace Ac
/-- a line's text from a word on -/
def lineRest : Bool → List (List UInt8) → List UInt8
  | _, [] => [10]
  | true, w :: r => Lx.show_ w ++ lineRest false r
  | false, w :: r => 32 :: (Lx.show_ w ++ lineRest false r)
theorem lineRest_more (w : List UInt8) : ∀ r : List (List UInt8), Lx.inter ((w :: r).map Lx.show_) ++ [10] = Lx.show_ w ++ lineRest false r
  | [] => by simp [Lx.inter, List.intercalate, lineRest]
  | x :: r => by
    have h := lineRest_more x r
    rw [lineRest, ← h]
    simp [Lx.inter, List.intercalate]
theorem lineRest_text (l : List (List UInt8)) : lineRest true l = lineText l := by
  cases l with
  | nil => simp [lineRest, lineText, Lx.inter, List.intercalate]
  | cons w r => rw [lineRest, lineText, lineRest_more]
end Ac
theorem app_le {X R T : List UInt8} (h : X ++ R = T) : X.length ≤ T.length := by rw [← h, List.length_append]; omega
theorem drop_get {α : Type} {l : List α} {k : Nat} (h : k < l.length) : l.drop k = l[k] :: l.drop (k + 1) := List.drop_eq_getElem_cons h

set_option maxRecDepth 100000 in
set_option maxHeartbeats 1000000 in
theorem Print_any (f : Ac.Fo) (v : Value) (w : World) (B : Nat) (h : FoS w B v f) (hB : B ≤ w.heap.size) (hL : Laid w) (hm : Ac.may f = true) (hs : Ac.size f ≤ 1099511627) (hn : Ac.nar 1099511600 f)
    (hT : (Ac.print f).length ≤ 1000000000) (hw : ∀ l ∈ Ac.all f, l.length ≤ 1099511 ∧ ∀ s ∈ l, s.length ≤ 1099511) :
    Calls Tryd.prog 17 #[v] w fun e w' => e = .returned (.tuple #[.string (str (Ac.print f)), .int .i64 0]) ∧ Below w.heap.size w w' := by
  have hc := ALines_any f v w B h hB hL hs hn
  rw [hm] at hc
  have hlen : (Ac.all f).length ≤ 512 := by have h1 := Ac.all_len f; have h2 := (Ac.may_iff.1 hm).2.1; omega
  have HP : Hid (Ac.print f = (Ac.all f).flatMap Ac.lineText) := rfl
  have hLi : Calls Tryd.prog 16 #[v] w fun e w' => (∃ va vc, e = .returned (.tuple #[.slice va (Ac.all f).length vc, .int .i64 0]) ∧ LiS w' w'.heap.size (.slice va (Ac.all f).length vc) (Ac.all f)) ∧ Below w.heap.size w w' := by
    refine hc.mono ?_
    rintro e w' ⟨⟨va, vn, vc, rs, rfl, h1, h2⟩, hb⟩
    have hl : LiS w' w'.heap.size (.slice va vn vc) (Ac.all f) := ⟨rs, h1.sl, h2.row⟩
    obtain ⟨a', c', he, -⟩ := hl.shape
    simp only [Value.slice.injEq] at he
    obtain ⟨rfl, rfl, rfl⟩ := he
    exact ⟨⟨_, _, rfl, hl⟩, hb⟩
  obtain ⟨ad, c, rfl, hle⟩ := h.shape
  generalize Ac.print f = T at *
  generalize Ac.all f = ls at *
  have HW : Hid (∀ l ∈ ls, l.length ≤ 1099511 ∧ ∀ s ∈ l, s.length ≤ 1099511) := hw
  have lb : (ls.length : Int) ≤ 512 := by omega
  clear hc hs hn hm hw
  go_enter Tryd.func17, Tryd.ntmps17
  go_upto_region 5 with (first | (go_at_call 16; refine hLi.mono ?_; rintro e w1 ⟨⟨va, vc, rfl, hS⟩, hb1⟩) | fail)
  have hb0 := Bd.new w1
  have hB0 := (Below.refl w1.heap.size w1).alloc (Nat.le_refl _) (.cells #[.pointer none, .slice none 0 0] 66)
  generalize w1.alloc (.cells #[.pointer none, .slice none 0 0] 66) = w2 at hb0 hB0 ⊢
  go_wp2
  go_loopw [21] (fun i wr => ∃ (k : Nat) (X : List UInt8), k ≤ ls.length ∧ i = .int .i64 (k : Int) ∧ Bd wr w1.heap.size w1.heap.size X ∧ Hid (X ++ (ls.drop k).flatMap Ac.lineText = T) ∧ Below w1.heap.size w1 wr) (fun i _ => ls.length - (intOf i).toNat)
  case atStart => exact ⟨0, [], Nat.zero_le _, rfl, hb0, by show _ = _; rw [HP.out]; rfl, hB0⟩
  case round =>
    clear hb0 hB0
    obtain ⟨i, X, hi, rfl, hbd, HX, hbr⟩ := hrel
    by_cases hlt : i < ls.length
    · have i1 : (i : Int) < (ls.length : Int) := by omega
      obtain ⟨g, o, c1, aa, ac, e, hg, p0, hWl⟩ := (hS.below hbr (Nat.le_refl _)).at hlt
      simp only [Value.slice.injEq] at e
      obtain ⟨rfl, -, rfl⟩ := e
      have hwl := HW.out ls[i] (List.getElem_mem hlt)
      have HX2 : Hid (X ++ (Ac.lineRest true ls[i] ++ (ls.drop (i + 1)).flatMap Ac.lineText) = T) := by
        show _ = _
        rw [← HX.out, drop_get hlt, List.flatMap_cons, Ac.lineRest_text]
      obtain ⟨l, hl⟩ : ∃ l, ls[i] = l := ⟨_, rfl⟩
      rw [hl] at p0 hWl hwl HX2
      obtain ⟨R, hR⟩ : ∃ R, (ls.drop (i + 1)).flatMap Ac.lineText = R := ⟨_, rfl⟩
      rw [hR] at HX2
      have HR : Hid _ := hR
      obtain ⟨hwl1, hwl2⟩ := hwl
      have HWL : Hid (∀ s ∈ l, s.length ≤ 1099511) := hwl2
      have ll : (l.length : Int) ≤ 1099511 := by omega
      clear hwl2 hl HX hR
      go_wp2
      generalize wr = wo at *
      go_loopw [27] (fun t W => ∃ (k : Nat) (Y : List UInt8), k ≤ l.length ∧ t = .int .i64 (k : Int) ∧ Bd W w1.heap.size w1.heap.size Y ∧ Hid (Y ++ (Ac.lineRest (decide (k = 0)) (l.drop k) ++ R) = T) ∧ Below w1.heap.size wo W) (fun t _ => l.length - (intOf t).toNat)
      case atStart => exact ⟨0, X, Nat.zero_le _, rfl, hbd, HX2, Below.refl _ _⟩
      case round =>
        clear hbd HX2 p0
        obtain ⟨k, Y, hk, rfl, hb2, HY, hbk⟩ := hrel
        have hz1 : w1.heap.size ≤ wr.heap.size := Nat.le_trans hbr.size hbk.size
        by_cases hkl : k < l.length
        · have k1 : (k : Int) < (l.length : Int) := by omega
          obtain ⟨g2, o2, c2, e, -, r0⟩ := TxR.at (hWl.below hbk (Nat.le_refl _)) hkl
          simp only [Value.slice.injEq] at e
          obtain ⟨rfl, -, rfl⟩ := e
          have hsx := HWL.out l[k] (List.getElem_mem hkl)
          have HY2 := HY.out
          rw [drop_get hkl] at HY2
          obtain ⟨x, hx⟩ : ∃ x, l[k] = x := ⟨_, rfl⟩
          rw [hx] at r0 hsx HY2
          have hSh := fun W => Show_any (str x) W (by rw [str_size]; exact hsx)
          rw [bs, str_toList] at hSh
          clear hx HY
          by_cases hk0 : k = 0
          · have k2 : ¬ (0 : Int) < (k : Int) := by omega
            rw [decide_eq_true hk0] at HY2
            have HY3 : Hid ((Y ++ Lx.show_ x) ++ (Ac.lineRest (decide (k + 1 = 0)) (l.drop (k + 1)) ++ R) = T) := by
              show _ = _
              rw [← HY2, Ac.lineRest, decide_eq_false (by omega)]
              simp
            have y1 : Y.length ≤ 1000000000 := Nat.le_trans (app_le HY2) hT
            have y2 : (Lx.show_ x).length ≤ 1000000000 := by have := app_le HY3.out; rw [List.length_append] at this; omega
            generalize Lx.show_ x = sx at *
            clear HY2 hk0
            go_wp2_with (first | (go_at_call 33; refine (hSh _).mono ?_; rintro e w5 ⟨rfl, hB5⟩) | fail)
            refine (WriteString_any _ w1.heap.size w1.heap.size _ _ (hb2.below hB5) (by omega) (by rw [str_size]; omega) (Nat.le_trans hz1 hB5.size)).mono ?_
            rintro e w6 ⟨rfl, hb6, hB6, -⟩
            rw [bs, str_toList] at hb6
            have hB7 := (hbk.trans (hB5.mono hz1)).trans hB6
            go_wp2
            exact ⟨⟨k + 1, _, by omega, by go_num, hb6, HY3, hB7⟩, by simp [intOf]; omega⟩
          · have k2 : (0 : Int) < (k : Int) := by omega
            rw [decide_eq_false hk0] at HY2
            have HY3 : Hid (((Y ++ [32]) ++ Lx.show_ x) ++ (Ac.lineRest (decide (k + 1 = 0)) (l.drop (k + 1)) ++ R) = T) := by
              show _ = _
              rw [← HY2, Ac.lineRest, decide_eq_false (by omega)]
              simp
            have y1 : Y.length ≤ 1000000000 := Nat.le_trans (app_le HY2) hT
            have y2 : (Lx.show_ x).length ≤ 1000000000 := by have := app_le HY3.out; rw [List.length_append] at this; omega
            generalize Lx.show_ x = sx at *
            clear HY2 hk0
            go_wp2_with fail
            refine (WriteByte_any _ w1.heap.size w1.heap.size _ 32 hb2 (by omega) hz1).mono ?_
            rintro e w4 ⟨rfl, hb4, hB4, -⟩
            have hz4 : w1.heap.size ≤ w4.heap.size := Nat.le_trans hz1 hB4.size
            go_wp2_with (first | (go_at_call 33; refine (hSh _).mono ?_; rintro e w5 ⟨rfl, hB5⟩) | fail)
            refine (WriteString_any _ w1.heap.size w1.heap.size _ _ (hb4.below hB5) (by rw [List.length_append]; simp only [List.length_cons, List.length_nil]; omega) (by rw [str_size]; omega) (Nat.le_trans hz4 hB5.size)).mono ?_
            rintro e w6 ⟨rfl, hb6, hB6, -⟩
            rw [bs, str_toList] at hb6
            have hB7 := ((hbk.trans hB4).trans (hB5.mono hz4)).trans hB6
            go_wp2
            exact ⟨⟨k + 1, _, by omega, by go_num, hb6, HY3, hB7⟩, by simp [intOf]; omega⟩
        · obtain rfl : k = l.length := by omega
          have k1 : ¬ (l.length : Int) < (l.length : Int) := by omega
          have HY2 : Hid ((Y ++ [10]) ++ (ls.drop (i + 1)).flatMap Ac.lineText = T) := by
            show _ = _
            have h := HY.out
            rw [List.drop_length] at h
            rw [← h, HR.out]
            cases decide (l.length = 0) <;> simp [Ac.lineRest]
          have y1 : Y.length ≤ 1000000000 := Nat.le_trans (app_le HY.out) hT
          clear HY
          go_wp2_with fail
          refine (WriteByte_any _ w1.heap.size w1.heap.size _ 10 hb2 (by omega) hz1).mono ?_
          rintro e w4 ⟨rfl, hb4, hB4, -⟩
          go_wp2
          exact ⟨⟨i + 1, _, by omega, by go_num, hb4, HY2, hbr.trans (hbk.trans hB4)⟩, by simp [intOf]; omega⟩
    · obtain rfl : i = ls.length := by omega
      have i1 : ¬ (ls.length : Int) < (ls.length : Int) := by omega
      have HX3 : Hid (X = T) := by
        show _ = _
        have := HX.out
        rw [List.drop_length] at this
        simpa using this
      have hz := hbr.size
      go_wp2_with fail
      refine (String_any _ w1.heap.size w1.heap.size _ hbd hz).mono ?_
      rintro e w4 ⟨rfl, hB6⟩
      go_wp2
      go_ret2
      rw [HX3.out]
      exact ⟨rfl, hb1.trans ((hbr.trans hB6).mono hb1.size)⟩

end Go.Proofs.YtfgdlnidfkjbdaaDoor
