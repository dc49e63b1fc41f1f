/-
  WHAT THE DOCUMENT's Texts AND Same DO: they only read.
-/
import Derived.Test.YtppcfidaalejfaaDpRow
namespace Go.Proofs.Ytppcfidaalejfaa
open Go.RowKit

set_option maxRecDepth 100000 in
set_option maxHeartbeats 2000000 in
theorem TextsD_quiet (w : World) (B : Nat) (va vb : Value) (a b : List (List UInt8)) (ha : BR.Sl w B va a) (hb : BR.Sl w B vb b) (hl : a.length ≤ 100000000) :
    Calls Try.prog 21 #[va, vb] w fun e w' => e = .returned (.bool (decide (a = b))) ∧ ∃ n, w' = w.drewN n := by
  obtain ⟨ada, ca, rfl, hca⟩ := ha.shape
  obtain ⟨adb, cb, rfl, hcb⟩ := hb.shape
  by_cases hlen : a.length = b.length
  · have q0 : ((a.length : Int) != (b.length : Int)) = false := by simp; omega
    go_enter Try.func21, Try.ntmps21
    go_wp2
    go_loopw [5] (fun i wr => ∃ k : Nat, k ≤ a.length ∧ i = .int .i64 (k : Int) ∧ a.take k = b.take k ∧ ∃ q, wr = w.drewN q) (fun i _ => a.length - (intOf i).toNat)
    case atStart => exact ⟨0, Nat.zero_le _, rfl, rfl, 0, rfl⟩
    case round =>
      obtain ⟨k, hk, rfl, hall, q, rfl⟩ := hrel
      have HA : Hid _ := hall
      clear hall
      by_cases hlt : k < a.length
      · have hlt2 : k < b.length := by omega
        obtain ⟨b1, o1, c1, e1, -, p1⟩ := BR.ix ha hlt
        obtain ⟨b2, o2, c2, e2, -, p2⟩ := BR.ix hb hlt2
        simp only [Value.slice.injEq] at e1 e2
        obtain ⟨rfl, -, rfl⟩ := e1
        obtain ⟨rfl, -, rfl⟩ := e2
        have i1 : (k : Int) < (a.length : Int) := by omega
        have i2 : (k : Int) < (b.length : Int) := by omega
        have HE := beq_str a[k] b[k]
        have HS : Hid (a.take (k + 1) = a.take k ++ [a[k]] ∧ b.take (k + 1) = b.take k ++ [b[k]]) := ⟨List.take_succ_eq_append_getElem hlt, List.take_succ_eq_append_getElem hlt2⟩
        by_cases hxy : a[k] = b[k]
        · rw [decide_eq_true hxy] at HE
          have HX : Hid _ := hxy
          clear hxy
          generalize str a[k] = x at *
          generalize str b[k] = y at *
          go_wp2_with fail
          go_quiet (fail)
          go_wp2
          refine ⟨⟨k + 1, by omega, by go_num, ?_, _, rfl⟩, by simp [intOf]; omega⟩
          rw [HS.out.1, HS.out.2, HA.out, HX.out]
        · rw [decide_eq_false hxy] at HE
          have HX : Hid _ := hxy
          clear hxy
          generalize str a[k] = x at *
          generalize str b[k] = y at *
          go_wp2_with fail
          go_quiet (fail)
          go_wp2
          go_ret
          rw [decide_eq_false]
          · exact ⟨rfl, ⟨_, World.drewN_drewN _ _ _⟩⟩
          · intro hab
            subst hab
            exact HX.out rfl
      · obtain rfl : k = a.length := by omega
        have i1 : ¬ (a.length : Int) < (a.length : Int) := by omega
        have e := HA.out
        rw [List.take_length, hlen, List.take_length] at e
        have HX : Hid _ := e
        clear e
        go_wp2
        go_ret
        rw [decide_eq_true HX.out]
        exact ⟨rfl, ⟨_, rfl⟩⟩
  · have q0 : ((a.length : Int) != (b.length : Int)) = true := by simp; omega
    go_enter Try.func21, Try.ntmps21
    go_wp2
    go_ret
    rw [decide_eq_false (by rintro rfl; exact hlen rfl)]
    exact ⟨rfl, ⟨0, rfl⟩⟩
theorem take_more {α : Type} (z : α) {a c : List α} {k : Nat} (h1 : k < a.length) (h2 : k < c.length) (h : a.take k = c.take k) (e : a.getD k z = c.getD k z) : a.take (k + 1) = c.take (k + 1) := by
  rw [List.take_succ_eq_append_getElem h1, List.take_succ_eq_append_getElem h2, h]
  simp only [List.getD, List.getElem?_eq_getElem h1, List.getElem?_eq_getElem h2, Option.getD_some] at e
  rw [e]

set_option maxRecDepth 100000 in
set_option maxHeartbeats 4000000 in
theorem SameD_quiet (va vb : Value) (A C : List Dp.Rule) (w : World) (B : Nat) (ha : DrS w B va A) (hb : DrS w B vb C) (hAl : A.length ≤ 1099511627) (hwl : ∀ x ∈ A, x.2.length ≤ 100000000) :
    Calls Try.prog 14 #[va, vb] w fun e w' => e = .returned (.bool (decide (A = C))) ∧ ∃ n, w' = w.drewN n := by
  obtain ⟨ad, c, rfl, hle⟩ := ha.shape
  obtain ⟨ad', c', rfl, hle'⟩ := hb.shape
  have HWL : Hid _ := hwl
  clear hwl
  obtain ⟨D, hDD⟩ : ∃ D, decide (A = C) = D := ⟨_, rfl⟩
  rw [hDD]
  have HNE : Hid (A ≠ C → D = false) := fun h => by rw [← hDD]; exact decide_eq_false h
  have HEQ : Hid (A = C → D = true) := fun h => by rw [← hDD]; exact decide_eq_true h
  clear hDD
  go_enter Try.func14, Try.ntmps14
  by_cases hlen : A.length = C.length
  · have n1 : ((A.length : Int) != (C.length : Int)) = false := by rw [bne_eq_false_iff_eq]; omega
    have HLE : Hid _ := hlen
    clear hlen
    go_wp2
    go_loopw [5] (fun k wr => ∃ i q : Nat, i ≤ A.length ∧ k = .int .i64 (i : Int) ∧ Hid (A.take i = C.take i) ∧ wr = w.drewN q) (fun k _ => A.length - (intOf k).toNat)
    case atStart => exact ⟨0, 0, Nat.zero_le _, rfl, by simp [Hid], rfl⟩
    case round =>
      obtain ⟨i, q, hi, rfl, HT, hq⟩ := hrel
      have hD : Below B w wr := by rw [hq]; exact below_drewN (Below.refl B w) q
      have HQ : Hid _ := hq
      clear hq
      have ha := ha.below hD (Nat.le_refl _)
      have hb := hb.below hD (Nat.le_refl _)
      clear hD
      by_cases hlt : i < A.length
      · have hlt' : i < C.length := by have := HLE.out; omega
        have i1 : (i : Int) < (A.length : Int) := by omega
        have i2 : (i : Int) < (C.length : Int) := by omega
        have hwl := HWL.out (A.getD i Dp.noR) (by simp [List.getD, List.getElem?_eq_getElem hlt])
        obtain ⟨b, o, c1, ad1, c2, e, hb1, p0, p1, hW⟩ := ha.at i hlt
        simp only [Value.slice.injEq] at e
        obtain ⟨rfl, -, rfl⟩ := e
        obtain ⟨b', o', c1', ad1', c2', e, hb1', p0', p1', hW'⟩ := hb.at i hlt'
        simp only [Value.slice.injEq] at e
        obtain ⟨rfl, -, rfl⟩ := e
        obtain ⟨x, hx⟩ : ∃ x, A.getD i Dp.noR = x := ⟨_, rfl⟩
        obtain ⟨y, hy⟩ : ∃ y, C.getD i Dp.noR = y := ⟨_, rfl⟩
        rw [hx] at p0 p1 hW hwl
        rw [hy] at p0' p1' hW'
        have HNO : Hid (x ≠ y → D = false) := fun h => HNE.out fun h2 => absurd (by rw [← hx, ← hy, h2]) h
        have HYES : Hid (x = y → A.take (i + 1) = C.take (i + 1)) := fun h => take_more Dp.noR hlt hlt' HT.out (by rw [hx, hy, h])
        clear hx hy
        obtain ⟨x1, x2⟩ := x
        obtain ⟨y1, y2⟩ := y
        have hTq : ∀ q' : Nat, Calls Try.prog 21 #[.slice ad1 x2.length c2, .slice ad1' y2.length c2'] (wr.drewN q') fun e w' => e = .returned (.bool (decide (x2 = y2))) ∧ ∃ n, w' = (wr.drewN q').drewN n := fun q' =>
          TextsD_quiet _ B _ _ x2 y2 (hW.below (below_drewN (Below.refl B wr) q') (Nat.le_refl _)) (hW'.below (below_drewN (Below.refl B wr) q') (Nat.le_refl _)) hwl
        have HE := beq_str x1 y1
        have HE2 : ((str x1).toList != (str y1).toList) = !decide (x1 = y1) := by rw [← HE]; rfl
        by_cases hxy : x1 = y1
        · rw [decide_eq_true hxy] at HE HE2
          simp only [Bool.not_true] at HE2
          have HX : Hid _ := hxy
          clear hxy
          generalize str x1 = s1 at *
          generalize str y1 = s2 at *
          by_cases hd : x2 = y2
          · rw [decide_eq_true hd] at hTq
            have HT2 : Hid _ := HYES.out (by rw [HX.out, hd])
            clear hd HYES HNO
            go_wp2_with fail
            go_quiet (first | (go_at_call 21; exact Calls.quiet_of (hTq _)) | fail)
            go_wp2
            exact ⟨⟨i + 1, _, by omega, by go_num, HT2, by rw [HQ.out]; exact World.drewN_drewN _ _ _⟩, by simp [intOf]; omega⟩
          · rw [decide_eq_false hd] at hTq
            have HF : Hid (D = false) := HNO.out fun h => hd (by simpa using congrArg Prod.snd h)
            clear hd HYES HNO
            go_wp2_with fail
            go_quiet (first | (go_at_call 21; exact Calls.quiet_of (hTq _)) | fail)
            go_wp2
            go_ret
            rw [HF.out]
            exact ⟨rfl, _, by rw [HQ.out]; exact World.drewN_drewN _ _ _⟩
        · rw [decide_eq_false hxy] at HE HE2
          simp only [Bool.not_false] at HE2
          have HF : Hid (D = false) := HNO.out fun h => hxy (by simpa using congrArg Prod.fst h)
          clear hxy hTq HYES HNO
          generalize str x1 = s1 at *
          generalize str y1 = s2 at *
          go_wp2_with fail
          go_quiet (fail)
          go_wp2
          go_ret
          rw [HF.out]
          exact ⟨rfl, _, by rw [HQ.out]; exact World.drewN_drewN _ _ _⟩
      · obtain rfl : i = A.length := by omega
        have i1 : ¬ (A.length : Int) < (A.length : Int) := by omega
        have HE : Hid (A = C) := by
          show _ = _
          have := HT.out
          rwa [List.take_length, HLE.out, List.take_length] at this
        clear HT
        go_wp2
        go_ret
        rw [HEQ.out HE.out]
        exact ⟨rfl, _, HQ.out⟩
  · have n1 : ((A.length : Int) != (C.length : Int)) = true := by rw [bne_iff_ne]; omega
    have HF : Hid (D = false) := HNE.out fun h => hlen (by rw [h])
    clear hlen
    go_wp2
    go_ret
    rw [HF.out]
    exact ⟨rfl, 0, rfl⟩

end Go.Proofs.Ytppcfidaalejfaa
