/-
  THE WALK OF TreeCopies.
-/
import Derived.Test.YtifolddmcibkdaaLFour
namespace Go.Proofs.Ytifolddmcibkdaa
open Go.RowKit

set_option maxRecDepth 100000 in
set_option maxHeartbeats 8000000 in
theorem copies_walk (hCopy : CopyDoes) (hCopyR : CopyRDoes) (v v1 v2 : Value) (l l1 l2 : List Tm.Op) (B : Nat) (w : World) (hv : OpR.Sl w B v l) (hv1 : OpR.Sl w B v1 l1) (hv2 : OpR.Sl w B v2 l2) (hB : B ≤ w.heap.size) (hz : Tm.Sized l) (hz1 : Tm.Sized l1) (hz2 : Tm.Sized l2) :
    Calls Try.prog 5 #[v, v1, v2] w fun e w' => e = .returned (.bool true) ∧ Below w.heap.size w w' := by
  obtain ⟨ad, c, rfl, hle⟩ := hv.shape
  obtain ⟨ad1, c1, rfl, hle1⟩ := hv1.shape
  obtain ⟨ad2, c2, rfl, hle2⟩ := hv2.shape
  go_enter Try.func5, Try.ntmps5
  go_wp2_with fail
  refine (works_true _).mono ?_
  rintro e w1 ⟨rfl, hB1⟩
  go_wp2_with fail
  refine (long_any w1 B _ l (hv.below hB1 hB) hz).mono ?_
  rintro e w2 ⟨_, rfl, ⟨lb, rfl, hlb⟩, hB2⟩
  have hC2 := hB1.trans (hB2.mono hB1.size)
  clear hB1 hB2
  cases lb with
  | true =>
    go_wp2
    go_ret
    exact ⟨rfl, hC2⟩
  | false =>
  obtain ⟨-, hl⟩ := hlb rfl
  clear hlb hz
  go_wp2_with fail
  refine (long_any w2 B _ l1 (hv1.below hC2 hB) hz1).mono ?_
  rintro e w3 ⟨_, rfl, ⟨lb, rfl, hlb⟩, hB3⟩
  have hC3 := hC2.trans (hB3.mono hC2.size)
  clear hB3 hC2
  cases lb with
  | true =>
    go_wp2
    go_ret
    exact ⟨rfl, hC3⟩
  | false =>
  obtain ⟨-, hl1⟩ := hlb rfl
  clear hlb hz1
  go_wp2_with fail
  refine (long_any w3 B _ l2 (hv2.below hC3 hB) hz2).mono ?_
  rintro e w4 ⟨_, rfl, ⟨lb, rfl, hlb⟩, hB4⟩
  have hC4 := hC3.trans (hB4.mono hC3.size)
  clear hB4 hC3
  cases lb with
  | true =>
    go_wp2
    go_ret
    exact ⟨rfl, hC4⟩
  | false =>
  obtain ⟨-, hl2⟩ := hlb rfl
  clear hlb hz2
  by_cases h600 : (600 : Int) < (l.length : Int) + (l1.length : Int) + (l2.length : Int)
  · go_wp2
    go_ret
    exact ⟨rfl, hC4⟩
  go_wp2_with fail
  refine (New_any _).mono ?_
  rintro e w5 ⟨g, S, rfl, hT, hS, hB5⟩
  have hC5 := hC4.trans (hB5.mono hC4.size)
  have hO := Both.new (w0 := w) hT (fun b hb => Nat.le_trans hC4.size (hS b hb)) hC5
  clear hS hB5 hC4 hT
  go_wp2_with fail
  obtain ⟨W, hW⟩ : ∃ W, w5.alloc (.cells #[.slice none 0 0, .slice none 0 0] 37) = W := ⟨_, rfl⟩
  rw [hW] at hO
  have hO0 : Both w W g w5.heap.size (Tm.play (l.take 0)) [] := hO
  rw [hW]
  generalize w5.heap.size = r at *
  clear hO hW hC5
  go_loopw [9] (fun i wr => ∃ k : Nat, k ≤ l.length ∧ i = .int .i64 (k : Int) ∧ Both w wr g r (Tm.play (l.take k)) []) (fun i _ => l.length - (intOf i).toNat)
  case atStart => exact ⟨0, Nat.zero_le _, rfl, hO0⟩
  case round =>
    obtain ⟨k, hk, rfl, hOk⟩ := hrel
    have hBk := hOk.base
    obtain ⟨hOkk, hchs⟩ := Tm.play_ok (l.take k) (by rw [List.length_take]; omega)
    rw [List.length_take] at hchs
    by_cases hlt : k < l.length
    · obtain ⟨b, o, c', e, hb, p0, p1, p2, p3⟩ := OpR.at (hv.below hBk hB) k hlt
      simp only [Value.slice.injEq] at e
      obtain ⟨rfl, -, rfl⟩ := e
      have i1 : (k : Int) < (l.length : Int) := by omega
      have HST : Hid _ := Tm.play_take l k hlt
      generalize l.getD k Tm.noOp = op at *
      generalize Tm.play (l.take k) = t at *
      go_wp2_with fail
      refine (does_any g r t [] op _ hOk hOkk (by omega)).mono ?_
      rintro e w6 ⟨rfl, hO6, -⟩
      clear p0 p1 p2 p3 hOk
      go_wp2
      exact ⟨⟨k + 1, by omega, by go_num, by rw [HST.out]; exact hO6⟩, by simp [intOf]; omega⟩
    · obtain rfl : k = l.length := by omega
      have i1 : ¬ (l.length : Int) < (l.length : Int) := by omega
      rw [List.take_length] at hOk hOkk hchs
      have hch : (Tm.play l).chs.length ≤ 2000 := by omega
      clear hchs hv hBk
      generalize Tm.play l = t at *
      have hO' := hOk
      obtain ⟨S, R, a1, a2, -⟩ := hO'
      go_wp2_with fail
      refine (hCopy g t S _ a1 hOkk).mono ?_
      rintro e w6 ⟨g2, S2, rfl, hT2, hS2, hB6⟩
      go_wp2_with fail
      refine (hCopyR r t R _ (a2.below hB6) hOkk).mono ?_
      rintro e w7 ⟨r2, R2, rfl, hR2, hRn, hB7⟩
      have hF := Four.made hOk hT2 hS2 hB6 hR2 hRn hB7
      clear hOk hT2 hS2 hB6 hR2 hRn hB7 a1 a2
      go_wp2_with fail
      refine (FLike2 hF hOkk).mono ?_
      rintro e w8 ⟨rfl, hF8⟩
      clear hF
      have hF0 : Four w w8 g r (Tm.playOn t (l1.take 0)) g2 r2 (Tm.playOn t (l2.take 0)) := hF8
      clear hF8
      go_wp2_with fail
      go_loopw [12] (fun i wr => ∃ k : Nat, k ≤ 4000 ∧ i = .int .i64 (k : Int) ∧ Four w wr g r (Tm.playOn t (l1.take k)) g2 r2 (Tm.playOn t (l2.take k))) (fun i _ => 4000 - (intOf i).toNat)
      case atStart => exact ⟨0, Nat.zero_le _, rfl, hF0⟩
      case round =>
        obtain ⟨k, hk, rfl, hFk⟩ := hrel
        have hBk := hFk.base
        obtain ⟨ok1, ch1⟩ := Tm.playOn_ok (l1.take k) t hOkk (by rw [List.length_take]; omega)
        obtain ⟨ok2, ch2⟩ := Tm.playOn_ok (l2.take k) t hOkk (by rw [List.length_take]; omega)
        rw [List.length_take] at ch1 ch2
        by_cases hlt1 : k < l1.length
        · have i2 : (k : Int) < (l1.length : Int) := by omega
          obtain ⟨b, o, c', e, hb, p0, p1, p2, p3⟩ := OpR.at (hv1.below hBk hB) k hlt1
          simp only [Value.slice.injEq] at e
          obtain ⟨rfl, -, rfl⟩ := e
          have HST : Hid _ := Tm.playOn_take t l1 k hlt1
          generalize l1.getD k Tm.noOp = op at *
          generalize Tm.playOn t (l1.take k) = t1 at *
          go_wp2_with fail
          refine (FDoes1 op hFk ok1 (by omega)).mono ?_
          rintro e w9 ⟨rfl, hF9⟩
          rw [← HST.out] at hF9
          clear p0 p1 p2 p3 hFk
          by_cases hlt2 : k < l2.length
          · have i3 : (k : Int) < (l2.length : Int) := by omega
            have hB9 := hF9.base
            obtain ⟨b2, o2, c2', e, hb2, p0, p1, p2, p3⟩ := OpR.at (hv2.below hB9 hB) k hlt2
            simp only [Value.slice.injEq] at e
            obtain ⟨rfl, -, rfl⟩ := e
            have HST2 : Hid _ := Tm.playOn_take t l2 k hlt2
            generalize l2.getD k Tm.noOp = op2 at *
            generalize Tm.playOn t (l2.take k) = t2 at *
            go_wp2_with fail
            refine (FDoes2 op2 hF9 ok2 (by omega)).mono ?_
            rintro e w10 ⟨rfl, hF10⟩
            rw [← HST2.out] at hF10
            clear p0 p1 p2 p3 hF9
            go_wp2
            exact ⟨⟨k + 1, by omega, by go_num, hF10⟩, by simp [intOf]; omega⟩
          · have i3 : ¬ (k : Int) < (l2.length : Int) := by omega
            have e2 : l2.take (k + 1) = l2.take k := by rw [List.take_of_length_le (by omega), List.take_of_length_le (by omega)]
            go_wp2
            exact ⟨⟨k + 1, by omega, by go_num, by rw [e2]; exact hF9⟩, by simp [intOf]; omega⟩
        · have i2 : ¬ (k : Int) < (l1.length : Int) := by omega
          have e1 : l1.take (k + 1) = l1.take k := by rw [List.take_of_length_le (by omega), List.take_of_length_le (by omega)]
          by_cases hlt2 : k < l2.length
          · have i3 : (k : Int) < (l2.length : Int) := by omega
            obtain ⟨b2, o2, c2', e, hb2, p0, p1, p2, p3⟩ := OpR.at (hv2.below hBk hB) k hlt2
            simp only [Value.slice.injEq] at e
            obtain ⟨rfl, -, rfl⟩ := e
            have HST2 : Hid _ := Tm.playOn_take t l2 k hlt2
            have HE1 : Hid _ := e1
            clear e1
            generalize l2.getD k Tm.noOp = op2 at *
            generalize Tm.playOn t (l2.take k) = t2 at *
            go_wp2_with fail
            refine (FDoes2 op2 hFk ok2 (by omega)).mono ?_
            rintro e w10 ⟨rfl, hF10⟩
            rw [← HST2.out, ← HE1.out] at hF10
            clear p0 p1 p2 p3 hFk
            go_wp2
            exact ⟨⟨k + 1, by omega, by go_num, hF10⟩, by simp [intOf]; omega⟩
          · have i3 : ¬ (k : Int) < (l2.length : Int) := by omega
            clear e1
            go_wp2_with fail
            refine (FLike1 hFk ok1).mono ?_
            rintro e w9 ⟨rfl, hF9⟩
            go_wp2_with fail
            refine (FLike2 hF9 ok2).mono ?_
            rintro e w10 ⟨rfl, hF10⟩
            have hBz := hF10.base
            go_wp2
            go_ret
            exact ⟨rfl, hBz⟩

end Go.Proofs.Ytifolddmcibkdaa
