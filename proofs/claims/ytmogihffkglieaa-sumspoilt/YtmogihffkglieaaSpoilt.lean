/-
  THE WALK OF SumSpoilt: the stage's theorem.
-/
import Derived.Test.YtmogihffkglieaaOfs
import Derived.Deep.RegionHeld3
namespace Go.Proofs.Ytmogihffkglieaa
open Go.RowKit

theorem flip_blk {w : World} {g : Nat} {X : List UInt8} (h : Blk w g X) (p : Nat) : Blk (w.setCell ⟨g, p / 8, none⟩ (.int .u8 (bits .xor .u8 ((X.getD (p / 8) 0).toNat : Int) ((2 : Int) ^ (p % 8) % 256)))) g (Sm.flip X p) := by
  have h1 := h.set (p / 8) (UInt8.ofNat ((X.getD (p / 8) 0).toNat ^^^ 2 ^ (p % 8)))
  have h2 := u8_xor_nat (X.getD (p / 8) 0).toNat (2 ^ (p % 8)) (UInt8.toNat_lt _) (Sm.pow8_lt p)
  have h3 : (2 : Int) ^ (p % 8) % 256 = ((2 ^ (p % 8) : Nat) : Int) := by
    have := Sm.pow8_lt p
    have e : ((2 ^ (p % 8) : Nat) : Int) = (2 : Int) ^ (p % 8) := by simp
    rw [← e]
    exact Int.emod_eq_of_lt (Int.natCast_nonneg _) (by omega)
  rw [Sm.xor_byte, ← h2, ← h3] at h1
  exact h1

set_option maxRecDepth 100000 in
set_option maxHeartbeats 4000000 in
theorem spoilt_walk (v : Value) (l : List UInt8) (fr : Int) (bt : Nat) (w : World) (hv : Byts w w.heap.size v l) :
    Calls Try.prog 8 #[v, .int .i64 fr, .int .u32 (bt : Int)] w fun e w' => e = .returned (.bool true) ∧ Below w.heap.size w w' := by
  have hv0 := hv
  obtain ⟨ad, c, rfl, hlc, -, -⟩ := hv0
  go_enter Try.func8, Try.ntmps8
  go_wp2_with fail
  refine (works_any w).mono ?_
  rintro e w1 ⟨rfl, hb1⟩
  by_cases hl : l.length ≤ 3000
  · have hl' : ¬ (3000 : Int) < (l.length : Int) := by omega
    have Hl : Hid (l.length ≤ 1099511627776) := by show _ ≤ _; omega
    go_wp2_with fail
    refine (Seal_any _ l w1 w.heap.size hb1.size (hv.below hb1 (Nat.le_refl _)) Hl).mono ?_
    rintro e w2 ⟨g, rfl, hg, hk2, hb2⟩
    obtain ⟨N, hN⟩ : ∃ N, N = l.length + 4 := ⟨_, rfl⟩
    rw [← hN]
    have hB2 := hb1.trans (hb2.mono hb1.size)
    have hgw : w.heap.size ≤ g := Nat.le_trans hb1.size hg
    have hL := Sm.seal_length l
    have hwL := Sm.whole_seal l
    have htk : (Sm.seal_ l).take l.length = l := by unfold Sm.seal_; rw [List.take_left]
    rw [← hN] at hL
    have HLn : Hid ((Sm.seal_ l).length = N) := hL
    have HN : Hid (N = l.length + 4) := hN
    have HwL : Hid (Sm.whole (Sm.seal_ l) = true) := hwL
    have hlen4 : (Sm.seal_ l).length - 4 = l.length := by omega
    have HLl : Hid ((Sm.seal_ l).length ≤ 1099511627776) := by show _ ≤ _; omega
    have hgo := Open_yes _ (Sm.seal_ l) w2 w2.heap.size (Nat.le_refl _) ((hk2.all hL.symm (Nat.le_refl _)).mono (hk2.lt)) HLl hwL
    rw [hlen4, htk] at hgo
    have hgo' : Calls Try.prog 10 #[.slice (some ⟨g, 0, none⟩) N N] w2 fun e w' => ∃ x y d, e = .returned (.tuple #[.slice x l.length d, .bool true]) ∧ Byts w' y (.slice x l.length d) l ∧ Below w2.heap.size w2 w' := by
      refine hgo.mono ?_
      rintro e w3 ⟨hor, hb3⟩
      rcases hor with ⟨h4, rfl⟩ | ⟨h4, g2, rfl, hg2, hk3⟩
      · have h0 : l = [] := List.eq_nil_of_length_eq_zero (by omega)
        subst h0
        exact ⟨none, 0, 0, rfl, Byts.nil _ _, hb3⟩
      · exact ⟨some ⟨g2, 0, none⟩, g2 + 1, l.length, rfl, hk3.all rfl (Nat.le_refl _), hb3⟩
    clear hgo htk hlen4 hL hwL hN
    go_wp2_with fail
    refine hgo'.mono ?_
    clear hgo'
    rintro e w3 ⟨x3, y3, d3, rfl, hy3, hb3⟩
    have hB3 := hB2.trans (hb3.mono hB2.size)
    have hk3 := hk2.below hb3 hk2.lt
    clear hk2 hb3 hb2
    go_wp2_with fail
    refine (Equal_same _ _ l y3 w.heap.size w3 hy3 (hv.below hB3 (Nat.le_refl _))).mono ?_
    rintro e w4 ⟨rfl, hw4⟩
    rw [hw4]
    clear hw4 w4 hy3
    by_cases h0 : bt = 0
    · have h0' : ((bt : Int) == 0) = true := by rw [beq_iff_eq]; omega
      go_wp2
      go_ret
      exact ⟨rfl, hB3⟩
    · have h0' : ((bt : Int) == 0) = false := by rw [beq_eq_false_iff_ne]; omega
      by_cases h1 : fr < 0
      · go_wp2
        go_ret
        exact ⟨rfl, hB3⟩
      · obtain ⟨f, rfl⟩ : ∃ f : Nat, fr = (f : Int) := ⟨fr.toNat, by omega⟩
        have h1' : decide ((f : Int) < 0) = false := decide_eq_false (by omega)
        have hN' := HN.out
        by_cases h2 : f ≤ 8 * N
        · have h2' : decide (8 * (N : Int) < (f : Int)) = false := decide_eq_false (by omega)
          have Hf : Hid (f ≤ 8 * N) := h2
          have hN2 : N ≤ 3004 := by omega
          clear h1 h2 h0 hN'
          go_wp2_with fail
          generalize hLL : Sm.seal_ l = L at *
          have HL0 : Hid (Blk w3 g L) := hk3
          have HB3 : Hid (Below w.heap.size w w3) := hB3
          clear hk3 hB3 hLL hv
          go_loopw [10, 46] (fun tu i wr => ∃ k W : Nat, ∃ X : List UInt8, k ≤ 32 ∧ i = .int .i64 (k : Int) ∧ tu = .bool (decide (W ≠ 0)) ∧ X.length = N ∧ Sm.num X = Sm.num L ^^^ 2 ^ f * W ∧ W < 2 ^ k ∧ Blk wr g X ∧ Below w.heap.size w wr) (fun _ i _ => 32 - (intOf i).toNat)
          case atStart => exact ⟨0, 0, L, by omega, rfl, rfl, HLn.out, by simp, by decide, HL0.out, HB3.out⟩
          case round =>
            obtain ⟨k, W, X, hk, rfl, rfl, hX, hnum, hW, hkr, hBr⟩ := hrel
            have HX : Hid (X.length = N) := hX
            have Hnum : Hid (Sm.num X = Sm.num L ^^^ 2 ^ f * W) := hnum
            have HW : Hid (W < 2 ^ k) := hW
            have HW1 : Hid (W < 2 ^ (k + 1)) := by show _ < _; rw [Nat.pow_succ]; omega
            have Hkr : Hid (Blk wr g X) := hkr
            have HBr : Hid (Below w.heap.size w wr) := hBr
            clear hX hnum hW hkr hBr
            by_cases hlt : k < 32
            · have hlti : (k : Int) < 32 := by omega
              obtain ⟨p, hpk⟩ : ∃ p, p = f + k := ⟨_, rfl⟩
              have hpi : (f : Int) + (k : Int) = (p : Int) := by omega
              have hsm : p ≤ 30000 := by have := Hf.out; omega
              have Hpk : Hid (p = f + k) := hpk
              clear hpk
              by_cases hp : p < 8 * N
              · have hp' : decide ((p : Int) < 8 * (N : Int)) = true := decide_eq_true (by omega)
                obtain ⟨q, hq⟩ : ∃ q, q = p / 8 := ⟨_, rfl⟩
                obtain ⟨r, hr⟩ : ∃ r, r = p % 8 := ⟨_, rfl⟩
                have hqi : (p : Int) / 8 = (q : Int) := by omega
                have hri : (p : Int) % 8 = (r : Int) := by omega
                have hqt : (p : Int).tdiv 8 = (q : Int) := by rw [Int.tdiv_eq_ediv_of_nonneg (by omega)]; exact hqi
                have hrt : (p : Int).tmod 8 = (r : Int) := by rw [Int.tmod_eq_emod_of_nonneg (by omega)]; exact hri
                have hql : (q : Int) < (N : Int) := by omega
                have hq0 : (0 : Int) ≤ (q : Int) := by omega
                have hr8 : (r : Int) < 8 := by omega
                have hwq : IntKind.i64.wrap (q : Int) = (q : Int) := by rw [IntKind.wrap_i64]; omega
                have hwr : IntKind.i64.wrap (r : Int) = (r : Int) := by rw [IntKind.wrap_i64]; omega
                have hwq3 : IntKind.i64.wrap ((p : Int).tdiv 8) = (q : Int) := by rw [hqt, hwq]
                have hwr3 : IntKind.i64.wrap ((p : Int).tmod 8) = (r : Int) := by rw [hrt, hwr]
                have hwq4 : IntKind.i64.wrap ((p : Int) / 8) = (q : Int) := by rw [hqi, hwq]
                have hwr4 : IntKind.i64.wrap ((p : Int) % 8) = (r : Int) := by rw [hri, hwr]
                have hr0 : (0 : Int) ≤ (r : Int) := by omega
                have hcell := Hkr.out.cell q (by rw [HX.out]; omega)
                have hfree := Hkr.out.free q
                have hx := UInt8.toNat_lt (X.getD q 0)
                have HF : Hid (Blk (wr.setCell ⟨g, q, none⟩ (.int .u8 (bits .xor .u8 ((X.getD q 0).toNat : Int) ((2 : Int) ^ r % 256)))) g (Sm.flip X p)) := by rw [hq, hr]; exact flip_blk Hkr.out p
                have hpX : f + k < 8 * X.length := by rw [HX.out, ← Hpk.out]; exact hp
                have hst := Sm.burst_step HW.out Hnum.out hpX
                rw [← Hpk.out] at hst
                have HS : Hid (Sm.num (Sm.flip X p) = Sm.num L ^^^ 2 ^ f * (W + 2 ^ k) ∧ W + 2 ^ k < 2 ^ (k + 1) ∧ W + 2 ^ k ≠ 0) := hst
                clear hst hpX
                generalize (X.getD q 0).toNat = x at *
                have Hq : Hid (q = p / 8) := hq
                have Hr : Hid (r = p % 8) := hr
                clear hq hr hp
                go_wp2_with fail
                · go_region
                  go_wp2
                  exact ⟨⟨k + 1, W + 2 ^ k, Sm.flip X p, by omega, by go_num, by simp only [decide_eq_true HS.out.2.2], by rw [Sm.flip_length]; exact HX.out, HS.out.1, HS.out.2.1, HF.out, (HBr.out.setCell hgw _).drew⟩, by simp [intOf]; omega⟩
                · exact ⟨⟨k + 1, W, X, by omega, by go_num, by simp, HX.out, Hnum.out, HW1.out, Hkr.out, HBr.out⟩, by simp [intOf]; omega⟩
              · have hp' : decide ((p : Int) < 8 * (N : Int)) = false := decide_eq_false (by omega)
                go_wp2_with fail
                all_goals exact ⟨⟨k + 1, W, X, by omega, by go_num, by simp, HX.out, Hnum.out, HW1.out, Hkr.out, HBr.out⟩, by simp [intOf]; omega⟩
            · obtain rfl : k = 32 := by omega
              have hy := Hkr.out.all (c := N) HX.out.symm (Nat.le_refl _)
              have HXl : Hid (X.length ≤ 1099511627776) := by rw [HX.out]; show _ ≤ _; omega
              have hgz : g + 1 ≤ wr.heap.size := Hkr.out.lt
              have hBr := HBr.out
              have Hno := fun h => Open_no _ X wr (g + 1) hgz hy HXl h
              have Hyes := fun h => Open_yes _ X wr (g + 1) hgz hy HXl h
              by_cases hW0 : W = 0
              · have hWb : decide (W ≠ 0) = false := by simp [hW0]
                rw [hWb]
                clear hWb hW0
                go_wp2_with fail
                cases hwX : Sm.whole X with
                | false =>
                  refine (Hno hwX).mono ?_
                  rintro e w4 ⟨rfl, hb4⟩
                  clear Hno Hyes
                  go_wp2
                  go_ret
                  exact ⟨rfl, hBr.trans (hb4.mono hBr.size)⟩
                | true =>
                  refine (Hyes hwX).mono ?_
                  clear Hno Hyes
                  rintro e w4 ⟨hor, hb4⟩
                  rcases hor with ⟨_, rfl⟩ | ⟨_, g2, rfl, _, _⟩
                  · go_wp2
                    go_ret
                    exact ⟨rfl, hBr.trans (hb4.mono hBr.size)⟩
                  · go_wp2
                    go_ret
                    exact ⟨rfl, hBr.trans (hb4.mono hBr.size)⟩
              · have hWb : decide (W ≠ 0) = true := by simp [hW0]
                have hwX : Sm.whole X = false := Sm.burst (l := L) (fr := f) (W := W) (by rw [HLn.out, HN.out]; omega) (by rw [HX.out, HLn.out]) (by rw [HLn.out]; exact Hf.out) hW0 HW.out Hnum.out HwL.out
                rw [hWb]
                clear hWb hW0
                go_wp2_with fail
                refine (Hno hwX).mono ?_
                rintro e w4 ⟨rfl, hb4⟩
                clear Hno Hyes
                go_wp2
                go_ret
                exact ⟨rfl, hBr.trans (hb4.mono hBr.size)⟩
        · have h2' : 8 * (N : Int) < (f : Int) := by omega
          have hN2 : N ≤ 3004 := by omega
          clear hN'
          go_wp2
          go_ret
          exact ⟨rfl, hB3⟩
  · have hl' : (3000 : Int) < (l.length : Int) := by omega
    go_wp2
    go_ret
    exact ⟨rfl, hb1⟩
end Go.Proofs.Ytmogihffkglieaa
