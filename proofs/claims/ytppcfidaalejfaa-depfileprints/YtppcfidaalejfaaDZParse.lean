/-
  THE LANDED Parse.
-/
import Derived.Test.YtppcfidaalejfaaDZLine
import Derived.Test.YtppcfidaalejfaaDpC
import Derived.Test.YtppcfidaalejfaaDpParT
namespace Go.Proofs.Ytppcfidaalejfaa
open Go.RowKit

theorem Drs.turnR {w w' : World} {base b : Nat} {v : Value} {ps : List (RawD × Dp.Rule)} {cs : Array Value} {t : TypeId} (h : Drs w base v ps) (hT : Turn [b] w w') (hb : Rw w b cs t) (h1 : t ≠ 9) (h2 : t ≠ 32) : Drs w' base v ps :=
  ⟨Row.turn h.row hT fun _ hg hm => Rw.ne_row hb h.row h2 hg (by simpa using hm), fun p hp => ⟨(h.its p hp).1, Row.turn (h.its p hp).2 hT fun _ hg hm => Rw.ne_row hb (h.its p hp).2 h1 hg (by simpa using hm)⟩, h.apart⟩
def ptrBlk : Value → Nat
  | .pointer (some a) => a.block
  | _ => 0

set_option maxRecDepth 100000 in
set_option maxHeartbeats 8000000 in
theorem parseC : ParseC := by
  intro s w
  have hl := bs_length s
  have hr0 := Rw.new w #[.int .i64 0, .int .i64 0] 26
  have hb0 := below_new w (.cells #[.int .i64 0, .int .i64 0] 26)
  have hs0 : (w.alloc (.cells #[.int .i64 0, .int .i64 0] 26)).heap.size = w.heap.size + 1 := size_alloc _ _
  by_cases hlen : s.size ≤ 32768
  · have hP : Dp.parse (bs s) = match Dp.read (bs s) with | .inl i => .inl (6, i) | .inr l => .inr l := by
      unfold Dp.parse
      rw [if_neg (by rw [hl]; omega)]
      rfl
    have HP : Hid _ := hP
    clear hP
    have hA0 := Dp.rest_read (bs s)
    generalize Dp.parse (bs s) = P at *
    generalize Dp.read (bs s) = R at *
    have l1 : ¬ (32768 : Int) < (s.size : Int) := by omega
    have HA0 : Hid (Dp.rest (bs s) 0 ⟨[], none, false, []⟩ = R) := hA0
    clear hA0
    have hRN := Rw.new (w.alloc (.cells #[.int .i64 0, .int .i64 0] 26)) #[.string s, .int .i64 0] 56
    have hr1 := hr0.alloc (.cells #[.string s, .int .i64 0] 56)
    have hb1 := hb0.alloc (by rw [hs0]; omega) (.cells #[.string s, .int .i64 0] 56)
    rw [hs0] at hRN
    go_enter Try.func12, Try.ntmps12
    go_wp2
    go_loopw [4, 5] (fun vo p wr => ∃ (i b : Nat) (ps : List (RawD × Dp.Rule)), p = .pointer (some ⟨b, 0, none⟩) ∧ RdZ wr b s i ∧ w.heap.size + 1 ≤ b ∧ i ≤ s.size + 1 ∧ Drs wr (w.heap.size + 1) vo ps ∧ Hid (Dp.rest (bs s) i ⟨[], none, false, ps.map Prod.snd⟩ = R) ∧ ps.length ≤ i ∧ Rw wr w.heap.size #[.int .i64 0, .int .i64 0] 26 ∧ Below w.heap.size w wr) (fun _ p wr => s.size + 1 - rdzAt wr (ptrBlk p))
    case atStart => exact ⟨0, w.heap.size + 1, [], rfl, hRN, Nat.le_refl _, Nat.zero_le _, Drs.nil _ _, HA0, Nat.zero_le _, hr1, hb1⟩
    case round =>
      clear hr0 hb0 hs0 hRN hr1 hb1
      obtain ⟨i, b, ps, rfl, hR, hbb, hi, hD, HA, hpl, hrr, hBe⟩ := hrel
      have hat := hR.at_
      have hpb : ptrBlk (.pointer (some ⟨b, 0, none⟩)) = b := rfl
      by_cases hov : s.size ≤ i
      · have hO := over_q hR (decide_eq_true hov) wr (Qt.refl wr)
        have HE : Hid (R = .inr (ps.map Prod.snd)) := by
          show _ = _
          rw [← HA.out]
          exact Dp.rest_over (by omega) _
        go_wp2_with fail
        refine hO.mono ?_
        rintro e W1 ⟨rfl, hQ1⟩
        have hr1 := hrr.below hQ1.below hrr.lt
        have hD1 := hD.below hQ1.below (Nat.le_refl _)
        have hB1 := hBe.trans (hQ1.below.mono hBe.size)
        have z0 : W1.cell? ⟨w.heap.size, 0, none⟩ = some (.int .i64 0) := hr1.cell 0
        have z1 : W1.cell? ⟨w.heap.size, 1, none⟩ = some (.int .i64 0) := hr1.cell 1
        have f0 := hr1.free 0
        have f1 := hr1.free 1
        have q3 := hr1.put2 (.int .i64 0) (.int .i64 0)
        have hT := Turn.put2 W1 w.heap.size (.int .i64 0) (.int .i64 0)
        clear hO hR hD hrr
        go_wp2
        refine bodyPost_ret (results_ds Try.results12 _ _ q3 rfl rfl rfl) rfl ?_
        rw [HP.out, HE.out]
        refine ⟨_, rfl, ?_, hT.bel hB1 (by simp)⟩
        exact (hD1.turn hT (by simp)).own.low (by omega)
      · have hO := over_q hR (decide_eq_false hov) wr (Qt.refl wr)
        go_wp2_with fail
        refine hO.mono ?_
        rintro e W1 ⟨rfl, hQ1⟩
        have hr1 := hrr.below hQ1.below hrr.lt
        have hD1 := hD.below hQ1.below (Nat.le_refl _)
        have hB1 := hBe.trans (hQ1.below.mono hBe.size)
        have hR1 := hR.heap hQ1.heap
        have hLn := line_any W1 b s i hR1 (by omega) hlen (ps.map Prod.snd) R HA.out
        clear hO hR hD hrr hBe hQ1
        go_wp2_with fail
        refine hLn.mono ?_
        rintro e W2 ⟨hT2, hE2⟩
        have hr2 := hr1.turn hT2 (by simp; omega)
        have hD2 := hD1.turnR hT2 hR1 (by decide) (by decide)
        have hB2 : Below w.heap.size w W2 := hB1.trans (hT2.below' hB1.size (by simp; omega))
        rcases hE2 with ⟨j, rfl, hR2, hRj⟩ | ⟨j, t, ds, va, n, c, rfl, hR2, hij, hj, hO2, hRj⟩
        · have HE : Hid (R = .inl j) := hRj
          have hr3 := hr2.alloc (.cells #[.string ⟨#[]⟩, .slice none 0 0] 32)
          have hR3 : RdZ (W2.alloc (.cells #[.string ⟨#[]⟩, .slice none 0 0] 32)) b s j := Rw.alloc hR2 _
          have hB3 := hB2.alloc hB2.size (.cells #[.string ⟨#[]⟩, .slice none 0 0] 32)
          clear hr2 hR2 hB2 hD2 hR1 hr1 hD1 hB1 hLn hRj hT2
          go_upto_region 8 with fail
          generalize W2.alloc (.cells #[.string ⟨#[]⟩, .slice none 0 0] 32) = W3 at *
          have z0 : W3.cell? ⟨w.heap.size, 0, none⟩ = some (.int .i64 0) := hr3.cell 0
          have z1 : W3.cell? ⟨w.heap.size, 1, none⟩ = some (.int .i64 0) := hr3.cell 1
          have f0 := hr3.free 0
          have f1 := hr3.free 1
          have c1 : W3.cell? ⟨b, 1, none⟩ = some (.int .i64 (j : Int)) := Rw.cell hR3 1
          have hT := (Turn.put2 W3 w.heap.size (.int .i64 6) (.int .i64 (j : Int))).drew
          have q3 : Rw (((W3.setCell ⟨w.heap.size, 0, none⟩ (.int .i64 6)).setCell ⟨w.heap.size, 1, none⟩ (.int .i64 (j : Int))).drew) w.heap.size #[.int .i64 6, .int .i64 (j : Int)] 26 := hr3.put2 (.int .i64 6) (.int .i64 (j : Int))
          go_region
          all_goals go_wp2
          all_goals (
            refine bodyPost_ret (results_ds Try.results12 _ _ q3 rfl rfl rfl) rfl ?_
            rw [HP.out, HE.out]
            exact ⟨rfl, hT.bel hB3 (by simp)⟩)
        · obtain ⟨va', vn', vc', hv, hcv⟩ : ∃ ad m k, (Value.slice va n c) = .slice ad m k ∧ m = ds.length := by
            obtain ⟨ad, k, e, -⟩ := hO2.sl.shape
            exact ⟨ad, _, k, e, rfl⟩
          simp only [Value.slice.injEq] at hv
          obtain ⟨rfl, rfl, rfl⟩ := hv
          obtain ⟨st, hst⟩ : ∃ st, str t = st := ⟨_, rfl⟩
          have hsn := str_nil t
          rw [hst] at hsn ⊢
          have HST : Hid (str t = st) := hst
          clear hst hcv
          have hr3 := hr2.alloc (.cells #[.string st, .slice va n c] 32)
          have hR3 : RdZ (W2.alloc (.cells #[.string st, .slice va n c] 32)) b s j := Rw.alloc hR2 _
          have hB3 := hB2.alloc hB2.size (.cells #[.string st, .slice va n c] 32)
          have hO3 := hO2.alloc (.cells #[.string st, .slice va n c] 32)
          have hD3 := hD2.alloc (.cells #[.string st, .slice va n c] 32)
          have hq3 := Rw.new W2 #[.string st, .slice va n c] 32
          have hbz : b < W2.heap.size := Rw.lt hR2
          have HAP : Hid (∀ g, (Value.slice va n c).ownBlock = some g → ∀ p ∈ ps, p.1.deps.ownBlock ≠ some g) := fun g hg p hp e => by
            have h1 := (hO2.lt g hg).1
            have h2 := (hD1.lt hp e).2
            omega
          have hzz : W1.heap.size ≤ W2.heap.size := hT2.size
          have hbz1 : b < W1.heap.size := Rw.lt hR1
          have hzw : w.heap.size + 1 ≤ W1.heap.size := by omega
          have HRJ : Hid _ := hRj
          clear hr2 hR2 hB2 hD2 hR1 hr1 hD1 hB1 hLn hRj hT2 hO2
          go_upto_region 9 with fail
          have hz3 : (W2.alloc (.cells #[.string st, .slice va n c] 32)).heap.size = W2.heap.size + 1 := size_alloc _ _
          generalize W2.alloc (.cells #[.string st, .slice va n c] 32) = W3 at *
          have k0 : W3.cell? ⟨W2.heap.size, 0, none⟩ = some (.string st) := hq3.cell 0
          have k1 : W3.cell? ⟨W2.heap.size, 1, none⟩ = some (.slice va n c) := hq3.cell 1
          generalize W2.heap.size = q at *
          obtain ⟨oa, oc, hov0, hoc⟩ := hD3.row.sl.shape
          rw [List.length_map] at hov0 hoc
          subst hov0
          by_cases ht : t = []
          · rw [decide_eq_true ht] at hsn
            have HX : Hid (Dp.rest (bs s) j ⟨[], none, false, ps.map Prod.snd⟩ = R) := by
              have := HRJ.out
              rw [if_pos ht, List.append_nil] at this
              exact this.symm
            have c0 : W3.cell? ⟨b, 0, none⟩ = some (.string s) := Rw.cell hR3 0
            have c1 : W3.cell? ⟨b, 1, none⟩ = some (.int .i64 (j : Int)) := Rw.cell hR3 1
            have hRN := Rw.new W3 #[.string s, .int .i64 (j : Int)] 56
            rw [hz3] at hRN
            have hRz : RdZ (W3.alloc (.cells #[.string s, .int .i64 (j : Int)] 56)) (q + 1) s j := hRN
            have hat3 := hRz.at_
            have hr4 := hr3.alloc (.cells #[.string s, .int .i64 (j : Int)] 56)
            have hB4 := hB3.alloc hB3.size (.cells #[.string s, .int .i64 (j : Int)] 56)
            have hD4 := hD3.alloc (.cells #[.string s, .int .i64 (j : Int)] 56)
            have hpb4 : ptrBlk (.pointer (some ⟨q + 1, 0, none⟩)) = q + 1 := rfl
            clear HRJ
            go_wp2
            exact ⟨⟨j, q + 1, ps, rfl, hRz, by omega, hj, hD4, HX, by omega, hr4, hB4⟩, by rw [hpb4, hpb, hat3, hat]; omega⟩
          · rw [decide_eq_false ht] at hsn
            have HX : Hid (Dp.rest (bs s) j ⟨[], none, false, (ps ++ [((⟨t, va, n, c⟩ : RawD), ((t, ds) : Dp.Rule))]).map Prod.snd⟩ = R) := by
              have := HRJ.out
              rw [if_neg ht] at this
              rw [List.map_append]
              exact this.symm
            have hL := DrR.lit W3 ⟨t, va, n, c⟩ #[.string st, .slice va n c] (by rw [← HST.out]; rfl)
            rw [hz3] at hL
            have hD4 := hD3.alloc (.cells #[.string st, .slice va n c] 32)
            have hO4 := hO3.alloc (.cells #[.string st, .slice va n c] 32)
            have hR4 : RdZ (W3.alloc (.cells #[.string st, .slice va n c] 32)) b s j := Rw.alloc hR3 _
            have hr4 := hr3.alloc (.cells #[.string st, .slice va n c] 32)
            have hB4 := hB3.alloc hB3.size (.cells #[.string st, .slice va n c] 32)
            have hrow4 : DrR.Own (W3.alloc (.cells #[.string st, .slice va n c] 32)) (w.heap.size + 1) (.slice oa ps.length oc) (ps.map Prod.fst) := hD4.row
            have HLn : Hid ((ps.map Prod.fst).length + [(⟨t, va, n, c⟩ : RawD)].length ≤ 1099511627) := by show _ ≤ _; simp only [List.length_map, List.length_cons, List.length_nil]; omega
            have hbs4 : w.heap.size + 1 ≤ (W3.alloc (.cells #[.string st, .slice va n c] 32)).heap.size := by rw [size_alloc]; omega
            have HY : Hid (∀ v5 w5, DrR.Own w5 (w.heap.size + 1) v5 (ps.map Prod.fst ++ [⟨t, va, n, c⟩]) → (W3.alloc (.cells #[.string st, .slice va n c] 32)).grownBy w5 (Value.slice oa ps.length oc).ownBlock → RdZ w5 b s j ∧ Rw w5 w.heap.size #[.int .i64 0, .int .i64 0] 26 ∧ Below w.heap.size w w5 ∧ Drs w5 (w.heap.size + 1) v5 (ps ++ [((⟨t, va, n, c⟩ : RawD), ((t, ds) : Dp.Rule))])) := fun v5 w5 hO5 hg5 => by
              have hT5 := Turn.of_grown hg5
              have hne : ∀ {cs : Array Value} {ty : TypeId} {g : Nat}, Rw (W3.alloc (.cells #[.string st, .slice va n c] 32)) g cs ty → ty ≠ 32 → g ∉ (Value.slice oa ps.length oc).ownBlock.toList := fun hq hty hm => Rw.ne_row hq hrow4 hty (by simpa using hm) rfl
              refine ⟨hR4.turn hT5 (hne hR4 (by decide)), hr4.turn hT5 (hne hr4 (by decide)), hB4.trans (hT5.below' hB4.size (fun x hx => ?_)), hD4.push (by rw [List.map_append]; exact hO5) hg5 ⟨rfl, ?_⟩ HAP⟩
              · have := (hrow4.lt x (by simpa using hx)).1
                omega
              · exact Rc.Own.low (World.ownsRow.kept hO4 hg5 (own_apart hO4 hrow4 (by decide))) hzw
            clear hD4 hO4 hR4 hr4 hB4 HAP hR3 hr3 hD3 hO3 hB3 HRJ
            go_upto_region 10 with fail
            go_wp2_with (at_builtin; go_must (refine DrR.append_at rfl _ _ rfl (w.heap.size + 1) (q + 1 + 1) _ _ (ps.map Prod.fst) [⟨t, va, n, c⟩] rfl hrow4 rfl hL (by simp) HLn hbs4 ?_))
            intro g cap w5 hO5 hg5 hw5 hlt5
            obtain ⟨hR5, hr5, hB5, hD5⟩ := HY.out _ w5 hO5 hg5
            have c0 : w5.cell? ⟨b, 0, none⟩ = some (.string s) := Rw.cell hR5 0
            have c1 : w5.cell? ⟨b, 1, none⟩ = some (.int .i64 (j : Int)) := Rw.cell hR5 1
            have hRN : RdZ (w5.alloc (.cells #[.string s, .int .i64 (j : Int)] 56)) w5.heap.size s j := Rw.new w5 _ _
            have hat3 := hRN.at_
            have hr6 := hr5.alloc (.cells #[.string s, .int .i64 (j : Int)] 56)
            have hB6 := hB5.alloc hB5.size (.cells #[.string s, .int .i64 (j : Int)] 56)
            have hD6 := hD5.alloc (.cells #[.string s, .int .i64 (j : Int)] 56)
            have hpb4 : ptrBlk (.pointer (some ⟨w5.heap.size, 0, none⟩)) = w5.heap.size := rfl
            have hz5 : w.heap.size + 1 ≤ w5.heap.size := by have := Rw.lt hr5; omega
            clear HY hR5 hr5 hB5 hD5 hL hrow4
            go_wp2
            exact ⟨⟨j, w5.heap.size, _, rfl, hRN, hz5, hj, hD6, HX, by rw [List.length_append]; simp only [List.length_cons, List.length_nil]; omega, hr6, hB6⟩, by rw [hpb4, hpb, hat3, hat]; omega⟩
  · have HE : Hid (Dp.parse (bs s) = .inl (3, 32768)) := by
      show _ = _
      unfold Dp.parse
      rw [if_pos (by rw [hl]; omega)]
    have l1 : (32768 : Int) < (s.size : Int) := by omega
    have z0 : (w.alloc (.cells #[.int .i64 0, .int .i64 0] 26)).cell? ⟨w.heap.size, 0, none⟩ = some (.int .i64 0) := hr0.cell 0
    have z1 : (w.alloc (.cells #[.int .i64 0, .int .i64 0] 26)).cell? ⟨w.heap.size, 1, none⟩ = some (.int .i64 0) := hr0.cell 1
    have f0 := hr0.free 0
    have f1 := hr0.free 1
    have q3 := hr0.put2 (.int .i64 3) (.int .i64 32768)
    have hT := Turn.put2 (w.alloc (.cells #[.int .i64 0, .int .i64 0] 26)) w.heap.size (.int .i64 3) (.int .i64 32768)
    generalize Dp.parse (bs s) = P at *
    go_enter Try.func12, Try.ntmps12
    go_upto_region 1 with fail
    generalize w.alloc (.cells #[.int .i64 0, .int .i64 0] 26) = W1 at *
    go_wp2
    refine bodyPost_ret (results_ds Try.results12 _ _ q3 rfl rfl rfl) rfl ?_
    rw [HE.out]
    exact ⟨rfl, hT.bel hb0 (by simp)⟩
end Go.Proofs.Ytppcfidaalejfaa
