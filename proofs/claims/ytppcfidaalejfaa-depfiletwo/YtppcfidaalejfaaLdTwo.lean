/-
  DepfileTwo, walked.
-/
import Derived.Test.YtppcfidaalejfaaDpC
import Derived.Test.YtppcfidaalejfaaDpRead
import Derived.Test.YtppcfidaalejfaaDpSame
import Derived.Test.YtppcfidaalejfaaRecG
namespace Go.Proofs.Ytppcfidaalejfaa
open Go.RowKit

set_option maxRecDepth 100000 in
set_option maxHeartbeats 4000000 in
theorem two_walk (hP : ParseC) (sa sb : ByteArray) (w : World) (hra : sa.size ≤ 140737488351232) (hrb : sb.size ≤ 140737488351232) :
    Calls Try.prog 8 #[.string sa, .string sb] w fun e w' => e = .returned (.bool true) ∧ Below w.heap.size w w' := by
  have eS := eql_spot
  have nS := neq_spot
  have gS := guard_spot
  have hW := works_any hP w
  have ha0 : (sa.size : Int) ≤ 140737488351232 := by omega
  have hb0 : (sb.size : Int) ≤ 140737488351232 := by omega
  go_enter Try.func8, Try.ntmps8
  go_wp2_with fail
  refine hW.mono ?_
  rintro e w1 ⟨rfl, hb1⟩
  clear hW
  by_cases hlen : sa.size + sb.size < 32768
  · obtain ⟨S0, hS0⟩ : ∃ S0 : Nat, (sa.size : Int) + (sb.size : Int) = (S0 : Int) := ⟨sa.size + sb.size, by omega⟩
    have s0 : (S0 : Int) ≤ 32767 := by omega
    have s8 : decide ((32768 : Int) ≤ (S0 : Int)) = false := decide_eq_false (by omega)
    have HLEN : Hid _ := hlen
    have a0 : (sa.size : Int) ≤ 32767 := by omega
    have b0 : (sb.size : Int) ≤ 32767 := by omega
    clear hlen ha0 hb0
    go_wp2
    clear s8 hS0 s0
    go_loopw [5] (fun k wr => ∃ n : Nat, n ≤ sa.size ∧ k = .int .i64 (n : Int) ∧ Hid (∀ j, j < n → (bs sa).reverse[j]? = some 92) ∧ w1 = wr) (fun k _ => sa.size - (intOf k).toNat)
    case atStart => exact ⟨0, Nat.zero_le _, rfl, (fun j hj => absurd hj (by omega)), rfl⟩
    case round =>
      obtain ⟨n, hn, rfl, HA, rfl⟩ := hrel
      have HEND : Hid ((n = sa.size ∨ (bs sa).reverse[n]? ≠ some 92) → Dp.trail (bs sa) = n) := fun h => Dp.trail_is (by rw [bs_length]; exact hn) HA.out (by rw [bs_length]; exact h)
      by_cases hlt : n < sa.size
      · obtain ⟨q, hq, hqe⟩ : ∃ q, q < sa.size ∧ q = sa.size - 1 - n := ⟨_, by omega, rfl⟩
        have i1 : (n : Int) < (sa.size : Int) := by omega
        have e1 : (sa.size : Int) - 1 - (n : Int) = (q : Int) := by omega
        have i2 : (q : Int) < (sa.size : Int) := by omega
        have hrv : (bs sa).reverse[n]? = some sa[q] := by
          subst hqe
          rw [Dp.rev_at (by rw [bs_length]; exact hlt)]
          simp only [bs_length]
          rfl
        have HRV : Hid _ := hrv
        have f92 := beq_lit sa[q] 92
        rw [show ((92 : UInt8).toNat : Int) = 92 from rfl] at f92
        clear hrv hqe
        by_cases h92 : sa[q] = 92
        · rw [decide_eq_true h92] at f92
          have HA2 : Hid (∀ j, j < n + 1 → (bs sa).reverse[j]? = some 92) := fun j hj => by
            by_cases hjn : j = n
            · subst hjn
              rw [HRV.out, h92]
            · exact HA.out j (by omega)
          clear h92 HRV HA HEND
          go_wp2
          exact ⟨⟨n + 1, by omega, by go_num, HA2, trivial⟩, by simp [intOf]; omega⟩
        · rw [decide_eq_false h92] at f92
          have HT : Hid (Dp.trail (bs sa) = n) := HEND.out (.inr (by rw [HRV.out]; simpa using h92))
          clear h92 HRV HA HEND
          by_cases hodd : Dp.trail (bs sa) % 2 = 1
          · have q1 : (((n : Int).tmod 2) == 1) = true := by rw [beq_iff_eq, Int.tmod_eq_emod_of_nonneg (by omega)]; have := HT.out; omega
            obtain ⟨Q, hQ⟩ : ∃ Q, (n : Int).tmod 2 = Q := ⟨_, rfl⟩
            rw [hQ] at q1
            clear hodd
            go_wp2
            go_ret
            exact ⟨rfl, hb1⟩
          · have q1 : (((n : Int).tmod 2) == 1) = false := by rw [beq_eq_false_iff_ne, Int.tmod_eq_emod_of_nonneg (by omega)]; have := HT.out; omega
            obtain ⟨Q, hQ⟩ : ∃ Q, (n : Int).tmod 2 = Q := ⟨_, rfl⟩
            rw [hQ] at q1
            have j1 : ¬ 9223372036854775807 < sa.size + 1 := by omega
            have j2 : ¬ 9223372036854775807 < (sa ++ (⟨#[10]⟩ : ByteArray)).size + sb.size := by rw [size_one]; omega
            have hPa := hP (sa ++ (⟨#[10]⟩ : ByteArray)) w1
            rw [bs_one] at hPa
            have hPb := fun W => hP sb W
            have hPc := fun W => hP (sa ++ (⟨#[10]⟩ : ByteArray) ++ sb) W
            simp only [bs_two] at hPc
            have hsz := size_one sa
            rcases Dp.parse_two (a := bs sa) (b := bs sb) (by omega) (by rw [bs_length, bs_length]; exact HLEN.out) with ⟨i, r1, r3⟩ | ⟨l, i, r1, r2, r3⟩ | ⟨l, m, r1, r2, r3⟩
            · rw [r1] at hPa
              simp only [r3] at hPc
              have HPB : Hid _ := hPb
              have HPC : Hid _ := hPc
              clear r1 r3 hPb hPc hodd hsz
              obtain ⟨tt, htt⟩ : ∃ tt, sa ++ (⟨#[10]⟩ : ByteArray) = tt := ⟨_, rfl⟩
              rw [htt] at hPa HPC j2
              have hg := htt
              go_wp2_with fail
              refine hPa.mono ?_
              rintro e w2 ⟨rfl, hb2⟩
              have hB2 := hb1.trans (hb2.mono hb1.size)
              have s2 := Rw.new w2 #[.int .i64 6, .int .i64 (i : Int)] 26
              have hB3 := hB2.alloc hB2.size (.cells #[.int .i64 6, .int .i64 (i : Int)] 26)
              clear hPa hb2 hB2
              go_wp2_with fail
              generalize w2.alloc (.cells #[.int .i64 6, .int .i64 (i : Int)] 26) = W2 at *
              generalize w2.heap.size = g2 at *
              refine (HPB.out W2).mono ?_
              rintro e w3 hE3
              obtain ⟨v3, x3, y3, rfl, hb3⟩ := hE3.any
              have hB4 := hB3.trans (hb3.mono hB3.size)
              have s3 := (s2.below hb3 s2.lt).alloc (.cells #[.int .i64 x3, .int .i64 y3] 26)
              have hB5 := hB4.alloc hB4.size (.cells #[.int .i64 x3, .int .i64 y3] 26)
              clear hE3 hb3 hB4 hB3 s2 HPB
              go_wp2_with fail
              generalize w3.alloc (.cells #[.int .i64 x3, .int .i64 y3] 26) = W3 at *
              generalize w3.heap.size = g3 at *
              refine (HPC.out W3).mono ?_
              rintro e w4 ⟨rfl, hb4⟩
              have hB6 := hB5.trans (hb4.mono hB5.size)
              have s4 := (s3.below hb4 s3.lt).alloc (.cells #[.int .i64 6, .int .i64 (i : Int)] 26)
              have s5 := Rw.new w4 #[.int .i64 6, .int .i64 (i : Int)] 26
              have hB7 := hB6.alloc hB6.size (.cells #[.int .i64 6, .int .i64 (i : Int)] 26)
              clear hb4 hB6 hB5 s3 HPC
              have z0 : (w4.alloc (.cells #[.int .i64 6, .int .i64 (i : Int)] 26)).cell? ⟨g2, 0, none⟩ = some (.int .i64 6) := s4.cell 0
              have z1 : (w4.alloc (.cells #[.int .i64 6, .int .i64 (i : Int)] 26)).cell? ⟨g2, 1, none⟩ = some (.int .i64 (i : Int)) := s4.cell 1
              have z2 : (w4.alloc (.cells #[.int .i64 6, .int .i64 (i : Int)] 26)).cell? ⟨w4.heap.size, 0, none⟩ = some (.int .i64 6) := s5.cell 0
              have z3 : (w4.alloc (.cells #[.int .i64 6, .int .i64 (i : Int)] 26)).cell? ⟨w4.heap.size, 1, none⟩ = some (.int .i64 (i : Int)) := s5.cell 1
              clear s4 s5
              go_wp2
              go_ret
              exact ⟨rfl, hB7⟩
            · obtain ⟨-, hile⟩ := Dp.parse_le (by rw [bs_length]; have := HLEN.out; omega) r2
              rw [bs_length] at hile
              have hsi : (i : Int) + ((sa.size : Int) + 1) = ((i + (sa.size + 1) : Nat) : Int) := by omega
              have ilb : (i : Int) ≤ 32767 := by omega
              rw [r1] at hPa
              simp only [r2] at hPb
              obtain ⟨J, hJ⟩ : ∃ J, i + (sa.size + 1) = J := ⟨_, rfl⟩
              rw [hJ] at hsi
              simp only [r3, bs_length, hJ] at hPc
              have HPB : Hid _ := hPb
              have HPC : Hid _ := hPc
              clear r1 r2 r3 hPb hPc hodd hile
              obtain ⟨tt, htt⟩ : ∃ tt, sa ++ (⟨#[10]⟩ : ByteArray) = tt := ⟨_, rfl⟩
              rw [htt] at hPa HPC j2 hsz
              have hg := htt
              have hts : (tt.size : Int) = (sa.size : Int) + 1 := by omega
              have hii : (i : Int) + (tt.size : Int) = (J : Int) := by omega
              have htl : (tt.size : Int) ≤ 32768 := by omega
              clear hJ hsi hsz hts
              go_wp2_with fail
              refine hPa.mono ?_
              rintro e w2 ⟨v2, rfl, hO2, hb2⟩
              have hB2 := hb1.trans (hb2.mono hb1.size)
              have s2 := Rw.new w2 #[.int .i64 0, .int .i64 0] 26
              have hB3 := hB2.alloc hB2.size (.cells #[.int .i64 0, .int .i64 0] 26)
              clear hPa hb2 hB2 hO2
              go_wp2_with fail
              generalize w2.alloc (.cells #[.int .i64 0, .int .i64 0] 26) = W2 at *
              generalize w2.heap.size = g2 at *
              refine (HPB.out W2).mono ?_
              rintro e w3 ⟨rfl, hb3⟩
              have hB4 := hB3.trans (hb3.mono hB3.size)
              have s3 := (s2.below hb3 s2.lt).alloc (.cells #[.int .i64 6, .int .i64 (i : Int)] 26)
              have t3 := Rw.new w3 #[.int .i64 6, .int .i64 (i : Int)] 26
              have hB5 := hB4.alloc hB4.size (.cells #[.int .i64 6, .int .i64 (i : Int)] 26)
              clear hb3 hB4 hB3 s2 HPB
              go_wp2_with fail
              generalize w3.alloc (.cells #[.int .i64 6, .int .i64 (i : Int)] 26) = W3 at *
              generalize w3.heap.size = g3 at *
              refine (HPC.out W3).mono ?_
              rintro e w4 ⟨rfl, hb4⟩
              have hB6 := hB5.trans (hb4.mono hB5.size)
              have s4 := (s3.below hb4 s3.lt).alloc (.cells #[.int .i64 6, .int .i64 (J : Int)] 26)
              have t4 := (t3.below hb4 t3.lt).alloc (.cells #[.int .i64 6, .int .i64 (J : Int)] 26)
              have s5 := Rw.new w4 #[.int .i64 6, .int .i64 (J : Int)] 26
              have hB7 := hB6.alloc hB6.size (.cells #[.int .i64 6, .int .i64 (J : Int)] 26)
              clear hb4 hB6 hB5 s3 t3 HPC
              have z0 : (w4.alloc (.cells #[.int .i64 6, .int .i64 (J : Int)] 26)).cell? ⟨g2, 0, none⟩ = some (.int .i64 0) := s4.cell 0
              have z1 : (w4.alloc (.cells #[.int .i64 6, .int .i64 (J : Int)] 26)).cell? ⟨g2, 1, none⟩ = some (.int .i64 0) := s4.cell 1
              have y0 : (w4.alloc (.cells #[.int .i64 6, .int .i64 (J : Int)] 26)).cell? ⟨g3, 0, none⟩ = some (.int .i64 6) := t4.cell 0
              have y1 : (w4.alloc (.cells #[.int .i64 6, .int .i64 (J : Int)] 26)).cell? ⟨g3, 1, none⟩ = some (.int .i64 (i : Int)) := t4.cell 1
              have z2 : (w4.alloc (.cells #[.int .i64 6, .int .i64 (J : Int)] 26)).cell? ⟨w4.heap.size, 0, none⟩ = some (.int .i64 6) := s5.cell 0
              have z3 : (w4.alloc (.cells #[.int .i64 6, .int .i64 (J : Int)] 26)).cell? ⟨w4.heap.size, 1, none⟩ = some (.int .i64 (J : Int)) := s5.cell 1
              clear s4 s5 t4 htt
              go_wp2
              go_ret
              exact ⟨rfl, hB7⟩
            · rw [r1] at hPa
              simp only [r2] at hPb
              simp only [r3] at hPc
              have hLL : Hid (l.length ≤ 40000 ∧ m.length ≤ 40000 ∧ ∀ x ∈ l ++ m, x.2.length ≤ 40000) := by
                have k1 := Dp.parse_small (by rw [List.length_append, bs_length, List.length_cons, bs_length]; have := HLEN.out; omega) r3
                rw [List.length_append] at k1
                exact ⟨by have := k1.1; omega, by have := k1.1; omega, fun x hx => by have := k1.2 x hx; omega⟩
              have HPB : Hid _ := hPb
              have HPC : Hid _ := hPc
              clear r1 r2 r3 hPb hPc hodd hsz
              obtain ⟨tt, htt⟩ : ∃ tt, sa ++ (⟨#[10]⟩ : ByteArray) = tt := ⟨_, rfl⟩
              rw [htt] at hPa HPC j2
              have hg := htt
              go_wp2_with fail
              refine hPa.mono ?_
              rintro e w2 ⟨v2, rfl, hO2, hb2⟩
              have hB2 := hb1.trans (hb2.mono hb1.size)
              have s2 := Rw.new w2 #[.int .i64 0, .int .i64 0] 26
              have hO3 := hO2.alloc (.cells #[.int .i64 0, .int .i64 0] 26)
              have hB3 := hB2.alloc hB2.size (.cells #[.int .i64 0, .int .i64 0] 26)
              clear hPa hb2 hB2 hO2
              go_wp2_with fail
              generalize w2.alloc (.cells #[.int .i64 0, .int .i64 0] 26) = W2 at *
              generalize w2.heap.size = g2 at *
              refine (HPB.out W2).mono ?_
              rintro e w3 ⟨v3, rfl, hO4, hb3⟩
              have hB4 := hB3.trans (hb3.mono hB3.size)
              have s3 := (s2.below hb3 s2.lt).alloc (.cells #[.int .i64 0, .int .i64 0] 26)
              have t3 := Rw.new w3 #[.int .i64 0, .int .i64 0] 26
              have hB5 := hB4.alloc hB4.size (.cells #[.int .i64 0, .int .i64 0] 26)
              have hO5 := (hO3.below hb3 (Nat.le_refl _)).alloc (.cells #[.int .i64 0, .int .i64 0] 26)
              have hO6 := hO4.alloc (.cells #[.int .i64 0, .int .i64 0] 26)
              clear hb3 hB4 hB3 s2 HPB hO3 hO4
              go_wp2_with fail
              generalize w3.alloc (.cells #[.int .i64 0, .int .i64 0] 26) = W3 at *
              generalize w3.heap.size = g3 at *
              refine (HPC.out W3).mono ?_
              rintro e w4 ⟨v4, rfl, hO7, hb4⟩
              have hB6 := hB5.trans (hb4.mono hB5.size)
              have s4 := (s3.below hb4 s3.lt).alloc (.cells #[.int .i64 0, .int .i64 0] 26)
              have t4 := (t3.below hb4 t3.lt).alloc (.cells #[.int .i64 0, .int .i64 0] 26)
              have s5 := Rw.new w4 #[.int .i64 0, .int .i64 0] 26
              have hB7 := hB6.alloc hB6.size (.cells #[.int .i64 0, .int .i64 0] 26)
              have hO8 := ((hO5.below hb4 (Nat.le_refl _)).alloc (.cells #[.int .i64 0, .int .i64 0] 26)).s
              have hO9 := ((hO6.below hb4 (Nat.le_refl _)).alloc (.cells #[.int .i64 0, .int .i64 0] 26)).s
              have hOa := (hO7.alloc (.cells #[.int .i64 0, .int .i64 0] 26)).s
              clear hb4 hB6 hB5 s3 t3 HPC hO5 hO6 hO7
              have z0 : (w4.alloc (.cells #[.int .i64 0, .int .i64 0] 26)).cell? ⟨g2, 0, none⟩ = some (.int .i64 0) := s4.cell 0
              have z1 : (w4.alloc (.cells #[.int .i64 0, .int .i64 0] 26)).cell? ⟨g2, 1, none⟩ = some (.int .i64 0) := s4.cell 1
              have y0 : (w4.alloc (.cells #[.int .i64 0, .int .i64 0] 26)).cell? ⟨g3, 0, none⟩ = some (.int .i64 0) := t4.cell 0
              have y1 : (w4.alloc (.cells #[.int .i64 0, .int .i64 0] 26)).cell? ⟨g3, 1, none⟩ = some (.int .i64 0) := t4.cell 1
              have z2 : (w4.alloc (.cells #[.int .i64 0, .int .i64 0] 26)).cell? ⟨w4.heap.size, 0, none⟩ = some (.int .i64 0) := s5.cell 0
              have z3 : (w4.alloc (.cells #[.int .i64 0, .int .i64 0] 26)).cell? ⟨w4.heap.size, 1, none⟩ = some (.int .i64 0) := s5.cell 1
              clear s4 s5 t4 htt
              go_upto_region 18 with fail
              clear z0 z1 y0 y1
              generalize w4.heap.size = g4 at *
              generalize w4.alloc (.cells #[.int .i64 0, .int .i64 0] 26) = W4 at *
              obtain ⟨pl, l1, l2, l3⟩ := hO8
              obtain ⟨pm, m1, m2, m3⟩ := hO9
              have hlit : DrR.Own (W4.alloc (.cells #[] 32)) W4.heap.size (.slice (some ⟨W4.heap.size, 0, none⟩) 0 0) [] := World.ownsRow_lit (size := 2) W4 #[] 0 (Nat.le_refl _) (by decide) rfl
              have hBn := below_new W4 (.cells #[] 32)
              have l1a := l1.below hBn (Nat.le_refl _)
              have HL1 : Hid (([] : List RawD).length + (pl.map Prod.fst).length ≤ 1099511627) := by
                have := hLL.out.1
                rw [l2, List.length_map] at this
                show _ ≤ _
                simp only [List.length_nil, List.length_map]; omega
              have HL2 : Hid ((pl.map Prod.fst).length + (pm.map Prod.fst).length ≤ 1099511627) := by
                have h1 := hLL.out.1
                have h2 := hLL.out.2.1
                rw [l2, List.length_map] at h1
                rw [m2, List.length_map] at h2
                show _ ≤ _
                simp only [List.length_map]; omega
              have hzz : W4.heap.size ≤ (W4.alloc (.cells #[] 32)).heap.size := by rw [size_alloc]; omega
              go_wp2_with (at_builtin; first | go_must (refine Rc.appendG DrR (by simp [Region.wanted, yielded]) (.tmp 92) (.tmp 93) rfl W4.heap.size W4.heap.size _ _ [] (pl.map Prod.fst) rfl hlit rfl l1a HL1 hzz ?_))
              intro v5 w5 hR5 hg5
              have hB5 : Below W4.heap.size W4 w5 := hBn.grown hg5 hBn.size fun q e => (hlit.lt q e).1
              have m1a := m1.below hB5 (Nat.le_refl _)
              go_wp2_with (at_builtin; first | go_must (refine Rc.appendG DrR (by simp [Region.wanted, yielded]) (.tmp 94) (.tmp 95) rfl W4.heap.size W4.heap.size _ _ (pl.map Prod.fst) (pm.map Prod.fst) rfl hR5 rfl m1a HL2 hB5.size ?_))
              intro v6 w6 hR6 hg6
              have hB6 : Below W4.heap.size W4 w6 := hB5.grown hg6 hB5.size fun q e => (hR5.lt q e).1
              have hS6 : DrS w6 w6.heap.size v6 (l ++ m) := by
                refine ⟨pl ++ pm, ?_, by rw [List.map_append, ← l2, ← m2], fun p hp => ?_⟩
                · have := hR6.sl
                  rw [← List.map_append] at this
                  exact this
                · rcases List.mem_append.1 hp with hp | hp
                  · exact ⟨(l3 p hp).1, ((l3 p hp).2.below hB6 (Nat.le_refl _)).mono hB6.size⟩
                  · exact ⟨(m3 p hp).1, ((m3 p hp).2.below hB6 (Nat.le_refl _)).mono hB6.size⟩
              have hEq := SameD_quiet v4 v6 (l ++ m) (l ++ m) w6 w6.heap.size ((hOa.below hB6 (Nat.le_refl _)).mono hB6.size) hS6 (by rw [List.length_append]; have := hLL.out.1; have := hLL.out.2.1; omega) (fun x hx => by have := hLL.out.2.2 x hx; omega)
              rw [decide_eq_true rfl] at hEq
              have hB8 := hB7.trans (hB6.mono hB7.size)
              clear hS6 hR6 hR5 hg5 hg6 m1a l1a hlit hBn HL1 HL2 hzz l1 l3 m1 m3 hOa hB5
              go_wp2_with fail
              refine hEq.mono ?_
              rintro e w7 ⟨rfl, n7, hn7⟩
              rw [hn7]
              clear hn7 hEq
              go_wp2
              go_ret
              exact ⟨rfl, below_drewN hB8 _⟩
      · have i1 : ¬ (n : Int) < (sa.size : Int) := by omega
        have HT : Hid (Dp.trail (bs sa) = n) := HEND.out (.inl (by omega))
        clear HEND HA
        by_cases hodd : Dp.trail (bs sa) % 2 = 1
        · have q1 : (((n : Int).tmod 2) == 1) = true := by rw [beq_iff_eq, Int.tmod_eq_emod_of_nonneg (by omega)]; have := HT.out; omega
          obtain ⟨Q, hQ⟩ : ∃ Q, (n : Int).tmod 2 = Q := ⟨_, rfl⟩
          rw [hQ] at q1
          clear hodd
          go_wp2
          go_ret
          exact ⟨rfl, hb1⟩
        · have q1 : (((n : Int).tmod 2) == 1) = false := by rw [beq_eq_false_iff_ne, Int.tmod_eq_emod_of_nonneg (by omega)]; have := HT.out; omega
          obtain ⟨Q, hQ⟩ : ∃ Q, (n : Int).tmod 2 = Q := ⟨_, rfl⟩
          rw [hQ] at q1
          have j1 : ¬ 9223372036854775807 < sa.size + 1 := by omega
          have j2 : ¬ 9223372036854775807 < (sa ++ (⟨#[10]⟩ : ByteArray)).size + sb.size := by rw [size_one]; omega
          have hPa := hP (sa ++ (⟨#[10]⟩ : ByteArray)) w1
          rw [bs_one] at hPa
          have hPb := fun W => hP sb W
          have hPc := fun W => hP (sa ++ (⟨#[10]⟩ : ByteArray) ++ sb) W
          simp only [bs_two] at hPc
          have hsz := size_one sa
          rcases Dp.parse_two (a := bs sa) (b := bs sb) (by omega) (by rw [bs_length, bs_length]; exact HLEN.out) with ⟨i, r1, r3⟩ | ⟨l, i, r1, r2, r3⟩ | ⟨l, m, r1, r2, r3⟩
          · rw [r1] at hPa
            simp only [r3] at hPc
            have HPB : Hid _ := hPb
            have HPC : Hid _ := hPc
            clear r1 r3 hPb hPc hodd hsz
            obtain ⟨tt, htt⟩ : ∃ tt, sa ++ (⟨#[10]⟩ : ByteArray) = tt := ⟨_, rfl⟩
            rw [htt] at hPa HPC j2
            have hg := htt
            go_wp2_with fail
            refine hPa.mono ?_
            rintro e w2 ⟨rfl, hb2⟩
            have hB2 := hb1.trans (hb2.mono hb1.size)
            have s2 := Rw.new w2 #[.int .i64 6, .int .i64 (i : Int)] 26
            have hB3 := hB2.alloc hB2.size (.cells #[.int .i64 6, .int .i64 (i : Int)] 26)
            clear hPa hb2 hB2
            go_wp2_with fail
            generalize w2.alloc (.cells #[.int .i64 6, .int .i64 (i : Int)] 26) = W2 at *
            generalize w2.heap.size = g2 at *
            refine (HPB.out W2).mono ?_
            rintro e w3 hE3
            obtain ⟨v3, x3, y3, rfl, hb3⟩ := hE3.any
            have hB4 := hB3.trans (hb3.mono hB3.size)
            have s3 := (s2.below hb3 s2.lt).alloc (.cells #[.int .i64 x3, .int .i64 y3] 26)
            have hB5 := hB4.alloc hB4.size (.cells #[.int .i64 x3, .int .i64 y3] 26)
            clear hE3 hb3 hB4 hB3 s2 HPB
            go_wp2_with fail
            generalize w3.alloc (.cells #[.int .i64 x3, .int .i64 y3] 26) = W3 at *
            generalize w3.heap.size = g3 at *
            refine (HPC.out W3).mono ?_
            rintro e w4 ⟨rfl, hb4⟩
            have hB6 := hB5.trans (hb4.mono hB5.size)
            have s4 := (s3.below hb4 s3.lt).alloc (.cells #[.int .i64 6, .int .i64 (i : Int)] 26)
            have s5 := Rw.new w4 #[.int .i64 6, .int .i64 (i : Int)] 26
            have hB7 := hB6.alloc hB6.size (.cells #[.int .i64 6, .int .i64 (i : Int)] 26)
            clear hb4 hB6 hB5 s3 HPC
            have z0 : (w4.alloc (.cells #[.int .i64 6, .int .i64 (i : Int)] 26)).cell? ⟨g2, 0, none⟩ = some (.int .i64 6) := s4.cell 0
            have z1 : (w4.alloc (.cells #[.int .i64 6, .int .i64 (i : Int)] 26)).cell? ⟨g2, 1, none⟩ = some (.int .i64 (i : Int)) := s4.cell 1
            have z2 : (w4.alloc (.cells #[.int .i64 6, .int .i64 (i : Int)] 26)).cell? ⟨w4.heap.size, 0, none⟩ = some (.int .i64 6) := s5.cell 0
            have z3 : (w4.alloc (.cells #[.int .i64 6, .int .i64 (i : Int)] 26)).cell? ⟨w4.heap.size, 1, none⟩ = some (.int .i64 (i : Int)) := s5.cell 1
            clear s4 s5
            go_wp2
            go_ret
            exact ⟨rfl, hB7⟩
          · obtain ⟨-, hile⟩ := Dp.parse_le (by rw [bs_length]; have := HLEN.out; omega) r2
            rw [bs_length] at hile
            have hsi : (i : Int) + ((sa.size : Int) + 1) = ((i + (sa.size + 1) : Nat) : Int) := by omega
            have ilb : (i : Int) ≤ 32767 := by omega
            rw [r1] at hPa
            simp only [r2] at hPb
            obtain ⟨J, hJ⟩ : ∃ J, i + (sa.size + 1) = J := ⟨_, rfl⟩
            rw [hJ] at hsi
            simp only [r3, bs_length, hJ] at hPc
            have HPB : Hid _ := hPb
            have HPC : Hid _ := hPc
            clear r1 r2 r3 hPb hPc hodd hile
            obtain ⟨tt, htt⟩ : ∃ tt, sa ++ (⟨#[10]⟩ : ByteArray) = tt := ⟨_, rfl⟩
            rw [htt] at hPa HPC j2 hsz
            have hg := htt
            have hts : (tt.size : Int) = (sa.size : Int) + 1 := by omega
            have hii : (i : Int) + (tt.size : Int) = (J : Int) := by omega
            have htl : (tt.size : Int) ≤ 32768 := by omega
            clear hJ hsi hsz hts
            go_wp2_with fail
            refine hPa.mono ?_
            rintro e w2 ⟨v2, rfl, hO2, hb2⟩
            have hB2 := hb1.trans (hb2.mono hb1.size)
            have s2 := Rw.new w2 #[.int .i64 0, .int .i64 0] 26
            have hB3 := hB2.alloc hB2.size (.cells #[.int .i64 0, .int .i64 0] 26)
            clear hPa hb2 hB2 hO2
            go_wp2_with fail
            generalize w2.alloc (.cells #[.int .i64 0, .int .i64 0] 26) = W2 at *
            generalize w2.heap.size = g2 at *
            refine (HPB.out W2).mono ?_
            rintro e w3 ⟨rfl, hb3⟩
            have hB4 := hB3.trans (hb3.mono hB3.size)
            have s3 := (s2.below hb3 s2.lt).alloc (.cells #[.int .i64 6, .int .i64 (i : Int)] 26)
            have t3 := Rw.new w3 #[.int .i64 6, .int .i64 (i : Int)] 26
            have hB5 := hB4.alloc hB4.size (.cells #[.int .i64 6, .int .i64 (i : Int)] 26)
            clear hb3 hB4 hB3 s2 HPB
            go_wp2_with fail
            generalize w3.alloc (.cells #[.int .i64 6, .int .i64 (i : Int)] 26) = W3 at *
            generalize w3.heap.size = g3 at *
            refine (HPC.out W3).mono ?_
            rintro e w4 ⟨rfl, hb4⟩
            have hB6 := hB5.trans (hb4.mono hB5.size)
            have s4 := (s3.below hb4 s3.lt).alloc (.cells #[.int .i64 6, .int .i64 (J : Int)] 26)
            have t4 := (t3.below hb4 t3.lt).alloc (.cells #[.int .i64 6, .int .i64 (J : Int)] 26)
            have s5 := Rw.new w4 #[.int .i64 6, .int .i64 (J : Int)] 26
            have hB7 := hB6.alloc hB6.size (.cells #[.int .i64 6, .int .i64 (J : Int)] 26)
            clear hb4 hB6 hB5 s3 t3 HPC
            have z0 : (w4.alloc (.cells #[.int .i64 6, .int .i64 (J : Int)] 26)).cell? ⟨g2, 0, none⟩ = some (.int .i64 0) := s4.cell 0
            have z1 : (w4.alloc (.cells #[.int .i64 6, .int .i64 (J : Int)] 26)).cell? ⟨g2, 1, none⟩ = some (.int .i64 0) := s4.cell 1
            have y0 : (w4.alloc (.cells #[.int .i64 6, .int .i64 (J : Int)] 26)).cell? ⟨g3, 0, none⟩ = some (.int .i64 6) := t4.cell 0
            have y1 : (w4.alloc (.cells #[.int .i64 6, .int .i64 (J : Int)] 26)).cell? ⟨g3, 1, none⟩ = some (.int .i64 (i : Int)) := t4.cell 1
            have z2 : (w4.alloc (.cells #[.int .i64 6, .int .i64 (J : Int)] 26)).cell? ⟨w4.heap.size, 0, none⟩ = some (.int .i64 6) := s5.cell 0
            have z3 : (w4.alloc (.cells #[.int .i64 6, .int .i64 (J : Int)] 26)).cell? ⟨w4.heap.size, 1, none⟩ = some (.int .i64 (J : Int)) := s5.cell 1
            clear s4 s5 t4 htt
            go_wp2
            go_ret
            exact ⟨rfl, hB7⟩
          · rw [r1] at hPa
            simp only [r2] at hPb
            simp only [r3] at hPc
            have hLL : Hid (l.length ≤ 40000 ∧ m.length ≤ 40000 ∧ ∀ x ∈ l ++ m, x.2.length ≤ 40000) := by
              have k1 := Dp.parse_small (by rw [List.length_append, bs_length, List.length_cons, bs_length]; have := HLEN.out; omega) r3
              rw [List.length_append] at k1
              exact ⟨by have := k1.1; omega, by have := k1.1; omega, fun x hx => by have := k1.2 x hx; omega⟩
            have HPB : Hid _ := hPb
            have HPC : Hid _ := hPc
            clear r1 r2 r3 hPb hPc hodd hsz
            obtain ⟨tt, htt⟩ : ∃ tt, sa ++ (⟨#[10]⟩ : ByteArray) = tt := ⟨_, rfl⟩
            rw [htt] at hPa HPC j2
            have hg := htt
            go_wp2_with fail
            refine hPa.mono ?_
            rintro e w2 ⟨v2, rfl, hO2, hb2⟩
            have hB2 := hb1.trans (hb2.mono hb1.size)
            have s2 := Rw.new w2 #[.int .i64 0, .int .i64 0] 26
            have hO3 := hO2.alloc (.cells #[.int .i64 0, .int .i64 0] 26)
            have hB3 := hB2.alloc hB2.size (.cells #[.int .i64 0, .int .i64 0] 26)
            clear hPa hb2 hB2 hO2
            go_wp2_with fail
            generalize w2.alloc (.cells #[.int .i64 0, .int .i64 0] 26) = W2 at *
            generalize w2.heap.size = g2 at *
            refine (HPB.out W2).mono ?_
            rintro e w3 ⟨v3, rfl, hO4, hb3⟩
            have hB4 := hB3.trans (hb3.mono hB3.size)
            have s3 := (s2.below hb3 s2.lt).alloc (.cells #[.int .i64 0, .int .i64 0] 26)
            have t3 := Rw.new w3 #[.int .i64 0, .int .i64 0] 26
            have hB5 := hB4.alloc hB4.size (.cells #[.int .i64 0, .int .i64 0] 26)
            have hO5 := (hO3.below hb3 (Nat.le_refl _)).alloc (.cells #[.int .i64 0, .int .i64 0] 26)
            have hO6 := hO4.alloc (.cells #[.int .i64 0, .int .i64 0] 26)
            clear hb3 hB4 hB3 s2 HPB hO3 hO4
            go_wp2_with fail
            generalize w3.alloc (.cells #[.int .i64 0, .int .i64 0] 26) = W3 at *
            generalize w3.heap.size = g3 at *
            refine (HPC.out W3).mono ?_
            rintro e w4 ⟨v4, rfl, hO7, hb4⟩
            have hB6 := hB5.trans (hb4.mono hB5.size)
            have s4 := (s3.below hb4 s3.lt).alloc (.cells #[.int .i64 0, .int .i64 0] 26)
            have t4 := (t3.below hb4 t3.lt).alloc (.cells #[.int .i64 0, .int .i64 0] 26)
            have s5 := Rw.new w4 #[.int .i64 0, .int .i64 0] 26
            have hB7 := hB6.alloc hB6.size (.cells #[.int .i64 0, .int .i64 0] 26)
            have hO8 := ((hO5.below hb4 (Nat.le_refl _)).alloc (.cells #[.int .i64 0, .int .i64 0] 26)).s
            have hO9 := ((hO6.below hb4 (Nat.le_refl _)).alloc (.cells #[.int .i64 0, .int .i64 0] 26)).s
            have hOa := (hO7.alloc (.cells #[.int .i64 0, .int .i64 0] 26)).s
            clear hb4 hB6 hB5 s3 t3 HPC hO5 hO6 hO7
            have z0 : (w4.alloc (.cells #[.int .i64 0, .int .i64 0] 26)).cell? ⟨g2, 0, none⟩ = some (.int .i64 0) := s4.cell 0
            have z1 : (w4.alloc (.cells #[.int .i64 0, .int .i64 0] 26)).cell? ⟨g2, 1, none⟩ = some (.int .i64 0) := s4.cell 1
            have y0 : (w4.alloc (.cells #[.int .i64 0, .int .i64 0] 26)).cell? ⟨g3, 0, none⟩ = some (.int .i64 0) := t4.cell 0
            have y1 : (w4.alloc (.cells #[.int .i64 0, .int .i64 0] 26)).cell? ⟨g3, 1, none⟩ = some (.int .i64 0) := t4.cell 1
            have z2 : (w4.alloc (.cells #[.int .i64 0, .int .i64 0] 26)).cell? ⟨w4.heap.size, 0, none⟩ = some (.int .i64 0) := s5.cell 0
            have z3 : (w4.alloc (.cells #[.int .i64 0, .int .i64 0] 26)).cell? ⟨w4.heap.size, 1, none⟩ = some (.int .i64 0) := s5.cell 1
            clear s4 s5 t4 htt
            go_upto_region 18 with fail
            clear z0 z1 y0 y1
            generalize w4.heap.size = g4 at *
            generalize w4.alloc (.cells #[.int .i64 0, .int .i64 0] 26) = W4 at *
            obtain ⟨pl, l1, l2, l3⟩ := hO8
            obtain ⟨pm, m1, m2, m3⟩ := hO9
            have hlit : DrR.Own (W4.alloc (.cells #[] 32)) W4.heap.size (.slice (some ⟨W4.heap.size, 0, none⟩) 0 0) [] := World.ownsRow_lit (size := 2) W4 #[] 0 (Nat.le_refl _) (by decide) rfl
            have hBn := below_new W4 (.cells #[] 32)
            have l1a := l1.below hBn (Nat.le_refl _)
            have HL1 : Hid (([] : List RawD).length + (pl.map Prod.fst).length ≤ 1099511627) := by
              have := hLL.out.1
              rw [l2, List.length_map] at this
              show _ ≤ _
              simp only [List.length_nil, List.length_map]; omega
            have HL2 : Hid ((pl.map Prod.fst).length + (pm.map Prod.fst).length ≤ 1099511627) := by
              have h1 := hLL.out.1
              have h2 := hLL.out.2.1
              rw [l2, List.length_map] at h1
              rw [m2, List.length_map] at h2
              show _ ≤ _
              simp only [List.length_map]; omega
            have hzz : W4.heap.size ≤ (W4.alloc (.cells #[] 32)).heap.size := by rw [size_alloc]; omega
            go_wp2_with (at_builtin; first | go_must (refine Rc.appendG DrR (by simp [Region.wanted, yielded]) (.tmp 92) (.tmp 93) rfl W4.heap.size W4.heap.size _ _ [] (pl.map Prod.fst) rfl hlit rfl l1a HL1 hzz ?_))
            intro v5 w5 hR5 hg5
            have hB5 : Below W4.heap.size W4 w5 := hBn.grown hg5 hBn.size fun q e => (hlit.lt q e).1
            have m1a := m1.below hB5 (Nat.le_refl _)
            go_wp2_with (at_builtin; first | go_must (refine Rc.appendG DrR (by simp [Region.wanted, yielded]) (.tmp 94) (.tmp 95) rfl W4.heap.size W4.heap.size _ _ (pl.map Prod.fst) (pm.map Prod.fst) rfl hR5 rfl m1a HL2 hB5.size ?_))
            intro v6 w6 hR6 hg6
            have hB6 : Below W4.heap.size W4 w6 := hB5.grown hg6 hB5.size fun q e => (hR5.lt q e).1
            have hS6 : DrS w6 w6.heap.size v6 (l ++ m) := by
              refine ⟨pl ++ pm, ?_, by rw [List.map_append, ← l2, ← m2], fun p hp => ?_⟩
              · have := hR6.sl
                rw [← List.map_append] at this
                exact this
              · rcases List.mem_append.1 hp with hp | hp
                · exact ⟨(l3 p hp).1, ((l3 p hp).2.below hB6 (Nat.le_refl _)).mono hB6.size⟩
                · exact ⟨(m3 p hp).1, ((m3 p hp).2.below hB6 (Nat.le_refl _)).mono hB6.size⟩
            have hEq := SameD_quiet v4 v6 (l ++ m) (l ++ m) w6 w6.heap.size ((hOa.below hB6 (Nat.le_refl _)).mono hB6.size) hS6 (by rw [List.length_append]; have := hLL.out.1; have := hLL.out.2.1; omega) (fun x hx => by have := hLL.out.2.2 x hx; omega)
            rw [decide_eq_true rfl] at hEq
            have hB8 := hB7.trans (hB6.mono hB7.size)
            clear hS6 hR6 hR5 hg5 hg6 m1a l1a hlit hBn HL1 HL2 hzz l1 l3 m1 m3 hOa hB5
            go_wp2_with fail
            refine hEq.mono ?_
            rintro e w7 ⟨rfl, n7, hn7⟩
            rw [hn7]
            clear hn7 hEq
            go_wp2
            go_ret
            exact ⟨rfl, below_drewN hB8 _⟩
  · have i0 : (sa.size : Int) + (sb.size : Int) ≥ 32768 := by omega
    go_wp2
    go_ret
    exact ⟨rfl, hb1⟩

end Go.Proofs.Ytppcfidaalejfaa
