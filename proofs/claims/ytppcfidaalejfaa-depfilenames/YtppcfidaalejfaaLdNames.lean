/-
  DepfileNames ANSWERS true.
-/
import Derived.Test.YtppcfidaalejfaaDpRead
import Derived.Test.YtppcfidaalejfaaRSeg
namespace Go.Proofs.Ytppcfidaalejfaa
open Go.RowKit

namespace Dp
theorem blanks : ∀ (n i : Nat) (s : Rd), s.cur = none → run (pieces i (List.replicate n 32)).1 s = run [(.fin, i + n)] s ∧ (pieces i (List.replicate n 32)).2 = none
  | 0, i, s, _ => ⟨rfl, rfl⟩
  | n + 1, i, s, h => by
    rw [List.replicate_succ, pieces_blank]
    obtain ⟨h1, h2⟩ := blanks n (i + 1) s h
    refine ⟨?_, h2⟩
    have e : s.step .blank = some s := by
      show some s.flush = _
      rw [flush_none h]
    have e2 : run ((Pc.blank, i) :: (pieces (i + 1) (List.replicate n 32)).1) s = run (pieces (i + 1) (List.replicate n 32)).1 s := by rw [run, e]
    show run ((Pc.blank, i) :: (pieces (i + 1) (List.replicate n 32)).1) s = _
    rw [e2, h1]
    have : i + 1 + n = i + (n + 1) := by omega
    rw [this]
theorem parse_blanks {n : Nat} (h : n ≤ 32768) : parse (List.replicate n 32) = .inr [] := by
  rw [parse_of (by rw [List.length_replicate]; exact h)]
  obtain ⟨h1, h2⟩ := blanks n 0 Rd.zero rfl
  unfold read
  rw [h1, h2]
  rfl
theorem names1 : parse [97] = .inl (6, 1) := by decide +kernel
theorem names2 : parse [97, 58, 32, 98, 92] = .inl (6, 4) := by decide +kernel
theorem names3 : parse [97, 58] = .inr [([97], [])] := by decide +kernel
theorem names4 {c : UInt8} (h : c.toNat < 32) (h10 : c ≠ 10) : parse [97, c, 98, 58, 32, 99] = .inl (6, 1) := by
  have hl : c < 32 := by rw [UInt8.lt_iff_toNat_lt]; exact h
  rw [parse_of (by simp)]
  unfold read
  rw [pieces_byte 0 _ (by decide) (by decide), pieces_low _ _ h10 hl]
  rfl
end Dp

set_option maxRecDepth 100000 in
set_option maxHeartbeats 4000000 in
theorem names_walk (hP : ParseC) (w : World) : Calls Try.prog 10 #[] w fun e w' => e = .returned (.bool true) ∧ Below w.heap.size w w' := by
  have eS := eql_spot
  have nS := neq_spot
  have gS := guard_spot
  obtain ⟨N, hN⟩ : ∃ N : Nat, N = 32768 := ⟨_, rfl⟩
  have hmk : ∀ W : World, (Instr.makeSlice 54 (.int .i64 32768) (.int .i64 32768)).run Try.prog W = .ok (.slice (some ⟨W.heap.size, 0, none⟩) N N) (W.alloc (.cells (bV (List.replicate N 0)).toArray 5)) := fun W => make_byts 32768 N (by rw [hN]; rfl) (by omega) W
  have hPl := hP
  have HNN : Hid _ := hN
  have nb : (N : Int) ≤ 32768 := by omega
  clear hN
  go_enter Try.func10, Try.ntmps10
  go_wp2_with fail
  refine (works_any hP _).mono ?_
  rintro e w1 ⟨rfl, hb1⟩
  have r0 := Rw.new w1 (bV (List.replicate N 0)).toArray 5
  have hb2 := hb1.alloc hb1.size (.cells (bV (List.replicate N 0)).toArray 5)
  have HG : Hid (w.heap.size ≤ w1.heap.size) := hb1.size
  obtain ⟨cs0, hcs0⟩ : ∃ cs0, (bV (List.replicate N 0)).toArray = cs0 := ⟨_, rfl⟩
  have hz0 : cs0.size = N := by rw [← hcs0]; simp [bV]
  rw [hcs0] at r0 hb2
  simp only [hcs0] at hmk
  clear hcs0 hb1
  go_wp2
  clear hmk
  generalize w1.alloc (.cells cs0 5) = W1 at *
  generalize w1.heap.size = g at *
  go_loopw [21] (fun k wr => ∃ (i : Nat) (cs : Array Value), i ≤ N ∧ k = .int .i64 (i : Int) ∧ Rw wr g cs 5 ∧ Hid (cs.size = N) ∧ Hid (∀ j, j < i → cs[j]? = some (.int .u8 32)) ∧ Below w.heap.size w wr) (fun k _ => N - (intOf k).toNat)
  case atStart => exact ⟨0, cs0, Nat.zero_le _, rfl, r0, hz0, (fun j h => absurd h (by omega)), hb2⟩
  case round =>
    obtain ⟨i, cs, hi, rfl, hr, HZ, HJ, hbe⟩ := hrel
    by_cases hlt : i < N
    · have i1 : (i : Int) < (N : Int) := by omega
      have hics : i < cs.size := by rw [HZ.out]; exact hlt
      have c0 : wr.cell? ⟨g, i, none⟩ = some cs[i] := by rw [hr.cell i, Array.getElem?_eq_getElem hics]
      have f0 := hr.free i
      have hr2 := hr.set i (.int .u8 32) hics
      have HZ2 : Hid ((cs.set i (.int .u8 32)).size = N) := by show _ = _; rw [Array.size_set]; exact HZ.out
      have HJ2 : Hid (∀ j, j < i + 1 → (cs.set i (.int .u8 32))[j]? = some (.int .u8 32)) := fun j hj => by
        by_cases hji : j = i
        · subst hji
          rw [Array.getElem?_set_self]
        · rw [Array.getElem?_set, if_neg (fun e => hji e.symm)]
          exact HJ.out j (by omega)
      have hbs : Below w.heap.size w (wr.setCell ⟨g, i, none⟩ (.int .u8 32)) := hbe.trans (((Turn.refl [g] wr).set (fun _ => by simp) _).below' hbe.size (by simpa using HG.out))
      generalize cs.set i (.int .u8 32) = ds at *
      obtain ⟨u, hu⟩ : ∃ u, wr.cell? ⟨g, i, none⟩ = some u := ⟨_, c0⟩
      clear c0 HZ HJ
      go_wp2
      exact ⟨⟨i + 1, ds, by omega, by go_num, hr2, HZ2, HJ2, hbs⟩, by simp [intOf]; omega⟩
    · obtain rfl : i = N := by omega
      have i1 : ¬ (i : Int) < (i : Int) := by omega
      have hBy : Byts wr wr.heap.size (.slice (some ⟨g, 0, none⟩) i i) (List.replicate i 32) := by
        refine ⟨some ⟨g, 0, none⟩, i, by rw [List.length_replicate], by rw [List.length_replicate]; exact Nat.le_refl _, (fun h => by cases h), fun _ => ⟨g, 0, rfl, hr.lt, fun j hj => ?_⟩⟩
        rw [List.length_replicate] at hj
        rw [Nat.zero_add, hr.cell j, HJ.out j hj]
        simp [List.getD, hj]
      obtain ⟨sT, hsT⟩ : ∃ sT, str (List.replicate i (32 : UInt8)) = sT := ⟨_, rfl⟩
      have HCV : Hid (∀ W, Below wr.heap.size wr W → (convert 54 9 (.slice (some ⟨g, 0, none⟩) i i)).run Try.prog W = .ok (.string sT) W) := fun W h => by
        have := conv_byts (hBy.below h (Nat.le_refl _))
        rw [hsT] at this
        exact this
      have hsz : sT.size = i := by rw [← hsT, str_size, List.length_replicate]
      have hq1 : ∀ W, Calls Try.prog 12 #[.string sT] W fun e w' => PsDEnd W w' e (.inr []) := fun W => by
        have h := hP sT W
        rw [← hsT, bs_str, Dp.parse_blanks (by have := HNN.out; omega)] at h
        rw [← hsT]; exact h
      have hq2 : ∀ W, Calls Try.prog 12 #[.string (sT ++ (⟨#[32]⟩ : ByteArray))] W fun e w' => PsDEnd W w' e (.inl (3, 32768)) := fun W => by
        have h := hP (sT ++ (⟨#[32]⟩ : ByteArray)) W
        rw [Dp.parse_long (by rw [bs_length, ByteArray.size_append, hsz]; have := HNN.out; show 32768 < i + 1; omega)] at h
        exact h
      have hq3 : ∀ W, Calls Try.prog 12 #[.string ⟨#[97]⟩] W fun e w' => PsDEnd W w' e (.inl (6, 1)) := fun W => by
        have h := hP ⟨#[97]⟩ W
        rw [show bs (⟨#[97]⟩ : ByteArray) = [97] from rfl, Dp.names1] at h
        exact h
      have hq4 : ∀ W, Calls Try.prog 12 #[.string ⟨#[97, 58, 32, 98, 92]⟩] W fun e w' => PsDEnd W w' e (.inl (6, 4)) := fun W => by
        have h := hP ⟨#[97, 58, 32, 98, 92]⟩ W
        rw [show bs (⟨#[97, 58, 32, 98, 92]⟩ : ByteArray) = [97, 58, 32, 98, 92] from rfl, Dp.names2] at h
        exact h
      have hq5 : ∀ W, Calls Try.prog 12 #[.string ⟨#[97, 58]⟩] W fun e w' => PsDEnd W w' e (.inr [([97], [])]) := fun W => by
        have h := hP ⟨#[97, 58]⟩ W
        rw [show bs (⟨#[97, 58]⟩ : ByteArray) = [97, 58] from rfl, Dp.names3] at h
        exact h
      have HQ1 : Hid _ := hq1
      have HQ2 : Hid _ := hq2
      have HQ3 : Hid _ := hq3
      have HQ4 : Hid _ := hq4
      have HQ5 : Hid _ := hq5
      have HSZ : Hid _ := hsz
      have cv0 := HCV.out wr (Below.refl _ _)
      have j1 : ¬ 9223372036854775807 < sT.size + 1 := by rw [hsz]; omega
      clear hq1 hq2 hq3 hq4 hq5 hsz hsT hBy HZ HJ hr hPl
      go_wp2_with fail
      refine (HQ1.out wr).mono ?_
      rintro e w2 ⟨v2, rfl, hO2, hB2⟩
      obtain ⟨a2, c2, rfl, -⟩ := hO2.s.shape
      have hC2 := hB2.alloc hB2.size (.cells #[.int .i64 0, .int .i64 0] 26)
      have hE2 := hbe.trans (hC2.mono hbe.size)
      have s2 := Rw.new w2 #[.int .i64 0, .int .i64 0] 26
      have cv1 := HCV.out _ hC2
      clear hO2 hB2 hbe cv0
      simp only [List.length_nil]
      go_wp2_with fail
      generalize w2.alloc (.cells #[.int .i64 0, .int .i64 0] 26) = W2 at *
      generalize w2.heap.size = g2 at *
      refine (HQ2.out W2).mono ?_
      rintro e w3 ⟨rfl, hB3⟩
      have hC3 := hB3.alloc hB3.size (.cells #[.int .i64 3, .int .i64 32768] 26)
      have hE3 := hE2.trans (hC3.mono hE2.size)
      have s23 := s2.below hC3 s2.lt
      have s3 := Rw.new w3 #[.int .i64 3, .int .i64 32768] 26
      clear hB3 hE2 s2 hC3 hC2 cv1
      go_wp2_with fail
      generalize w3.alloc (.cells #[.int .i64 3, .int .i64 32768] 26) = W3 at *
      generalize w3.heap.size = g3 at *
      refine (HQ3.out W3).mono ?_
      rintro e w4 ⟨rfl, hB4⟩
      have hC4 := hB4.alloc hB4.size (.cells #[.int .i64 6, .int .i64 1] 26)
      have hE4 := hE3.trans (hC4.mono hE3.size)
      have s24 := s23.below hC4 s23.lt
      have s34 := s3.below hC4 s3.lt
      have s4 := Rw.new w4 #[.int .i64 6, .int .i64 1] 26
      clear hB4 hE3 s23 s3 hC4
      go_wp2_with fail
      generalize w4.alloc (.cells #[.int .i64 6, .int .i64 1] 26) = W4 at *
      generalize w4.heap.size = g4 at *
      refine (HQ4.out W4).mono ?_
      rintro e w5 ⟨rfl, hB5⟩
      have hC5 := hB5.alloc hB5.size (.cells #[.int .i64 6, .int .i64 4] 26)
      have hE5 := hE4.trans (hC5.mono hE4.size)
      have s25 := s24.below hC5 s24.lt
      have s35 := s34.below hC5 s34.lt
      have s45 := s4.below hC5 s4.lt
      have s5 := Rw.new w5 #[.int .i64 6, .int .i64 4] 26
      clear hB5 hE4 s24 s34 s4 hC5
      go_wp2_with fail
      generalize w5.alloc (.cells #[.int .i64 6, .int .i64 4] 26) = W5 at *
      generalize w5.heap.size = g5 at *
      refine (HQ5.out W5).mono ?_
      rintro e w6 ⟨v6, rfl, hO6, hB6⟩
      have hC6 := hB6.alloc hB6.size (.cells #[.int .i64 0, .int .i64 0] 26)
      have hE6 := hE5.trans (hC6.mono hE5.size)
      have s26 := s25.below hC6 s25.lt
      have s36 := s35.below hC6 s35.lt
      have s46 := s45.below hC6 s45.lt
      have s56 := s5.below hC6 s5.lt
      have s6 := Rw.new w6 #[.int .i64 0, .int .i64 0] 26
      have hO7 := (hO6.alloc (.cells #[.int .i64 0, .int .i64 0] 26)).s
      clear hB6 hE5 s25 s35 s45 s5 hC6 hO6
      go_wp2_with fail
      generalize w6.alloc (.cells #[.int .i64 0, .int .i64 0] 26) = W6 at *
      generalize w6.heap.size = g6 at *
      obtain ⟨bn, on, cn, adn, cdn, rfl, hbn, n0, n1, -⟩ := hO7.at 0 (by simp)
      have n1' : W6.cell? ⟨bn, on + 1, none⟩ = some (.slice adn 0 cdn) := n1
      clear n0 n1 hO7
      simp only [List.length_cons, List.length_nil, Nat.zero_add]
      have hPs := fun s W => hP s W
      have HPS : Hid _ := hPs
      have h6 := hE6.size
      clear hPs HQ1 HQ2 HQ3 HQ4 HQ5 HCV HSZ j1 nb
      go_wp2
      go_loopw [13] (fun c wr => ∃ k : Nat, k ≤ 32 ∧ c = .int .u8 (k : Int) ∧ Below W6.heap.size W6 wr) (fun c _ => 32 - (intOf c).toNat)
      case atStart => exact ⟨0, by omega, rfl, Below.refl _ _⟩
      case round =>
        obtain ⟨k, hk, rfl, hBk⟩ := hrel
        by_cases hlt : k < 32
        · have k1 : (k : Int) < 32 := by omega
          obtain ⟨c8, hc8⟩ : ∃ c8 : UInt8, c8.toNat = k := ⟨UInt8.ofNat k, by simp; omega⟩
          have hbl := byts_lit wr #[.int .u8 (k : Int)] [c8] 1 (by rw [← hc8]; rfl) rfl
          have hcv := conv_byts hbl
          have hsS := str_size [c8]
          have hbS := bs_str [c8]
          obtain ⟨S, hS⟩ : ∃ S, str [c8] = S := ⟨_, rfl⟩
          rw [hS] at hcv hsS hbS
          have hsS : S.size = 1 := hsS
          have j2 : ¬ 9223372036854775807 < 1 + S.size := by omega
          have j3 : ¬ 9223372036854775807 < ((⟨#[97]⟩ : ByteArray) ++ S).size + 4 := by rw [ByteArray.size_append, hsS]; show ¬ 9223372036854775807 < 1 + 1 + 4; omega
          have hbb : bs ((⟨#[97]⟩ : ByteArray) ++ S ++ (⟨#[98, 58, 32, 99]⟩ : ByteArray)) = [97, c8, 98, 58, 32, 99] := by
            have : bs ((⟨#[97]⟩ : ByteArray) ++ S ++ (⟨#[98, 58, 32, 99]⟩ : ByteArray)) = [97] ++ bs S ++ [98, 58, 32, 99] := by simp [bs, ByteArray.data_append]
            rw [this, hbS]; rfl
          have hBa := hBk.alloc hBk.size (.cells #[.int .u8 (k : Int)] 5)
          have hPk := HPS.out ((⟨#[97]⟩ : ByteArray) ++ S ++ (⟨#[98, 58, 32, 99]⟩ : ByteArray)) (wr.alloc (.cells #[.int .u8 (k : Int)] 5))
          rw [hbb] at hPk
          have kb : (k : Int) ≤ 31 := by omega
          by_cases h10 : k = 10
          · have k2 : ((k : Int) != 10) = false := by rw [h10]; rfl
            clear h10 hbb hbS hsS hS hbl
            go_wp2_with fail
            refine hPk.mono ?_
            rintro e w8 hE8
            obtain ⟨v8, x8, y8, rfl, hB8⟩ := hE8.any
            have hC8 := (hBa.trans (hB8.mono hBa.size)).alloc (Nat.le_trans hBa.size hB8.size) (.cells #[.int .i64 x8, .int .i64 y8] 26)
            clear hE8 hB8 hBa hcv hPk
            go_wp2
            exact ⟨⟨k + 1, by omega, by go_num, hC8⟩, by simp [intOf]; omega⟩
          · have k2 : ((k : Int) != 10) = true := by rw [bne_iff_ne]; omega
            rw [Dp.names4 (c := c8) (by omega) (fun h => h10 (by rw [← hc8, h]; rfl))] at hPk
            clear h10 hbb hbS hsS hS hbl
            go_wp2_with fail
            refine hPk.mono ?_
            rintro e w8 ⟨rfl, hB8⟩
            have hC8 := (hBa.trans (hB8.mono hBa.size)).alloc (Nat.le_trans hBa.size hB8.size) (.cells #[.int .i64 6, .int .i64 1] 26)
            have s8 := Rw.new w8 #[.int .i64 6, .int .i64 1] 26
            have z0 : (w8.alloc (.cells #[.int .i64 6, .int .i64 1] 26)).cell? ⟨w8.heap.size, 0, none⟩ = some (.int .i64 6) := s8.cell 0
            have z1 : (w8.alloc (.cells #[.int .i64 6, .int .i64 1] 26)).cell? ⟨w8.heap.size, 1, none⟩ = some (.int .i64 1) := s8.cell 1
            clear hB8 hBa hcv hPk s8
            go_wp2
            exact ⟨⟨k + 1, by omega, by go_num, hC8⟩, by simp [intOf]; omega⟩
        · obtain rfl : k = 32 := by omega
          have hEz := hE6.trans (hBk.mono hE6.size)
          have q2 := s26.below hBk s26.lt
          have q3 := s36.below hBk s36.lt
          have q4 := s46.below hBk s46.lt
          have q5 := s56.below hBk s56.lt
          have q6 := s6.below hBk s6.lt
          have z0 : wr.cell? ⟨g2, 0, none⟩ = some (.int .i64 0) := q2.cell 0
          have z1 : wr.cell? ⟨g2, 1, none⟩ = some (.int .i64 0) := q2.cell 1
          have z2 : wr.cell? ⟨g3, 0, none⟩ = some (.int .i64 3) := q3.cell 0
          have z3 : wr.cell? ⟨g3, 1, none⟩ = some (.int .i64 32768) := q3.cell 1
          have z4 : wr.cell? ⟨g4, 0, none⟩ = some (.int .i64 6) := q4.cell 0
          have z5 : wr.cell? ⟨g4, 1, none⟩ = some (.int .i64 1) := q4.cell 1
          have z6 : wr.cell? ⟨g5, 0, none⟩ = some (.int .i64 6) := q5.cell 0
          have z7 : wr.cell? ⟨g5, 1, none⟩ = some (.int .i64 4) := q5.cell 1
          have z8 : wr.cell? ⟨g6, 0, none⟩ = some (.int .i64 0) := q6.cell 0
          have z9 : wr.cell? ⟨g6, 1, none⟩ = some (.int .i64 0) := q6.cell 1
          have n2 : wr.cell? ⟨bn, on + 1, none⟩ = some (.slice adn 0 cdn) := (hBk.cell (p := ⟨bn, on + 1, none⟩) hbn).trans n1'
          clear q2 q3 q4 q5 q6 s26 s36 s46 s56 s6 n1'
          go_wp2
          go_ret
          exact ⟨rfl, hEz⟩

end Go.Proofs.Ytppcfidaalejfaa
