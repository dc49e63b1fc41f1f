/-
  WHAT THE LAWS' great DOES.
-/
import Derived.Test.YthpipbkbldlfjaaRecOpen
namespace Go.Proofs.Ythpipbkbldlfjaa
open Go.RowKit

set_option maxRecDepth 100000 in
set_option maxHeartbeats 4000000 in
theorem great_any (va : Value) (A : List Rl.It) (w : World) (ha : ItsS w w.heap.size va A) (hAl : A.length ≤ 140737488351232) (hz : ∀ x ∈ A, Rl.SizedI x) :
    Calls Try.prog 18 #[va] w fun e w' => ∃ M : Nat, e = .returned (.bool (decide ((M : Int) ≥ 262144))) ∧ Hid (M < 262144 → M = Rl.bulk A) ∧ Below w.heap.size w w' := by
  obtain ⟨ad, c, rfl, hle⟩ := ha.shape
  have HZ : Hid _ := hz
  clear hz
  have hmf : ∀ (fn : Fn) (first cap : Array Value) (w : World), (Instr.makeFunc fn first cap).run Try.prog w = .ok (.func fn first cap) w := fun _ _ _ _ => rfl
  go_enter Try.func18, Try.ntmps18
  go_wp2
  have hc0 : Cnt (w.alloc (.cells #[.int .i64 0] 3)) w.heap.size 0 := heap_alloc_new w _
  have hT0 := below_box w (.cells #[.int .i64 0] 3)
  generalize w.alloc (.cells #[.int .i64 0] 3) = W0 at *
  go_loopw [5] (fun k wr => ∃ i M : Nat, i ≤ A.length ∧ k = .int .i64 (i : Int) ∧ Cnt wr w.heap.size M ∧ M ≤ 200000000000000 ∧ Hid (M < 262144 → M = Rl.bulk (A.take i)) ∧ Below w.heap.size w wr) (fun k _ => A.length - (intOf k).toNat)
  case atStart => exact ⟨0, 0, Nat.zero_le _, rfl, hc0, by omega, fun _ => by simp [Rl.bulk], hT0⟩
  case round =>
    obtain ⟨i, M, hi, rfl, hcM, hM, HM1, hD⟩ := hrel
    have b0 : (M : Int) ≤ 200000000000000 := by omega
    have b1 : (A.length : Int) ≤ 140737488351232 := by omega
    have m0 := hcM.cell
    by_cases hgo : i < A.length ∧ M < 262144
    · obtain ⟨hlt, hms⟩ := hgo
      have i1 : (i : Int) < (A.length : Int) := by omega
      have i2 : decide ((M : Int) < 262144) = true := decide_eq_true (by omega)
      have HS0 : Hid _ := HM1.out hms
      have HBT : Hid _ := Rl.bulk_take hlt
      obtain ⟨b, o, c1, ta, tc, wa, wc_, ca, cc, e, hb1, hc, hX1, hX2, hX3⟩ := ha.at i hlt
      simp only [Value.slice.injEq] at e
      obtain ⟨rfl, -, rfl⟩ := e
      have hzx := HZ.out (A.getD i Rl.noI) (by rw [getD_mem _ hlt]; exact List.getElem_mem hlt)
      obtain ⟨x, hx⟩ : ∃ x, A.getD i Rl.noI = x := ⟨_, rfl⟩
      rw [hx] at hc hX1 hX2 hX3 hzx HBT
      clear hx HM1
      obtain ⟨zn, zt, ztt, zw, zwt, zc⟩ := hzx
      obtain ⟨zl, zlw, zlt⟩ := zc
      unfold reachBytes at zn zt ztt zw zwt zl zlw zlt
      have HZTT : Hid _ := ztt
      have HZWT : Hid _ := zwt
      have HZLW : Hid _ := zlw
      have HZLT : Hid _ := zlt
      clear ztt zwt zlw zlt
      have HP : Hid (∀ W : World, Below w.heap.size w W → W.cell? ⟨b, o + i * 6 + 2, none⟩ = some (.string (str x.name)) ∧ W.cell? ⟨b, o + i * 6 + 3, none⟩ = some (.slice ta x.targets.length tc) ∧ W.cell? ⟨b, o + i * 6 + 4, none⟩ = some (.slice wa x.words.length wc_) ∧ W.cell? ⟨b, o + i * 6 + 5, none⟩ = some (.slice ca x.code.length cc)) := fun W hW =>
        ⟨(cell_below hW hb1 _).trans (hc 2 _ rfl), (cell_below hW hb1 _).trans (hc 3 _ rfl), (cell_below hW hb1 _).trans (hc 4 _ rfl), (cell_below hW hb1 _).trans (hc 5 _ rfl)⟩
      clear hc
      obtain ⟨p2, -, -, -⟩ := HP.out wr hD
      have hgs : w.heap.size < wr.heap.size := (Array.getElem?_eq_some_iff.1 hcM).1
      obtain ⟨T, hTT⟩ : ∃ T, x.name = T := ⟨_, rfl⟩
      rw [hTT] at p2 zn HBT
      have HNM : Hid _ := hTT
      clear hTT
      have HSZ : Hid _ := str_size T
      have b4 : ((str T).size : Int) ≤ 140737488351232 := by rw [str_size]; omega
      obtain ⟨S1, hS1⟩ : ∃ n, (str T).size + 1 = n := ⟨_, rfl⟩
      obtain ⟨M1, hM1⟩ : ∃ n, M + S1 = n := ⟨_, rfl⟩
      have HA1 : Hid (M1 < 262144 → M1 = Rl.bulk (A.take i) + (T.length + 1)) := fun _ => by
        have h1 := HSZ.out
        have h2 := HS0.out
        omega
      have HST : Hid _ := hcM.set M1
      have hTs : Below w.heap.size w (wr.setCell ⟨w.heap.size, 0, none⟩ (.int .i64 (M1 : Int))) := hD.setCell (p := ⟨w.heap.size, 0, none⟩) (Nat.le_refl _) _
      have HTS : Hid _ := hTs
      have HMB : Hid (M1 ≤ 200000000000000) := by rw [Hid]; omega
      have HW1 : Hid (IntKind.i64.wrap (((str T).size : Int) + 1) = (S1 : Int)) := by rw [Hid, IntKind.wrap_i64]; omega
      have HW2 : Hid (IntKind.i64.wrap ((M : Int) + (S1 : Int)) = (M1 : Int)) := by rw [Hid, IntKind.wrap_i64]; omega
      have f0 : wr.frozen? ⟨w.heap.size, 0, none⟩ = false := frozen_of_row wr w.heap.size 0 _ _ hcM
      have hne : b ≠ w.heap.size := by omega
      have hne' : w.heap.size ≠ b := by omega
      clear hms hS1 hM1 HSZ hTs
      go_upto_region 6 with fail
      clear i2 zn
      go_cut [26] (fun _ X => Cnt X w.heap.size M1 ∧ Below w.heap.size w X)
      case first =>
        clear b1 hAl zt zw zl hM
        go_region_with (fail)
        all_goals rw [HW1.out, HW2.out]
        all_goals clear m0 p2 f0 hne hne' hcM
        all_goals go_wp2
        all_goals (go_meet; exact ⟨HST.out, HTS.out.drew⟩)
      case rest =>
        obtain ⟨hc1, hD1⟩ := hcut
        obtain ⟨W1, rfl⟩ : ∃ W, W = wc := ⟨_, rfl⟩
        clear p2 f0 hne hne' hcM m0 b0 b4 hD HW1 HW2 HST HTS hM
        obtain ⟨-, p3, -, -⟩ := HP.out W1 hD1
        go_wp2_with fail
        refine (great1_any _ x.targets W1 w.heap.size M1 w.heap.size (hX1.below hD1 (Nat.le_refl _)) (Nat.le_refl _) hc1 HMB.out zt HZTT.out).mono ?_
        rintro e W2 ⟨rfl, M2, hc2, hM2, HM2a, HM2b, hT2⟩
        have hD2 : Below w.heap.size w W2 := hD1.trans (hT2.below' hD1.size (fun y hy => by rw [List.mem_singleton] at hy; omega))
        have HS2 : Hid (M2 < 262144 → M2 = Rl.bulk (A.take i) + (T.length + 1) + Rl.vs x.targets) := fun h => by
          have h1 : M1 < 262144 := by
            rcases Nat.lt_or_ge M1 262144 with h1 | h1
            · exact h1
            · have := HM2b.out h1; omega
          rw [HM2a.out h1 h, HA1.out h1]
        clear HM2a HM2b HA1 p3 hc1 HMB
        obtain ⟨-, -, p4, -⟩ := HP.out W2 hD2
        go_wp2_with fail
        refine (great1_any _ x.words W2 w.heap.size M2 w.heap.size (hX2.below hD2 (Nat.le_refl _)) (Nat.le_refl _) hc2 hM2 zw HZWT.out).mono ?_
        rintro e W3 ⟨rfl, M3, hc3, hM3, HM3a, HM3b, hT3⟩
        have hD3 : Below w.heap.size w W3 := hD2.trans (hT3.below' hD2.size (fun y hy => by rw [List.mem_singleton] at hy; omega))
        have HS3 : Hid (M3 < 262144 → M3 = Rl.bulk (A.take i) + (T.length + 1) + Rl.vs x.targets + Rl.vs x.words) := fun h => by
          have h1 : M2 < 262144 := by
            rcases Nat.lt_or_ge M2 262144 with h1 | h1
            · exact h1
            · have := HM3b.out h1; omega
          rw [HM3a.out h1 h, HS2.out h1]
        clear HM3a HM3b HS2 p4 hc2 hM2 hT2 hT3 hD1 hD2
        obtain ⟨K, hK⟩ : ∃ k, Rl.bulk (A.take i) + (T.length + 1) + Rl.vs x.targets + Rl.vs x.words = k := ⟨_, rfl⟩
        rw [hK] at HS3
        have HKK : Hid (Rl.bulk (A.take (i + 1)) = K + Rl.ls x.code) := by rw [Hid, HBT.out, ← hK]; omega
        clear hK HBT
        go_wp2
        go_loopw [6] (fun k X => ∃ j M : Nat, j ≤ x.code.length ∧ k = .int .i64 (j : Int) ∧ Cnt X w.heap.size M ∧ M ≤ 200000000000000 ∧ Hid (M < 262144 → M = K + Rl.ls (x.code.take j)) ∧ Below w.heap.size w X) (fun k _ => x.code.length - (intOf k).toNat)
        case atStart => exact ⟨0, M3, Nat.zero_le _, rfl, hc3, hM3, fun h => by rw [HS3.out h]; simp [Rl.ls], hD3⟩
        case round =>
          obtain ⟨j, M4, hj, rfl, hc4, hM4, HS4, hD4⟩ := hrel
          clear hc3 hM3 hD3 HS3
          have m4 := hc4.cell
          have b5 : (M4 : Int) ≤ 200000000000000 := by omega
          have b6 : (x.code.length : Int) ≤ 140737488351232 := by omega
          obtain ⟨-, -, -, p5⟩ := HP.out wr hD4
          by_cases hgo2 : j < x.code.length ∧ M4 < 262144
          · obtain ⟨hjl, hms⟩ := hgo2
            have j1 : (j : Int) < (x.code.length : Int) := by omega
            have j2 : decide ((M4 : Int) < 262144) = true := decide_eq_true (by omega)
            have HLT : Hid _ := Rl.ls_take hjl
            have HS5 : Hid _ := HS4.out hms
            obtain ⟨b4, o4, c4, ad4, cc4, e, hb4, -, -, z2, hW⟩ := hX3.at j hjl
            simp only [Value.slice.injEq] at e
            obtain ⟨rfl, -, rfl⟩ := e
            have hulm : x.code.getD j Lx.noL ∈ x.code := by rw [getD_mem _ hjl]; exact List.getElem_mem hjl
            have hul := HZLW.out _ hulm
            have HUT : Hid _ := HZLT.out _ hulm
            obtain ⟨u, hu⟩ : ∃ u, x.code.getD j Lx.noL = u := ⟨_, rfl⟩
            rw [hu] at z2 hW hul HUT HLT
            clear hu hulm HS4
            have f4 : wr.frozen? ⟨w.heap.size, 0, none⟩ = false := frozen_of_row wr w.heap.size 0 _ _ hc4
            obtain ⟨M5, hM5⟩ : ∃ n, M4 + 1 = n := ⟨_, rfl⟩
            have HW5 : Hid ((M4 : Int) + 1 = (M5 : Int)) := by rw [Hid]; omega
            have HMB : Hid (M5 ≤ 200000000000000) := by rw [Hid]; omega
            have HS6 : Hid (M5 = K + Rl.ls (x.code.take j) + 1) := by rw [Hid, ← hM5, HS5.out]
            have HST : Hid _ := hc4.set M5
            have hD5 : Below w.heap.size w (wr.setCell ⟨w.heap.size, 0, none⟩ (.int .i64 (M5 : Int))) := hD4.setCell (p := ⟨w.heap.size, 0, none⟩) (Nat.le_refl _) _
            have HD5 : Hid _ := hD5
            obtain ⟨-, -, -, p6⟩ := HP.out _ hD5
            have z3 := (cell_below hD5 hb4 (o4 + j * 3 + 2)).trans z2
            clear hD5 hms hM5 z2
            go_upto_region 12 with fail
            clear j2
            go_cut [56] (fun _ X => X = wr.setCell ⟨w.heap.size, 0, none⟩ (.int .i64 (M5 : Int)))
            case first =>
              go_wp2
              go_meet
              case rel => rw [HW5.out]
            case rest =>
              subst hcut
              clear m4 f4 hc4 p5 HW5
              go_wp2_with fail
              refine (great1_any _ u.words _ w.heap.size M5 w.heap.size (hW.below HD5.out (Nat.le_refl _)) (Nat.le_refl _) HST.out HMB.out hul HUT.out).mono ?_
              rintro e W6 ⟨rfl, M6, hc6, hM6, HM6a, HM6b, hT6⟩
              have hD6 : Below w.heap.size w W6 := HD5.out.trans (hT6.below' HD5.out.size (fun y hy => by rw [List.mem_singleton] at hy; omega))
              have HS7 : Hid (M6 < 262144 → M6 = K + Rl.ls (x.code.take (j + 1))) := fun h => by
                have h1 : M5 < 262144 := by
                  rcases Nat.lt_or_ge M5 262144 with h1 | h1
                  · exact h1
                  · have := HM6b.out h1; omega
                rw [HM6a.out h1 h, HLT.out]
                have := HS6.out
                omega
              clear HM6a HM6b HS6 p6 z3
              go_wp2
              exact ⟨⟨j + 1, M6, by omega, by go_num, hc6, hM6, HS7, hD6⟩, by simp [intOf]; omega⟩
          · have HFIN : Hid (M4 < 262144 → M4 = Rl.bulk (A.take (i + 1))) := by
              intro h2
              have hil : j = x.code.length := by
                rcases Nat.lt_or_ge j x.code.length with h3 | h3
                · exact absurd ⟨h3, h2⟩ hgo2
                · omega
              have := HS4.out h2
              rw [hil, List.take_length] at this
              rw [HKK.out]; exact this
            by_cases hjl : j < x.code.length
            · have j1 : (j : Int) < (x.code.length : Int) := by omega
              have j2 : decide ((M4 : Int) < 262144) = false := decide_eq_false (fun h3 => hgo2 ⟨hjl, by omega⟩)
              clear hgo2 HS4
              go_wp2
              exact ⟨⟨i + 1, M4, by omega, by go_num, hc4, hM4, HFIN, hD4⟩, by simp [intOf]; omega⟩
            · have j1 : ¬ (j : Int) < (x.code.length : Int) := by omega
              clear hgo2 HS4
              go_wp2
              exact ⟨⟨i + 1, M4, by omega, by go_num, hc4, hM4, HFIN, hD4⟩, by simp [intOf]; omega⟩
    · have HFIN : Hid (M < 262144 → M = Rl.bulk A) := by
        intro h2
        have hil : i = A.length := by
          rcases Nat.lt_or_ge i A.length with h3 | h3
          · exact absurd ⟨h3, h2⟩ hgo
          · omega
        have := HM1.out h2
        rwa [hil, List.take_length] at this
      by_cases hlt : i < A.length
      · have i1 : (i : Int) < (A.length : Int) := by omega
        have i2 : decide ((M : Int) < 262144) = false := decide_eq_false (fun h3 => hgo ⟨hlt, by omega⟩)
        clear hgo HM1
        go_wp2
        go_ret
        exact ⟨M, rfl, HFIN, hD⟩
      · have i1 : ¬ (i : Int) < (A.length : Int) := by omega
        clear hgo HM1
        go_wp2
        go_ret
        exact ⟨M, rfl, HFIN, hD⟩

end Go.Proofs.Ythpipbkbldlfjaa
