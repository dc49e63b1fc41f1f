/-
  WHAT THE DOCUMENT's May DOES.
-/
import Derived.Test.YthpipbkbldlfjaaRSame
namespace Go.Proofs.Ythpipbkbldlfjaa
open Go.RowKit

def Rl.c1 (x : Rl.It) : Bool := decide (1 ≤ x.kind ∧ x.kind ≤ 3) && x.targets.all (Rl.okW false) && x.words.all (Rl.okW false)
def Rl.c2 (x : Rl.It) : Bool := (decide (x.kind = 1) == Rl.name x.name) && (decide (x.kind = 1) || x.name.isEmpty)
def Rl.c3 (x : Rl.It) : Bool := (decide (x.kind = 3) == !x.targets.isEmpty) && (decide (x.kind = 3) || x.code.isEmpty) && (!decide (x.kind = 2) || decide (x.words.length = 1))
theorem Rl.may_split (x : Rl.It) : Rl.mayI x = (Rl.c1 x && Rl.c2 x && Rl.c3 x && x.code.all Rl.okL) := by
  obtain ⟨k, ln, nm, ts, ws, cd⟩ := x
  unfold Rl.mayI Rl.c1 Rl.c2 Rl.c3
  simp only
  by_cases h1 : k = 1
  · subst h1
    cases cd <;> cases ts <;> simp [Bool.and_assoc]
    all_goals cases Rl.name nm <;> simp
  · by_cases h2 : k = 2
    · subst h2
      cases nm with
      | nil => cases cd <;> cases ts <;> simp [Rl.name, Bool.and_comm]
      | cons c r => simp
    · by_cases h3 : k = 3
      · subst h3
        cases nm with
        | nil => cases ts <;> simp [Rl.name, Bool.and_assoc]
        | cons c r => simp
      · have h4 : ¬ (1 ≤ k ∧ k ≤ 3) := by omega
        simp [h1, h2, h3, h4]

theorem few_few {l : List Lx.V} (h : ∀ v ∈ l, v.text.length ≤ 1099511) : ∀ v ∈ l, v.text.length ≤ 1099511627 := fun v hv => Nat.le_trans (h v hv) (by decide)

set_option maxRecDepth 100000 in
set_option maxHeartbeats 4000000 in
theorem MayR_any (va : Value) (A : List Rl.It) (w : World) (B : Nat) (ha : ItsS w B va A) (hBw : B ≤ w.heap.size) (hAl : A.length ≤ 1099511627) (hf : ∀ x ∈ A, Rl.Few x) :
    Calls Try.prog 22 #[va] w fun e w' => e = .returned (.bool (Rl.may A)) ∧ Below w.heap.size w w' := by
  obtain ⟨ad, c, rfl, hle⟩ := ha.shape
  have HFW : Hid _ := hf
  clear hf
  obtain ⟨D, hDD⟩ : ∃ D, Rl.may A = D := ⟨_, rfl⟩
  rw [hDD]
  have HNE : Hid (∀ i (h : i < A.length), Rl.mayI A[i] = false → D = false) := fun i h h2 => by
    rw [← hDD]
    unfold Rl.may
    rw [List.all_eq_false]
    exact ⟨A[i], List.getElem_mem h, by rw [h2]; simp⟩
  have HEQ : Hid ((∀ i (h : i < A.length), Rl.mayI A[i] = true) → D = true) := fun h => by
    rw [← hDD]
    unfold Rl.may
    rw [List.all_eq_true]
    intro x hx
    obtain ⟨i, hi, rfl⟩ := List.getElem_of_mem hx
    exact h i hi
  clear hDD
  go_enter Try.func22, Try.ntmps22
  go_wp2
  go_loopw [3] (fun k wr => ∃ i : Nat, i ≤ A.length ∧ k = .int .i64 (i : Int) ∧ Hid (∀ j (h : j < A.length), j < i → Rl.mayI A[j] = true) ∧ Below w.heap.size w wr) (fun k _ => A.length - (intOf k).toNat)
  case atStart => exact ⟨0, Nat.zero_le _, rfl, fun j _ h => absurd h (Nat.not_lt_zero _), Below.refl _ _⟩
  case round =>
    obtain ⟨i, hi, rfl, HT, hD⟩ := hrel
    by_cases hlt : i < A.length
    · have i1 : (i : Int) < (A.length : Int) := by omega
      obtain ⟨b, o, c1, ta, tc, wa, wc_, ca, cc, e, hb1, hc, hX1, hX2, hX3⟩ := ha.at i hlt
      simp only [Value.slice.injEq] at e
      obtain ⟨rfl, -, rfl⟩ := e
      obtain ⟨x, hx⟩ : ∃ x, A.getD i Rl.noI = x := ⟨_, rfl⟩
      rw [hx] at hc hX1 hX2 hX3
      rw [getD_mem _ hlt] at hx
      have hfew := HFW.out x (by rw [← hx]; exact List.getElem_mem hlt)
      have hsp := Rl.may_split x
      have HNO : Hid (Rl.mayI x = false → D = false) := fun h => HNE.out i hlt (by rw [hx]; exact h)
      have HYES : Hid (Rl.mayI x = true → ∀ j (h : j < A.length), j < i + 1 → Rl.mayI A[j] = true) := fun h j hj hji => by
        rcases Nat.lt_or_ge j i with h1 | h1
        · exact HT.out j hj h1
        · obtain rfl : j = i := by omega
          rw [hx]; exact h
      clear hx HT
      have p0 : wr.cell? ⟨b, o + i * 6, none⟩ = some (.int .i64 x.kind) := (cell_below hD (Nat.lt_of_lt_of_le hb1 hBw) _).trans (hc 0 _ rfl)
      have p1 : wr.cell? ⟨b, o + i * 6 + 1, none⟩ = some (.int .i64 x.line) := (cell_below hD (Nat.lt_of_lt_of_le hb1 hBw) _).trans (hc 1 _ rfl)
      have p2 : wr.cell? ⟨b, o + i * 6 + 2, none⟩ = some (.string (str x.name)) := (cell_below hD (Nat.lt_of_lt_of_le hb1 hBw) _).trans (hc 2 _ rfl)
      have p3 : wr.cell? ⟨b, o + i * 6 + 3, none⟩ = some (.slice ta x.targets.length tc) := (cell_below hD (Nat.lt_of_lt_of_le hb1 hBw) _).trans (hc 3 _ rfl)
      have p4 : wr.cell? ⟨b, o + i * 6 + 4, none⟩ = some (.slice wa x.words.length wc_) := (cell_below hD (Nat.lt_of_lt_of_le hb1 hBw) _).trans (hc 4 _ rfl)
      have p5 : wr.cell? ⟨b, o + i * 6 + 5, none⟩ = some (.slice ca x.code.length cc) := (cell_below hD (Nat.lt_of_lt_of_le hb1 hBw) _).trans (hc 5 _ rfl)
      clear hc
      obtain ⟨C1, hC1⟩ : ∃ C, Rl.c1 x = C := ⟨_, rfl⟩
      obtain ⟨C2, hC2⟩ : ∃ C, Rl.c2 x = C := ⟨_, rfl⟩
      obtain ⟨C3, hC3⟩ : ∃ C, Rl.c3 x = C := ⟨_, rfl⟩
      rw [hC1, hC2, hC3] at hsp
      have HSP : Hid _ := hsp
      have HC1 : Hid _ := hC1
      have HC2 : Hid _ := hC2
      have HC3 : Hid _ := hC3
      clear hsp hC1 hC2 hC3
      go_upto_region 4 with fail
      go_cut [4] (fun t X => ∃ g : Nat, t = .pointer (some ⟨g, 0, none⟩) ∧ X.heap[g]? = some (.cells (itCs x ta tc wa wc_ ca cc) 33 (0, 0)) ∧ g < X.heap.size ∧ w.heap.size ≤ g ∧ Below w.heap.size w X)
      case first =>
        have hBA : ∀ o1 : Obj, Below w.heap.size w (wr.alloc o1) := fun o1 => hD.alloc hD.size o1
        have hsz := hD.size
        go_wp2
        go_meet
        case rel => exact ⟨_, rfl, heap_alloc_new _ _, by show _ < (wr.heap.push _).size; rw [Array.size_push]; omega, hsz, hBA _⟩
      case rest =>
        obtain ⟨g, rfl, k1, hg1, hg2, hB3⟩ := hcut
        obtain ⟨W1, rfl⟩ : ∃ W, W = wc := ⟨_, rfl⟩
        clear p0 p1 p2 p3 p4 p5 hD
        have x1 := hX1.below hB3 hBw
        have x2 := hX2.below hB3 hBw
        have x3 := hX3.below hB3 hBw
        clear hX1 hX2 hX3
        have hBc : B ≤ W1.heap.size := Nat.le_trans hBw hB3.size
        have hc0 : ∀ (W : World), W.heap[g]? = some (.cells (itCs x ta tc wa wc_ ca cc) 33 (0, 0)) → W.cell? ⟨g, 0, none⟩ = some (.int .i64 x.kind) := fun W h => by simp [World.cell?, h, itCs]
        have hc2 : ∀ (W : World), W.heap[g]? = some (.cells (itCs x ta tc wa wc_ ca cc) 33 (0, 0)) → W.cell? ⟨g, 2, none⟩ = some (.string (str x.name)) := fun W h => by simp [World.cell?, h, itCs]
        have hc3 : ∀ (W : World), W.heap[g]? = some (.cells (itCs x ta tc wa wc_ ca cc) 33 (0, 0)) → W.cell? ⟨g, 3, none⟩ = some (.slice ta x.targets.length tc) := fun W h => by simp [World.cell?, h, itCs]
        have hc4 : ∀ (W : World), W.heap[g]? = some (.cells (itCs x ta tc wa wc_ ca cc) 33 (0, 0)) → W.cell? ⟨g, 4, none⟩ = some (.slice wa x.words.length wc_) := fun W h => by simp [World.cell?, h, itCs]
        have hc5 : ∀ (W : World), W.heap[g]? = some (.cells (itCs x ta tc wa wc_ ca cc) 33 (0, 0)) → W.cell? ⟨g, 5, none⟩ = some (.slice ca x.code.length cc) := fun W h => by simp [World.cell?, h, itCs]
        have HCS : Hid (∀ (W : World), W.heap[g]? = some (.cells (itCs x ta tc wa wc_ ca cc) 33 (0, 0)) → W.cell? ⟨g, 0, none⟩ = some (.int .i64 x.kind) ∧ W.cell? ⟨g, 2, none⟩ = some (.string (str x.name)) ∧ W.cell? ⟨g, 3, none⟩ = some (.slice ta x.targets.length tc) ∧ W.cell? ⟨g, 4, none⟩ = some (.slice wa x.words.length wc_) ∧ W.cell? ⟨g, 5, none⟩ = some (.slice ca x.code.length cc)) := fun W h => ⟨hc0 W h, hc2 W h, hc3 W h, hc4 W h, hc5 W h⟩
        clear hc0 hc2 hc3 hc4 hc5
        go_upto_region 5 with fail
        go_cut [35] (fun t X => t = .bool (!C1) ∧ X.heap[g]? = some (.cells (itCs x ta tc wa wc_ ca cc) 33 (0, 0)) ∧ Below W1.heap.size W1 X)
        case first =>
          obtain ⟨r0, -, r3, r4, -⟩ := HCS.out W1 k1
          have HK1 : Hid _ := k1
          clear k1
          by_cases h1 : x.kind < 1
          · have HF : Hid (C1 = false) := by rw [Hid, ← HC1.out]; unfold Rl.c1; rw [decide_eq_false (by omega)]; rfl
            go_wp2
            go_meet
            case rel => exact ⟨by rw [HF.out]; rfl, HK1.out, Below.refl _ _⟩
          · by_cases h2 : x.kind > 3
            · have HF : Hid (C1 = false) := by rw [Hid, ← HC1.out]; unfold Rl.c1; rw [decide_eq_false (by omega)]; rfl
              go_wp2
              go_meet
              case rel => exact ⟨by rw [HF.out]; rfl, HK1.out, Below.refl _ _⟩
            · have HF : Hid (C1 = (x.targets.all (Rl.okW false) && x.words.all (Rl.okW false))) := by rw [Hid, ← HC1.out]; unfold Rl.c1; rw [decide_eq_true (by omega)]; rfl
              go_wp2_with fail
              refine (wordsW_any _ x.targets false _ B x1 hBc hfew.targets (few_few hfew.tt)).mono ?_
              rintro e w1 ⟨rfl, hB1⟩
              cases hT : x.targets.all (Rl.okW false) with
              | false =>
                rw [hT] at HF
                clear hT
                go_wp2
                go_meet
                case rel => exact ⟨by rw [HF.out]; rfl, (hB1.block g hg1).trans HK1.out, hB1⟩
              | true =>
                rw [hT] at HF
                clear hT
                have r4' : w1.cell? ⟨g, 4, none⟩ = some (.slice wa x.words.length wc_) := (cell_below hB1 hg1 _).trans r4
                go_wp2_with fail
                refine (wordsW_any _ x.words false _ B (x2.below hB1 hBc) (Nat.le_trans hBc hB1.size) hfew.words (few_few hfew.wt)).mono ?_
                rintro e w2 ⟨rfl, hB2⟩
                have hB12 : Below W1.heap.size W1 w2 := hB1.trans (hB2.mono hB1.size)
                go_wp2
                go_meet
                case rel => exact ⟨by rw [HF.out]; rfl, (hB12.block g hg1).trans HK1.out, hB12⟩
        case rest =>
          obtain ⟨rfl, k2, hB4⟩ := hcut
          clear k1
          have y3 := x3.below hB4 hBc
          have hBd := Nat.le_trans hBc hB4.size
          have hg3 : g < wc.heap.size := Nat.lt_of_lt_of_le hg1 hB4.size
          have hB5 : Below w.heap.size w wc := hB3.trans (hB4.mono (Nat.le_trans (Nat.le_of_lt (Nat.lt_of_le_of_lt hg2 hg1)) (Nat.le_refl _)))
          clear x1 x2 x3 hB4 hB3 hBc hg1
          obtain ⟨W2, rfl⟩ : ∃ W, W = wc := ⟨_, rfl⟩
          cases C1 with
          | false =>
            have HF : Hid (D = false) := HNO.out (by rw [HSP.out]; rfl)
            go_wp2
            go_ret
            rw [HF.out]
            exact ⟨rfl, hB5⟩
          | true =>
            simp only [Bool.not_true]
            go_upto_region 7 with fail
            go_cut [52] (fun t X => t = .bool (!C2) ∧ ∃ q, X = W2.drewN q)
            case first =>
              obtain ⟨r0, r2, -, -, -⟩ := HCS.out W2 k2
              have hnl := hfew.name
              have hnm : ∀ q : Nat, Calls Try.prog 17 #[.string (str x.name)] (W2.drewN q) fun e w' => e = .returned (.bool (Rl.name x.name)) ∧ w' = W2.drewN q := fun q => by
                have := NameT_any (str x.name) (W2.drewN q) (by rw [str_size]; omega)
                rwa [bs_str] at this
              clear k2
              by_cases hk : x.kind = 1
              · have e1 : (x.kind == 1) = true := by rw [beq_iff_eq]; exact hk
                have e2 : (x.kind != 1) = false := by rw [bne_eq_false_iff_eq]; exact hk
                have HF : Hid (C2 = Rl.name x.name) := by rw [Hid, ← HC2.out]; unfold Rl.c2; rw [decide_eq_true hk]; simp
                clear hk
                cases hN : Rl.name x.name with
                | true =>
                  rw [hN] at hnm HF
                  clear hN
                  go_quiet ((go_at_call 17; refine Calls.quiet_of_same (hnm _)))
                  go_wp2
                  go_meet
                  case rel => exact ⟨by rw [HF.out]; rfl, _, rfl⟩
                | false =>
                  rw [hN] at hnm HF
                  clear hN
                  go_quiet ((go_at_call 17; refine Calls.quiet_of_same (hnm _)))
                  go_wp2
                  go_meet
                  case rel => exact ⟨by rw [HF.out]; rfl, _, rfl⟩
              · have e1 : (x.kind == 1) = false := by rw [beq_eq_false_iff_ne]; exact hk
                have e2 : (x.kind != 1) = true := by rw [bne_iff_ne]; exact hk
                have HF : Hid (C2 = (!Rl.name x.name && x.name.isEmpty)) := by rw [Hid, ← HC2.out]; unfold Rl.c2; rw [decide_eq_false hk]; simp
                clear hk
                cases hN : Rl.name x.name with
                | true =>
                  rw [hN] at hnm HF
                  clear hN
                  go_quiet ((go_at_call 17; refine Calls.quiet_of_same (hnm _)))
                  go_wp2
                  go_meet
                  case rel => exact ⟨by rw [HF.out]; rfl, _, rfl⟩
                | false =>
                  rw [hN] at hnm HF
                  clear hN
                  go_quiet ((go_at_call 17; refine Calls.quiet_of_same (hnm _)))
                  go_wp2
                  go_meet
                  case rel => exact ⟨by rw [HF.out, str_list]; rfl, _, rfl⟩
            case rest =>
              obtain ⟨rfl, q, hq⟩ := hcut
              have k3 : wc.heap[g]? = some (.cells (itCs x ta tc wa wc_ ca cc) 33 (0, 0)) := by rw [hq, World.heap_drewN]; exact k2
              have hB6 : Below w.heap.size w wc := by rw [hq]; exact below_drewN hB5 q
              have y4 : LnsS wc B (.slice ca x.code.length cc) x.code := by rw [hq]; exact y3.below (below_drewN (Below.refl W2.heap.size W2) q) hBd
              have hBe : B ≤ wc.heap.size := by rw [hq, World.heap_drewN]; exact hBd
              have hg4 : g < wc.heap.size := by rw [hq, World.heap_drewN]; exact hg3
              clear hq hB5 y3 hBd hg3 k2
              cases C2 with
              | false =>
                have HF : Hid (D = false) := HNO.out (by rw [HSP.out]; rfl)
                go_wp2
                go_ret
                rw [HF.out]
                exact ⟨rfl, hB6⟩
              | true =>
                simp only [Bool.not_true]
                obtain ⟨W3, rfl⟩ : ∃ W, W = wc := ⟨_, rfl⟩
                go_upto_region 9 with fail
                go_cut [82] (fun t X => t = .bool (!C3) ∧ X = W3)
                case first =>
                  obtain ⟨r0, -, r3, r4, r5⟩ := HCS.out W3 k3
                  clear k3
                  have HF : Hid (C3 = ((decide (x.kind = 3) == !x.targets.isEmpty) && (decide (x.kind = 3) || x.code.isEmpty) && (!decide (x.kind = 2) || decide (x.words.length = 1)))) := HC3.out.symm
                  have HT0 : Hid (x.targets.isEmpty = !decide ((x.targets.length : Int) > 0)) := by
                    cases x.targets <;> simp [Hid]
                  have HCC : Hid (x.code.isEmpty = !decide ((x.code.length : Int) > 0)) := by
                    cases x.code <;> simp [Hid]
                  have HWW : Hid (decide (x.words.length = 1) = !((x.words.length : Int) != 1)) := by
                    by_cases h : x.words.length = 1
                    · rw [Hid, h]; rfl
                    · rw [Hid, decide_eq_false h]
                      have : ((x.words.length : Int) != 1) = true := by rw [bne_iff_ne]; omega
                      rw [this]; rfl
                  obtain ⟨NT, hNT⟩ : ∃ n, x.targets.length = n := ⟨_, rfl⟩
                  obtain ⟨NC, hNC⟩ : ∃ n, x.code.length = n := ⟨_, rfl⟩
                  obtain ⟨NW, hNW⟩ : ∃ n, x.words.length = n := ⟨_, rfl⟩
                  rw [hNT] at r3 HT0
                  rw [hNC] at r5 HCC
                  rw [hNW] at r4 HWW HF
                  clear hNT hNC hNW
                  by_cases h3 : x.kind = 3
                  · have e1 : (x.kind == 3) = true := by rw [beq_iff_eq]; exact h3
                    have e2 : (x.kind != 3) = false := by rw [bne_eq_false_iff_eq]; exact h3
                    have e3 : (x.kind == 2) = false := by rw [beq_eq_false_iff_ne]; omega
                    have HF2 : Hid (C3 = decide ((NT : Int) > 0)) := by
                      rw [Hid, HF.out, HT0.out, decide_eq_true h3, decide_eq_false (show ¬ x.kind = 2 by omega)]
                      cases decide ((NT : Int) > 0) <;> rfl
                    clear h3
                    by_cases ht : (NT : Int) > 0
                    · rw [decide_eq_true ht] at HF2
                      go_wp2
                      go_meet
                      case rel => exact ⟨by rw [HF2.out]; rfl, rfl⟩
                    · rw [decide_eq_false ht] at HF2
                      go_wp2
                      go_meet
                      case rel => exact ⟨by rw [HF2.out]; rfl, rfl⟩
                  · have e1 : (x.kind == 3) = false := by rw [beq_eq_false_iff_ne]; exact h3
                    have e2 : (x.kind != 3) = true := by rw [bne_iff_ne]; exact h3
                    by_cases ht : (NT : Int) > 0
                    · have HF2 : Hid (C3 = false) := by
                        rw [Hid, HF.out, HT0.out, decide_eq_true ht, decide_eq_false h3]
                        rfl
                      clear h3
                      go_wp2
                      go_meet
                      case rel => exact ⟨by rw [HF2.out]; rfl, rfl⟩
                    · by_cases hcd : (NC : Int) > 0
                      · have HF2 : Hid (C3 = false) := by
                          rw [Hid, HF.out, HCC.out, decide_eq_true hcd, decide_eq_false h3]
                          simp
                        clear h3
                        go_wp2
                        go_meet
                        case rel => exact ⟨by rw [HF2.out]; rfl, rfl⟩
                      · have HF2 : Hid (C3 = (!decide (x.kind = 2) || !((NW : Int) != 1))) := by
                          rw [Hid, HF.out, HCC.out, HT0.out, HWW.out, decide_eq_false hcd, decide_eq_false ht, decide_eq_false h3]
                          simp
                        clear h3
                        by_cases h2 : x.kind = 2
                        · have e3 : (x.kind == 2) = true := by rw [beq_iff_eq]; exact h2
                          rw [decide_eq_true h2] at HF2
                          clear h2
                          by_cases hw1 : (NW : Int) = 1
                          · have e4 : ((NW : Int) != 1) = false := by rw [bne_eq_false_iff_eq]; exact hw1
                            rw [e4] at HF2
                            clear hw1
                            go_wp2
                            go_meet
                            case rel => exact ⟨by rw [HF2.out]; rfl, rfl⟩
                          · have e4 : ((NW : Int) != 1) = true := by rw [bne_iff_ne]; exact hw1
                            rw [e4] at HF2
                            clear hw1
                            go_wp2
                            go_meet
                            case rel => exact ⟨by rw [HF2.out]; rfl, rfl⟩
                        · have e3 : (x.kind == 2) = false := by rw [beq_eq_false_iff_ne]; exact h2
                          rw [decide_eq_false h2] at HF2
                          clear h2
                          go_wp2
                          go_meet
                          case rel => exact ⟨by rw [HF2.out]; rfl, rfl⟩
                case rest =>
                  obtain ⟨rfl, rfl⟩ := hcut
                  cases C3 with
                  | false =>
                    have HF : Hid (D = false) := HNO.out (by rw [HSP.out]; rfl)
                    go_wp2
                    go_ret
                    rw [HF.out]
                    exact ⟨rfl, hB6⟩
                  | true =>
                    simp only [Bool.not_true]
                    have hcl := hfew.code
                    have HSP2 : Hid (Rl.mayI x = x.code.all Rl.okL) := HSP.out
                    clear HSP HC1 HC2 HC3
                    have HNC : Hid (∀ j (h : j < x.code.length), Rl.okL x.code[j] = false → D = false) := fun j h h2 => HNO.out (by
                      rw [HSP2.out, List.all_eq_false]
                      exact ⟨x.code[j], List.getElem_mem h, by rw [h2]; simp⟩)
                    have HYC : Hid ((∀ j (h : j < x.code.length), Rl.okL x.code[j] = true) → ∀ j (h : j < A.length), j < i + 1 → Rl.mayI A[j] = true) := fun h => HYES.out (by
                      rw [HSP2.out, List.all_eq_true]
                      intro l hl
                      obtain ⟨j, hj, rfl⟩ := List.getElem_of_mem hl
                      exact h j hj)
                    clear HNO HYES HSP2
                    go_wp2
                    go_loopw [5] (fun k X => ∃ j : Nat, j ≤ x.code.length ∧ k = .int .i64 (j : Int) ∧ Hid (∀ n (h : n < x.code.length), n < j → Rl.okL x.code[n] = true) ∧ Below wc.heap.size wc X) (fun k _ => x.code.length - (intOf k).toNat)
                    case atStart => exact ⟨0, Nat.zero_le _, rfl, fun j _ h => absurd h (Nat.not_lt_zero _), Below.refl _ _⟩
                    case round =>
                      obtain ⟨j, hj, rfl, HA2, hbr⟩ := hrel
                      obtain ⟨-, -, -, -, r5⟩ := HCS.out wr ((hbr.block g hg4).trans k3)
                      by_cases hjl : j < x.code.length
                      · have j1 : (j : Int) < (x.code.length : Int) := by omega
                        obtain ⟨b4, o4, c4, ad4, cc4, e, -, -, z1, z2, hW⟩ := (y4.below hbr hBe).at j hjl
                        simp only [Value.slice.injEq] at e
                        obtain ⟨rfl, -, rfl⟩ := e
                        obtain ⟨u, hu⟩ : ∃ u, x.code.getD j Lx.noL = u := ⟨_, rfl⟩
                        rw [hu] at z1 z2 hW
                        rw [getD_mem _ hjl] at hu
                        have hum : u ∈ x.code := by rw [← hu]; exact List.getElem_mem hjl
                        have hul := hfew.lines u hum
                        have hut := few_few (hfew.ct u hum)
                        have HOK : Hid (Rl.okL u = (u.ind && !decide (u.words.length = 0) && u.words.all (Rl.okW true))) := by
                          rw [Hid, Rl.okL]
                          congr 2
                          cases u.words <;> simp
                        have HN2 : Hid (Rl.okL u = false → D = false) := fun h => HNC.out j hjl (by rw [hu]; exact h)
                        have HY2 : Hid (Rl.okL u = true → ∀ n (h : n < x.code.length), n < j + 1 → Rl.okL x.code[n] = true) := fun h n hn hnj => by
                          rcases Nat.lt_or_ge n j with h1 | h1
                          · exact HA2.out n hn h1
                          · obtain rfl : n = j := by omega
                            rw [hu]; exact h
                        obtain ⟨NU, hNU⟩ : ∃ n, u.words.length = n := ⟨_, rfl⟩
                        rw [hNU] at z2 HOK
                        have hW' : WdR.Sl wr B (.slice ad4 NU cc4) u.words := by rw [← hNU]; exact hW
                        clear hu hum hNU hW
                        have hB7 : Below w.heap.size w wr := hB6.trans (hbr.mono hB6.size)
                        cases hui : u.ind with
                        | false =>
                          rw [hui] at z1 HOK
                          have HF : Hid (D = false) := HN2.out HOK.out
                          clear hui
                          go_wp2
                          go_ret
                          rw [HF.out]
                          exact ⟨rfl, hB7⟩
                        | true =>
                          rw [hui] at z1 HOK
                          clear hui
                          by_cases hn0 : NU = 0
                          · have e1 : ((NU : Int) == 0) = true := by rw [beq_iff_eq]; omega
                            have HF : Hid (D = false) := HN2.out (by rw [HOK.out, decide_eq_true hn0]; rfl)
                            clear hn0
                            go_wp2
                            go_ret
                            rw [HF.out]
                            exact ⟨rfl, hB7⟩
                          · have e1 : ((NU : Int) == 0) = false := by rw [beq_eq_false_iff_ne]; omega
                            rw [decide_eq_false hn0] at HOK
                            clear hn0
                            go_wp2_with fail
                            refine (wordsW_any _ u.words true _ B hW' (Nat.le_trans hBe hbr.size) hul hut).mono ?_
                            rintro e w1 ⟨rfl, hB1⟩
                            have hbr2 : Below wc.heap.size wc w1 := hbr.trans (hB1.mono hbr.size)
                            have hB8 : Below w.heap.size w w1 := hB6.trans (hbr2.mono hB6.size)
                            cases hall : u.words.all (Rl.okW true) with
                            | true =>
                              rw [hall] at HOK
                              have HA3 : Hid _ := HY2.out HOK.out
                              clear hall
                              go_wp2
                              exact ⟨⟨j + 1, by omega, by go_num, HA3, hbr2⟩, by simp [intOf]; omega⟩
                            | false =>
                              rw [hall] at HOK
                              have HF : Hid (D = false) := HN2.out HOK.out
                              clear hall
                              go_wp2
                              go_ret
                              rw [HF.out]
                              exact ⟨rfl, hB8⟩
                      · obtain rfl : j = x.code.length := by omega
                        have j1 : ¬ (x.code.length : Int) < (x.code.length : Int) := by omega
                        have HA3 : Hid _ := HYC.out fun n h => HA2.out n h h
                        have hB7 : Below w.heap.size w wr := hB6.trans (hbr.mono hB6.size)
                        clear HA2
                        go_wp2
                        exact ⟨⟨i + 1, by omega, by go_num, HA3, hB7⟩, by simp [intOf]; omega⟩
    · obtain rfl : i = A.length := by omega
      have i1 : ¬ (A.length : Int) < (A.length : Int) := by omega
      go_wp2
      go_ret
      rw [HEQ.out fun j h => HT.out j h h]
      exact ⟨rfl, hD⟩

end Go.Proofs.Ythpipbkbldlfjaa
