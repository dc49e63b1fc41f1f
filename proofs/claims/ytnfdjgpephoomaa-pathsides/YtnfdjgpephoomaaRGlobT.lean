/-
  THE WALK OF THE DOCUMENT's Glob.
-/
import Derived.Test.YtnfdjgpephoomaaRGlobK
import Derived.Deep.QuietTactic
import Derived.BigQuiet
import Derived.Deep.RegionHeld3
namespace Go.Proofs.Ytnfdjgpephoomaa
open Go.RowKit

theorem beq_lit (x n : UInt8) : ((x.toNat : Int) == (n.toNat : Int)) = decide (x = n) := by
  by_cases h : x = n
  · subst h; simp
  · rw [decide_eq_false h, beq_eq_false_iff_ne]
    intro e
    exact h (UInt8.toNat_inj.1 (by omega))
open Classical in
/-- P9.4 -/
noncomputable def Pm.glob (p s : Pm.B) : Bool := if Pm.Fits (Pm.toks p) s then true else false
theorem Pm.glob_iff {p s : Pm.B} {b : Bool} (h : b = true ↔ Pm.Fits (Pm.toks p) s) : Pm.glob p s = b := by
  unfold Pm.glob
  cases b with
  | true => rw [if_pos (h.1 rfl)]
  | false => rw [if_neg (fun e => by have := h.2 e; cases this)]
theorem fits_nil (s : Pm.B) : Pm.Fits [] s ↔ s = [] := by simp [Pm.Fits]

set_option maxRecDepth 100000 in
set_option maxHeartbeats 4000000 in
theorem GlobT_any (p s : ByteArray) (w : World) (hp : p.size ≤ 1000000) (hs : s.size ≤ 1000000) : Calls Try.prog 26 #[.string p, .string s] w fun e w' => e = .returned (.bool (Pm.glob (bs p) (bs s))) ∧ Below w.heap.size w w' := by
  have hpl : (bs p).length = p.size := bs_length p
  have hsl : (bs s).length = s.size := bs_length s
  have HM : Hid (∀ W : World, ∃ W', (Instr.makeSlice 55 (.int .i64 ((s.size : Int) + 1)) (.int .i64 ((s.size : Int) + 1))).run Try.prog W = .ok (.slice (some ⟨W.heap.size, 0, none⟩) (s.size + 1) (s.size + 1)) W' ∧ (∀ T, NInv s W' W.heap.size T 0 (List.replicate (s.size + 1) false)) ∧ (∀ T, ¬ Pm.Fits T ((bs s).take 0) → NInv s W' W.heap.size T 1 (List.replicate (s.size + 1) false)) ∧ Below W.heap.size W W') := fun W =>
    ⟨_, make_bools ((s.size : Int) + 1) (s.size + 1) (by omega) (by omega) W, fun T => NInv.made s W T, fun T h => NInv.made1 s W T h, (Below.refl _ _).alloc (Nat.le_refl _) _⟩
  obtain ⟨w0, hm0, hN0, -, hB0⟩ := HM.out w
  have HN0 : Hid _ := (hN0 []).step (Nat.zero_le _) true (by simp [Pm.Fits])
  have hB1 := hB0.setCell (p := ⟨w.heap.size, 0, none⟩) (Nat.le_refl _) (.bool true)
  have c00 := (hN0 []).blk.cell 0 (by simp)
  have f00 := (hN0 []).blk.free 0
  clear hN0
  go_enter Try.func26, Try.ntmps26
  go_wp2
  clear c00 f00 hm0
  generalize w0.setCell ⟨w.heap.size, 0, none⟩ (.bool true) = w1 at *
  go_loopw [5, 6] (fun v i wr => ∃ (k g : Nat) (T : List Pm.Tok) (F : List Bool), i = .int .i64 (k : Int) ∧ v = .slice (some ⟨g, 0, none⟩) (s.size + 1) (s.size + 1) ∧ w.heap.size ≤ g ∧ GInv p s wr k g T F ∧ Below w.heap.size w wr) (fun _ i _ => p.size - (intOf i).toNat)
  case atStart =>
    refine ⟨0, w.heap.size, [], _, rfl, rfl, Nat.le_refl _, ⟨Nat.zero_le _, rfl, HN0.out.len, fun k hk => ?_, HN0.out.blk⟩, hB1⟩
    rw [fits_nil]
    cases k with
    | zero => simp
    | succ k =>
      have : (bs s).take (k + 1) ≠ [] := by
        intro h
        have := congrArg List.length h
        rw [List.length_take, List.length_nil] at this
        omega
      simp only [this, iff_false]
      simp only [List.getD, List.getElem?_set_ne (Nat.zero_ne_add_one k), List.getElem?_replicate]
      split <;> simp
  case round =>
    rename World => wo
    obtain ⟨i, g, T, F, rfl, rfl, hg, hG, hBe⟩ := hrel
    have HG : Hid _ := hG
    have hile := hG.le
    clear hG
    by_cases hlt : i < p.size
    · have i1 : (i : Int) < (p.size : Int) := by omega
      obtain ⟨wn, hmk, hN, hN1, hBn⟩ := HM.out wo
      have hgl := HG.out.blk.lt
      have HF : Hid (BBlk wn g F) := HG.out.blk.below hBn hgl
      have HB : Hid (Below w.heap.size w wn) := hBe.trans (hBn.mono hBe.size)
      have HS : Hid (w.heap.size ≤ wo.heap.size) := hBe.size
      have q0 : ((p[i].toNat : Int) == 42) = decide (p[i] = 42) := beq_lit _ 42
      by_cases h1 : p[i] = 42
      · rw [decide_eq_true h1] at q0
        by_cases h2 : ∃ h : i + 1 < p.size, p[i + 1] = 42
        · obtain ⟨h2, h3⟩ := h2
          have HT : Hid _ := HG.out.star2 h2 h1 h3
          have q1 : ((p[i + 1].toNat : Int) == 42) = true := by rw [h3]; rfl
          have i2 : (i : Int) + 1 < (p.size : Int) := by omega
          have HN : Hid _ := hN (T ++ [.any2])
          clear hN hN1 h1 h3
          go_wp2
          go_loopw [8] (fun v wr => ∃ (j : Nat) (X : List Bool), j ≤ s.size + 1 ∧ v = .int .i64 (j : Int) ∧ NInv s wr wo.heap.size (T ++ [.any2]) j X ∧ BBlk wr g F ∧ Below w.heap.size w wr) (fun v _ => s.size + 1 - (intOf v).toNat)
          case atStart => exact ⟨0, _, Nat.zero_le _, rfl, HN.out, HF.out, HB.out⟩
          case round =>
            obtain ⟨j, X, hj, rfl, hX, hF, hBq⟩ := hrel
            by_cases hjl : j ≤ s.size
            · have HV : Hid _ := NInv.any2 HG.out hX hjl
              have j1 : (j : Int) ≤ (s.size : Int) := by omega
              have j2 : (j : Int) < (s.size : Int) + 1 := by omega
              have c0 := hF.cell j (by rw [HG.out.len]; omega)
              have cX := hX.blk.cell j (by rw [hX.len]; omega)
              have fX := hX.blk.free j
              have HStep : Hid (∀ b, b = (F.getD j false || (decide (0 < j) && X.getD (j - 1) false)) → NInv s (wr.setCell ⟨wo.heap.size, j, none⟩ (.bool b)) wo.heap.size (T ++ [.any2]) (j + 1) (X.set j b) ∧ BBlk (wr.setCell ⟨wo.heap.size, j, none⟩ (.bool b)) g F ∧ Below w.heap.size w (wr.setCell ⟨wo.heap.size, j, none⟩ (.bool b))) := fun b hb =>
                ⟨hX.step hjl b (by rw [hb]; exact HV.out), hF.other _ _ (by omega), hBq.setCell (p := ⟨wo.heap.size, j, none⟩) HS.out _⟩
              by_cases hj0 : 0 < j
              · have k0 : (j : Int) > 0 := by omega
                have z1 : (j : Int) - 1 = ((j - 1 : Nat) : Int) := by omega
                have z2 : ((j - 1 : Nat) : Int) < (s.size : Int) + 1 := by omega
                have c1 := hX.blk.cell (j - 1) (by rw [hX.len]; omega)
                rw [decide_eq_true hj0] at HStep
                generalize F.getD j false = fb at *
                generalize X.getD (j - 1) false = xb at *
                generalize X.getD j false = yb at *
                cases fb
                · go_wp2
                  obtain ⟨n1, n2, n3⟩ := HStep.out xb (by simp)
                  exact ⟨⟨j + 1, _, by omega, by go_num, n1, n2, n3⟩, by simp [intOf]; omega⟩
                · go_wp2
                  obtain ⟨n1, n2, n3⟩ := HStep.out true (by simp)
                  exact ⟨⟨j + 1, _, by omega, by go_num, n1, n2, n3⟩, by simp [intOf]; omega⟩
              · have k0 : ¬ (j : Int) > 0 := by omega
                rw [decide_eq_false hj0] at HStep
                generalize F.getD j false = fb at *
                generalize X.getD j false = yb at *
                cases fb
                · go_wp2
                  obtain ⟨n1, n2, n3⟩ := HStep.out false (by simp)
                  exact ⟨⟨j + 1, _, by omega, by go_num, n1, n2, n3⟩, by simp [intOf]; omega⟩
                · go_wp2
                  obtain ⟨n1, n2, n3⟩ := HStep.out true (by simp)
                  exact ⟨⟨j + 1, _, by omega, by go_num, n1, n2, n3⟩, by simp [intOf]; omega⟩
            · obtain rfl : j = s.size + 1 := by omega
              have j1 : ¬ ((s.size + 1 : Nat) : Int) ≤ (s.size : Int) := by omega
              go_wp2
              exact ⟨⟨i + 1 + 1, wo.heap.size, T ++ [.any2], X, by go_num, rfl, HS.out, hX.done (by omega) HT.out, hBq⟩, by simp [intOf]; omega⟩
        · have hn : ∀ h : i + 1 < p.size, p[i + 1] ≠ 42 := fun h e => h2 ⟨h, e⟩
          have HT : Hid _ := HG.out.star hlt h1 hn
          have HN : Hid _ := hN (T ++ [.any1])
          clear hN hN1 h1
          have HR : Hid (¬ i + 1 < p.size ∨ ∃ h : i + 1 < p.size, ((p[i + 1].toNat : Int) == 42) = false) := by
            by_cases h : i + 1 < p.size
            · exact .inr ⟨h, by rw [show ((p[i + 1].toNat : Int) == 42) = decide (p[i + 1] = 42) from beq_lit _ 42, decide_eq_false (hn h)]⟩
            · exact .inl h
          clear h2 hn
          go_upto_region 11 with fail
          go_cut [68] (fun t wx => t = .bool false ∧ wn = wx)
          case first =>
            rcases HR.out with h | ⟨h, h'⟩
            · have i2 : ¬ (i : Int) + 1 < (p.size : Int) := by omega
              go_wp2
              go_meet
              exact ⟨rfl, rfl⟩
            · have i2 : (i : Int) + 1 < (p.size : Int) := by omega
              go_wp2
              go_meet
              exact ⟨rfl, rfl⟩
          case rest =>
            obtain ⟨rfl, rfl⟩ := hcut
            go_wp2
            go_loopw [9] (fun v wr => ∃ (j : Nat) (X : List Bool), j ≤ s.size + 1 ∧ v = .int .i64 (j : Int) ∧ NInv s wr wo.heap.size (T ++ [.any1]) j X ∧ BBlk wr g F ∧ Below w.heap.size w wr) (fun v _ => s.size + 1 - (intOf v).toNat)
            case atStart => exact ⟨0, _, Nat.zero_le _, rfl, HN.out, HF.out, HB.out⟩
            case round =>
              obtain ⟨j, X, hj, rfl, hX, hF, hBq⟩ := hrel
              by_cases hjl : j ≤ s.size
              · have HV : Hid _ := NInv.any1 HG.out hX hjl
                have j1 : (j : Int) ≤ (s.size : Int) := by omega
                have j2 : (j : Int) < (s.size : Int) + 1 := by omega
                have c0 := hF.cell j (by rw [HG.out.len]; omega)
                have cX := hX.blk.cell j (by rw [hX.len]; omega)
                have fX := hX.blk.free j
                have HStep : Hid (∀ b, b = (F.getD j false || (decide (0 < j) && X.getD (j - 1) false && decide ((bs s)[j - 1]? ≠ some 47))) → NInv s (wr.setCell ⟨wo.heap.size, j, none⟩ (.bool b)) wo.heap.size (T ++ [.any1]) (j + 1) (X.set j b) ∧ BBlk (wr.setCell ⟨wo.heap.size, j, none⟩ (.bool b)) g F ∧ Below w.heap.size w (wr.setCell ⟨wo.heap.size, j, none⟩ (.bool b))) := fun b hb =>
                  ⟨hX.step hjl b (by rw [hb]; exact HV.out), hF.other _ _ (by omega), hBq.setCell (p := ⟨wo.heap.size, j, none⟩) HS.out _⟩
                clear HV
                by_cases hj0 : 0 < j
                · have k0 : (j : Int) > 0 := by omega
                  have z1 : (j : Int) - 1 = ((j - 1 : Nat) : Int) := by omega
                  have z2 : ((j - 1 : Nat) : Int) < (s.size : Int) + 1 := by omega
                  have z3 : ((j - 1 : Nat) : Int) < (s.size : Int) := by omega
                  have c1 := hX.blk.cell (j - 1) (by rw [hX.len]; omega)
                  have hb1 : j - 1 < s.size := by omega
                  have e1 : (bs s)[j - 1]? = some s[j - 1] := by rw [List.getElem?_eq_getElem (by rw [hsl]; exact hb1)]; rfl
                  rw [decide_eq_true hj0, e1] at HStep
                  clear e1
                  have q2 : ((s[j - 1].toNat : Int) == 47) = decide (s[j - 1] = 47) := beq_lit _ 47
                  generalize F.getD j false = fb at *
                  generalize X.getD (j - 1) false = xb at *
                  generalize X.getD j false = yb at *
                  cases fb
                  · cases xb
                    · go_wp2
                      obtain ⟨n1, n2, n3⟩ := HStep.out false (by simp)
                      exact ⟨⟨j + 1, _, by omega, by go_num, n1, n2, n3⟩, by simp [intOf]; omega⟩
                    · go_wp2
                      obtain ⟨n1, n2, n3⟩ := HStep.out ((s[j - 1].toNat : Int) != 47) (by rw [bne, q2]; simp)
                      exact ⟨⟨j + 1, _, by omega, by go_num, n1, n2, n3⟩, by simp [intOf]; omega⟩
                  · go_wp2
                    obtain ⟨n1, n2, n3⟩ := HStep.out true (by simp)
                    exact ⟨⟨j + 1, _, by omega, by go_num, n1, n2, n3⟩, by simp [intOf]; omega⟩
                · have k0 : ¬ (j : Int) > 0 := by omega
                  rw [decide_eq_false hj0] at HStep
                  generalize F.getD j false = fb at *
                  generalize X.getD j false = yb at *
                  cases fb
                  · go_wp2
                    obtain ⟨n1, n2, n3⟩ := HStep.out false (by simp)
                    exact ⟨⟨j + 1, _, by omega, by go_num, n1, n2, n3⟩, by simp [intOf]; omega⟩
                  · go_wp2
                    obtain ⟨n1, n2, n3⟩ := HStep.out true (by simp)
                    exact ⟨⟨j + 1, _, by omega, by go_num, n1, n2, n3⟩, by simp [intOf]; omega⟩
              · obtain rfl : j = s.size + 1 := by omega
                have j1 : ¬ ((s.size + 1 : Nat) : Int) ≤ (s.size : Int) := by omega
                go_wp2
                exact ⟨⟨i + 1, wo.heap.size, T ++ [.any1], X, by go_num, rfl, HS.out, hX.done (by omega) HT.out, hBq⟩, by simp [intOf]; omega⟩
      · rw [decide_eq_false h1] at q0
        have HT : Hid _ := HG.out.byte hlt h1
        have HN : Hid _ := hN1 (T ++ [tokOf p[i]]) (Pm.fits_byte0 T _ (tokOf_byte _) _)
        clear hN hN1 h1
        go_upto_region 8 with fail
        go_loopw [10] (fun v wr => ∃ (j : Nat) (X : List Bool), j ≤ s.size ∧ v = .int .i64 (j : Int) ∧ NInv s wr wo.heap.size (T ++ [tokOf p[i]]) (j + 1) X ∧ BBlk wr g F ∧ Below w.heap.size w wr) (fun v _ => s.size - (intOf v).toNat)
        case atStart => exact ⟨0, _, Nat.zero_le _, rfl, HN.out, HF.out, HB.out⟩
        case round =>
          obtain ⟨j, X, hj, rfl, hX, hF, hBq⟩ := hrel
          by_cases hjl : j < s.size
          · have HV : Hid _ := NInv.one HG.out p[i] hjl
            have j1 : (j : Int) < (s.size : Int) := by omega
            have j2 : (j : Int) < (s.size : Int) + 1 := by omega
            have j3 : (j : Int) + 1 < (s.size : Int) + 1 := by omega
            have c0 := hF.cell j (by rw [HG.out.len]; omega)
            have cX := hX.blk.cell (j + 1) (by rw [hX.len]; omega)
            have fX := hX.blk.free (j + 1)
            have HStep : Hid (∀ b : Bool, b = (F.getD j false && (decide (p[i] = 63) && decide (s[j] ≠ 47) || !decide (p[i] = 63) && decide (p[i] = s[j]))) → NInv s (wr.setCell ⟨wo.heap.size, j + 1, none⟩ (.bool b)).drew wo.heap.size (T ++ [tokOf p[i]]) (j + 1 + 1) (X.set (j + 1) b) ∧ BBlk (wr.setCell ⟨wo.heap.size, j + 1, none⟩ (.bool b)).drew g F ∧ Below w.heap.size w (wr.setCell ⟨wo.heap.size, j + 1, none⟩ (.bool b)).drew) := fun b hb => by
              have h1 := hX.step (by omega) b (by rw [hb]; exact HV.out)
              have h2 : BBlk (wr.setCell ⟨wo.heap.size, j + 1, none⟩ (.bool b)) g F := hF.other _ _ (by omega)
              exact ⟨⟨h1.len, h1.fits, h1.blk⟩, h2, (hBq.setCell (p := ⟨wo.heap.size, j + 1, none⟩) HS.out _).drew⟩
            clear HV
            have q3 : ((p[i].toNat : Int) == 63) = decide (p[i] = 63) := beq_lit _ 63
            have q4 : ((s[j].toNat : Int) == 47) = decide (s[j] = 47) := beq_lit _ 47
            have q5 : ((p[i].toNat : Int) == (s[j].toNat : Int)) = decide (p[i] = s[j]) := beq_lit _ _
            generalize F.getD j false = fb at *
            generalize X.getD (j + 1) false = yb at *
            cases fb
            · go_upto_region 10 with fail
              go_region
              go_wp2
              obtain ⟨n1, n2, n3⟩ := HStep.out false (by simp)
              exact ⟨⟨j + 1, _, by omega, by go_num, n1, n2, n3⟩, by simp [intOf]; omega⟩
            · by_cases h63 : p[i] = 63
              · have r3 : ((p[i].toNat : Int) == 63) = true := by rw [q3, decide_eq_true h63]
                have r4 : ((p[i].toNat : Int) != 63) = false := by rw [bne, r3]; rfl
                by_cases h47 : s[j] = 47
                · have r5 : ((s[j].toNat : Int) != 47) = false := by rw [bne, q4, decide_eq_true h47]; rfl
                  obtain ⟨n1, n2, n3⟩ := HStep.out false (by simp [h63, h47])
                  clear h63 h47 q3 q4 q5 HStep
                  go_upto_region 10 with fail
                  go_region
                  go_wp2
                  exact ⟨⟨j + 1, _, by omega, by go_num, n1, n2, n3⟩, by simp [intOf]; omega⟩
                · have r5 : ((s[j].toNat : Int) != 47) = true := by rw [bne, q4, decide_eq_false h47]; rfl
                  obtain ⟨n1, n2, n3⟩ := HStep.out true (by simp [h63, h47])
                  clear h63 h47 q3 q4 q5 HStep
                  go_upto_region 10 with fail
                  go_region
                  go_wp2
                  exact ⟨⟨j + 1, _, by omega, by go_num, n1, n2, n3⟩, by simp [intOf]; omega⟩
              · have r3 : ((p[i].toNat : Int) == 63) = false := by rw [q3, decide_eq_false h63]
                have r4 : ((p[i].toNat : Int) != 63) = true := by rw [bne, r3]; rfl
                obtain ⟨n1, n2, n3⟩ := HStep.out ((p[i].toNat : Int) == (s[j].toNat : Int)) (by rw [q5]; simp [h63])
                clear h63 q3 q4 q5 HStep
                go_upto_region 10 with fail
                go_region
                go_wp2
                exact ⟨⟨j + 1, _, by omega, by go_num, n1, n2, n3⟩, by simp [intOf]; omega⟩
          · obtain rfl : j = s.size := by omega
            have j1 : ¬ (s.size : Int) < (s.size : Int) := by omega
            go_wp2
            exact ⟨⟨i + 1, wo.heap.size, T ++ [tokOf p[i]], X, by go_num, rfl, HS.out, hX.done (by omega) HT.out, hBq⟩, by simp [intOf]; omega⟩
    · obtain rfl : i = p.size := by omega
      have i1 : ¬ (p.size : Int) < (p.size : Int) := by omega
      have c0 := HG.out.blk.cell s.size (by rw [HG.out.len]; omega)
      have z1 : (s.size : Int) < (s.size : Int) + 1 := by omega
      have HF := HG.out.fits s.size (Nat.le_refl _)
      have ht := HG.out.tk
      rw [List.drop_of_length_le (by omega)] at ht
      have e : Pm.toks [] = [] := by simp [Pm.toks]
      rw [e, List.append_nil] at ht
      rw [← ht, List.take_of_length_le (by omega)] at HF
      have HF : Hid _ := Pm.glob_iff HF
      clear ht e
      generalize F.getD s.size false = b at *
      go_wp2
      go_ret
      exact ⟨by rw [HF.out]; rfl, hBe⟩

end Go.Proofs.Ytnfdjgpephoomaa
