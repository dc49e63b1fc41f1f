/-
  RulesSame ANSWERS true.
-/
import Derived.Test.YthpipbkbldlfjaaRC
namespace Go.Proofs.Ythpipbkbldlfjaa
open Go.RowKit

set_option maxRecDepth 100000 in
set_option maxHeartbeats 1000000 in
theorem same_walk (hwk : WorksC) (va : Value) (A : List Rl.It) (vb : Value) (C : List Rl.It) (w : World) (ha : ItsS w w.heap.size va A) (hla : A.length ≤ 140737488351232) (hza : ∀ x ∈ A, Rl.SizedI x) (hb : ItsS w w.heap.size vb C) (hlb : C.length ≤ 140737488351232) (hzb : ∀ x ∈ C, Rl.SizedI x) :
    Calls Try.prog 6 #[va, vb] w fun e w' => e = .returned (.bool true) ∧ Below w.heap.size w w' := by
  have h0 := hwk w
  obtain ⟨ad, c, rfl, hle⟩ := ha.shape
  obtain ⟨ad', c', rfl, hle'⟩ := hb.shape
  go_enter Try.func6, Try.ntmps6
  go_wp2_with fail
  refine h0.mono ?_
  rintro e w1 ⟨rfl, hB1⟩
  clear h0
  have hga := great_any _ A w1 ((ha.below hB1 (Nat.le_refl _)).mono hB1.size) hla hza
  have hgb := fun (W : World) (h : Below w.heap.size w W) => great_any _ C W ((hb.below h (Nat.le_refl _)).mono h.size) hlb hzb
  clear hla hza hlb hzb
  go_wp2_with fail
  refine hga.mono ?_
  rintro e w2 ⟨M, rfl, HM, hB2⟩
  have hB12 := hB1.trans (hB2.mono hB1.size)
  clear hga
  by_cases hM : M < 262144
  · have hsa := Rl.small (A := A) (by rw [← HM.out hM]; exact hM)
    have e1 : decide ((M : Int) ≥ 262144) = false := decide_eq_false (by omega)
    rw [e1]
    clear e1 hM HM
    go_wp2_with fail
    refine (hgb w2 hB12).mono ?_
    rintro e w3 ⟨M', rfl, HM', hB3⟩
    have hB13 := hB12.trans (hB3.mono hB12.size)
    clear hgb
    by_cases hM' : M' < 262144
    · have hsb := Rl.small (A := C) (by rw [← HM'.out hM']; exact hM')
      have e1 : decide ((M' : Int) ≥ 262144) = false := decide_eq_false (by omega)
      rw [e1]
      clear e1 hM' HM'
      have hab := fun (W : World) (h : Below w.heap.size w W) => SameL_any _ _ A C W w.heap.size (ha.below h (Nat.le_refl _)) (hb.below h (Nat.le_refl _)) h.size hsa hsb
      have hba := fun (W : World) (h : Below w.heap.size w W) => SameL_any _ _ C A W w.heap.size (hb.below h (Nat.le_refl _)) (ha.below h (Nat.le_refl _)) h.size hsb hsa
      have haa := fun (W : World) (h : Below w.heap.size w W) => SameL_any _ _ A A W w.heap.size (ha.below h (Nat.le_refl _)) (ha.below h (Nat.le_refl _)) h.size hsa hsa
      have hrr := fun (W : World) (h : Below w.heap.size w W) => SameR_any _ _ A C W w.heap.size (ha.below h (Nat.le_refl _)) (hb.below h (Nat.le_refl _)) h.size hsa.len hsa.few
      have hcm : decide (C.map Rl.bi = A.map Rl.bi) = decide (A.map Rl.bi = C.map Rl.bi) := by rw [Bool.eq_iff_iff, decide_eq_true_eq, decide_eq_true_eq]; exact eq_comm
      rw [hcm] at hba
      rw [decide_eq_true rfl] at haa
      obtain ⟨D, hD⟩ : ∃ d, decide (A.map Rl.bi = C.map Rl.bi) = d := ⟨_, rfl⟩
      rw [hD] at hab hba hrr
      clear hcm hD hsa hsb hB2 hB3
      go_wp2_with fail
      refine (hab w3 hB13).mono ?_
      rintro e w4 ⟨rfl, hB4⟩
      have hB14 := hB13.trans (hB4.mono hB13.size)
      go_wp2_with fail
      refine (hrr w4 hB14).mono ?_
      rintro e w5 ⟨rfl, hB5⟩
      have hB15 := hB14.trans (hB5.mono hB14.size)
      go_wp2_with fail
      refine (hba w5 hB15).mono ?_
      rintro e w6 ⟨rfl, hB6⟩
      have hB16 := hB15.trans (hB6.mono hB15.size)
      go_wp2_with fail
      refine (hab w6 hB16).mono ?_
      rintro e w7 ⟨rfl, hB7⟩
      have hB17 := hB16.trans (hB7.mono hB16.size)
      go_wp2_with fail
      refine (haa w7 hB17).mono ?_
      rintro e w8 ⟨rfl, hB8⟩
      have hB18 := hB17.trans (hB8.mono hB17.size)
      go_wp2
      go_ret
      exact ⟨rfl, hB18⟩
    · have e1 : decide ((M' : Int) ≥ 262144) = true := decide_eq_true (by omega)
      rw [e1]
      clear e1 hM' HM'
      go_wp2
      go_ret
      exact ⟨rfl, hB13⟩
  · have e1 : decide ((M : Int) ≥ 262144) = true := decide_eq_true (by omega)
    rw [e1]
    clear e1 hM HM
    go_wp2
    go_ret
    exact ⟨rfl, hB12⟩

end Go.Proofs.Ythpipbkbldlfjaa
