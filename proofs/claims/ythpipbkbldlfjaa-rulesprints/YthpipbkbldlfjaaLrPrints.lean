/-
  RulesPrints ANSWERS true.
-/
import Derived.Test.YthpipbkbldlfjaaRC
namespace Go.Proofs.Ythpipbkbldlfjaa
open Go.RowKit

set_option maxRecDepth 100000 in
set_option maxHeartbeats 1000000 in
theorem prints_walk (hwk : WorksC) (va : Value) (A : List Rl.It) (w : World) (ha : ItsS w w.heap.size va A) (hl : A.length ≤ 140737488351232) (hz : ∀ x ∈ A, Rl.SizedI x) : Calls Try.prog 5 #[va] w fun e w' => e = .returned (.bool true) ∧ Below w.heap.size w w' := by
  have h0 := hwk w
  obtain ⟨ad, c, rfl, hle⟩ := ha.shape
  go_enter Try.func5, Try.ntmps5
  go_wp2_with fail
  refine h0.mono ?_
  rintro e w1 ⟨rfl, hB1⟩
  clear h0
  have ha1 := (ha.below hB1 (Nat.le_refl _)).mono hB1.size
  have hgr := great_any _ A w1 ha1 hl hz
  clear hl hz
  go_wp2_with fail
  refine hgr.mono ?_
  rintro e w2 ⟨M, rfl, HM, hB2⟩
  clear hgr
  by_cases hM : M < 262144
  · have hsm := Rl.small (A := A) (by rw [← HM.out hM]; exact hM)
    have e1 : decide ((M : Int) ≥ 262144) = false := decide_eq_false (by omega)
    rw [e1]
    clear e1 hM HM
    have hB12 := hB1.trans (hB2.mono hB1.size)
    have hS : ∀ W : World, Below w.heap.size w W → ItsS W w.heap.size (.slice ad A.length c) A := fun W h => ha.below h (Nat.le_refl _)
    have hp1 := fun (W : World) (h : Below w.heap.size w W) => PrintL_any _ A W w.heap.size (hS W h) h.size hsm
    have hp2 := fun (W : World) (h : Below w.heap.size w W) => PrintR_any _ A W w.heap.size (hS W h) h.size hsm.len hsm.few hsm.head hsm.lines hsm.print
    have hm1 := fun (W : World) (h : Below w.heap.size w W) => MayL_any _ A W w.heap.size (hS W h) h.size hsm
    have hm2 := fun (W : World) (h : Below w.heap.size w W) => MayR_any _ A W w.heap.size (hS W h) h.size hsm.len hsm.few
    unfold prV at hp1
    obtain ⟨K, hK⟩ : ∃ k, Rl.may A = k := ⟨_, rfl⟩
    rw [hK] at hp1 hp2 hm1 hm2
    generalize str (Rl.print A) = T at *
    clear hK hS hsm ha1 hB2
    cases K with
    | true =>
      simp only [if_true] at hp1 hp2
      go_wp2_with fail
      refine (hp1 w2 hB12).mono ?_
      rintro e w3 ⟨rfl, hB3⟩
      have hB13 := hB12.trans (hB3.mono hB12.size)
      go_wp2_with fail
      refine (hp2 w3 hB13).mono ?_
      rintro e w4 ⟨rfl, hB4⟩
      have hB14 := hB13.trans (hB4.mono hB13.size)
      go_wp2_with fail
      refine (hm1 w4 hB14).mono ?_
      rintro e w5 ⟨rfl, hB5⟩
      have hB15 := hB14.trans (hB5.mono hB14.size)
      go_wp2_with fail
      refine (hm2 w5 hB15).mono ?_
      rintro e w6 ⟨rfl, hB6⟩
      have hB16 := hB15.trans (hB6.mono hB15.size)
      go_wp2
      go_ret
      exact ⟨rfl, hB16⟩
    | false =>
      simp only [Bool.false_eq_true, if_false] at hp1 hp2
      go_wp2_with fail
      refine (hp1 w2 hB12).mono ?_
      rintro e w3 ⟨rfl, hB3⟩
      have hB13 := hB12.trans (hB3.mono hB12.size)
      go_wp2_with fail
      refine (hp2 w3 hB13).mono ?_
      rintro e w4 ⟨rfl, hB4⟩
      have hB14 := hB13.trans (hB4.mono hB13.size)
      go_wp2_with fail
      refine (hm1 w4 hB14).mono ?_
      rintro e w5 ⟨rfl, hB5⟩
      have hB15 := hB14.trans (hB5.mono hB14.size)
      go_wp2_with fail
      refine (hm2 w5 hB15).mono ?_
      rintro e w6 ⟨rfl, hB6⟩
      have hB16 := hB15.trans (hB6.mono hB15.size)
      go_wp2
      go_ret
      exact ⟨rfl, hB16⟩
  · have e1 : decide ((M : Int) ≥ 262144) = true := decide_eq_true (by omega)
    rw [e1]
    clear e1 hM HM
    go_wp2
    go_ret
    exact ⟨rfl, hB1.trans (hB2.mono hB1.size)⟩

end Go.Proofs.Ythpipbkbldlfjaa
