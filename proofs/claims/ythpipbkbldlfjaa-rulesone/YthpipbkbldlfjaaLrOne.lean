/-
  RulesOne ANSWERS true.
-/
import Derived.Test.YthpipbkbldlfjaaRC
namespace Go.Proofs.Ythpipbkbldlfjaa
open Go.RowKit

set_option maxRecDepth 100000 in
set_option maxHeartbeats 2000000 in
theorem one_walk (hwk : WorksC) (hps : ParseC) (va : Value) (A : List Rl.It) (vb : Value) (C : List Rl.It) (w : World) (ha : ItsS w w.heap.size va A) (hla : A.length ≤ 140737488351232) (hza : ∀ x ∈ A, Rl.SizedI x) (hb : ItsS w w.heap.size vb C) (hlb : C.length ≤ 140737488351232) (hzb : ∀ x ∈ C, Rl.SizedI x) :
    Calls Try.prog 8 #[va, vb] w fun e w' => e = .returned (.bool true) ∧ Below w.heap.size w w' := by
  have h0 := hwk w
  obtain ⟨ad, c, rfl, hle⟩ := ha.shape
  obtain ⟨ad', c', rfl, hle'⟩ := hb.shape
  go_enter Try.func8, Try.ntmps8
  go_wp2_with fail
  refine h0.mono ?_
  rintro e w1 ⟨rfl, hB1⟩
  clear h0
  have hga := great_any _ A w1 ((ha.below hB1 (Nat.le_refl _)).mono hB1.size) hla hza
  have hgb := fun (W : World) (h : Below w.heap.size w W) => great_any _ C W ((hb.below h (Nat.le_refl _)).mono h.size) hlb hzb
  clear hla hza hlb hzb
  go_wp2_with fail
  refine hga.mono ?_
  rintro e w2 ⟨M, rfl, HM, hB2⟩
  have hB12 := hB1.trans (hB2.mono hB1.size)
  clear hga
  by_cases hM : M < 262144
  · have hsa := Rl.small (A := A) (by rw [← HM.out hM]; exact hM)
    have e1 : decide ((M : Int) ≥ 262144) = false := decide_eq_false (by omega)
    rw [e1]
    clear e1 hM HM
    go_wp2_with fail
    refine (hgb w2 hB12).mono ?_
    rintro e w3 ⟨M', rfl, HM', hB3⟩
    have hB13 := hB12.trans (hB3.mono hB12.size)
    clear hgb
    by_cases hM' : M' < 262144
    · have hsb := Rl.small (A := C) (by rw [← HM'.out hM']; exact hM')
      have e1 : decide ((M' : Int) ≥ 262144) = false := decide_eq_false (by omega)
      rw [e1]
      clear e1 hM' HM' hB2 hB3
      have hpa := fun (W : World) (h : Below w.heap.size w W) => PrintL_any _ A W w.heap.size (ha.below h (Nat.le_refl _)) h.size hsa
      have hpb := fun (W : World) (h : Below w.heap.size w W) => PrintL_any _ C W w.heap.size (hb.below h (Nat.le_refl _)) h.size hsb
      have hma := fun (W : World) (h : Below w.heap.size w W) => MayL_any _ A W w.heap.size (ha.below h (Nat.le_refl _)) h.size hsa
      have hmb := fun (W : World) (h : Below w.heap.size w W) => MayL_any _ C W w.heap.size (hb.below h (Nat.le_refl _)) h.size hsb
      unfold prV at hpa hpb
      cases hA : Rl.may A with
      | false =>
        rw [hA] at hpa hma
        simp only [Bool.false_eq_true, if_false] at hpa
        cases hC : Rl.may C with
        | false =>
          rw [hC] at hpb hmb
          simp only [Bool.false_eq_true, if_false] at hpb
          clear hA hC hsa hsb
          go_wp2_with fail
          refine (hpa w3 hB13).mono ?_
          rintro e w4 ⟨rfl, hB4⟩
          have hB14 := hB13.trans (hB4.mono hB13.size)
          go_wp2_with fail
          refine (hpb w4 hB14).mono ?_
          rintro e w5 ⟨rfl, hB5⟩
          have hB15 := hB14.trans (hB5.mono hB14.size)
          go_wp2_with fail
          refine (hma w5 hB15).mono ?_
          rintro e w6 ⟨rfl, hB6⟩
          have hB16 := hB15.trans (hB6.mono hB15.size)
          go_wp2_with fail
          refine (hmb w6 hB16).mono ?_
          rintro e w7 ⟨rfl, hB7⟩
          have hB17 := hB16.trans (hB7.mono hB16.size)
          go_wp2
          go_ret
          exact ⟨rfl, hB17⟩
        | true =>
          rw [hC] at hpb hmb
          simp only [if_true] at hpb
          generalize str (Rl.print C) = TC at *
          clear hA hC hsa hsb
          go_wp2_with fail
          refine (hpa w3 hB13).mono ?_
          rintro e w4 ⟨rfl, hB4⟩
          have hB14 := hB13.trans (hB4.mono hB13.size)
          go_wp2_with fail
          refine (hpb w4 hB14).mono ?_
          rintro e w5 ⟨rfl, hB5⟩
          have hB15 := hB14.trans (hB5.mono hB14.size)
          go_wp2_with fail
          refine (hma w5 hB15).mono ?_
          rintro e w6 ⟨rfl, hB6⟩
          have hB16 := hB15.trans (hB6.mono hB15.size)
          go_wp2_with fail
          refine (hmb w6 hB16).mono ?_
          rintro e w7 ⟨rfl, hB7⟩
          have hB17 := hB16.trans (hB7.mono hB16.size)
          go_wp2
          go_ret
          exact ⟨rfl, hB17⟩
      | true =>
        rw [hA] at hpa hma
        simp only [if_true] at hpa
        cases hC : Rl.may C with
        | false =>
          rw [hC] at hpb hmb
          simp only [Bool.false_eq_true, if_false] at hpb
          generalize str (Rl.print A) = TA at *
          clear hA hC hsa hsb
          go_wp2_with fail
          refine (hpa w3 hB13).mono ?_
          rintro e w4 ⟨rfl, hB4⟩
          have hB14 := hB13.trans (hB4.mono hB13.size)
          go_wp2_with fail
          refine (hpb w4 hB14).mono ?_
          rintro e w5 ⟨rfl, hB5⟩
          have hB15 := hB14.trans (hB5.mono hB14.size)
          go_wp2_with fail
          refine (hma w5 hB15).mono ?_
          rintro e w6 ⟨rfl, hB6⟩
          have hB16 := hB15.trans (hB6.mono hB15.size)
          go_wp2_with fail
          refine (hmb w6 hB16).mono ?_
          rintro e w7 ⟨rfl, hB7⟩
          have hB17 := hB16.trans (hB7.mono hB16.size)
          go_wp2
          go_ret
          exact ⟨rfl, hB17⟩
        | true =>
          rw [hC] at hpb
          simp only [if_true] at hpb
          clear hma hmb
          have hone := Rl.one hA hC
          have hpp := fun W : World => hps (str (Rl.print A)) W (by rw [str_size]; have := hsa.print; omega)
          rw [bs_str] at hpp
          have hab := fun (W : World) (h : Below w.heap.size w W) => SameL_any _ _ A C W w.heap.size (ha.below h (Nat.le_refl _)) (hb.below h (Nat.le_refl _)) h.size hsa hsb
          have HST : Hid (((str (Rl.print A)).toList == (str (Rl.print C)).toList) = decide (A.map Rl.bi = C.map Rl.bi)) := by
            rw [Hid, str_list, str_list, beq_dec, Bool.eq_iff_iff, decide_eq_true_eq, decide_eq_true_eq]
            exact hone
          obtain ⟨D, hD⟩ : ∃ d, decide (A.map Rl.bi = C.map Rl.bi) = d := ⟨_, rfl⟩
          rw [hD] at HST hab
          clear hone hD
          go_wp2_with fail
          refine (hpa w3 hB13).mono ?_
          rintro e w4 ⟨rfl, hB4⟩
          have hB14 := hB13.trans (hB4.mono hB13.size)
          go_wp2_with fail
          refine (hpb w4 hB14).mono ?_
          rintro e w5 ⟨rfl, hB5⟩
          have hB15 := hB14.trans (hB5.mono hB14.size)
          clear hpa hpb
          go_wp2_with fail
          refine (hpp w5).mono ?_
          rintro e w6 ⟨hE, hB6⟩
          have hB16 := hB15.trans (hB6.mono hB15.size)
          clear hpp
          by_cases hlen : (Rl.print A).length ≤ 32768
          · obtain ⟨X, hX, hbi⟩ := Rl.answer_print hA hlen
            rw [hX] at hE
            obtain ⟨ad2, c2, rfl, hJ⟩ := hE
            have hsx := Rl.small (Rl.answer_bulk hX)
            have hsx2 := fun (W : World) (h : Below w6.heap.size w6 W) => SameL_any _ _ X A W w6.heap.size (hJ.below h (Nat.le_refl _)) ((ha.below (hB16.trans (h.mono hB16.size)) (Nat.le_refl _)).mono hB16.size) h.size hsx hsa
            rw [decide_eq_true hbi.symm] at hsx2
            have i1 : ((str (Rl.print A)).size : Int) ≤ 32768 := by rw [str_size]; omega
            have hne := fun W : World => neq_where W 0 0 0 0 0 0
            rw [decide_eq_true ⟨rfl, rfl, rfl⟩] at hne
            have hgd := fun (W : World) (a b : Operand) => guard_where W .neq a b
            unfold whA at hne
            have hb6 := below_box w6
            have hst := HST.out
            generalize str (Rl.print A) = TA at *
            generalize str (Rl.print C) = TC at *
            clear hX hbi hsx hlen hJ hA hC hsa hsb HST
            unfold whV
            go_wp2_with fail
            refine (hsx2 _ (hb6 _)).mono ?_
            rintro e w8 ⟨rfl, hB8⟩
            have hB68 := (hb6 (.cells #[.int .i64 0, .string .empty, .int .i64 0, .int .i64 0] 26)).trans (hB8.mono (hb6 _).size)
            have hB18 := hB16.trans (hB68.mono hB16.size)
            clear hsx2
            go_wp2_with fail
            refine (hab w8 hB18).mono ?_
            rintro e w9 ⟨rfl, hB9⟩
            clear hab
            go_wp2
            go_ret
            exact ⟨rfl, hB18.trans (hB9.mono hB18.size)⟩
          · rw [Rl.answer_long (by omega)] at hE
            obtain ⟨ad2, c2, rfl⟩ := hE
            have i1 : ¬ ((str (Rl.print A)).size : Int) ≤ 32768 := by rw [str_size]; omega
            have hst := HST.out
            generalize str (Rl.print A) = TA at *
            generalize str (Rl.print C) = TC at *
            clear hlen hA hC hsa hsb HST
            unfold whV
            simp only
            have hB17 := hB16.alloc hB16.size
            go_wp2_with fail
            refine (hab _ (hB17 _)).mono ?_
            rintro e w9 ⟨rfl, hB9⟩
            clear hab
            go_wp2
            go_ret
            exact ⟨rfl, (hB17 _).trans (hB9.mono (hB17 _).size)⟩
    · have e1 : decide ((M' : Int) ≥ 262144) = true := decide_eq_true (by omega)
      rw [e1]
      clear e1 hM' HM'
      go_wp2
      go_ret
      exact ⟨rfl, hB13⟩
  · have e1 : decide ((M : Int) ≥ 262144) = true := decide_eq_true (by omega)
    rw [e1]
    clear e1 hM HM
    go_wp2
    go_ret
    exact ⟨rfl, hB12⟩

end Go.Proofs.Ythpipbkbldlfjaa
