/-
  THE LAWS' works, long.
-/
import Derived.Test.YtifolddmcibkdaaLListed
namespace Go.Proofs.Ytifolddmcibkdaa
open Go.RowKit Go.Shelf

def Tm.one : Tm.T := ⟨[⟨⟨#[97]⟩, ⟨#[120]⟩⟩], [⟨#[97]⟩]⟩
theorem Tm.one_known : Tm.write Tm.T.zero ⟨#[97]⟩ ⟨#[120]⟩ = (0, Tm.one) ∧ Tm.read Tm.one ⟨#[97]⟩ = (⟨#[120]⟩, 0) := by
  refine ⟨rfl, Tm.read_yes (t := Tm.one) (List.pairwise_singleton _ _) (by decide +kernel) (by simp [Tm.one])⟩

set_option maxRecDepth 100000 in
set_option maxHeartbeats 2000000 in
theorem works_true (w : World) : Calls Try.prog 10 #[] w fun e w' => e = .returned (.bool true) ∧ Below w.heap.size w w' := by
  go_enter Try.func10, Try.ntmps10
  go_wp2_with fail
  refine (New_any _).mono ?_
  rintro e w1 ⟨g, S, rfl, hT, hS, hB1⟩
  have HS : Hid _ := hS
  clear hS
  have hO := Tm.Ok.zero
  have hO1 : Tm.Ok Tm.one := by
    have := hO.write (by decide) ⟨#[97]⟩ ⟨#[120]⟩
    rw [Tm.one_known.1] at this; exact this
  go_wp2_with fail
  refine (TWrite_any g _ S _ _ _ hT hO).mono ?_
  rintro e w2 ⟨rfl, hL⟩
  rw [Tm.one_known.1] at hL ⊢
  obtain ⟨S2, hT2, hS2, hTn⟩ := hL
  have hB2 : Below w.heap.size w w2 := hB1.trans (hTn.below' hB1.size fun b hb => HS.out b hb)
  clear hTn hT hO
  have HS2 : Hid _ := hS2
  clear hS2
  go_wp2_with fail
  refine (TList_any g _ S2 _ _ hT2 hO1).mono ?_
  rintro e w3 ⟨gf, lb, D, rfl, -, -, -, hB3⟩
  have hrun : Sem.run Try.prog (binOp BinOp.eql 62 (Value.func (.func gf) #[] lb) Value.nilFunc) w3 = .ok (.bool false) w3 := by kernel_rfl
  have hT3 := hT2.below hB3
  have hC3 := hB2.trans (hB3.mono hB2.size)
  go_wp2_with fail
  refine (TRead_any g _ S2 _ _ hT3 hO1).mono ?_
  rintro e w4 ⟨rfl, hB4⟩
  rw [Tm.one_known.2]
  have hT4 := hT3.below hB4
  have hC4 := hC3.trans (hB4.mono hC3.size)
  go_wp2_with fail
  refine (TMark_any g _ S2 _ hT4 hO1).mono ?_
  rintro e w5 ⟨rfl, hB5⟩
  rw [show Tm.one.chs.length = 1 from rfl]
  go_wp2
  go_ret
  exact ⟨rfl, hC4.trans (hB5.mono hC4.size)⟩

end Go.Proofs.Ytifolddmcibkdaa
