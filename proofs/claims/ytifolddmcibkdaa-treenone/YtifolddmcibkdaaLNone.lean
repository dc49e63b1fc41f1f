/-
  THE WALK OF TreeNone.
-/
import Derived.Test.YtifolddmcibkdaaLWorks
import Derived.Test.YtifolddmcibkdaaTXN
namespace Go.Proofs.Ytifolddmcibkdaa
open Go.RowKit

set_option maxRecDepth 100000 in
set_option maxHeartbeats 4000000 in
theorem none_walk (p s : ByteArray) (n : Int) (w : World) :
    Calls Try.prog 4 #[.string p, .string s, .int .i64 n] w fun e w' => e = .returned (.bool true) ∧ Below w.heap.size w w' := by
  go_enter Try.func4, Try.ntmps4
  have HF : Hid (∀ W W' : World, Below w.heap.size w W → Below W.heap.size W W' → Below w.heap.size w W') := fun W W' h1 h2 => h1.trans (h2.mono h1.size)
  go_wp2_with fail
  refine (works_true _).mono ?_
  rintro e w1 ⟨rfl, hC1⟩
  go_wp2_with fail
  refine (NRead p _).mono ?_
  rintro e w2 ⟨rfl, hB⟩
  have hC2 := HF.out _ _ hC1 hB
  clear hB
  go_wp2_with fail
  refine (NSince n _).mono ?_
  rintro e w3 ⟨⟨v, rfl, hv⟩, hB⟩
  have hC3 := HF.out _ _ hC2 hB
  obtain ⟨ad, c, rfl, -⟩ := hv.shape
  clear hB hv
  go_wp2_with fail
  refine (listed_gen none [] p _ (by simp) fun W _ => NList p W).mono ?_
  rintro e w4 ⟨v, rfl, hv, hB⟩
  have hC4 := HF.out _ _ hC3 hB
  obtain ⟨ad4, c4, rfl, -⟩ := hv.sl.shape
  clear hB hv
  go_wp2_with fail
  refine (NWrite p s _).mono ?_
  rintro e w5 ⟨rfl, hB⟩
  have hC5 := HF.out _ _ hC4 hB
  clear hB
  go_wp2_with fail
  refine (NRemove p _).mono ?_
  rintro e w6 ⟨rfl, hB⟩
  have hC6 := HF.out _ _ hC5 hB
  clear hB
  go_wp2_with fail
  refine (NLen _).mono ?_
  rintro e w7 ⟨rfl, hB⟩
  have hC7 := HF.out _ _ hC6 hB
  clear hB
  go_wp2_with fail
  refine (NMark _).mono ?_
  rintro e w8 ⟨rfl, hB⟩
  have hC8 := HF.out _ _ hC7 hB
  clear hB
  go_wp2_with fail
  refine (NCopy _).mono ?_
  rintro e w9 ⟨rfl, hB⟩
  have hC9 := HF.out _ _ hC8 hB
  clear hB
  go_wp2
  go_ret
  exact ⟨rfl, hC9⟩

end Go.Proofs.Ytifolddmcibkdaa
