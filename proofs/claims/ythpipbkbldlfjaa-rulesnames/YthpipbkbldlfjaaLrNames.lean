/-
  RulesNames ANSWERS true.
-/
import Derived.Test.YthpipbkbldlfjaaRAns
import Derived.Test.YthpipbkbldlfjaaDName
namespace Go.Proofs.Ythpipbkbldlfjaa
open Go.RowKit

set_option maxRecDepth 100000 in
theorem names_walk (hwk : WorksC) (s : ByteArray) (w : World) (hs : s.size ≤ 140737488351232) : Calls Try.prog 4 #[.string s] w fun e w' => e = .returned (.bool true) ∧ Below w.heap.size w w' := by
  have h0 := hwk w
  go_enter Try.func4, Try.ntmps4
  go_wp2_with fail
  refine h0.mono ?_
  rintro e w1 ⟨rfl, hB1⟩
  clear h0
  by_cases hlen : (s.size : Int) ≤ 262144
  · have i1 : decide ((s.size : Int) > 262144) = false := decide_eq_false (by omega)
    have h1 := NameL_any s w1 (by omega)
    have h2 := fun W : World => NameT_any s W (by omega)
    generalize Rl.name (bs s) = K at *
    clear hlen hs
    go_wp2_with fail
    refine h1.mono ?_
    rintro e w2 ⟨rfl, hB2⟩
    go_wp2_with fail
    refine (h2 w2).mono ?_
    rintro e w3 ⟨rfl, rfl⟩
    go_wp2
    go_ret
    refine ⟨?_, hB1.trans (hB2.mono hB1.size)⟩
    cases K <;> rfl
  · have i1 : decide ((s.size : Int) > 262144) = true := decide_eq_true (by omega)
    clear hlen hs
    go_wp2
    go_ret
    exact ⟨rfl, hB1⟩

end Go.Proofs.Ythpipbkbldlfjaa
