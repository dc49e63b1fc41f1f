/-
  A TREE THAT IS NOT THERE.
-/
import Derived.Test.YtifolddmcibkdaaTXS
import Derived.Test.YtifolddmcibkdaaTXL
namespace Go.Proofs.Ytifolddmcibkdaa
open Go.RowKit Go.Shelf

set_option maxRecDepth 100000 in
theorem Nfind (p : ByteArray) (w : World) : Calls Try.prog 33 #[.pointer none, .string p] w fun e w' => e = .returned (.tuple #[.agg #[.string ⟨#[]⟩], .int .i64 1]) ∧ Below w.heap.size w w' := by
  go_enter Try.func33, Try.ntmps33
  go_wp2
  have k1 : (w.alloc (.cells #[.string ⟨#[]⟩] 71)).cell? ⟨w.heap.size, 0, none⟩ = some (.string ⟨#[]⟩) := (cell_of_row _ w.heap.size 0 _ _ (0, 0) (heap_alloc_new w _)).trans rfl
  simp only [bodyPost, results, Try.results33]
  simp [go_sem, k1]
  exact (Below.refl _ _).alloc (Nat.le_refl _) _
set_option maxRecDepth 100000 in
theorem NRead (p : ByteArray) (w : World) : Calls Try.prog 15 #[.pointer none, .string p] w fun e w' => e = .returned (.tuple #[.string ⟨#[]⟩, .int .i64 1]) ∧ Below w.heap.size w w' := by
  go_enter Try.func15, Try.ntmps15
  go_wp2_with fail
  refine (Nfind p w).mono ?_
  rintro e w1 ⟨rfl, hB⟩
  go_wp2
  go_ret2
  exact ⟨rfl, hB.alloc hB.size _⟩
set_option maxRecDepth 100000 in
theorem NWrite (p s : ByteArray) (w : World) : Calls Try.prog 18 #[.pointer none, .string p, .string s] w fun e w' => e = .returned (.int .i64 1) ∧ Below w.heap.size w w' := by
  go_enter Try.func18, Try.ntmps18
  go_wp2_with fail
  refine (Nfind p w).mono ?_
  rintro e w1 ⟨rfl, hB⟩
  go_wp2
  go_ret
  exact ⟨rfl, hB.alloc hB.size _⟩
set_option maxRecDepth 100000 in
theorem NRemove (p : ByteArray) (w : World) : Calls Try.prog 19 #[.pointer none, .string p] w fun e w' => e = .returned (.int .i64 1) ∧ Below w.heap.size w w' := by
  go_enter Try.func19, Try.ntmps19
  go_wp2_with fail
  refine (Nfind p w).mono ?_
  rintro e w1 ⟨rfl, hB⟩
  go_wp2
  go_ret
  exact ⟨rfl, hB.alloc hB.size _⟩
set_option maxRecDepth 100000 in
theorem NSince (m : Int) (w : World) : Calls Try.prog 16 #[.pointer none, .int .i64 m] w fun e w' => (∃ v, e = .returned (.tuple #[v, .bool false]) ∧ StR.Sl w' w'.heap.size v []) ∧ Below w.heap.size w w' := by
  go_enter Try.func16, Try.ntmps16
  go_wp2
  go_ret2
  exact ⟨⟨_, rfl, Rc.Sl.nil _ _⟩, Below.refl _ _⟩
set_option maxRecDepth 100000 in
theorem NLen (w : World) : Calls Try.prog 20 #[.pointer none] w fun e w' => e = .returned (.int .i64 0) ∧ Below w.heap.size w w' := by
  go_enter Try.func20, Try.ntmps20
  go_wp2
  go_ret
  exact ⟨rfl, Below.refl _ _⟩
set_option maxRecDepth 100000 in
theorem NMark (w : World) : Calls Try.prog 21 #[.pointer none] w fun e w' => e = .returned (.int .i64 0) ∧ Below w.heap.size w w' := by
  go_enter Try.func21, Try.ntmps21
  go_wp2
  go_ret
  exact ⟨rfl, Below.refl _ _⟩
set_option maxRecDepth 100000 in
theorem NCopy (w : World) : Calls Try.prog 22 #[.pointer none] w fun e w' => e = .returned (.pointer none) ∧ Below w.heap.size w w' := by
  go_enter Try.func22, Try.ntmps22
  go_wp2
  go_ret
  exact ⟨rfl, Below.refl _ _⟩
set_option maxRecDepth 100000 in
theorem NList (pre : ByteArray) (w : World) : Calls Try.prog 26 #[.pointer none, .string pre] w fun e w' => ∃ gf lb D, e = .returned (.func (.func gf) #[] lb) ∧ (∀ args W, (callFunc gf args).run Try.prog W = .ok (.enter gf args) W) ∧ SeqOf w' gf lb [] D ∧ (∀ b ∈ D, w.heap.size ≤ b ∧ b < w'.heap.size) ∧ Below w.heap.size w w' := by
  go_enter Try.func26, Try.ntmps26
  have hOn : StR.Own w w.heap.size (.slice none 0 0) [] := Rc.Own.nil _ _
  go_wp2_with fail
  refine (Sort_any hOn (by simp)).mono ?_
  rintro e w5 ⟨rfl, hO5, hg5⟩
  have hB5 := (Below.refl w.heap.size w).grown hg5 (Nat.le_refl _) fun j e => (hOn.lt j e).1
  rw [sortT_nil] at hO5
  go_wp2_with fail
  refine (Values_any hO5 (by simp) hB5).mono ?_
  rintro e w6 ⟨gf, lb, D6, rfl, h6, h7, h8, h9⟩
  go_wp2
  go_ret
  exact ⟨gf, lb, D6, rfl, h6, h7, h8, h9⟩

end Go.Proofs.Ytifolddmcibkdaa
