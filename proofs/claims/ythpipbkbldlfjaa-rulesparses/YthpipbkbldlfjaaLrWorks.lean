/-
  THE LAWS' works ANSWERS true.
-/
import Derived.Test.YthpipbkbldlfjaaRecOpen
namespace Go.Proofs.Ythpipbkbldlfjaa
open Go.RowKit

def Rl.wk : List Rl.It := [⟨3, 0, [], [Rl.wd [97] false], [Rl.wd [98] false], [⟨0, true, [Rl.wd [110, 101, 101, 100] false, Rl.wd [98] false]⟩]⟩]
def wkT : ByteArray := ⟨#[114, 117, 108, 101, 32, 97, 32, 58, 32, 98, 10, 9, 110, 101, 101, 100, 32, 98, 10]⟩
theorem wk_print : Rl.print Rl.wk = bs wkT := by decide +kernel
theorem wk_may : Rl.may Rl.wk = true := by decide +kernel
/-- what the text says -/
theorem wk_answer : ∃ x l, Rl.answer (bs wkT) = .ok [x] ∧ x.kind = 3 ∧ x.targets.length = 1 ∧ x.words.length = 1 ∧ x.code = [l] ∧ l.words.length = 2 := by
  obtain ⟨C, h1, h2⟩ := Rl.answer_print wk_may (by rw [wk_print]; decide +kernel)
  rw [wk_print] at h1
  match C, h2 with
  | [], h2 => simp [Rl.wk] at h2
  | _ :: _ :: _, h2 => simp [Rl.wk] at h2
  | [x], h2 =>
    simp only [Rl.wk, List.map_cons, List.map_nil, List.cons.injEq, and_true, Rl.bi, Prod.mk.injEq] at h2
    obtain ⟨a1, a2, a3, a4, a5⟩ := h2
    have b3 := congrArg List.length a3
    have b4 := congrArg List.length a4
    simp only [List.length_cons, List.length_nil, List.length_map] at b3 b4
    match hc : x.code with
    | [] => rw [hc] at a5; simp at a5
    | [l] =>
      rw [hc] at a5
      simp only [List.map_cons, List.map_nil, List.cons.injEq, and_true] at a5
      have b5 := congrArg List.length a5
      simp only [List.length_cons, List.length_nil, List.length_map] at b5
      exact ⟨x, l, h1, a1.symm, b3.symm, b4.symm, hc, b5.symm⟩
    | _ :: _ :: _ => rw [hc] at a5; simp at a5

set_option maxRecDepth 100000 in
set_option maxHeartbeats 1000000 in
theorem works12 (hps : ParseC) : WorksC := by
  intro w
  have hp := hps wkT w (by decide +kernel)
  obtain ⟨x, l, hA, hk, ht, hw, hc, hl⟩ := wk_answer
  rw [hA] at hp
  have heq := fun W : World => eql_where W 0 0 0 0 0 0
  rw [decide_eq_true ⟨rfl, rfl, rfl⟩] at heq
  have hgd := fun (W : World) (a b : Operand) => guard_where W .eql a b
  unfold whA at heq
  unfold wkT at hp
  clear hA
  go_enter Try.func12, Try.ntmps12
  go_wp2_with fail
  refine hp.mono ?_
  rintro e w1 ⟨⟨ad, c', rfl, hI⟩, hB⟩
  clear hp
  have hI2 := hI.below (below_box w1 (.cells #[.int .i64 0, .string .empty, .int .i64 0, .int .i64 0] 26)) (Nat.le_refl _)
  have hB2 := hB.alloc hB.size (.cells #[.int .i64 0, .string .empty, .int .i64 0, .int .i64 0] 26)
  obtain ⟨b, o, c1, ta, tc, wa, wc_, ca, cc, e, hb1, hcs, hX1, hX2, hX3⟩ := hI2.at 0 (Nat.zero_lt_one)
  simp only [Value.slice.injEq] at e
  obtain ⟨rfl, -, rfl⟩ := e
  have hx : [x].getD 0 Rl.noI = x := rfl
  rw [hx] at hcs hX1 hX2 hX3
  have p0 : (w1.alloc (.cells #[.int .i64 0, .string .empty, .int .i64 0, .int .i64 0] 26)).cell? ⟨b, o, none⟩ = some (.int .i64 3) := by
    have := hcs 0 (.int .i64 x.kind) rfl
    rw [hk] at this
    exact this
  have p3 : (w1.alloc (.cells #[.int .i64 0, .string .empty, .int .i64 0, .int .i64 0] 26)).cell? ⟨b, o + 3, none⟩ = some (.slice ta 1 tc) := by
    have := hcs 3 (.slice ta x.targets.length tc) rfl
    rw [ht] at this
    exact this
  have p4 : (w1.alloc (.cells #[.int .i64 0, .string .empty, .int .i64 0, .int .i64 0] 26)).cell? ⟨b, o + 4, none⟩ = some (.slice wa 1 wc_) := by
    have := hcs 4 (.slice wa x.words.length wc_) rfl
    rw [hw] at this
    exact this
  have p5 : (w1.alloc (.cells #[.int .i64 0, .string .empty, .int .i64 0, .int .i64 0] 26)).cell? ⟨b, o + 5, none⟩ = some (.slice ca 1 cc) := by
    have := hcs 5 (.slice ca x.code.length cc) rfl
    rw [hc] at this
    exact this
  rw [hc] at hX3
  obtain ⟨b2, o2, c2, ad2, cc2, e, hb2, -, -, z2, -⟩ := hX3.at 0 (Nat.zero_lt_one)
  simp only [Value.slice.injEq] at e
  obtain ⟨rfl, -, rfl⟩ := e
  have hll : ([l].getD 0 Lx.noL) = l := rfl
  rw [hll, hl] at z2
  have z3 : (w1.alloc (.cells #[.int .i64 0, .string .empty, .int .i64 0, .int .i64 0] 26)).cell? ⟨b2, o2 + 2, none⟩ = some (.slice ad2 2 cc2) := by
    have e0 : o2 + 0 * 3 + 2 = o2 + 2 := by omega
    rw [e0] at z2
    exact z2
  clear z2
  clear hcs hX1 hX2 hX3 hx hll hk ht hw hc hl hI hI2 hB
  unfold whV
  go_wp2
  go_ret
  exact ⟨rfl, hB2⟩

end Go.Proofs.Ythpipbkbldlfjaa
