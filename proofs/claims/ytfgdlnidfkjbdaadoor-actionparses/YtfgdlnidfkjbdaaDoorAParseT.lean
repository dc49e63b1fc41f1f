/-
  WHAT THE DOCUMENT's Parse DOES.
-/
import Derived.Test.YtfgdlnidfkjbdaaDoorAUntilT
namespace Go.Proofs.YtfgdlnidfkjbdaaDoor
open Go.RowKit

theorem Ac.parse_bad {ls : List (List (List UInt8))} {x : Int × Nat} (h : Ac.chk 0 0 0 ls = some x) : Ac.parse ls = .bad x := by unfold Ac.parse; rw [h]
theorem Ac.parse_none {ls : List (List (List UInt8))} (h : Ac.chk 0 0 0 ls = none) : Ac.parse ls = .ok (Ac.unt (ls.length + 1) ls).1 := by unfold Ac.parse; rw [h]

set_option maxRecDepth 100000 in
set_option maxHeartbeats 1000000 in
theorem RefParse_any (hC : StmtC) (v : Value) (ls : List (List (List UInt8))) (B : Nat) (w : World) (hv : LiS w B v ls) (hB : B ≤ w.heap.size) (hF : Fit ls) :
    Calls Tryd.prog 12 #[v] w fun e w' => PsEnd w' w.heap.size e (Ac.parse ls) ∧ Below w.heap.size w w' := by
  obtain ⟨ad, c, rfl, hle⟩ := hv.shape
  have hCk := fun W (h : Below w.heap.size w W) => CheckT_any hC (.slice ad ls.length c) ls B W (hv.below h hB) (by have := h.size; omega) hF
  have r0 := Rw.new w #[.int .i64 0, .int .i64 0] 28
  have hb0 := (Below.refl w.heap.size w).alloc (Nat.le_refl _) (.cells #[.int .i64 0, .int .i64 0] 28)
  cases hc : Ac.chk 0 0 0 ls with
  | some x =>
    obtain ⟨e1, j1⟩ := x
    have ne := Ac.chk_err hc
    rw [Ac.parse_bad hc]
    rw [hc] at hCk
    simp only [Ac.spot] at hCk
    have n1 : (e1 == 0) = false := by rw [beq_eq_false_iff_ne]; exact ne
    have n2 : (e1 != 0) = true := by rw [bne_iff_ne]; exact ne
    clear hc ne hle
    go_enter Tryd.func12, Tryd.ntmps12
    go_upto_region 1 with fail
    generalize w.alloc (.cells #[.int .i64 0, .int .i64 0] 28) = Y at r0 hb0 ⊢
    go_upto_region 2 with (first | (go_at_call 26; refine (hCk _ hb0).mono ?_; rintro e w1 ⟨rfl, hb1⟩) | fail)
    have rs := Rw.new w1 #[.int .i64 e1, .int .i64 (j1 : Int)] 28
    have hx := hb1.alloc hb1.size (.cells #[.int .i64 e1, .int .i64 (j1 : Int)] 28)
    have rr := r0.below hx r0.lt
    have hbv := hb0.trans (hx.mono hb0.size)
    have hne : w1.heap.size ≠ w.heap.size := by have := r0.lt; have := hb1.size; omega
    generalize w1.alloc (.cells #[.int .i64 e1, .int .i64 (j1 : Int)] 28) = V at rs hx rr hbv ⊢
    have s0 : V.cell? ⟨w1.heap.size, 0, none⟩ = some (.int .i64 e1) := rs.cell 0
    have s1 : V.cell? ⟨w1.heap.size, 1, none⟩ = some (.int .i64 (j1 : Int)) := rs.cell 1
    have z0 : V.cell? ⟨w.heap.size, 0, none⟩ = some (.int .i64 0) := rr.cell 0
    have z1 : V.cell? ⟨w.heap.size, 1, none⟩ = some (.int .i64 0) := rr.cell 1
    have f0 := rr.free 0
    have f1 := rr.free 1
    go_upto_region 3 with fail
    go_region
    all_goals go_wp2
    all_goals (
      have hT := (Turn.put2 V w.heap.size (.int .i64 e1) (.int .i64 (j1 : Int))).drew
      have q3 : Rw (((V.setCell ⟨w.heap.size, 0, none⟩ (.int .i64 e1)).setCell ⟨w.heap.size, 1, none⟩ (.int .i64 (j1 : Int))).drew) w.heap.size #[.int .i64 e1, .int .i64 (j1 : Int)] 28 := rr.put2 (.int .i64 e1) (.int .i64 (j1 : Int))
      exact bodyPost_ret (results_sp Tryd.results12 _ _ q3 rfl rfl rfl) rfl ⟨rfl, hT.bel hbv (by simp)⟩)
  | none =>
    have hU := fun W (h : Below w.heap.size w W) => UntilT_any hC ls hF (Ac.chk_stmt ls 0 0 0 hc) (ls.length + 1) (.slice ad ls.length c) B W 0 (hv.below h hB) (by have := h.size; omega) (Nat.zero_le _) (by omega) (Nat.le_refl _)
    rw [List.drop_zero] at hU
    rw [Ac.parse_none hc]
    rw [hc] at hCk
    simp only [Ac.spot] at hCk
    obtain ⟨UU, hUU⟩ : ∃ UU, Ac.unt (ls.length + 1) ls = UU := ⟨_, rfl⟩
    rw [hUU] at hU ⊢
    have hU2 : ∀ W, Below w.heap.size w W → Calls Tryd.prog 27 #[.slice ad ls.length c, .int .i64 0] W fun e w' => (∃ va vn vc k', e = .returned (.tuple #[.slice va vn vc, .int .i64 ((k' : Nat) : Int)]) ∧ FoNew w' W.heap.size (.slice va vn vc) UU.1) ∧ Below W.heap.size W w' := fun W h => (hU W h).mono fun e w' ⟨⟨va, vn, vc, k', h1, h2, _⟩, h3⟩ => ⟨⟨va, vn, vc, k', h1, h2⟩, h3⟩
    clear hc hU hUU hle
    go_enter Tryd.func12, Tryd.ntmps12
    go_upto_region 1 with fail
    generalize w.alloc (.cells #[.int .i64 0, .int .i64 0] 28) = Y at r0 hb0 ⊢
    go_upto_region 2 with (first | (go_at_call 26; refine (hCk _ hb0).mono ?_; rintro e w1 ⟨rfl, hb1⟩) | fail)
    have rs := Rw.new w1 #[.int .i64 0, .int .i64 0] 28
    have hx := hb1.alloc hb1.size (.cells #[.int .i64 0, .int .i64 0] 28)
    have rr := r0.below hx r0.lt
    have hbv := hb0.trans (hx.mono hb0.size)
    have hne : w1.heap.size ≠ w.heap.size := by have := r0.lt; have := hb1.size; omega
    generalize w1.alloc (.cells #[.int .i64 0, .int .i64 0] 28) = V at rs hx rr hbv ⊢
    have s0 : V.cell? ⟨w1.heap.size, 0, none⟩ = some (.int .i64 0) := rs.cell 0
    have s1 : V.cell? ⟨w1.heap.size, 1, none⟩ = some (.int .i64 0) := rs.cell 1
    go_upto_region 5 with (first | (go_at_call 27; refine (hU2 _ hbv).mono ?_; rintro e w3 ⟨⟨va, vn, vc, k', rfl, hN⟩, hb3⟩) | fail)
    have rs3 := rs.below hb3 rs.lt
    have rr3 := rr.below hb3 rr.lt
    have hb4 := hbv.trans (hb3.mono hbv.size)
    clear s0 s1
    have s0 : w3.cell? ⟨w1.heap.size, 0, none⟩ = some (.int .i64 0) := rs3.cell 0
    have s1 : w3.cell? ⟨w1.heap.size, 1, none⟩ = some (.int .i64 0) := rs3.cell 1
    have z0 : w3.cell? ⟨w.heap.size, 0, none⟩ = some (.int .i64 0) := rr3.cell 0
    have z1 : w3.cell? ⟨w.heap.size, 1, none⟩ = some (.int .i64 0) := rr3.cell 1
    have f0 := rr3.free 0
    have f1 := rr3.free 1
    go_region
    all_goals go_wp2
    all_goals (
      have hT := (Turn.put2 w3 w.heap.size (.int .i64 0) (.int .i64 0)).drew
      have q3 : Rw (((w3.setCell ⟨w.heap.size, 0, none⟩ (.int .i64 0)).setCell ⟨w.heap.size, 1, none⟩ (.int .i64 0)).drew) w.heap.size #[.int .i64 0, .int .i64 0] 28 := rr3.put2 (.int .i64 0) (.int .i64 0)
      have hlt := rr.lt
      exact bodyPost_ret (results_sp Tryd.results12 _ _ q3 rfl rfl rfl) rfl ⟨⟨_, _, _, rfl, (hN.turn hT (by simpa using hlt)).low hbv.size⟩, hT.bel hb4 (by simp)⟩)

end Go.Proofs.YtfgdlnidfkjbdaaDoor
