/-
  WHAT THE LANDED CODE's Parse DOES.
-/
import Derived.Test.YtfgdlnidfkjbdaaDoorABody
import Derived.Laws.EntriesVeiled
namespace Go.Proofs.YtfgdlnidfkjbdaaDoor
open Go.RowKit

/-- how a reading ends -/
def PsEnd (w : World) (base : Nat) (e : Ending) : Lx.R (Int × Nat) Ac.Fo → Prop
  | .bad x => e = .returned (.tuple #[.slice none 0 0, .agg #[.int .i64 x.1, .int .i64 (x.2 : Int)]])
  | .ok t => ∃ va vn vc, e = .returned (.tuple #[.slice va vn vc, .agg #[.int .i64 0, .int .i64 0]]) ∧ FoNew w base (.slice va vn vc) t
/-- lines that are not too great -/
def Fit (ls : List (List (List UInt8))) : Prop := ls.length ≤ 1099511 ∧ (∀ l ∈ ls, l.length ≤ 1099511) ∧ ∀ l ∈ ls, ∀ s ∈ l, s.length ≤ 1099511627
theorem FoNew.low {w : World} {base base' : Nat} {v : Value} {f : Ac.Fo} (h : FoNew w base v f) (hb : base' ≤ base) : FoNew w base' v f := by
  obtain ⟨rs, h1, h2⟩ := h
  exact ⟨rs, Rc.Own.low h1 hb, h2.low hb⟩
theorem FoNew.turn {w w' : World} {base : Nat} {v : Value} {f : Ac.Fo} {S : List Nat} (h : FoNew w base v f) (hT : Turn S w w') (hS : ∀ x ∈ S, x < base) : FoNew w' base v f := by
  obtain ⟨rs, h1, h2⟩ := h
  exact ⟨rs, Row.turn h1 hT (fun g hg hx => by have := (h1.lt g hg).1; have := hS g hx; omega), h2.turn hT (fun x hx => .inl (hS x hx)) (fun _ _ hk => hk)⟩

set_option maxRecDepth 100000 in
set_option maxHeartbeats 1000000 in
theorem Parse_any (v : Value) (ls : List (List (List UInt8))) (B : Nat) (w : World) (hL : Laid w) (hv : LiS w B v ls) (hB : B ≤ w.heap.size) (hF : Fit ls) :
    Calls Tryd.prog 11 #[v] w fun e w' => PsEnd w' w.heap.size e (Ac.parse ls) ∧ Below w.heap.size w w' := by
  obtain ⟨ad, c, rfl, hle⟩ := hv.shape
  obtain ⟨hl1, hl2, hl3⟩ := hF
  have hY0 := Rw.new w #[.int .i64 0, .int .i64 0] 28
  have hYb := (Below.refl w.heap.size w).alloc (Nat.le_refl _) (.cells #[.int .i64 0, .int .i64 0] 28)
  have hYz := size_alloc w (.cells #[.int .i64 0, .int .i64 0] 28)
  have HP : Hid _ := Ac.bod_parse (ls.length + 1) ls (Nat.lt_succ_self _)
  generalize Ac.parse ls = X at *
  go_enter Tryd.func11, Tryd.ntmps11
  go_upto_region 1 with fail
  generalize w.alloc (.cells #[.int .i64 0, .int .i64 0] 28) = Y at hY0 hYb hYz ⊢
  have hvY := hv.below hYb hB
  have hLY := hL.below hYb hL.size
  have hTk := taker_any (.slice ad ls.length c) ls B Y hvY (by omega)
  have HYz : Hid _ := hYz
  clear hYz
  go_upto_region 2 with (first | (go_at_call 24; refine hTk.mono ?_; rintro e w1 ⟨rfl, hT1, hb1, hz1⟩; have HZ1 : Hid _ := hz1; clear hz1) | fail)
  have hz1 := HZ1.out
  have hYz := HYz.out
  have rb0 := Rw.new w1 #[.func (.func 40) #[] #[.pointer (some ⟨Y.heap.size + 1, 0, none⟩), .pointer (some ⟨Y.heap.size, 0, none⟩)], .int .i64 0] 56
  have hb2 := hb1.alloc hb1.size (.cells #[.func (.func 40) #[] #[.pointer (some ⟨Y.heap.size + 1, 0, none⟩), .pointer (some ⟨Y.heap.size, 0, none⟩)], .int .i64 0] 56)
  have hT2 := hT1.below ((Below.refl w1.heap.size w1).alloc (Nat.le_refl _) (.cells #[.func (.func 40) #[] #[.pointer (some ⟨Y.heap.size + 1, 0, none⟩), .pointer (some ⟨Y.heap.size, 0, none⟩)], .int .i64 0] 56)) ⟨by omega, by omega⟩
  generalize w1.alloc (.cells #[.func (.func 40) #[] #[.pointer (some ⟨Y.heap.size + 1, 0, none⟩), .pointer (some ⟨Y.heap.size, 0, none⟩)], .int .i64 0] 56) = Z at *
  have hRZ : RdrW Z B Y.heap.size (Y.heap.size + 1) w1.heap.size (.slice ad ls.length c) ls 0 0 := ⟨hT2, rb0, ⟨by omega, by omega⟩, by omega, by have := hL.size; omega⟩
  have hLZ := hLY.below hb2 hLY.size
  have hbody := body_any B Y.heap.size (Y.heap.size + 1) w1.heap.size (.slice ad ls.length c) ls hl1 hl2 hl3 (ls.length + 1) 0 0 0 Z (by omega) (by omega) (by omega) (by omega) hRZ hLZ
  rw [List.drop_zero] at hbody
  have hwz : w.heap.size < Z.heap.size := by have := hb2.size; omega
  have hZw := hYb.trans (hb2.mono (by omega))
  clear hz1 hYz HZ1
  cases hbo : Ac.bod (ls.length + 1) 0 0 0 ls with
  | bad x =>
    have hX := HP.out.1 x hbo
    rw [hbo] at hbody
    subst hX
    replace hbody : Calls Tryd.prog 25 #[.pointer (some ⟨w1.heap.size, 0, none⟩), .int .i64 0] Z fun e w' => e = .returned (.tuple #[.slice none 0 0, .agg #[.int .i64 x.1, .int .i64 (x.2 : Int)]]) ∧ Turn [Y.heap.size + 1, w1.heap.size] Z w' := hbody
    clear HP hbo
    go_wp2_with (first | (go_at_call 25; refine hbody.mono ?_; rintro e W1 ⟨rfl, hTi⟩; have r3 := (hY0.below hb2 hY0.lt).turn hTi (by have := hY0.lt; have := hb1.size; simp; omega); have z0 : W1.cell? ⟨w.heap.size, 0, none⟩ = some (.int .i64 0) := r3.cell 0; have z1 : W1.cell? ⟨w.heap.size, 1, none⟩ = some (.int .i64 0) := r3.cell 1; have f0 : W1.frozen? ⟨w.heap.size, 0, none⟩ = false := r3.free 0; have f1 : W1.frozen? ⟨w.heap.size, 1, none⟩ = false := r3.free 1) | fail)
    have hbf := (Turn.put2 W1 w.heap.size (.int .i64 x.1) (.int .i64 (x.2 : Int))).bel (hTi.bel hZw (by have := hY0.lt; have := hb1.size; simp; omega)) (by simp)
    exact bodyPost_ret (results_sp Tryd.results11 _ _ (r3.put2 (.int .i64 x.1) (.int .i64 (x.2 : Int))) rfl rfl rfl) rfl ⟨rfl, hbf⟩
  | ok y =>
    obtain ⟨t, y⟩ := y
    have hX := HP.out.2 t y hbo
    rw [hbo] at hbody
    subst hX
    replace hbody : Calls Tryd.prog 25 #[.pointer (some ⟨w1.heap.size, 0, none⟩), .int .i64 0] Z fun e w' => (∃ ba bn bc, e = .returned (.tuple #[.slice ba bn bc, .agg #[.int .i64 0, .int .i64 0]]) ∧ FoNew w' Z.heap.size (.slice ba bn bc) t) ∧ Turn [Y.heap.size + 1, w1.heap.size] Z w' := by
      refine hbody.mono ?_
      rintro e w' ⟨⟨⟨vl, rfl, rs', hN1, hN2⟩, -⟩, h6⟩
      obtain ⟨ba, bn, bc, rfl⟩ := hN1.isSl
      exact ⟨⟨ba, bn, bc, rfl, rs', hN1, hN2⟩, h6⟩
    clear HP hbo
    go_wp2_with (first | (go_at_call 25; refine hbody.mono ?_; rintro e W1 ⟨⟨ba, bn, bc, rfl, hN⟩, hTi⟩; have r3 := (hY0.below hb2 hY0.lt).turn hTi (by have := hY0.lt; have := hb1.size; simp; omega); have z0 : W1.cell? ⟨w.heap.size, 0, none⟩ = some (.int .i64 0) := r3.cell 0; have z1 : W1.cell? ⟨w.heap.size, 1, none⟩ = some (.int .i64 0) := r3.cell 1; have f0 : W1.frozen? ⟨w.heap.size, 0, none⟩ = false := r3.free 0; have f1 : W1.frozen? ⟨w.heap.size, 1, none⟩ = false := r3.free 1) | fail)
    have hTf := Turn.put2 W1 w.heap.size (.int .i64 0) (.int .i64 0)
    have hbf := hTf.bel (hTi.bel hZw (by have := hY0.lt; have := hb1.size; simp; omega)) (by simp)
    exact bodyPost_ret (results_sp Tryd.results11 _ _ (r3.put2 (.int .i64 0) (.int .i64 0)) rfl rfl rfl) rfl ⟨⟨ba, bn, bc, rfl, (hN.turn hTf (by simp; exact hwz)).low (by omega)⟩, hbf⟩

end Go.Proofs.YtfgdlnidfkjbdaaDoor
