/-
  WHAT THE LAWS' OWN works, wide DO.
-/
import Derived.Test.YtfgdlnidfkjbdaaDoorAParse
namespace Go.Proofs.YtfgdlnidfkjbdaaDoor
open Go.RowKit

theorem Rc.ofRw {α : Type} {R : Rc α} {W : World} {g : Nat} {cs : Array Value} {t : TypeId} {l : List α} {B n : Nat} (h : Rw W g cs t) (hl : cs.toList = R.vals l) (hn : n = l.length) (hg : g < B) : R.Sl W B (.slice (some ⟨g, 0, none⟩) n n) l := by
  subst hn
  refine ⟨_, l.length, rfl, Nat.le_refl _, (fun h => by cases h), fun _ => ⟨g, 0, rfl, hg, fun j u hu => ?_⟩⟩
  rw [Nat.zero_add, h.cell j, ← Array.getElem?_toList, hl]
  exact hu
/-- the works' lines -/
def wkLines : List (List (List UInt8)) := [[[101, 97, 99, 104], [108, 105, 115, 116]], [[99, 97, 116], [64]], [[101, 110, 100]], [[119, 114, 105, 116, 101], [120]]]
def wkAct : Ac.Fo := .cons 11 [[108, 105, 115, 116]] 0 (.cons 2 [[64]] 0 .nil .nil) (.cons 8 [[120]] 0 .nil .nil)
theorem wk_parse : Ac.parse wkLines = .ok wkAct := by kernel_rfl

theorem LiS.ofRw {W : World} {B g n : Nat} {cs : Array Value} {rs : List RawT} {ls : List (List (List UInt8))} (h : Rw W g cs 32) (hcs : cs.toList = LiR.vals rs) (hn : n = rs.length) (hg : g < B) (hr : LiRow W B ls rs) : LiS W B (.slice (some ⟨g, 0, none⟩) n n) ls := ⟨rs, Rc.ofRw h hcs hn hg, hr⟩
/-- the world in which works reads its lines -/
def wkW (w : World) : World := ((((w.alloc (.cells #[.string ⟨#[101, 97, 99, 104]⟩, .string ⟨#[108, 105, 115, 116]⟩] 9)).alloc (.cells #[.string ⟨#[99, 97, 116]⟩, .string ⟨#[64]⟩] 9)).alloc (.cells #[.string ⟨#[101, 110, 100]⟩] 9)).alloc (.cells #[.string ⟨#[119, 114, 105, 116, 101]⟩, .string ⟨#[120]⟩] 9)).alloc
  (.cells #[.slice (some ⟨w.heap.size, 0, none⟩) 2 2, .slice (some ⟨w.heap.size + 1, 0, none⟩) 2 2, .slice (some ⟨w.heap.size + 1 + 1, 0, none⟩) 1 1, .slice (some ⟨w.heap.size + 1 + 1 + 1, 0, none⟩) 2 2] 32)
theorem wk_lies (w : World) : LiS (wkW w) (wkW w).heap.size (.slice (some ⟨w.heap.size + 1 + 1 + 1 + 1, 0, none⟩) 4 4) wkLines ∧ Below w.heap.size w (wkW w) := by
  unfold wkW
  obtain ⟨r0, r1, r2, hb3, hz3⟩ := Rw.three w #[.string ⟨#[101, 97, 99, 104]⟩, .string ⟨#[108, 105, 115, 116]⟩] #[.string ⟨#[99, 97, 116]⟩, .string ⟨#[64]⟩] #[.string ⟨#[101, 110, 100]⟩] 9 9 9
  generalize ((w.alloc (.cells #[.string ⟨#[101, 97, 99, 104]⟩, .string ⟨#[108, 105, 115, 116]⟩] 9)).alloc (.cells #[.string ⟨#[99, 97, 116]⟩, .string ⟨#[64]⟩] 9)).alloc (.cells #[.string ⟨#[101, 110, 100]⟩] 9) = W3 at *
  obtain ⟨r3, r4, hb5, hz5⟩ := Rw.two W3 #[.string ⟨#[119, 114, 105, 116, 101]⟩, .string ⟨#[120]⟩] #[.slice (some ⟨w.heap.size, 0, none⟩) 2 2, .slice (some ⟨w.heap.size + 1, 0, none⟩) 2 2, .slice (some ⟨w.heap.size + 1 + 1, 0, none⟩) 1 1, .slice (some ⟨w.heap.size + 1 + 1 + 1, 0, none⟩) 2 2] 9 32
  generalize (W3.alloc (.cells #[.string ⟨#[119, 114, 105, 116, 101]⟩, .string ⟨#[120]⟩] 9)).alloc (.cells #[.slice (some ⟨w.heap.size, 0, none⟩) 2 2, .slice (some ⟨w.heap.size + 1, 0, none⟩) 2 2, .slice (some ⟨w.heap.size + 1 + 1, 0, none⟩) 1 1, .slice (some ⟨w.heap.size + 1 + 1 + 1, 0, none⟩) 2 2] 32) = W5 at *
  rw [hz3] at r3 r4
  have h0 := r0.below hb5 (by omega)
  have h1 := r1.below hb5 (by omega)
  have h2 := r2.below hb5 (by omega)
  refine ⟨LiS.ofRw (rs := [⟨some ⟨w.heap.size, 0, none⟩, 2, 2⟩, ⟨some ⟨w.heap.size + 1, 0, none⟩, 2, 2⟩, ⟨some ⟨w.heap.size + 1 + 1, 0, none⟩, 1, 1⟩, ⟨some ⟨w.heap.size + 1 + 1 + 1, 0, none⟩, 2, 2⟩]) r4 rfl rfl (by omega) ⟨_, _, rfl, Rc.ofRw h0 rfl rfl (by omega), _, _, rfl, Rc.ofRw h1 rfl rfl (by omega), _, _, rfl, Rc.ofRw h2 rfl rfl (by omega), _, _, rfl, Rc.ofRw r3 rfl rfl (by omega), rfl⟩, hb3.trans (hb5.mono (by omega))⟩
/-- what works reads in its answer -/
theorem wk_cells {w : World} {B : Nat} {v : Value} (h : FoS w B v wkAct) : ∃ g o c x0 y0 y1 ga oa, v = .slice (some ⟨g, o, none⟩) 2 c ∧ w.cell? ⟨g, o, none⟩ = some (.int .i64 11) ∧ w.cell? ⟨g, o + 3, none⟩ = some (.slice x0 1 y0) ∧ w.cell? ⟨g, o + 4 + 1, none⟩ = some (.slice (some ⟨ga, oa, none⟩) 1 y1) ∧ w.cell? ⟨ga, oa, none⟩ = some (.string ⟨#[120]⟩) := by
  obtain ⟨g, o, c, aa, ac, ba, bc, e, hg, c0, c1, c2, c3, ht, hf⟩ := h.at (k := 0) (op := 11) (a := [[108, 105, 115, 116]]) (n := 0) (b := .cons 2 [[64]] 0 .nil .nil) (r := .cons 8 [[120]] 0 .nil .nil) rfl (by decide)
  obtain ⟨g', o', c', aa', ac', ba', bc', e', hg', d0, d1, d2, d3, ht', hf'⟩ := h.at (k := 1) (op := 8) (a := [[120]]) (n := 0) (b := .nil) (r := .nil) rfl (by decide)
  rw [e] at e'
  simp only [Value.slice.injEq, Option.some.injEq, Addr.mk.injEq, and_true, true_and] at e'
  obtain ⟨⟨rfl, rfl⟩, rfl⟩ := e'
  obtain ⟨ga, oa, cc, ea, -, hc⟩ := TxR.at ht' (k := 0) (by decide)
  simp only [Value.slice.injEq] at ea
  obtain ⟨rfl, -, rfl⟩ := ea
  simp only [Nat.zero_mul, Nat.one_mul, Nat.add_zero] at c0 c3 d1 hc
  exact ⟨g, o, c, ba, bc, ac', ga, oa, e, c0, c3, d1, hc⟩

set_option maxRecDepth 100000 in
set_option maxHeartbeats 1000000 in
theorem works_any (w : World) (hL : Laid w) : Calls Tryd.prog 9 #[] w fun e w' => e = .returned (.bool true) ∧ Below w.heap.size w w' := by
  obtain ⟨hli, hb5⟩ := wk_lies w
  have hP := Parse_any _ wkLines _ (wkW w) (hL.below hb5 hL.size) hli (Nat.le_refl _) ⟨by decide, by decide, by decide⟩
  rw [wk_parse] at hP
  clear hli
  have hP2 : Calls Tryd.prog 11 #[.slice (some ⟨w.heap.size + 1 + 1 + 1 + 1, 0, none⟩) 4 4] (wkW w) fun e w' => (∃ g o c x0 y0 y1 ga oa, e = .returned (.tuple #[.slice (some ⟨g, o, none⟩) 2 c, .agg #[.int .i64 0, .int .i64 0]]) ∧ w'.cell? ⟨g, o, none⟩ = some (.int .i64 11) ∧ w'.cell? ⟨g, o + 3, none⟩ = some (.slice x0 1 y0) ∧ w'.cell? ⟨g, o + 4 + 1, none⟩ = some (.slice (some ⟨ga, oa, none⟩) 1 y1) ∧ w'.cell? ⟨ga, oa, none⟩ = some (.string ⟨#[120]⟩)) ∧ Below (wkW w).heap.size (wkW w) w' := by
    refine hP.mono ?_
    rintro e w' ⟨⟨va, vn, vc, rfl, hN⟩, hb⟩
    obtain ⟨g, o, c, x0, y0, y1, ga, oa, hv, h0, h1, h2, h3⟩ := wk_cells hN.foS
    exact ⟨⟨g, o, c, x0, y0, y1, ga, oa, by rw [hv], h0, h1, h2, h3⟩, hb⟩
  clear hP
  unfold wkW at hb5 hP2
  go_enter Tryd.func9, Tryd.ntmps9
  go_upto_region 2 with (first | (go_at_call 11; refine hP2.mono ?_; rintro e w1 ⟨⟨g, o, c, x0, y0, y1, ga, oa, rfl, h0, h1, h2, h3⟩, hb⟩) | fail)
  have hbb := hb5.trans (hb.mono hb5.size)
  have r2 := Rw.new w1 #[.int .i64 0, .int .i64 0] 28
  have hb2 := hbb.alloc hbb.size (.cells #[.int .i64 0, .int .i64 0] 28)
  have hk : ∀ p u, w1.cell? p = some u → (w1.alloc (.cells #[.int .i64 0, .int .i64 0] 28)).cell? p = some u := fun p u hu => by
    rw [((Below.refl w1.heap.size w1).alloc (Nat.le_refl _) _).cell (World.block_lt_of_cell? w1 _ hu)]
    exact hu
  replace h0 := hk _ _ h0
  replace h1 := hk _ _ h1
  replace h2 := hk _ _ h2
  replace h3 := hk _ _ h3
  clear hk hb hb5 hP2 hbb
  generalize w1.alloc (.cells #[.int .i64 0, .int .i64 0] 28) = V at *
  have s0 : V.cell? ⟨w1.heap.size, 0, none⟩ = some (.int .i64 0) := r2.cell 0
  have s1 : V.cell? ⟨w1.heap.size, 1, none⟩ = some (.int .i64 0) := r2.cell 1
  go_wp2
  go_ret
  exact ⟨rfl, hb2⟩

end Go.Proofs.YtfgdlnidfkjbdaaDoor
