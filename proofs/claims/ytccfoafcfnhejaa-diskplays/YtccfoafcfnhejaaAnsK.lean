/-
  answers: one call on a device and on the document's device: its words.
-/
import Derived.Test.YtccfoafcfnhejaaRefOp2
import Derived.Deep.DeepCutAuto
import Derived.Deep.CutBlock
namespace Go.Proofs.Ytccfoafcfnhejaa
open Go.RowKit

theorem Has.not_inT {w : World} {x : Pl} {N : Nat} {d : Dk.Dev} (h : Has w x N d) {b : Nat} {c : Array Value} {t : TypeId} {fr : Nat × Nat} (hb : w.heap[b]? = some (.cells c t fr)) (h1 : t ≠ 72) (h2 : t ≠ 78) : b ∉ x.bl := by
  intro hm
  simp only [Pl.bl, List.mem_cons, List.not_mem_nil, or_false] at hm
  obtain ⟨es1, k1, hd⟩ := h.hd.isMap
  obtain ⟨es2, k2, hf⟩ := h.hf.isMap
  obtain ⟨cur, hg, _⟩ := h.hg
  rcases hm with rfl | rfl | rfl | rfl
  · rw [h.hp] at hb; simp only [Option.some.injEq, Obj.cells.injEq] at hb; exact h1 hb.2.1.symm
  · rw [hg] at hb; simp only [Option.some.injEq, Obj.cells.injEq] at hb; exact h2 hb.2.1.symm
  · rw [hd] at hb; cases hb
  · rw [hf] at hb; cases hb
theorem RHas.not_inX {w : World} {x : Pl} {N : Nat} {d e : Dk.Dev} {y : RPl} (hy : RHas w y e) (hx : Has w x N d) {k : Nat} (hk : k ∈ y.bl) : k ∉ x.bl := by
  obtain ⟨c, t, h1, h2⟩ := hy.m.ty hk
  refine hx.not_inT h1 ?_ ?_ <;> rcases h2 with rfl | rfl | rfl <;> decide
theorem RHas.turnX {w w' : World} {x : Pl} {N : Nat} {d e : Dk.Dev} {y : RPl} (hy : RHas w y e) (hx : Has w x N d) (ht : Turn x.bl w w') : RHas w' y e :=
  ⟨hy.m.kept (fun k hk => ht.block k (hy.m.lt k hk) (hy.not_inX hx hk)) (Kept5.turn hx ht), hy.t, hy.ok⟩
theorem Has.turnY {w w' : World} {x : Pl} {N : Nat} {d e : Dk.Dev} {y : RPl} (hx : Has w x N d) (hy : RHas w y e) (ht : Turn y.bl w w') : Has w' x N d :=
  hx.turn ht (fun _ hk hm => hy.not_inX hx hm hk)
theorem RNext.down {w w1 : World} {y y' : RPl} (h : RNext w1 y y') (hs : w.heap.size ≤ w1.heap.size) : RNext w y y' :=
  ⟨h.p, h.fl, fun k hk => (h.bl k hk).imp id (Nat.le_trans hs)⟩

/-- what a call leaves: device and document's device go on together -/
def Ans (w : World) (x : Pl) (y : RPl) (N n : Nat) (w' : World) : Prop :=
  ∃ y' d', Has w' x (N + 2) d' ∧ RHas w' y' d' ∧ RNext w y y' ∧ d'.st.length = n ∧ Turn (x.bl ++ y.bl) w w'

theorem Ans.same {w w' : World} {x : Pl} {y : RPl} {N : Nat} {d : Dk.Dev} (hx : Has w x N d) (hy : RHas w y d) (hb : Below w.heap.size w w') : Ans w x y N d.st.length w' :=
  ⟨y, d, (hx.below hb).mono (by omega), hy.below hb, RNext.same y, rfl, (Turn.of_below hb).mono (by simp)⟩
theorem Ans.mk {w w1 w2 w3 : World} {x : Pl} {y y' : RPl} {N n : Nat} {d' : Dk.Dev} (hb : Below w.heap.size w w1) (h1 : Turn x.bl w1 w2) (h2 : Turn y.bl w2 w3) (hx : Has w3 x (N + 2) d') (hy : RHas w3 y' d') (hn : RNext w2 y y') (hl : d'.st.length = n) : Ans w x y N n w3 :=
  ⟨y', d', hx, hy, hn.down (Nat.le_trans hb.size h1.size), hl,
    ((Turn.of_below hb).mono (S' := x.bl ++ y.bl) (by simp)).trans ((h1.mono (S' := x.bl ++ y.bl) (fun _ h _ => List.mem_append_left _ h)).trans (h2.mono (S' := x.bl ++ y.bl) (fun _ h _ => List.mem_append_right _ h)) (fun _ h _ => h)) (fun _ h _ => h)⟩

/-- a call's nine cells -/
def calV (kind who i after e torn short : Int) (b : UInt8) (vk : Value) : Array Value := #[.int .i64 kind, .int .i64 who, .int .i64 i, .int .i64 after, .int .i64 e, .int .i64 torn, .int .i64 short, .int .u8 (b.toNat : Int), vk]

theorem grown_refl (w : World) (r : Option Nat) : w.grownBy w r := ⟨rfl, rfl, rfl, Nat.le_refl _, fun _ _ _ => rfl⟩
theorem grown_trans {a b c : World} {r : Option Nat} (h : a.grownBy b r) (k : b.grownBy c r) : a.grownBy c r :=
  ⟨k.os.trans h.os, k.tape.trans h.tape, k.output.trans h.output, Nat.le_trans h.size k.size, fun i hi hn => (k.block i (Nat.lt_of_lt_of_le hi h.size) hn).trans (h.block i hi hn)⟩
theorem grown_set (w : World) (g o : Nat) (v : Value) : w.grownBy (w.setCell ⟨g, o, none⟩ v) (some g) :=
  ⟨rfl, rfl, rfl, by simp, fun i _ hn => Below.heap_setCell w ⟨g, o, none⟩ v i (fun e => hn (by rw [e]))⟩
theorem grownBy_setCells (g : Nat) : ∀ (vs : List Value) (o : Nat) (w : World), w.grownBy (w.setCells g o vs) (some g)
  | [], _, w => grown_refl w _
  | v :: r, o, w => grown_trans (grown_set w g o v) (grownBy_setCells g r (o + 1) (w.setCell ⟨g, o, none⟩ v))
theorem clear_any (w : World) (g n c : Nat) (hc : ∀ j, j < n → (w.cell? ⟨g, 0 + j, none⟩).isSome = true) (hf : ∀ j, j < n → w.frozen? ⟨g, 0 + j, none⟩ = false) :
    ∃ w', (∀ ty, (Builtin.clear_ #[27] ty #[.slice (some ⟨g, 0, none⟩) n c]).run Try.prog w = .ok (.tuple #[]) w') ∧ w.grownBy w' (some g) := by
  obtain ⟨i0, hi, hz0, hz1, hz2⟩ := info_parts info5
  by_cases h0 : n = 0
  · subst h0
    refine ⟨w, fun ty => ?_, grown_refl w _⟩
    simp [Builtin.clear_, run_underlying Try.underlying27]
  · exact ⟨_, fun ty => Lib.run_clear_slice w 27 5 ty (.int .u8 0) Try.underlying27 (fun w => by simp [zeroValue, typeInfo, hi, hz0]) rfl rfl g 0 n c (by omega) hc hf, grownBy_setCells g _ _ _⟩
theorem clear_none (w : World) : ∀ ty, (Builtin.clear_ #[27] ty #[.slice none 0 0]).run Try.prog w = .ok (.tuple #[]) w := fun ty => by simp [Builtin.clear_, run_underlying Try.underlying27]

theorem cal_start (w : World) (cs : Array Value) (nq : Nat) : Below w.heap.size w ((w.alloc (.cells cs 48)).drewN nq) ∧ ((w.alloc (.cells cs 48)).drewN nq).heap[w.heap.size]? = some (.cells cs 48 (0, 0)) := by
  have h := (Below.refl w.heap.size w).alloc (Nat.le_refl _) (.cells cs 48)
  exact ⟨⟨h.os, h.tape, h.output, h.size, h.block⟩, heap_alloc_new w _⟩
theorem cal_cells {w : World} {g : Nat} {kind who i after e torn short : Int} {b : UInt8} {vk : Value} (h : w.heap[g]? = some (.cells (calV kind who i after e torn short b vk) 48 (0, 0))) :
    w.cell? ⟨g, 0, none⟩ = some (.int .i64 kind) ∧ w.cell? ⟨g, 2, none⟩ = some (.int .i64 i) ∧ w.cell? ⟨g, 3, none⟩ = some (.int .i64 after) ∧ w.cell? ⟨g, 4, none⟩ = some (.int .i64 e) ∧ w.cell? ⟨g, 5, none⟩ = some (.int .i64 torn) ∧ w.cell? ⟨g, 6, none⟩ = some (.int .i64 short) ∧ w.cell? ⟨g, 7, none⟩ = some (.int .u8 (b.toNat : Int)) ∧ w.cell? ⟨g, 8, none⟩ = some vk := by
  refine ⟨?_, ?_, ?_, ?_, ?_, ?_, ?_, ?_⟩ <;> (rw [cell_of_row w g _ _ 48 (0, 0) h]; rfl)
/-- the call's cells stay behind a call on the device, or on the document's -/
theorem cal_turnX {w w' : World} {x : Pl} {N : Nat} {d : Dk.Dev} {g : Nat} {cs : Array Value} (h : w.heap[g]? = some (.cells cs 48 (0, 0))) (hx : Has w x N d) (ht : Turn x.bl w w') : w'.heap[g]? = some (.cells cs 48 (0, 0)) :=
  (ht.block g (lt_of_heap h) (hx.not_inT h (by decide) (by decide))).trans h
theorem cal_turnY {w w' : World} {y : RPl} {d : Dk.Dev} {g : Nat} {cs : Array Value} (h : w.heap[g]? = some (.cells cs 48 (0, 0))) (hy : RHas w y d) (ht : Turn y.bl w w') : w'.heap[g]? = some (.cells cs 48 (0, 0)) :=
  (ht.block g (lt_of_heap h) (hy.m.not_in h (by decide))).trans h
theorem fl_st (d : Dk.Dev) : d.fl.st.length = d.st.length := by show ((List.range d.st.length).map _).length = _; rw [List.length_map, List.length_range]
theorem cr_st (d : Dk.Dev) (kl : List Bool) (t : Nat) : (d.cr kl t).st.length = d.st.length := by show ((List.range d.st.length).map _).length = _; rw [List.length_map, List.length_range]
theorem turnP {w w' : World} {y : RPl} (h : Turn [y.p] w w') : Turn y.bl w w' := h.mono (fun q hq _ => by simp only [List.mem_singleton] at hq; rw [hq]; simp [RPl.bl])
end Go.Proofs.Ytccfoafcfnhejaa
