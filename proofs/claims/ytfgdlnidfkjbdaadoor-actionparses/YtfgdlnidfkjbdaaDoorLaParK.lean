/-
  ActionParses: statements that are written over; what stays.
-/
import Derived.Test.YtfgdlnidfkjbdaaDoorAParseT
namespace Go.Proofs.YtfgdlnidfkjbdaaDoor
open Go.RowKit

/-- statements that lie among the blocks from Ba to Bb, written over up to the i-th -/
structure WipeS (V : World) (Ba Bb ga : Nat) (rs : List RawS) (i : Nat) (W : World) : Prop where
  turn : Turn (List.range' Ba (Bb - Ba)) V W
  lo : Ba ≤ ga
  hi : ga < Bb
  row : ∃ cs, Rw W ga cs 34 ∧ rs.length * 4 ≤ cs.size ∧ ∀ j, i ≤ j → (hj : j < rs.length) → cs[j * 4 + 1]? = some (.slice rs[j].aa rs[j].an rs[j].ac)
  few : ∀ r ∈ rs, r.an ≤ maxLen
  args : ∀ r ∈ rs, r.an = 0 ∨ ∃ g, r.aa = some ⟨g, 0, none⟩ ∧ Ba ≤ g ∧ g < Bb ∧ ∃ cs, Rw W g cs 9 ∧ r.an ≤ cs.size
theorem Els.args {w : World} {base : Nat} {own : Option Nat} : ∀ {f : Ac.Fo} {rs : List RawS}, Els w base own f rs → ∀ r ∈ rs, ∃ a, TxR.Own w base r.args a
  | .nil, _, h, r, hr => by rw [show _ = _ from h] at hr; cases hr
  | .cons _ a _ _ _, _, ⟨r', rs', h1, _, _, h4, _, h7⟩, r, hr => by
    rw [h1] at hr
    rcases List.mem_cons.1 hr with rfl | hr
    · exact ⟨a, h4⟩
    · exact Els.args h7 r hr
theorem WipeS.start {w3 V2 : World} {Ba Bb vn vc : Nat} {va : Option Addr} {f : Ac.Fo} (h : FoNew w3 Ba (.slice va vn vc) f) (hb : Below w3.heap.size w3 V2) (hBb : w3.heap.size ≤ Bb) :
    vn = 0 ∨ ∃ ga rs, va = some ⟨ga, 0, none⟩ ∧ rs.length = vn ∧ WipeS V2 Ba Bb ga rs 0 V2 := by
  obtain ⟨rs, hO, hE⟩ := h
  have hcell := fun g hg => World.ownsRow.cells (g := g) hO hg
  have hlt := hO.lt
  rcases hO.2 with ⟨e, -⟩ | ⟨g, cap, cur, e, h2, h3, h4, -, h6, -⟩
  · simp only [Value.slice.injEq] at e
    exact .inl e.2.1
  · simp only [Value.slice.injEq] at e
    obtain ⟨rfl, rfl, rfl⟩ := e
    have h3' : Rw w3 g cur 34 := h3
    have hsz : cur.size = vc * 4 := h6
    refine .inr ⟨g, rs, rfl, rfl, Turn.refl _ _, h2, Nat.lt_of_lt_of_le h3'.lt hBb, ⟨cur, h3'.below hb h3'.lt, by omega, fun j _ hj => ?_⟩, fun r hr => ?_, fun r hr => ?_⟩
    · rw [← h3'.cell]
      have hv : (SmR.vals rs)[j * 4 + 1]? = some (.slice rs[j].aa rs[j].an rs[j].ac) := (SmR.vals_get rs j 1 hj (by decide)).trans rfl
      have := hcell g rfl _ _ hv
      rwa [addr_at, Nat.zero_add] at this
    · obtain ⟨a, ha⟩ := hE.args r hr
      rcases ha.2 with ⟨e, -⟩ | ⟨g', cap', cur', e, -, -, k4, k5, -⟩
      · simp only [RawS.args, Value.slice.injEq] at e
        rw [e.2.1]
        exact Nat.zero_le _
      · simp only [RawS.args, Value.slice.injEq] at e
        rw [e.2.1]
        exact Nat.le_trans k4 k5
    · obtain ⟨a, ha⟩ := hE.args r hr
      rcases ha.2 with ⟨e, -⟩ | ⟨g', cap', cur', e, k2, k3, k4, -, k6, -⟩
      · simp only [RawS.args, Value.slice.injEq] at e
        exact .inl e.2.1
      · simp only [RawS.args, Value.slice.injEq] at e
        obtain ⟨e1, e2, e3⟩ := e
        have k3' : Rw w3 g' cur' 9 := k3
        have k6' : cur'.size = cap' * 1 := k6
        exact .inr ⟨g', e1, k2, Nat.lt_of_lt_of_le k3'.lt hBb, cur', k3'.below hb k3'.lt, by omega⟩
theorem range_mem {a b x : Nat} (h1 : a ≤ x) (h2 : x < b) : x ∈ List.range' a (b - a) := by
  rw [List.mem_range'_1]
  omega
/-- a word that is written over -/
theorem WipeS.arg {V W : World} {Ba Bb ga i k : Nat} {rs : List RawS} (h : WipeS V Ba Bb ga rs i W) {r : RawS} (hr : r ∈ rs) (hk : k < r.an) (x : Value) :
    ∃ g u, r.aa = some ⟨g, 0, none⟩ ∧ W.cell? ⟨g, k, none⟩ = some u ∧ W.frozen? ⟨g, k, none⟩ = false ∧ WipeS V Ba Bb ga rs i (W.setCell ⟨g, k, none⟩ x) := by
  rcases h.args r hr with h0 | ⟨g, e, g1, g2, cs, hcs, hle⟩
  · omega
  · have hk2 : k < cs.size := by omega
    refine ⟨g, cs[k], e, by rw [hcs.cell, Array.getElem?_eq_getElem hk2], hcs.free k, h.turn.set (fun _ => range_mem g1 g2) x, h.lo, h.hi, ?_, h.few, fun r' hr' => ?_⟩
    · obtain ⟨c, h1, h2, h3⟩ := h.row
      refine ⟨c, h1.other ⟨g, k, none⟩ x (fun e => ?_), h2, h3⟩
      have e' : g = ga := e
      subst e'
      have e2 : some (Obj.cells c 34 (0, 0)) = some (Obj.cells cs 9 (0, 0)) := (show _ = _ from h1).symm.trans hcs
      simp only [Option.some.injEq, Obj.cells.injEq] at e2
      exact absurd e2.2.1 (by decide)
    · rcases h.args r' hr' with h0 | ⟨g', e', g1', g2', cs', hcs', hle'⟩
      · exact .inl h0
      · by_cases hg : g = g'
        · subst hg
          have e2 : some (Obj.cells cs 9 (0, 0)) = some (Obj.cells cs' 9 (0, 0)) := (show _ = _ from hcs).symm.trans hcs'
          simp only [Option.some.injEq, Obj.cells.injEq, and_self, and_true] at e2
          subst e2
          exact .inr ⟨g, e', g1', g2', _, hcs.set k x hk2, by simpa using hle'⟩
        · exact .inr ⟨g', e', g1', g2', cs', hcs'.other ⟨g, k, none⟩ x hg, hle'⟩
/-- one cell of the row -/
theorem WipeS.cell1 {V W : World} {Ba Bb ga i q : Nat} {rs : List RawS} (h : WipeS V Ba Bb ga rs (i + 1) W) (hi : i < rs.length) (hq : q < 4) (x : Value) : WipeS V Ba Bb ga rs (i + 1) (W.setCell ⟨ga, i * 4 + q, none⟩ x) := by
  obtain ⟨c, h1, h2, h3⟩ := h.row
  have hs : i * 4 + q < c.size := by omega
  refine ⟨h.turn.set (fun _ => range_mem h.lo h.hi) x, h.lo, h.hi, ⟨_, h1.set (i * 4 + q) x hs, by simpa using h2, fun j hij hj => ?_⟩, h.few, fun r hr => ?_⟩
  · rw [← h3 j hij hj, Array.getElem?_set]
    rw [if_neg (by omega)]
  · rcases h.args r hr with h0 | ⟨g, e, g1, g2, cs, hcs, hle⟩
    · exact .inl h0
    · refine .inr ⟨g, e, g1, g2, cs, hcs.other ⟨ga, i * 4 + q, none⟩ x (fun e' => ?_), hle⟩
      have e'' : ga = g := e'
      subst e''
      have e2 : some (Obj.cells c 34 (0, 0)) = some (Obj.cells cs 9 (0, 0)) := (show _ = _ from h1).symm.trans hcs
      simp only [Option.some.injEq, Obj.cells.injEq] at e2
      exact absurd e2.2.1 (by decide)
theorem WipeS.next {V W : World} {Ba Bb ga i : Nat} {rs : List RawS} (h : WipeS V Ba Bb ga rs i W) : WipeS V Ba Bb ga rs (i + 1) W := by
  obtain ⟨c, h1, h2, h3⟩ := h.row
  exact ⟨h.turn, h.lo, h.hi, ⟨c, h1, h2, fun j hij hj => h3 j (by omega) hj⟩, h.few, h.args⟩
/-- a statement that is written over -/
theorem WipeS.zero {V W : World} {Ba Bb ga i : Nat} {rs : List RawS} (h : WipeS V Ba Bb ga rs i W) (hi : i < rs.length) (a0 a1 a2 a3 : Value) :
    (∃ u0 u2 u3, W.cell? ⟨ga, i * 4, none⟩ = some u0 ∧ W.cell? ⟨ga, i * 4 + 1, none⟩ = some (.slice rs[i].aa rs[i].an rs[i].ac) ∧ W.cell? ⟨ga, i * 4 + 2, none⟩ = some u2 ∧ W.cell? ⟨ga, i * 4 + 3, none⟩ = some u3) ∧ (∀ j, W.frozen? ⟨ga, j, none⟩ = false) ∧
      WipeS V Ba Bb ga rs (i + 1) ((((W.setCell ⟨ga, i * 4, none⟩ a0).setCell ⟨ga, i * 4 + 1, none⟩ a1).setCell ⟨ga, i * 4 + 2, none⟩ a2).setCell ⟨ga, i * 4 + 3, none⟩ a3) := by
  obtain ⟨c, h1, h2, h3⟩ := h.row
  refine ⟨⟨c[i * 4], c[i * 4 + 2], c[i * 4 + 3], ?_, ?_, ?_, ?_⟩, h1.free, ?_⟩
  · rw [h1.cell, Array.getElem?_eq_getElem (by omega)]
  · rw [h1.cell]; exact h3 i (Nat.le_refl _) hi
  · rw [h1.cell, Array.getElem?_eq_getElem (by omega)]
  · rw [h1.cell, Array.getElem?_eq_getElem (by omega)]
  · exact (((h.next.cell1 hi (q := 0) (by omega) a0).cell1 hi (q := 1) (by omega) a1).cell1 hi (q := 2) (by omega) a2).cell1 hi (q := 3) (by omega) a3
/-- what lies elsewhere stays -/
theorem WipeS.lower {V W w : World} {Ba Bb ga i : Nat} {rs : List RawS} (h : WipeS V Ba Bb ga rs i W) (hb : Below w.heap.size w V) (hB : w.heap.size ≤ Ba) : Below w.heap.size w W :=
  hb.trans (h.turn.below' hb.size fun x hx => by rw [List.mem_range'_1] at hx; omega)
theorem WipeS.foP {V W : World} {Ba Bb ga i : Nat} {rs : List RawS} {v : Value} {f : Ac.Fo} (h : WipeS V Ba Bb ga rs i W) (hf : FoNew V Bb v f) : FoS W W.heap.size v f :=
  ((hf.foP (P := fun b => Bb ≤ b ∧ b < V.heap.size) (fun _ h1 h2 => ⟨h1, h2⟩)).keep (P' := fun b => b < W.heap.size) (fun b hb => h.turn.block b hb.2 (fun hx => by rw [List.mem_range'_1] at hx; omega)) (fun b hb => Nat.lt_of_lt_of_le hb.2 h.turn.size)).foS fun _ h => h
theorem WipeS.rw {V W : World} {Ba Bb ga i g : Nat} {rs : List RawS} {cs : Array Value} {t : TypeId} (h : WipeS V Ba Bb ga rs i W) (hr : Rw V g cs t) (hg : Bb ≤ g) : Rw W g cs t :=
  hr.turn h.turn (fun hx => by rw [List.mem_range'_1] at hx; have := hr.lt; omega)

end Go.Proofs.YtfgdlnidfkjbdaaDoor
