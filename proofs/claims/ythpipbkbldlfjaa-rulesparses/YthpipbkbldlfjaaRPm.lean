/-
  THE DOCUMENT's Parse: how its items lie while they are read.
-/
import Derived.Test.YthpipbkbldlfjaaDParse
import Derived.Test.YthpipbkbldlfjaaKit
import Derived.Test.YthpipbkbldlfjaaYQuo2
namespace Go.Proofs.Ythpipbkbldlfjaa
open Go.RowKit

theorem Rc.Own.high {α : Type} {R : Rc α} {w : World} {B B' : Nat} {v : Value} {l : List α} (h : R.Own w B v l) (hB : ∀ g, v.ownBlock = some g → B' ≤ g) : R.Own w B' v l := by
  refine ⟨h.1, ?_⟩
  rcases h.2 with h | ⟨g, cap, cur, rfl, h2, h3⟩
  · exact .inl h
  · exact .inr ⟨g, cap, cur, rfl, hB g rfl, h3⟩
/-- a row whose type is another than that of the block that is turned -/
theorem Rc.Own.setT {α : Type} {R : Rc α} {w : World} {base : Nat} {v : Value} {l : List α} (h : R.Own w base v l) {g : Nat} {cs : Array Value} {t : TypeId} {f : Nat × Nat} (hg : w.heap[g]? = some (.cells cs t f)) (ht : t ≠ R.e) (j : Nat) (u : Value) : R.Own (w.setCell ⟨g, j, none⟩ u) base v l :=
  Row.turn h (S := [g]) ((Turn.refl _ w).set (p := ⟨g, j, none⟩) (by simp) _) fun q hq => by
    rw [List.mem_singleton]
    exact Row.ne h hg ht hq
theorem ItOwn.setT {w : World} {base M : Nat} {r : RawI} {x : Rl.It} (h : ItOwn w base M r x) {g : Nat} {cs : Array Value} {f : Nat × Nat} (hg : w.heap[g]? = some (.cells cs 33 f)) (j : Nat) (u : Value) : ItOwn (w.setCell ⟨g, j, none⟩ u) base M r x := by
  obtain ⟨ps, h1, h2, h3⟩ := h.code
  exact ⟨h.kind, h.line, h.name, h.targets.setT hg (by decide) j u, h.words.setT hg (by decide) j u, ps, h1.setT hg (by decide) j u, h2, fun p hp => ⟨⟨(h3 p hp).1.1, (h3 p hp).1.2.1, (h3 p hp).1.2.2.setT hg (by decide) j u⟩, (h3 p hp).2⟩⟩
/-- a row of lines grew, of another block than this item's code -/
theorem ItOwn.grownL {w w' : World} {base M M1 : Nat} {r : RawI} {x : Rl.It} {v : Value} {rl : List RawL} (h : ItOwn w base M r x) (hv : LnR.Own w M1 v rl) (hg : w.grownBy w' v.ownBlock) (hc : ∀ g, r.code.ownBlock = some g → g < M1) : ItOwn w' base M r x := by
  obtain ⟨ps, h1, h2, h3⟩ := h.code
  refine ⟨h.kind, h.line, h.name, World.ownsRow.kept h.targets hg (own_apart h.targets hv (by decide)), World.ownsRow.kept h.words hg (own_apart h.words hv (by decide)), ps, World.ownsRow.kept h1 hg ?_, h2, fun p hp => ⟨⟨(h3 p hp).1.1, (h3 p hp).1.2.1, World.ownsRow.kept (h3 p hp).1.2.2 hg (own_apart (h3 p hp).1.2.2 hv (by decide))⟩, (h3 p hp).2⟩⟩
  cases hb : r.code.ownBlock with
  | none => exact .inl rfl
  | some g =>
    right
    intro e
    have h4 := hc g hb
    have h5 := (hv.lt g e.symm).1
    omega
/-- an item's code, laid anew -/
theorem ItOwn.code' {w : World} {base M : Nat} {r : RawI} {x : Rl.It} (h : ItOwn w base M r x) {ca : Option Addr} {cn cc : Nat} {ps : List (RawL × Lx.L)} {c : List Lx.L} (h1 : LnR.Own w M (.slice ca cn cc) (ps.map Prod.fst)) (h2 : c = ps.map Prod.snd) (h3 : ∀ p ∈ ps, LineOf w base p.1 p.2 ∧ ∀ g, p.1.words.ownBlock = some g → g < M) :
    ItOwn w base M ⟨r.kind, r.line, r.name, r.ta, r.tn, r.tc, r.wa, r.wn, r.wc, ca, cn, cc⟩ { x with code := c } := ⟨h.kind, h.line, h.name, h.targets, h.words, ps, h1, h2, h3⟩

/-- items that are read, the last one's code in blocks from M1 on, all others' below -/
structure RpL (X : World) (base M : Nat) (v : Value) (out : List (RawI × Rl.It)) (M1 : Nat) : Prop where
  row : ItR.Own X M v (out.map Prod.fst)
  its : ∀ q ∈ out, ItOwn X base M q.1 q.2
  lo : M ≤ M1
  hi : M1 ≤ X.heap.size
  old : ∀ q ∈ out.dropLast, ∀ g, q.1.code.ownBlock = some g → g < M1
  new : ∀ q, out.getLast? = some q → ∀ g, q.1.code.ownBlock = some g → M1 ≤ g
theorem RpL.below {X X' : World} {base M : Nat} {v : Value} {out : List (RawI × Rl.It)} {M1 : Nat} (h : RpL X base M v out M1) (hb : Below X.heap.size X X') : RpL X' base M v out M1 :=
  ⟨h.row.below hb (Nat.le_refl _), fun q hq => (h.its q hq).below hb (Nat.le_refl _), h.lo, Nat.le_trans h.hi hb.size, h.old, h.new⟩
theorem RpL.nil (X : World) (base M : Nat) (hM : M ≤ X.heap.size) : RpL X base M (.slice none 0 0) [] M :=
  ⟨Rc.Own.nil _ _, (fun _ h => by cases h), Nat.le_refl _, hM, (fun _ h => by cases h), (fun _ h => by cases h)⟩
/-- the last item -/
theorem RpL.last {X : World} {base M : Nat} {v : Value} {out : List (RawI × Rl.It)} {M1 : Nat} (h : RpL X base M v out M1) {ps0 : List (RawI × Rl.It)} {r : RawI} {x : Rl.It} (he : out = ps0 ++ [(r, x)]) :
    ∃ gO cO, v = .slice (some ⟨gO, 0, none⟩) (ps0.length + 1) cO ∧ X.cell? ⟨gO, ps0.length * 6, none⟩ = some (.int .i64 x.kind) ∧ X.cell? ⟨gO, ps0.length * 6 + 5, none⟩ = some (.slice r.ca r.cn r.cc) ∧ gO < X.heap.size := by
  subst he
  have hs := h.row.sl
  obtain ⟨b, o, c, e, hb, hc⟩ := hs.cells ps0.length (by simp)
  obtain ⟨gO, cap, e2, -, hlt, -⟩ := Rc.Own.set h.row ps0.length 0 (by simp) (by decide)
  rw [e2] at e
  simp only [Value.slice.injEq, Option.some.injEq, Addr.mk.injEq, and_true] at e
  obtain ⟨⟨rfl, rfl⟩, -, rfl⟩ := e
  have hl : ((ps0 ++ [(r, x)]).map Prod.fst)[ps0.length]'(by simp) = r := by simp
  rw [hl] at hc
  have hk : r.kind = x.kind := (h.its (r, x) (by simp)).kind
  refine ⟨gO, cap, by rw [e2]; simp, ?_, ?_, hlt⟩
  · have := hc 0 (.int .i64 r.kind) (by decide) rfl
    rw [hk] at this
    rw [show gO = gO from rfl] at this
    have e3 : 0 + (ps0.length * ItR.k + 0) = ps0.length * 6 := by show 0 + (ps0.length * 6 + 0) = _; omega
    rwa [e3] at this
  · have := hc 5 (.slice r.ca r.cn r.cc) (by decide) rfl
    have e3 : 0 + (ps0.length * ItR.k + 5) = ps0.length * 6 + 5 := by show 0 + (ps0.length * 6 + 5) = _; omega
    rwa [e3] at this
/-- a line of code more -/
theorem RpL.more {X w7 : World} {base M : Nat} {v : Value} {M1 : Nat} {ps0 : List (RawI × Rl.It)} {r : RawI} {x : Rl.It} (h : RpL X base M v (ps0 ++ [(r, x)]) M1) {qs : List (RawL × Lx.L)} (hO : LnR.Own X M1 r.code (qs.map Prod.fst)) (hc : x.code = qs.map Prod.snd) (hq : ∀ p ∈ qs, LineOf X base p.1 p.2 ∧ ∀ g, p.1.words.ownBlock = some g → g < M)
    {rl : RawL} {l : Lx.L} (hl : LineOf X base rl l ∧ ∀ g, rl.words.ownBlock = some g → g < M) (hg : X.grownBy w7 r.code.ownBlock) {g2 cap : Nat} (hO' : LnR.Own w7 M1 (.slice (some ⟨g2, 0, none⟩) ((qs.map Prod.fst).length + [rl].length) cap) (qs.map Prod.fst ++ [rl])) :
    ∃ gO cO, v = .slice (some ⟨gO, 0, none⟩) (ps0.length + 1) cO ∧ w7.cell? ⟨gO, ps0.length * 6 + 5, none⟩ = some (.slice r.ca r.cn r.cc) ∧ w7.frozen? ⟨gO, ps0.length * 6 + 5, none⟩ = false ∧ M ≤ gO ∧
      RpL (w7.setCell ⟨gO, ps0.length * 6 + 5, none⟩ (.slice (some ⟨g2, 0, none⟩) (qs.length + 1) cap)) base M v (ps0 ++ [(⟨r.kind, r.line, r.name, r.ta, r.tn, r.tc, r.wa, r.wn, r.wc, some ⟨g2, 0, none⟩, qs.length + 1, cap⟩, x.with l)]) M1 := by
  have hrow := World.ownsRow.kept h.row hg (own_apart h.row hO (by decide))
  have hlast : ∀ g, r.code.ownBlock = some g → M1 ≤ g := h.new (r, x) (by simp)
  have hold : ∀ q ∈ ps0, ∀ g, q.1.code.ownBlock = some g → g < M1 := fun q hq => h.old q (by simpa using hq)
  have hrow' : ItR.Own w7 M v ((ps0 ++ [(r, x)]).map Prod.fst) := hrow
  obtain ⟨gO, cO, e2, hMg, hlt, hfr, hset⟩ := Rc.Own.set hrow' ps0.length 5 (by simp) (by decide)
  have hblk : ∃ cs, w7.heap[gO]? = some (.cells cs 33 (0, 0)) := by
    rcases hrow'.2 with ⟨e3, -⟩ | ⟨g, cap, cur, e3, -, h3, -⟩
    · rw [e2] at e3; cases e3
    · rw [e2] at e3
      simp only [Value.slice.injEq, Option.some.injEq, Addr.mk.injEq, and_true] at e3
      obtain ⟨rfl, -⟩ := e3
      exact ⟨cur, h3⟩
  obtain ⟨cs, hblk⟩ := hblk
  have hcell : w7.cell? ⟨gO, ps0.length * 6 + 5, none⟩ = some (.slice r.ca r.cn r.cc) := by
    obtain ⟨b, o, c, e, hb, hcc⟩ := hrow'.sl.cells ps0.length (by simp)
    rw [e2] at e
    simp only [Value.slice.injEq, Option.some.injEq, Addr.mk.injEq, and_true] at e
    obtain ⟨⟨rfl, rfl⟩, -, rfl⟩ := e
    have hll : ((ps0 ++ [(r, x)]).map Prod.fst)[ps0.length]'(by simp) = r := by simp
    rw [hll] at hcc
    have := hcc 5 (.slice r.ca r.cn r.cc) (by decide) rfl
    have e3 : 0 + (ps0.length * ItR.k + 5) = ps0.length * 6 + 5 := by show 0 + (ps0.length * 6 + 5) = _; omega
    rwa [e3] at this
  have hkk : ps0.length * ItR.k + 5 = ps0.length * 6 + 5 := rfl
  rw [hkk] at hfr hset
  have hll : ((ps0 ++ [(r, x)]).map Prod.fst)[ps0.length]'(by simp) = r := by simp
  have hs := hset ⟨r.kind, r.line, r.name, r.ta, r.tn, r.tc, r.wa, r.wn, r.wc, some ⟨g2, 0, none⟩, qs.length + 1, cap⟩ (.slice (some ⟨g2, 0, none⟩) (qs.length + 1) cap) (by rw [hll]; rfl)
  have hsz : (w7.setCell ⟨gO, ps0.length * 6 + 5, none⟩ (.slice (some ⟨g2, 0, none⟩) (qs.length + 1) cap)).heap.size = w7.heap.size := by simp [World.setCell]
  refine ⟨gO, cO, by rw [e2]; simp, hcell, hfr, hMg, ?_, fun q hq' => ?_, h.lo, by rw [hsz]; exact Nat.le_trans h.hi hg.size, fun q hq' => ?_, fun q hq' g hgg => ?_⟩
  · have e4 : ((ps0 ++ [(r, x)]).map Prod.fst).set ps0.length ⟨r.kind, r.line, r.name, r.ta, r.tn, r.tc, r.wa, r.wn, r.wc, some ⟨g2, 0, none⟩, qs.length + 1, cap⟩ = (ps0 ++ [((⟨r.kind, r.line, r.name, r.ta, r.tn, r.tc, r.wa, r.wn, r.wc, some ⟨g2, 0, none⟩, qs.length + 1, cap⟩ : RawI), x.with l)]).map Prod.fst := by
      rw [List.map_append, List.map_append, List.set_append_right _ _ (by simp)]
      simp
    rw [e4] at hs
    exact hs
  · rcases List.mem_append.1 hq' with hq1 | hq1
    · exact ((h.its q (List.mem_append_left _ hq1)).grownL hO hg (hold q hq1)).setT hblk _ _
    · rw [List.mem_singleton] at hq1
      subst hq1
      have hI := h.its (r, x) (by simp)
      have hO2 : LnR.Own w7 M (.slice (some ⟨g2, 0, none⟩) (qs.length + 1) cap) ((qs ++ [(rl, l)]).map Prod.fst) := by
        have := hO'.low h.lo
        simpa using this
      have hLn : ∀ p ∈ qs ++ [(rl, l)], LineOf w7 base p.1 p.2 ∧ ∀ g, p.1.words.ownBlock = some g → g < M := by
        intro p hp
        have hk : ∀ {a : RawL} {y : Lx.L}, (LineOf X base a y ∧ ∀ g, a.words.ownBlock = some g → g < M) → (LineOf w7 base a y ∧ ∀ g, a.words.ownBlock = some g → g < M) := fun hx => ⟨⟨hx.1.1, hx.1.2.1, World.ownsRow.kept hx.1.2.2 hg (own_apart hx.1.2.2 hO (by decide))⟩, hx.2⟩
        rcases List.mem_append.1 hp with hp | hp
        · exact hk (hq p hp)
        · rw [List.mem_singleton] at hp
          subst hp
          exact hk hl
      have hW : ItOwn w7 base M ⟨r.kind, r.line, r.name, r.ta, r.tn, r.tc, r.wa, r.wn, r.wc, some ⟨g2, 0, none⟩, qs.length + 1, cap⟩ (x.with l) :=
        ⟨hI.kind, hI.line, hI.name, World.ownsRow.kept hI.targets hg (own_apart hI.targets hO (by decide)), World.ownsRow.kept hI.words hg (own_apart hI.words hO (by decide)), qs ++ [(rl, l)], hO2, by rw [Rl.It.with, hc, List.map_append]; rfl, hLn⟩
      exact hW.setT hblk _ _
  · rw [List.dropLast_concat] at hq'
    exact hold q hq'
  · simp only [List.getLast?_append, List.getLast?_singleton, Option.some_or, Option.some.injEq] at hq'
    subst hq'
    exact (hO'.lt g hgg).1
/-- an item more -/
theorem RpL.push {X w7 : World} {base M : Nat} {v v' : Value} {M1 : Nat} {out : List (RawI × Rl.It)} (h : RpL X base M v out M1) {r : RawI} {x : Rl.It} {B : Nat} (hx : ItNew X B r x) (hB : M ≤ B) (hg : X.grownBy w7 v.ownBlock) (hO' : ItR.Own w7 M v' (out.map Prod.fst ++ [r])) : RpL w7 base M v' (out ++ [(r, x)]) w7.heap.size := by
  have hxo : ItOwn X base M r x := by
    obtain ⟨h1, h2, h3, h4⟩ := hx.code
    refine ⟨hx.kind, hx.line, hx.name, hx.targets.low hB, hx.words.low hB, [], ?_, by simpa using h4, fun p hp => by cases hp⟩
    unfold RawI.code
    rw [h1, h2, h3]
    exact Rc.Own.nil _ _
  refine ⟨by rw [List.map_append]; exact hO', fun q hq => ?_, Nat.le_trans h.lo (Nat.le_trans h.hi hg.size), Nat.le_refl _, fun q hq g hgg => ?_, fun q hq g hgg => ?_⟩
  · rcases List.mem_append.1 hq with hq | hq
    · exact (h.its q hq).grown h.row hg
    · rw [List.mem_singleton] at hq
      subst hq
      exact hxo.grown h.row hg
  · rw [List.dropLast_concat] at hq
    obtain ⟨ps, h1, -, -⟩ := (h.its q hq).code
    exact Nat.lt_of_lt_of_le (h1.lt g hgg).2 hg.size
  · simp only [List.getLast?_append, List.getLast?_singleton, Option.some_or, Option.some.injEq] at hq
    subst hq
    obtain ⟨h1, h2, h3, -⟩ := hx.code
    simp only [RawI.code, h1] at hgg
    cases hgg
theorem RpL.s {X : World} {base M : Nat} {v : Value} {out : List (RawI × Rl.It)} {M1 : Nat} (h : RpL X base M v out M1) : ItsS X X.heap.size v (out.map Prod.snd) :=
  ⟨out, h.row.sl, rfl, fun p hp => (h.its p hp).of⟩

end Go.Proofs.Ythpipbkbldlfjaa
