/-
  RulesParses: items that are written over; what of them stays.
-/
import Derived.Test.YthpipbkbldlfjaaRPm
import Derived.Test.YthpipbkbldlfjaaRSame
namespace Go.Proofs.Ythpipbkbldlfjaa
open Go.RowKit

/-- the blocks of an item's targets and words -/
def blks (p : RawI × Rl.It) : List Nat := p.1.targets.ownBlock.toList ++ p.1.words.ownBlock.toList
theorem mem_blks {p : RawI × Rl.It} {g : Nat} : g ∈ blks p ↔ InBlk p.1 g := by
  unfold blks InBlk
  rw [List.mem_append, Option.mem_toList, Option.mem_toList]
def blksTo (ps : List (RawI × Rl.It)) (k : Nat) : List Nat := (ps.take k).flatMap blks
theorem blksTo_more {ps : List (RawI × Rl.It)} {k : Nat} (hk : k < ps.length) : blksTo ps (k + 1) = blksTo ps k ++ blks ps[k] := by
  unfold blksTo
  rw [List.take_succ_eq_append_getElem hk, List.flatMap_append]
  simp
/-- items that were read, and are read again from the k-th on, whatever became of the words of those ahead -/
structure RdA (W : World) (base M : Nat) (v : Value) (ps : List (RawI × Rl.It)) : Prop where
  row : ItR.Own W M v (ps.map Prod.fst)
  its : ∀ p ∈ ps, ItOwn W base M p.1 p.2
  rise : ps.Pairwise Rise
theorem RdA.below {W W' : World} {base M : Nat} {v : Value} {ps : List (RawI × Rl.It)} (h : RdA W base M v ps) (hb : Below W.heap.size W W') : RdA W' base M v ps :=
  ⟨h.row.below hb (Nat.le_refl _), fun p hp => (h.its p hp).below hb (Nat.le_refl _), h.rise⟩
section
variable {W W' : World} {base M : Nat} {v : Value} {ps : List (RawI × Rl.It)} {k : Nat}
/-- the blocks that are written over hold words -/
theorem RdA.word (h : RdA W base M v ps) {g : Nat} (hg : g ∈ blksTo ps k) : ∃ p ∈ ps.take k, InBlk p.1 g ∧ M ≤ g ∧ g < W.heap.size ∧ ∃ cs, W.heap[g]? = some (.cells cs 36 (0, 0)) := by
  unfold blksTo at hg
  obtain ⟨p, hp, hpg⟩ := List.mem_flatMap.1 hg
  have hI := h.its p (List.mem_of_mem_take hp)
  have hin := mem_blks.1 hpg
  refine ⟨p, hp, hin, (hI.blk hin).1, (hI.blk hin).2, ?_⟩
  have hrow : ∀ {u : Value} {l : List Lx.V}, WdR.Own W M u l → u.ownBlock = some g → ∃ cs, W.heap[g]? = some (.cells cs 36 (0, 0)) := by
    intro u l ho e
    rcases ho.2 with ⟨rfl, -⟩ | ⟨g', cap, cur, rfl, -, h3, -⟩
    · cases e
    · simp only [Value.ownBlock, Option.some.injEq] at e
      subst e
      exact ⟨cur, h3⟩
  rcases hin with e | e
  · exact hrow hI.targets e
  · exact hrow hI.words e
/-- a row of another type stays -/
theorem RdA.other (h : RdA W base M v ps) (ht : Turn (blksTo ps k) W W') {α : Type} {R : Rc α} {b : Nat} {u : Value} {l : List α} (ho : R.Own W b u l) (he : R.e ≠ 36) : R.Own W' b u l :=
  Row.turn ho ht fun g hg hm => by
    obtain ⟨p, -, -, -, -, cs, hcs⟩ := h.word hm
    exact Row.ne ho hcs (fun e => he e.symm) hg rfl
theorem RdA.from_ (h : RdA W base M v ps) (ht : Turn (blksTo ps k) W W') : ∀ p ∈ ps.drop k, ItOf W' W'.heap.size p.1 p.2 := by
  intro p hp
  have hI := h.its p (List.mem_of_mem_drop hp)
  have hap : ∀ {u : Value} {l : List Lx.V}, WdR.Own W M u l → (∀ g, u.ownBlock = some g → InBlk p.1 g) → WdR.Own W' M u l := by
    intro u l ho hu
    refine Row.turn ho ht fun g hg hm => ?_
    obtain ⟨q, hq, hin, -⟩ := h.word hm
    have h2 := hu g hg
    have hr := (List.pairwise_append.1 (by rw [List.take_append_drop]; exact h.rise : (ps.take k ++ ps.drop k).Pairwise Rise)).2.2 q hq p hp
    have := hr g g hin h2
    omega
  obtain ⟨qs, h1, h2, h3⟩ := hI.code
  refine ⟨hI.kind, hI.line, hI.name, (hap hI.targets fun g e => .inl e).sl, (hap hI.words fun g e => .inr e).sl, qs, (h.other ht h1 (by decide)).sl, h2, fun q hq => ⟨(h3 q hq).1.1, (h3 q hq).1.2.1, ?_⟩⟩
  have ho : WdR.Own W' base q.1.words q.2.words := Row.turn (h3 q hq).1.2.2 ht fun g hg hm => by
    obtain ⟨p', -, -, hM, -⟩ := h.word hm
    have := (h3 q hq).2 g hg
    omega
  exact ho.sl
/-- the items from the k-th on -/
theorem RdA.tail {gA n c : Nat} (h : RdA W base M (.slice (some ⟨gA, 0, none⟩) n c) ps) (ht : Turn (blksTo ps k) W W') (hk : k ≤ ps.length) :
    ∃ a, (∀ X : World, (Instr.slice 23 (.slice (some ⟨gA, 0, none⟩) n c) (some (.int .i64 (k : Int))) none none).run Try.prog X = .ok (.slice a (n - k) (c - k)) X) ∧ ItsS W' W'.heap.size (.slice a (n - k) (c - k)) ((ps.map Prod.snd).drop k) := by
  have hrow := (h.other ht h.row (by decide)).sl
  obtain ⟨a, h1, h2⟩ := Rc.slice_tail hrow k (by rw [List.length_map]; exact hk)
  refine ⟨a, h1, ps.drop k, by rw [List.map_drop]; exact h2, by rw [List.map_drop], fun p hp => h.from_ ht p hp⟩
/-- the cells of an item's targets and words -/
theorem RdA.cells (h : RdA W base M v ps) (ht : Turn (blksTo ps k) W W') (hk : k < ps.length) :
    ∃ gA c, v = .slice (some ⟨gA, 0, none⟩) ps.length c ∧ gA < W.heap.size ∧ W'.cell? ⟨gA, k * 6 + 3, none⟩ = some ps[k].1.targets ∧ W'.cell? ⟨gA, k * 6 + 4, none⟩ = some ps[k].1.words := by
  have hrow := h.other ht h.row (by decide)
  obtain ⟨gA, c, e, -, -, -⟩ := Rc.Own.set hrow k 3 (by rw [List.length_map]; exact hk) (by decide)
  obtain ⟨b, o, c', e', hb, hc⟩ := hrow.sl.cells k (by rw [List.length_map]; exact hk)
  rw [e] at e'
  simp only [Value.slice.injEq, Option.some.injEq, Addr.mk.injEq, and_true] at e'
  obtain ⟨⟨rfl, rfl⟩, -, rfl⟩ := e'
  have hg : (ps.map Prod.fst)[k]'(by rw [List.length_map]; exact hk) = ps[k].1 := List.getElem_map ..
  rw [hg] at hc
  have hlt : gA < W.heap.size := (h.row.lt gA (by rw [e]; rfl)).2
  refine ⟨gA, c, by rw [e, List.length_map], hlt, ?_, ?_⟩
  · have := hc 3 (.slice ps[k].1.ta ps[k].1.tn ps[k].1.tc) (by decide) rfl
    have e3 : 0 + (k * ItR.k + 3) = k * 6 + 3 := by show 0 + (k * 6 + 3) = _; omega
    rwa [e3] at this
  · have := hc 4 (.slice ps[k].1.wa ps[k].1.wn ps[k].1.wc) (by decide) rfl
    have e3 : 0 + (k * ItR.k + 4) = k * 6 + 4 := by show 0 + (k * 6 + 4) = _; omega
    rwa [e3] at this
end
/-- a row of words whose block may be written over, up to its capacity -/
def Wipe (w : World) (S : List Nat) (ua : Option Addr) (uc : Nat) : Prop := 0 < uc → ∃ g cur, ua = some ⟨g, 0, none⟩ ∧ g ∈ S ∧ w.heap[g]? = some (.cells cur 36 (0, 0)) ∧ cur.size = uc * 5 ∧ uc ≤ 9223372036854775807
theorem Wipe.of {w : World} {M : Nat} {S : List Nat} {ua : Option Addr} {un uc : Nat} {l : List Lx.V} (h : WdR.Own w M (.slice ua un uc) l) (hS : ∀ g, (Value.slice ua un uc).ownBlock = some g → g ∈ S) : Wipe w S ua uc := by
  intro hu
  rcases h.2 with ⟨e, -⟩ | ⟨g, cap, cur, e, -, h3, -, h5, h6, -⟩
  · cases e; omega
  · simp only [Value.slice.injEq] at e
    obtain ⟨rfl, -, rfl⟩ := e
    exact ⟨g, cur, rfl, hS g rfl, h3, h6, by unfold maxLen at h5; exact h5⟩
theorem Wipe.below {w w' : World} {S : List Nat} {ua : Option Addr} {uc : Nat} (h : Wipe w S ua uc) (hb : Below w.heap.size w w') : Wipe w' S ua uc := fun hu => by
  obtain ⟨g, cur, h1, h2, h3, h4, h5⟩ := h hu
  exact ⟨g, cur, h1, h2, (hb.block g (Array.getElem?_eq_some_iff.1 h3).1).trans h3, h4, h5⟩
theorem Wipe.set {w : World} {S : List Nat} {ua : Option Addr} {uc : Nat} (h : Wipe w S ua uc) (g j : Nat) (v : Value) : Wipe (w.setCell ⟨g, j, none⟩ v) S ua uc := fun hu => by
  obtain ⟨g', cur, h1, h2, h3, h4, h5⟩ := h hu
  by_cases e : g' = g
  · subst e
    exact ⟨g', cur.setIfInBounds j v, h1, h2, by rw [heap_setCell_same w g' j _ _ v h3], by rw [Array.size_setIfInBounds]; exact h4, h5⟩
  · exact ⟨g', cur, h1, h2, (heap_setCell_other w _ _ _ (by exact e)).trans h3, h4, h5⟩
theorem Wipe.cap {w : World} {S : List Nat} {ua : Option Addr} {uc : Nat} (h : Wipe w S ua uc) : uc ≤ 9223372036854775807 := by
  rcases Nat.eq_zero_or_pos uc with h0 | h0
  · omega
  · obtain ⟨g, cur, h1, h2, h3, h4, h5⟩ := h h0
    exact h5
theorem Wipe.at {w : World} {S : List Nat} {ua : Option Addr} {uc : Nat} (h : Wipe w S ua uc) {m : Nat} (hm : m < uc) : ∃ g, ua = some ⟨g, 0, none⟩ ∧ g ∈ S ∧ (∀ j, w.frozen? ⟨g, j, none⟩ = false) ∧ ∀ f, f < 5 → ∃ u, w.cell? ⟨g, m * 5 + f, none⟩ = some u := by
  obtain ⟨g, cur, h1, h2, h3, h4, -⟩ := h (by omega)
  refine ⟨g, h1, h2, fun j => frozen_of_row w g j _ _ h3, fun f hf => ?_⟩
  have hlt : m * 5 + f < cur.size := by rw [h4]; omega
  refine ⟨cur[m * 5 + f], ?_⟩
  rw [cell_of_row w g (m * 5 + f) _ _ _ h3]
  exact Array.getElem?_eq_getElem hlt
theorem RpL.turnS {X X' : World} {base M : Nat} {v : Value} {out : List (RawI × Rl.It)} {M1 : Nat} {S : List Nat} (h : RpL X base M v out M1) (ht : Turn S X X') (hS : ∀ x ∈ S, x < base) (hbM : base ≤ M) : RpL X' base M v out M1 := by
  have hk : ∀ {α : Type} {R : Rc α} {b : Nat} {u : Value} {l : List α}, base ≤ b → R.Own X b u l → R.Own X' b u l := by
    intro α R b u l hb ho
    refine Row.turn ho ht fun g hg hm => ?_
    have h1 := (ho.lt g hg).1
    have h2 := hS g hm
    omega
  refine ⟨hk hbM h.row, fun q hq => ?_, h.lo, Nat.le_trans h.hi ht.size, h.old, h.new⟩
  have hI := h.its q hq
  obtain ⟨ps, h1, h2, h3⟩ := hI.code
  exact ⟨hI.kind, hI.line, hI.name, hk hbM hI.targets, hk hbM hI.words, ps, hk hbM h1, h2, fun p hp => ⟨⟨(h3 p hp).1.1, (h3 p hp).1.2.1, hk (Nat.le_refl _) (h3 p hp).1.2.2⟩, (h3 p hp).2⟩⟩
/-- the items from the k-th on -/
theorem RpL.tail {X : World} {base M : Nat} {ad : Option Addr} {n c : Nat} {out : List (RawI × Rl.It)} {M1 : Nat} (h : RpL X base M (.slice ad n c) out M1) (k : Nat) (hk : k ≤ out.length) :
    ∃ a, (∀ W : World, (Instr.slice 23 (.slice ad n c) (some (.int .i64 (k : Int))) none none).run Try.prog W = .ok (.slice a (n - k) (c - k)) W) ∧ ItsS X X.heap.size (.slice a (n - k) (c - k)) ((out.map Prod.snd).drop k) := by
  obtain ⟨a, h1, h2⟩ := Rc.slice_tail h.row.sl k (by rw [List.length_map]; exact hk)
  exact ⟨a, h1, out.drop k, by rw [List.map_drop]; exact h2, by rw [List.map_drop], fun p hp => (h.its p (List.mem_of_mem_drop hp)).of⟩

end Go.Proofs.Ythpipbkbldlfjaa
