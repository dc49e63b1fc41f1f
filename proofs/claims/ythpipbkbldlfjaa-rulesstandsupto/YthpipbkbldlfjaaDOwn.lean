/-
  ITEMS THAT PARSE MADE: where their rows lie.
-/
import Derived.Test.YthpipbkbldlfjaaDRead
import Derived.Test.YthpipbkbldlfjaaDIdx
namespace Go.Proofs.Ythpipbkbldlfjaa
open Go.RowKit

/-- an item whose targets and words lie in blocks from M on, the words of its code below M -/
structure ItOwn (w : World) (base M : Nat) (r : RawI) (x : Rl.It) : Prop where
  kind : r.kind = x.kind
  line : r.line = x.line
  name : r.name = x.name
  targets : WdR.Own w M r.targets x.targets
  words : WdR.Own w M r.words x.words
  code : ∃ ps : List (RawL × Lx.L), LnR.Own w M r.code (ps.map Prod.fst) ∧ x.code = ps.map Prod.snd ∧ ∀ p ∈ ps, LineOf w base p.1 p.2 ∧ ∀ g, p.1.words.ownBlock = some g → g < M
/-- an item's targets or words lie in this block -/
def InBlk (r : RawI) (g : Nat) : Prop := r.targets.ownBlock = some g ∨ r.words.ownBlock = some g
/-- the rows of one lie ahead of those of the other -/
def Rise (p q : RawI × Rl.It) : Prop := ∀ g g', InBlk p.1 g → InBlk q.1 g' → g < g'
/-- v is a row of items that are the call's own -/
def ItsOwn (w : World) (base M : Nat) (v : Value) (A : List Rl.It) : Prop :=
  ∃ ps : List (RawI × Rl.It), ItR.Own w M v (ps.map Prod.fst) ∧ A = ps.map Prod.snd ∧ (∀ p ∈ ps, ItOwn w base M p.1 p.2) ∧ ps.Pairwise Rise

theorem ItOwn.below {w w' : World} {base M B : Nat} {r : RawI} {x : Rl.It} (h : ItOwn w base M r x) (hb : Below B w w') (hB : w.heap.size ≤ B) : ItOwn w' base M r x := by
  obtain ⟨ps, h1, h2, h3⟩ := h.code
  exact ⟨h.kind, h.line, h.name, h.targets.below hb hB, h.words.below hb hB, ps, h1.below hb hB, h2, fun p hp => ⟨(h3 p hp).1.below hb hB, (h3 p hp).2⟩⟩
theorem LineOf.grownI {w w' : World} {base M : Nat} {r : RawL} {x : Lx.L} {v : Value} {rl : List RawI} (h : LineOf w base r x) (hv : ItR.Own w M v rl) (hg : w.grownBy w' v.ownBlock) : LineOf w' base r x :=
  ⟨h.1, h.2.1, World.ownsRow.kept h.2.2 hg (own_apart h.2.2 hv (by decide))⟩
theorem ItOwn.grown {w w' : World} {base M : Nat} {r : RawI} {x : Rl.It} {v : Value} {rl : List RawI} (h : ItOwn w base M r x) (hv : ItR.Own w M v rl) (hg : w.grownBy w' v.ownBlock) : ItOwn w' base M r x := by
  obtain ⟨ps, h1, h2, h3⟩ := h.code
  exact ⟨h.kind, h.line, h.name, World.ownsRow.kept h.targets hg (own_apart h.targets hv (by decide)), World.ownsRow.kept h.words hg (own_apart h.words hv (by decide)), ps, World.ownsRow.kept h1 hg (own_apart h1 hv (by decide)), h2, fun p hp => ⟨(h3 p hp).1.grownI hv hg, (h3 p hp).2⟩⟩
theorem Rc.Own.turn1 {α : Type} {R : Rc α} {w w' : World} {base s : Nat} {v : Value} {l : List α} (h : R.Own w base v l) (ht : Turn [s] w w') (hs : s < base) : R.Own w' base v l :=
  Row.turn h ht fun g hg => by
    have := (World.ownsRow.lt h g hg).1
    simp only [List.mem_singleton]
    omega
theorem ItOwn.turn1 {w w' : World} {base M s : Nat} {r : RawI} {x : Rl.It} (h : ItOwn w base M r x) (ht : Turn [s] w w') (hs : s < base) (hM : base ≤ M) : ItOwn w' base M r x := by
  obtain ⟨ps, h1, h2, h3⟩ := h.code
  exact ⟨h.kind, h.line, h.name, h.targets.turn1 ht (by omega), h.words.turn1 ht (by omega), ps, h1.turn1 ht (by omega), h2, fun p hp => ⟨⟨(h3 p hp).1.1, (h3 p hp).1.2.1, (h3 p hp).1.2.2.turn1 ht hs⟩, (h3 p hp).2⟩⟩
theorem ItOwn.of {w : World} {base M : Nat} {r : RawI} {x : Rl.It} (h : ItOwn w base M r x) : ItOf w w.heap.size r x := by
  obtain ⟨ps, h1, h2, h3⟩ := h.code
  exact ⟨h.kind, h.line, h.name, h.targets.sl, h.words.sl, ps, h1.sl, h2, fun p hp => ⟨(h3 p hp).1.1, (h3 p hp).1.2.1, (h3 p hp).1.2.2.sl⟩⟩
theorem ItsOwn.s {w : World} {base M : Nat} {v : Value} {A : List Rl.It} (h : ItsOwn w base M v A) : ItsS w w.heap.size v A := by
  obtain ⟨ps, h1, h2, h3, -⟩ := h
  exact ⟨ps, h1.sl, h2, fun p hp => (h3 p hp).of⟩
/-- an item that was read, its code laid down -/
theorem ItNew.own {w : World} {base M B : Nat} {r : RawI} {x : Rl.It} (h : ItNew w B r x) (hM : M ≤ B) {ca : Option Addr} {cn cc : Nat} {ps : List (RawL × Lx.L)} (h1 : LnR.Own w M (.slice ca cn cc) (ps.map Prod.fst)) (h3 : ∀ p ∈ ps, LineOf w base p.1 p.2 ∧ ∀ g, p.1.words.ownBlock = some g → g < M) :
    ItOwn w base M ⟨r.kind, r.line, r.name, r.ta, r.tn, r.tc, r.wa, r.wn, r.wc, ca, cn, cc⟩ { x with code := x.code ++ ps.map Prod.snd } := by
  refine ⟨h.kind, h.line, h.name, h.targets.low hM, h.words.low hM, ps, h1, ?_, h3⟩
  show x.code ++ _ = _
  rw [h.code.2.2.2, List.nil_append]
theorem ItNew.below {w w' : World} {B B' : Nat} {r : RawI} {x : Rl.It} (h : ItNew w B r x) (hb : Below B' w w') (hB : w.heap.size ≤ B') : ItNew w' B r x :=
  ⟨h.kind, h.line, h.name, h.targets.below hb hB, h.words.below hb hB, h.code⟩
theorem ItNew.blk {w : World} {B : Nat} {r : RawI} {x : Rl.It} (h : ItNew w B r x) {g : Nat} (hg : InBlk r g) : B ≤ g ∧ g < w.heap.size := by
  rcases hg with hg | hg
  · exact h.targets.lt g hg
  · exact h.words.lt g hg
theorem ItOwn.blk {w : World} {base M : Nat} {r : RawI} {x : Rl.It} (h : ItOwn w base M r x) {g : Nat} (hg : InBlk r g) : M ≤ g ∧ g < w.heap.size := by
  rcases hg with hg | hg
  · exact h.targets.lt g hg
  · exact h.words.lt g hg
/-- one item more -/
theorem ItsOwn.push {w w' : World} {base M : Nat} {v v' : Value} {ps : List (RawI × Rl.It)} {r : RawI} {x : Rl.It} (hO : ItR.Own w M v (ps.map Prod.fst)) (h3 : ∀ p ∈ ps, ItOwn w base M p.1 p.2) (hpw : ps.Pairwise Rise) (hx : ItOwn w base M r x) (hO' : ItR.Own w' M v' (ps.map Prod.fst ++ [r])) (hg : w.grownBy w' v.ownBlock) (hr : ∀ p ∈ ps, Rise p (r, x)) :
    ItR.Own w' M v' ((ps ++ [(r, x)]).map Prod.fst) ∧ (∀ p ∈ ps ++ [(r, x)], ItOwn w' base M p.1 p.2) ∧ (ps ++ [(r, x)]).Pairwise Rise := by
  refine ⟨by rw [List.map_append]; exact hO', fun p hp => ?_, List.pairwise_append.2 ⟨hpw, List.pairwise_singleton _ _, fun p hp q hq => by rw [List.mem_singleton.1 hq]; exact hr p hp⟩⟩
  rcases List.mem_append.1 hp with h | h
  · exact (h3 p h).grown hO hg
  · rw [List.mem_singleton] at h
    rw [h]; exact hx.grown hO hg

end Go.Proofs.Ythpipbkbldlfjaa
