/-
  ROWS OF RULES OF A DEPFILE: texts by their bytes, a rule as it lies, rows of rules, each rule's deps in a row of its own.
-/
import Derived.Test.YtppcfidaalejfaaPBs
import Derived.Test.YtppcfidaalejfaaDpMath
namespace Go.Proofs.Ytppcfidaalejfaa
open Go.RowKit

/-- a rule as it lies in a row -/
structure RawD where
  t : List UInt8
  ad : Option Addr
  n : Nat
  c : Nat
def RawD.deps (r : RawD) : Value := .slice r.ad r.n r.c
def DrR : Rc RawD where
  e := 32
  st := 23
  k := 2
  bytes := 40
  z := .agg #[.string .empty, .slice none 0 0]
  enc r := [.string (str r.t), .slice r.ad r.n r.c]
  pos := by decide
  len _ := rfl
  one f u hu := by
    simp only [List.mem_cons, List.not_mem_nil, or_false] at hu
    rcases hu with rfl | rfl <;> rfl
  info := by kernel_rfl
  under := Try.underlying23
  zk := rfl
  small := by decide
/-- a rule as it lies, and what it tells -/
def DrOf (w : World) (base : Nat) (r : RawD) (x : Dp.Rule) : Prop := r.t = x.1 ∧ BR.Own w base r.deps x.2
/-- two rules' deps lie in two blocks -/
def ApartD (p q : RawD × Dp.Rule) : Prop := ∀ g, p.1.deps.ownBlock = some g → q.1.deps.ownBlock ≠ some g
/-- v is a row of rules, all of it among the blocks from base on; each rule's deps lie in a block of their own -/
def DrOwn (w : World) (base : Nat) (v : Value) (L : List Dp.Rule) : Prop :=
  ∃ ps : List (RawD × Dp.Rule), DrR.Own w base v (ps.map Prod.fst) ∧ L = ps.map Prod.snd ∧ (∀ p ∈ ps, DrOf w base p.1 p.2) ∧ ps.Pairwise ApartD

theorem DrOf.below {w w' : World} {base B : Nat} {r : RawD} {x : Dp.Rule} (h : DrOf w base r x) (hb : Below B w w') (hB : w.heap.size ≤ B) : DrOf w' base r x := ⟨h.1, h.2.below hb hB⟩
theorem DrOf.alloc {w : World} {base : Nat} {r : RawD} {x : Dp.Rule} (h : DrOf w base r x) (o : Obj) : DrOf (w.alloc o) base r x := ⟨h.1, h.2.alloc o⟩
theorem DrOf.low {w : World} {b b' : Nat} {r : RawD} {x : Dp.Rule} (h : DrOf w b r x) (hb : b' ≤ b) : DrOf w b' r x := ⟨h.1, h.2.low hb⟩
/-- rows of two types lie in two blocks -/
theorem own_apart {α β : Type} {R : Rc α} {S : Rc β} {w : World} {b1 b2 : Nat} {u v : Value} {l : List α} {m : List β} (hu : R.Own w b1 u l) (hv : S.Own w b2 v m) (he : R.e ≠ S.e) : u.ownBlock = none ∨ u.ownBlock ≠ v.ownBlock := by
  rcases hu.2 with ⟨rfl, -⟩ | ⟨g, cap, cur, rfl, -, hg, -⟩
  · exact .inl rfl
  · rcases hv.2 with ⟨rfl, -⟩ | ⟨g', cap', cur', rfl, -, hg', -⟩
    · right; simp [Value.ownBlock]
    · right
      simp only [Value.ownBlock, ne_eq, Option.some.injEq]
      rintro rfl
      rw [hg] at hg'
      simp only [Option.some.injEq, Obj.cells.injEq] at hg'
      exact he hg'.2.1
theorem DrOf.grown {w w' : World} {base : Nat} {r : RawD} {x : Dp.Rule} {v : Value} {rl : List RawD} {b' : Nat} (h : DrOf w base r x) (hv : DrR.Own w b' v rl) (hg : w.grownBy w' v.ownBlock) : DrOf w' base r x :=
  ⟨h.1, World.ownsRow.kept h.2 hg (own_apart h.2 hv (by decide))⟩
theorem DrOwn.nil (w : World) (base : Nat) : DrOwn w base (.slice none 0 0) [] := ⟨[], Rc.Own.nil _ _, rfl, (fun _ h => by cases h), .nil⟩
theorem DrOwn.below {w w' : World} {base B : Nat} {v : Value} {L : List Dp.Rule} (h : DrOwn w base v L) (hb : Below B w w') (hB : w.heap.size ≤ B) : DrOwn w' base v L := by
  obtain ⟨ps, h1, h2, h3, h4⟩ := h
  exact ⟨ps, h1.below hb hB, h2, (fun p hp => (h3 p hp).below hb hB), h4⟩
theorem DrOwn.low {w : World} {b b' : Nat} {v : Value} {L : List Dp.Rule} (h : DrOwn w b v L) (hb : b' ≤ b) : DrOwn w b' v L := by
  obtain ⟨ps, h1, h2, h3, h4⟩ := h
  exact ⟨ps, h1.low hb, h2, (fun p hp => (h3 p hp).low hb), h4⟩
theorem DrOwn.alloc {w : World} {base : Nat} {v : Value} {L : List Dp.Rule} (h : DrOwn w base v L) (o : Obj) : DrOwn (w.alloc o) base v L := by
  obtain ⟨ps, h1, h2, h3, h4⟩ := h
  exact ⟨ps, h1.alloc o, h2, (fun p hp => (h3 p hp).alloc o), h4⟩
theorem DrOwn.isSl {w : World} {base : Nat} {v : Value} {L : List Dp.Rule} (h : DrOwn w base v L) : ∃ ad n c, v = .slice ad n c := by
  obtain ⟨ps, h1, -, -⟩ := h
  exact h1.isSl

/-- v reads as rules -/
def DrS (w : World) (B : Nat) (v : Value) (L : List Dp.Rule) : Prop :=
  ∃ ps : List (RawD × Dp.Rule), DrR.Sl w B v (ps.map Prod.fst) ∧ L = ps.map Prod.snd ∧ ∀ p ∈ ps, p.1.t = p.2.1 ∧ BR.Sl w B p.1.deps p.2.2
theorem DrOwn.s {w : World} {base : Nat} {v : Value} {L : List Dp.Rule} (h : DrOwn w base v L) : DrS w w.heap.size v L := by
  obtain ⟨ps, h1, h2, h3, -⟩ := h
  exact ⟨ps, h1.sl, h2, fun p hp => ⟨(h3 p hp).1, (h3 p hp).2.sl⟩⟩
theorem DrS.below {w w' : World} {B B' : Nat} {v : Value} {L : List Dp.Rule} (h : DrS w B v L) (hb : Below B' w w') (hB : B ≤ B') : DrS w' B v L := by
  obtain ⟨ps, h1, h2, h3⟩ := h
  exact ⟨ps, h1.below hb hB, h2, fun p hp => ⟨(h3 p hp).1, (h3 p hp).2.below hb hB⟩⟩
theorem DrS.mono {w : World} {B B' : Nat} {v : Value} {L : List Dp.Rule} (h : DrS w B v L) (hB : B ≤ B') : DrS w B' v L := by
  obtain ⟨ps, h1, h2, h3⟩ := h
  exact ⟨ps, h1.mono hB, h2, fun p hp => ⟨(h3 p hp).1, (h3 p hp).2.mono hB⟩⟩
theorem DrS.nil (w : World) (B : Nat) : DrS w B (.slice none 0 0) [] := ⟨[], Rc.Sl.nil w B, rfl, fun _ h => by cases h⟩
theorem DrS.shape {w : World} {B : Nat} {v : Value} {L : List Dp.Rule} (h : DrS w B v L) : ∃ ad c, v = .slice ad L.length c ∧ L.length ≤ c := by
  obtain ⟨ps, h1, rfl, -⟩ := h
  obtain ⟨ad, c, e, hc⟩ := h1.shape
  rw [List.length_map] at e hc ⊢
  exact ⟨ad, c, e, hc⟩
def Dp.noR : Dp.Rule := ([], [])
/-- the cells of a rule, and its deps -/
theorem DrS.at {w : World} {B : Nat} {v : Value} {L : List Dp.Rule} (h : DrS w B v L) (j : Nat) (hj : j < L.length) :
    ∃ b o c ad c2, v = .slice (some ⟨b, o, none⟩) L.length c ∧ b < B ∧ w.cell? ⟨b, o + j * 2, none⟩ = some (.string (str (L.getD j Dp.noR).1)) ∧ w.cell? ⟨b, o + j * 2 + 1, none⟩ = some (.slice ad (L.getD j Dp.noR).2.length c2) ∧ BR.Sl w B (.slice ad (L.getD j Dp.noR).2.length c2) (L.getD j Dp.noR).2 := by
  obtain ⟨ps, h1, rfl, h3⟩ := h
  rw [List.length_map] at hj
  obtain ⟨b, o, c, e, hb, hc⟩ := h1.cells j (by rw [List.length_map]; exact hj)
  have hg : (ps.map Prod.snd).getD j Dp.noR = ps[j].2 := by simp [List.getD, List.getElem?_eq_getElem hj]
  rw [hg]
  obtain ⟨k1, k3⟩ := h3 ps[j] (List.getElem_mem hj)
  obtain ⟨ad, c2, e2, -⟩ := k3.shape
  rw [e2] at k3
  refine ⟨b, o, c, ad, c2, by rw [e]; simp, hb, ?_, ?_, k3⟩
  · rw [← k1]; exact hc 0 _ (by decide) (by simp [DrR])
  · rw [← e2]; exact hc 1 _ (by decide) (by simp [DrR, RawD.deps])

end Go.Proofs.Ytppcfidaalejfaa
