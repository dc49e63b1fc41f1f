/-
  A READING, PIECE BY PIECE, AS THE DOCUMENT's Parse GOES; words beside rules.
-/
import Derived.Test.YtppcfidaalejfaaDpPc
import Derived.Test.YtppcfidaalejfaaDpMrgK
import Derived.Test.YtppcfidaalejfaaRw
namespace Go.Proofs.Ytppcfidaalejfaa
open Go.RowKit

namespace Dp
/-- what is read so far: the pieces from the k-th on are to come -/
def Rdx (PS : List (Pc × Nat)) (k : Nat) (W : List B) (m : Bool) (out : List Rule) (st : Rd) : Prop :=
  st.flush = ⟨W, none, m, out⟩ ∧ (st.cur = none ∨ ∀ c, (PS.getD k noP).1 ≠ .byte c) ∧ run PS Rd.zero = run (PS.drop k) st
theorem run_at {PS : List (Pc × Nat)} {k : Nat} (hk : k < PS.length) (st : Rd) : run (PS.drop k) st = match st.step (PS.getD k noP).1 with
    | none => .inl (PS.getD k noP).2
    | some t => run (PS.drop (k + 1)) t := by
  have e : PS.getD k noP = PS[k] := by simp [List.getD, List.getElem?_eq_getElem hk]
  rw [List.drop_eq_getElem_cons hk, run, e]
  cases st.step PS[k].1 <;> rfl
theorem flush_cur (s : Rd) : s.flush.cur = none := by
  unfold Rd.flush
  cases h : s.cur with
  | none => exact h
  | some w => rfl
theorem flush_none {s : Rd} (h : s.cur = none) : s.flush = s := by unfold Rd.flush; rw [h]
theorem flush_mark (s : Rd) : s.flush.mark = s.mark := by unfold Rd.flush; split <;> rfl
section
variable {PS : List (Pc × Nat)} {k : Nat} {W : List B} {m : Bool} {out : List Rule} {st : Rd}
theorem Rdx.zero : Rdx PS 0 [] false [] Rd.zero := ⟨rfl, .inl rfl, rfl⟩
theorem Rdx.of {t : Rd} (hc : t = ⟨W, none, m, out⟩) (h : run PS Rd.zero = run (PS.drop k) t) : Rdx PS k W m out t := by
  subst hc
  exact ⟨rfl, .inl rfl, h⟩
theorem Rdx.blank (h : Rdx PS k W m out st) (hk : k < PS.length) (hp : (PS.getD k noP).1 = .blank) : Rdx PS (k + 1) W m out ⟨W, none, m, out⟩ := by
  refine .of rfl ?_
  rw [h.2.2, run_at hk, hp]
  show run _ st.flush = _
  rw [h.1]
theorem Rdx.mark (h : Rdx PS k W m out st) (hk : k < PS.length) (hp : (PS.getD k noP).1 = .mark) (hw : W ≠ []) (hm : m = false) : Rdx PS (k + 1) W true out ⟨W, none, true, out⟩ := by
  refine .of rfl ?_
  rw [h.2.2, run_at hk, hp]
  have hs : st.mark = false := by rw [← flush_mark, h.1]; exact hm
  have e : st.step .mark = some ⟨W, none, true, out⟩ := by
    show (if st.flush.words = [] ∨ st.mark = true then none else some { st.flush with mark := true }) = _
    rw [h.1, hs, if_neg (by simp [hw])]
  rw [e]
theorem Rdx.markBad (h : Rdx PS k W m out st) (hk : k < PS.length) (hp : (PS.getD k noP).1 = .mark) (hw : W = [] ∨ m = true) : run PS Rd.zero = .inl (PS.getD k noP).2 := by
  rw [h.2.2, run_at hk, hp]
  have hs : st.mark = m := by rw [← flush_mark, h.1]
  have e : st.step .mark = none := by
    show (if st.flush.words = [] ∨ st.mark = true then none else some { st.flush with mark := true }) = _
    rw [h.1, hs, if_pos hw]
  rw [e]
theorem Rdx.fin0 (h : Rdx PS k [] m out st) (hk : k < PS.length) (hp : (PS.getD k noP).1 = .fin) : Rdx PS (k + 1) [] false out ⟨[], none, false, out⟩ := by
  refine .of rfl ?_
  rw [h.2.2, run_at hk, hp]
  have e : st.step .fin = some ⟨[], none, false, out⟩ := by
    unfold Rd.step
    rw [h.1]
  rw [e]
theorem Rdx.fin {t : B} {d : List B} (h : Rdx PS k (t :: d) true out st) (hk : k < PS.length) (hp : (PS.getD k noP).1 = .fin) : Rdx PS (k + 1) [] false (out ++ [(t, d)]) ⟨[], none, false, out ++ [(t, d)]⟩ := by
  refine .of rfl ?_
  rw [h.2.2, run_at hk, hp]
  have hs : st.mark = true := by rw [← flush_mark, h.1]
  have ho : st.out = out := by
    have := congrArg Rd.out h.1
    unfold Rd.flush at this
    split at this <;> exact this
  have e : st.step .fin = some ⟨[], none, false, out ++ [(t, d)]⟩ := by
    unfold Rd.step
    rw [h.1]
    simp only [hs, ho, if_true]
  rw [e]
theorem Rdx.finBad {t : B} {d : List B} (h : Rdx PS k (t :: d) false out st) (hk : k < PS.length) (hp : (PS.getD k noP).1 = .fin) : run PS Rd.zero = .inl (PS.getD k noP).2 := by
  rw [h.2.2, run_at hk, hp]
  have hs : st.mark = false := by rw [← flush_mark, h.1]
  have e : st.step .fin = none := by
    unfold Rd.step
    rw [h.1]
    simp [hs]
  rw [e]
theorem Rdx.eq {c : UInt8} (h : Rdx PS k W m out st) (hp : (PS.getD k noP).1 = .byte c) : st = ⟨W, none, m, out⟩ := by
  rcases h.2.1 with h0 | h0
  · rw [← flush_none h0, h.1]
  · exact absurd hp (h0 c)
theorem Rdx.byteBad {c : UInt8} (h : Rdx PS k W m out st) (hk : k < PS.length) (hp : (PS.getD k noP).1 = .byte c) (hw : W.length = 1) (hm : m = false) : run PS Rd.zero = .inl (PS.getD k noP).2 := by
  have e := h.eq hp
  rw [h.2.2, run_at hk, hp, e]
  have e2 : Rd.step ⟨W, none, m, out⟩ (.byte c) = none := by
    show (if W.length = 1 ∧ m = false then none else _) = _
    rw [if_pos ⟨hw, hm⟩]
  rw [e2]
theorem Rdx.byte {c : UInt8} (h : Rdx PS k W m out st) (hk : k < PS.length) (hp : (PS.getD k noP).1 = .byte c) (hw : ¬ (W.length = 1 ∧ m = false)) : run PS Rd.zero = run (PS.drop (k + 1)) ⟨W, some [c], m, out⟩ := by
  have e := h.eq hp
  rw [h.2.2, run_at hk, hp, e]
  have e2 : Rd.step ⟨W, none, m, out⟩ (.byte c) = some ⟨W, some [c], m, out⟩ := by
    show (if W.length = 1 ∧ m = false then none else _) = _
    rw [if_neg hw]
  rw [e2]
theorem byte_more {X : B} {c : UInt8} (h : run PS Rd.zero = run (PS.drop k) ⟨W, some X, m, out⟩) (hk : k < PS.length) (hp : (PS.getD k noP).1 = .byte c) : run PS Rd.zero = run (PS.drop (k + 1)) ⟨W, some (X ++ [c]), m, out⟩ := by
  rw [h, run_at hk, hp]
  rfl
theorem Rdx.word {X : B} (h : run PS Rd.zero = run (PS.drop k) ⟨W, some X, m, out⟩) (hp : ∀ c, (PS.getD k noP).1 ≠ .byte c) : Rdx PS k (W ++ [X]) m out ⟨W, some X, m, out⟩ := ⟨rfl, .inr hp, h⟩
theorem Rdx.done (h : Rdx PS PS.length W m out st) : ∃ s, run PS Rd.zero = .inr s ∧ s.out = out := by
  refine ⟨st, ?_, ?_⟩
  · rw [h.2.2, List.drop_length]; rfl
  · have := congrArg Rd.out h.1
    unfold Rd.flush at this
    split at this <;> exact this
end
theorem getD_last {PS : List (Pc × Nat)} {k : Nat} (h : PS.length ≤ k) : ∀ c, (PS.getD k noP).1 ≠ .byte c := by
  intro c
  simp [List.getD, List.getElem?_eq_none h, noP]
end Dp

/-- what Parse answers, at work: where it goes wrong, or the rules, all that they are made of the call's own -/
def PsDEnd (w w' : World) (e : Ending) (r : (Int × Nat) ⊕ List Dp.Rule) : Prop := match r with
  | .inl x => e = .returned (.tuple #[.slice none 0 0, .agg #[.int .i64 x.1, .int .i64 (x.2 : Int)]]) ∧ Below w.heap.size w w'
  | .inr l => ∃ v, e = .returned (.tuple #[v, .agg #[.int .i64 0, .int .i64 0]]) ∧ DrOwn w' w.heap.size v l ∧ Below w.heap.size w w'
theorem below_new (w : World) (o : Obj) : Below w.heap.size w (w.alloc o) := (Below.refl w.heap.size w).alloc (Nat.le_refl _) o
theorem Drs.turn {w w' : World} {base : Nat} {v : Value} {ps : List (RawD × Dp.Rule)} {S : List Nat} (h : Drs w base v ps) (hT : Turn S w w') (hS : ∀ x ∈ S, x < base) : Drs w' base v ps :=
  ⟨Row.turn h.row hT fun g hg hm => by have := (h.row.lt g hg).1; have := hS g hm; omega, fun p hp => ⟨(h.its p hp).1, Row.turn (h.its p hp).2 hT fun g hg hm => by have := ((h.its p hp).2.lt g hg).1; have := hS g hm; omega⟩, h.apart⟩
/-- words' row grown: rules stay -/
theorem Drs.grownW {w w' : World} {base b : Nat} {v vw : Value} {ps : List (RawD × Dp.Rule)} {Wd : List (List UInt8)} (h : Drs w base v ps) (hw : BR.Own w b vw Wd) (hg : w.grownBy w' vw.ownBlock) (hap : ∀ g, vw.ownBlock = some g → ∀ p ∈ ps, p.1.deps.ownBlock ≠ some g) : Drs w' base v ps := by
  refine ⟨World.ownsRow.kept h.row hg ?_, fun p hp => ⟨(h.its p hp).1, World.ownsRow.kept (h.its p hp).2 hg ?_⟩, h.apart⟩
  · exact own_apart h.row hw (by decide)
  · cases hb : p.1.deps.ownBlock with
    | none => exact .inl rfl
    | some q =>
      right
      intro e
      exact hap q e.symm p hp hb

/-- a rule is laid: its deps copied, then itself put behind the others -/
theorem Drs.laid {wr wF X wG : World} {base g cap : Nat} {vo v' : Value} {ps : List (RawD × Dp.Rule)} {t : List UInt8} {d : List (List UInt8)} (h : Drs wr base vo ps) (hbs : base ≤ wr.heap.size) (hF : BR.Own wF wr.heap.size (.slice (some ⟨g, 0, none⟩) d.length cap) d) (hb : Below wr.heap.size wr wF) (hX : Below wF.heap.size wF X)
    (hO : DrR.Own wG base v' (ps.map Prod.fst ++ [⟨t, some ⟨g, 0, none⟩, d.length, cap⟩])) (hg : X.grownBy wG vo.ownBlock) :
    Drs wG base v' (ps ++ [(⟨t, some ⟨g, 0, none⟩, d.length, cap⟩, (t, d))]) ∧ Below base wr wG := by
  have hXF : Below wr.heap.size wr X := hb.trans (hX.mono hb.size)
  have h' : Drs X base vo ps := h.below hXF (Nat.le_refl _)
  have hFX : BR.Own X base (.slice (some ⟨g, 0, none⟩) d.length cap) d := (hF.low hbs).below hX (Nat.le_refl _)
  refine ⟨h'.push (by rw [List.map_append]; exact hO) hg ⟨rfl, World.ownsRow.kept hFX hg (own_apart hFX h'.row (by decide))⟩ fun q hq p hp e => ?_, (hXF.mono hbs).grown hg (Nat.le_trans hbs hXF.size) fun q e => (h'.row.lt q e).1⟩
  have h1 := (hF.lt q hq).1
  have h2 := (h.lt hp e).2
  omega
/-- a word is put behind words -/
theorem words_push {W4 wq w5 : World} {b g : Nat} {vo vw : Value} {ps : List (RawD × Dp.Rule)} {Wd : List (List UInt8)} {o : Obj} (hD : Drs W4 b vo ps) (hW : BR.Own W4 b vw Wd) (hb : b ≤ W4.heap.size) (hB : Below W4.heap.size W4 wq) (hg : (wq.alloc o).grownBy w5 vw.ownBlock) (hwh : vw.ownBlock = some g ∨ g = wq.heap.size + 1) (hap : ∀ g, vw.ownBlock = some g → ∀ p ∈ ps, p.1.deps.ownBlock ≠ some g) :
    Drs w5 b vo ps ∧ (∀ p ∈ ps, p.1.deps.ownBlock ≠ some g) ∧ Below b W4 w5 := by
  have hBa : Below W4.heap.size W4 (wq.alloc o) := hB.alloc hB.size o
  have hDa := hD.below hBa (Nat.le_refl _)
  have hWa := hW.below hBa (Nat.le_refl _)
  refine ⟨hDa.grownW hWa hg hap, fun p hp e => ?_, (hBa.mono hb).grown hg (Nat.le_trans hb hBa.size) fun q e => (hWa.lt q e).1⟩
  rcases hwh with h | h
  · exact hap g h p hp e
  · have h1 := (hD.lt hp e).2
    have h2 := hB.size
    omega

end Go.Proofs.Ytppcfidaalejfaa
