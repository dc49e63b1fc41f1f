/-
  A RULE's DEP WRITTEN OVER; the rules from one on.
-/
import Derived.Test.YtppcfidaalejfaaDpMrgK
namespace Go.Proofs.Ytppcfidaalejfaa
open Go.RowKit

/-- the rules from the m-th on -/
theorem DrS.tail {w : World} {B : Nat} {ad : Option Addr} {n c : Nat} {L : List Dp.Rule} (h : DrS w B (.slice ad n c) L) (m : Nat) (hm : m ≤ L.length) :
    ∃ A, (∀ W : World, (Instr.slice 23 (.slice ad n c) (some (.int .i64 (m : Int))) none none).run Try.prog W = .ok (.slice A (n - m) (c - m)) W) ∧ DrS w B (.slice A (n - m) (c - m)) (L.drop m) := by
  obtain ⟨ps, h1, rfl, h3⟩ := h
  rw [List.length_map] at hm
  obtain ⟨A, hA, hS⟩ := Rc.slice_tail h1 m (by rw [List.length_map]; exact hm)
  exact ⟨A, hA, ps.drop m, by rw [List.map_drop]; exact hS, by rw [List.map_drop], fun p hp => h3 p (List.mem_of_mem_drop hp)⟩
theorem Drs.s {w : World} {base : Nat} {v : Value} {ps : List (RawD × Dp.Rule)} (h : Drs w base v ps) : DrS w w.heap.size v (ps.map Prod.snd) := h.own.s
/-- a dep of a rule, written over -/
theorem Drs.setText {w : World} {base : Nat} {v : Value} {ps : List (RawD × Dp.Rule)} (h : Drs w base v ps) {k f : Nat} (hk : k < ps.length) (hf : f < ps[k].2.2.length) (x : List UInt8) :
    ∃ gd cap, ps[k].1.deps = .slice (some ⟨gd, 0, none⟩) ps[k].2.2.length cap ∧ base ≤ gd ∧ w.frozen? ⟨gd, f, none⟩ = false ∧ w.cell? ⟨gd, f, none⟩ = some (.string (str ps[k].2.2[f])) ∧ Drs (w.setCell ⟨gd, f, none⟩ (.string (str x))) base v (ps.set k (ps[k].1, (ps[k].2.1, ps[k].2.2.set f x))) := by
  have hO := (h.its ps[k] (List.getElem_mem hk)).2
  obtain ⟨gd, cap, e, hgb, -, hfr, hset⟩ := Rc.Own.set hO f 0 hf (by decide)
  obtain ⟨b5, o5, c5, e5, -, r5⟩ := BR.ix hO.sl hf
  rw [e] at e5
  simp only [Value.slice.injEq, Option.some.injEq, Addr.mk.injEq, and_true] at e5
  obtain ⟨⟨rfl, rfl⟩, -, -⟩ := e5
  rw [Nat.zero_add] at r5
  have hfo : f * BR.k + 0 = f := by show f * 1 + 0 = f; omega
  rw [hfo] at hfr hset
  have hset' := hset x (.string (str x)) rfl
  have hTu : Turn [gd] w (w.setCell ⟨gd, f, none⟩ (.string (str x))) := (Turn.refl [gd] w).set (fun _ => by simp) _
  refine ⟨gd, cap, e, hgb, hfr, r5, ?_, ?_, ?_⟩
  · rw [List.map_set]
    have e2 : (ps.map Prod.fst).set k ps[k].1 = ps.map Prod.fst := by
      have : ps[k].1 = (ps.map Prod.fst)[k]'(by rw [List.length_map]; exact hk) := by simp
      rw [this, List.set_getElem_self]
    rw [e2]
    refine Row.turn h.row hTu fun q hq hm => ?_
    rw [List.mem_singleton] at hm
    subst hm
    exact (own_apart h.row hO (by decide)).elim (fun h0 => by rw [h0] at hq; cases hq) (fun h0 => h0 (by rw [hq, e]; rfl))
  · intro p hp
    rw [List.mem_iff_getElem] at hp
    obtain ⟨j, hj, rfl⟩ := hp
    rw [List.length_set] at hj
    rw [List.getElem_set]
    by_cases hjk : k = j
    · subst hjk
      rw [if_pos rfl]
      exact ⟨(h.its ps[k] (List.getElem_mem hk)).1, hset'⟩
    · rw [if_neg hjk]
      have hp := h.its ps[j] (List.getElem_mem hj)
      refine ⟨hp.1, Row.turn hp.2 hTu fun q hq hm => ?_⟩
      rw [List.mem_singleton] at hm
      subst hm
      have hkq : ps[k].1.deps.ownBlock = some q := by rw [e]; rfl
      rcases Nat.lt_or_gt_of_ne hjk with hlt | hlt
      · exact (List.pairwise_iff_getElem.1 h.apart k j hk hj hlt) q hkq hq
      · exact (List.pairwise_iff_getElem.1 h.apart j k hj hk hlt) q hq hkq
  · rw [List.pairwise_iff_getElem]
    intro a b ha hb hab
    rw [List.length_set] at ha hb
    have hap := List.pairwise_iff_getElem.1 h.apart a b ha hb hab
    have hs : ∀ j (hj : j < ps.length), ((ps.set k (ps[k].1, (ps[k].2.1, ps[k].2.2.set f x)))[j]'(by rw [List.length_set]; exact hj)).1 = ps[j].1 := fun j hj => by
      rw [List.getElem_set]
      by_cases h0 : k = j
      · subst h0; rw [if_pos rfl]
      · rw [if_neg h0]
    intro q hq
    rw [hs a ha] at hq
    rw [hs b hb]
    exact hap q hq

end Go.Proofs.Ytppcfidaalejfaa
