/-
  ONE LINE OF A ROW OF LINES, ITS WORDS CHANGED; a row's head and tail.
-/
import Derived.Test.YtdknggccjhillaaZLines
import Derived.Test.YtdknggccjhillaaRecSet
namespace Go.Proofs.Ytdknggccjhillaa
open Go.RowKit

theorem LnsS.head {w : World} {B : Nat} {ad : Option Addr} {n c : Nat} {L : List Lx.L} (h : LnsS w B (.slice ad n c) L) (m : Nat) (hm : m ≤ L.length) : LnsS w B (.slice ad m c) (L.take m) := by
  obtain ⟨ps, h1, rfl, h3⟩ := h
  rw [List.length_map] at hm
  have := h1.head m (by rw [List.length_map]; exact hm)
  rw [← List.map_take] at this
  exact ⟨ps.take m, this, by rw [List.map_take], fun p hp => h3 p (List.mem_of_mem_take hp)⟩
theorem LnsS.tail {w : World} {B : Nat} {ad : Option Addr} {n c : Nat} {L : List Lx.L} (h : LnsS w B (.slice ad n c) L) (m : Nat) (hm : m ≤ L.length) :
    ∃ A, (∀ W : World, (Instr.slice 24 (.slice ad n c) (some (.int .i64 (m : Int))) none none).run Try.prog W = .ok (.slice A (n - m) (c - m)) W) ∧ LnsS w B (.slice A (n - m) (c - m)) (L.drop m) := by
  obtain ⟨ps, h1, rfl, h3⟩ := h
  rw [List.length_map] at hm
  obtain ⟨A, hA, hS⟩ := Rc.slice_tail h1 m (by rw [List.length_map]; exact hm)
  rw [← List.map_drop] at hS
  exact ⟨A, hA, ps.drop m, hS, by rw [List.map_drop], fun p hp => h3 p (List.mem_of_mem_drop hp)⟩

/-- one line's words may be changed: the others stay -/
theorem LnsOwn.focus {w : World} {base : Nat} {v : Value} {L : List Lx.L} (h : LnsOwn w base v L) (i : Nat) (hi : i < L.length) (hne : (L.getD i Lx.noL).words ≠ []) :
    ∃ b c g cap, v = .slice (some ⟨b, 0, none⟩) L.length c ∧ b ≠ g ∧ base ≤ g ∧ g < w.heap.size ∧
      w.cell? ⟨b, i * 3, none⟩ = some (.int .i64 (L.getD i Lx.noL).num) ∧ w.cell? ⟨b, i * 3 + 1, none⟩ = some (.bool (L.getD i Lx.noL).ind) ∧ w.cell? ⟨b, i * 3 + 2, none⟩ = some (.slice (some ⟨g, 0, none⟩) (L.getD i Lx.noL).words.length cap) ∧
      WdR.Own w base (.slice (some ⟨g, 0, none⟩) (L.getD i Lx.noL).words.length cap) (L.getD i Lx.noL).words ∧
      ∀ (w' : World) (Ws : List Lx.V), Turn [g] w w' → WdR.Own w' base (.slice (some ⟨g, 0, none⟩) (L.getD i Lx.noL).words.length cap) Ws → LnsOwn w' base v (L.set i ⟨(L.getD i Lx.noL).num, (L.getD i Lx.noL).ind, Ws⟩) := by
  obtain ⟨b, o, c, ad, c2, e, hb, p0, p1, p2, hW⟩ := h.s.at i hi
  obtain ⟨ps, h1, rfl, h3, h4⟩ := h
  rw [List.length_map] at hi
  have hg : (ps.map Prod.snd).getD i Lx.noL = ps[i].2 := by simp [List.getD, List.getElem?_eq_getElem hi]
  rw [hg] at hne p0 p1 p2 hW ⊢
  have hm := List.getElem_mem hi
  obtain ⟨k1, k2, k3⟩ := h3 ps[i] hm
  obtain ⟨raw, x, hrx⟩ : ∃ raw x, ps[i] = (raw, x) := ⟨_, _, rfl⟩
  rw [hrx] at hne p0 p1 p2 hW k1 k2 k3 ⊢
  simp only at hne p0 p1 p2 hW k1 k2 k3 ⊢
  have hwl : 0 < x.words.length := List.length_pos_iff.2 hne
  obtain ⟨g, cap, ew, hg1, hg2, -, -⟩ := k3.set 0 0 hwl (by decide)
  have k3' := k3
  obtain ⟨gb, capb, eb, -, -, -, -⟩ := h1.set i 0 (by rw [List.length_map]; exact hi) (by decide)
  rw [List.length_map] at eb
  rw [eb] at e
  simp only [Value.slice.injEq, Option.some.injEq, Addr.mk.injEq, List.length_map] at e
  obtain ⟨⟨rfl, rfl, -⟩, -, rfl⟩ := e
  rw [Nat.zero_add] at p0 p1 p2
  have hne1 : gb ≠ g := by
    have := own_apart k3 h1 (by decide)
    rw [ew, eb] at this
    simp only [Value.ownBlock] at this
    rcases this with h | h
    · cases h
    · intro e; subst e; exact h rfl
  refine ⟨gb, capb, g, cap, by rw [eb, List.length_map], hne1, hg1, hg2, p0, p1, ?_, ?_, fun w' Ws ht hWs => ?_⟩
  · have hl := h1.sl.cells i (by rw [List.length_map]; exact hi)
    obtain ⟨b', o', c', e', -, hc⟩ := hl
    rw [eb] at e'
    simp only [Value.slice.injEq, Option.some.injEq, Addr.mk.injEq, List.length_map] at e'
    obtain ⟨⟨rfl, rfl, -⟩, -, -⟩ := e'
    have := hc 2 raw.words (by decide) (by rw [List.getElem_map, hrx]; rfl)
    rw [Nat.zero_add] at this
    rw [← ew]; exact this
  · rw [← ew]; exact k3
  · have hlr : LnR.Own w' base v (ps.map Prod.fst) := Row.turn h1 ht fun g' e hm' => by
      rw [eb] at e
      simp only [Value.ownBlock, Option.some.injEq] at e
      rw [List.mem_singleton] at hm'
      omega
    refine ⟨ps.set i (raw, ⟨x.num, x.ind, Ws⟩), ?_, ?_, ?_, ?_⟩
    · have : (ps.set i (raw, ⟨x.num, x.ind, Ws⟩)).map Prod.fst = ps.map Prod.fst := by
        rw [List.map_set]
        apply List.ext_getElem?
        intro j
        rw [List.getElem?_set]
        split
        · rename_i hj
          subst hj
          rw [List.length_map, if_pos hi, List.getElem?_map, List.getElem?_eq_getElem hi, hrx]
          rfl
        · rfl
      rw [this]; exact hlr
    · rw [List.map_set]
    · intro p hp
      rw [List.mem_iff_getElem] at hp
      obtain ⟨j, hj, rfl⟩ := hp
      rw [List.length_set] at hj
      rw [List.getElem_set]
      split
      · rename_i hij
        subst hij
        refine ⟨k1, k2, ?_⟩
        show WdR.Own w' base raw.words Ws
        rw [ew]; exact hWs
      · rename_i hij
        obtain ⟨m1, m2, m3⟩ := h3 ps[j] (List.getElem_mem hj)
        refine ⟨m1, m2, Row.turn m3 ht fun g' e hm' => ?_⟩
        rw [List.mem_singleton] at hm'
        subst hm'
        rcases Nat.lt_or_ge i j with hlt | hge
        · have := List.pairwise_iff_getElem.1 h4 i j hi hj hlt g' (by rw [hrx]; show raw.words.ownBlock = _; rw [ew]; rfl)
          exact this e
        · have := List.pairwise_iff_getElem.1 h4 j i hj hi (by omega) g' e
          rw [hrx] at this
          exact this (by show raw.words.ownBlock = _; rw [ew]; rfl)
    · rw [List.pairwise_iff_getElem] at h4 ⊢
      intro a c' ha hc' hac
      rw [List.length_set] at ha hc'
      have key : ∀ (j : Nat) (hj : j < ps.length), ((ps.set i (raw, ⟨x.num, x.ind, Ws⟩))[j]'(by rw [List.length_set]; exact hj)).1 = ps[j].1 := by
        intro j hj
        rw [List.getElem_set]
        split
        · rename_i hij; subst hij; rw [hrx]
        · rfl
      intro g' e
      rw [key a ha] at e
      rw [key c' hc']
      exact h4 a c' ha hc' hac g' e

end Go.Proofs.Ytdknggccjhillaa
