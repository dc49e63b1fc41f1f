/-
  LexLines: texts without lines.
-/
import Derived.Test.YtdknggccjhillaaYLines
import Derived.Test.YtdknggccjhillaaYSame
import Derived.Test.YtdknggccjhillaaLPlaces
import Derived.Test.YtdknggccjhillaaZFocus
namespace Go.Proofs.Ytdknggccjhillaa
open Go.RowKit

set_option maxRecDepth 1000000 in
theorem LinesT_long (s : ByteArray) (w : World) (hs : 32768 < s.size) :
    Calls Try.prog 15 #[.string s] w fun e w' => e = .returned (.tuple #[.slice none 0 0, .agg #[.int .i64 3, .int .i64 32768]]) ∧ Below w.heap.size w w' := by
  have i0 : (32768 : Int) < (s.size : Int) := by omega
  go_enter Try.func15, Try.ntmps15
  go_wp2
  refine bodyPost_ret (results_linesT rfl rfl (SV.new w 3 32768)) rfl ?_
  exact ⟨rfl, (Below.refl _ _).alloc (Nat.le_refl _) _⟩

set_option maxRecDepth 100000 in
set_option maxHeartbeats 4000000 in
/-- both answer no lines, and one spot -/
theorem lines_nil (s : ByteArray) (w : World) (x y : Int) (hs : s.size ≤ 262144)
    (hA : ∀ w : World, Calls Try.prog 14 #[.string s] w fun e w' => e = .returned (.tuple #[.slice none 0 0, .agg #[.int .i64 x, .int .i64 y]]) ∧ Below w.heap.size w w')
    (hT : ∀ w : World, Calls Try.prog 15 #[.string s] w fun e w' => e = .returned (.tuple #[.slice none 0 0, .agg #[.int .i64 x, .int .i64 y]]) ∧ Below w.heap.size w w') :
    Calls Try.prog 3 #[.string s] w fun e w' => e = .returned (.bool true) ∧ Below w.heap.size w w' := by
  have eS := eql_spot
  have nS := neq_spot
  have gS := guard_spot
  have dS : (decide (x = x ∧ y = y)) = true := by simp
  have hSm : ∀ w : World, Calls Try.prog 16 #[.slice none 0 0, .slice none 0 0] w fun e w' => e = .returned (.bool true) ∧ Below w.heap.size w w' := fun w => by
    refine (SameT_any _ _ [] [] w w.heap.size (LnsOwn.nil w w.heap.size).s (LnsOwn.nil w w.heap.size).s (by simp) (by simp)).mono ?_
    rintro e w' ⟨rfl, h⟩
    exact ⟨by simp, h⟩
  go_enter Try.func3, Try.ntmps3
  go_wp2_with fail
  refine (works_any _).mono ?_
  rintro e w1 ⟨rfl, hB1⟩
  have hlo := long_any s.size w1
  rw [decide_eq_false (by omega)] at hlo
  go_wp2_with fail
  refine hlo.mono ?_
  rintro e w2 ⟨rfl, rfl⟩
  clear hlo
  go_wp2_with fail
  refine (hA _).mono ?_
  rintro e w3 ⟨rfl, hB3⟩
  have hC3 := hB1.trans (hB3.mono hB1.size)
  have s3 := SV.new w3 x y
  have hD3 := hC3.alloc hC3.size (.cells #[.int .i64 x, .int .i64 y] 27)
  clear hC3 hB3 hB1
  go_wp2_with fail
  generalize w3.alloc (.cells #[.int .i64 x, .int .i64 y] 27) = W3 at *
  generalize w3.heap.size = p3 at *
  refine (hT _).mono ?_
  rintro e w4 ⟨rfl, hB4⟩
  have hC4 := hD3.trans (hB4.mono hD3.size)
  have s4 := (s3.below hB4).alloc (.cells #[.int .i64 x, .int .i64 y] 27)
  have t4 := SV.new w4 x y
  have hD4 := hC4.alloc hC4.size (.cells #[.int .i64 x, .int .i64 y] 27)
  clear hC4 hB4 hD3 s3
  go_wp2_with fail
  generalize w4.alloc (.cells #[.int .i64 x, .int .i64 y] 27) = W4 at *
  generalize w4.heap.size = p4 at *
  refine (hSm _).mono ?_
  rintro e w5 ⟨rfl, hB5⟩
  have s5 := s4.below hB5
  have t5 := t4.below hB5
  have hD5 := hD4.trans (hB5.mono hD4.size)
  clear hD4 hB5 s4 t4
  obtain ⟨x0, x1⟩ := s5.cells
  obtain ⟨y0, y1⟩ := t5.cells
  go_wp2
  go_loopw [9] (fun k w' => k = .int .i64 0 ∧ w5 = w') (fun _ _ => 0)
  case atStart => exact ⟨rfl, rfl⟩
  case round =>
  obtain ⟨rfl, rfl⟩ := hrel
  go_wp2_with fail
  refine (hA _).mono ?_
  rintro e w6 ⟨rfl, hB6⟩
  have hC6 := hD5.trans (hB6.mono hD5.size)
  have t6 := (t5.below hB6).alloc (.cells #[.int .i64 x, .int .i64 y] 27)
  have u6 := SV.new w6 x y
  have hD6 := hC6.alloc hC6.size (.cells #[.int .i64 x, .int .i64 y] 27)
  clear hC6 hB6 hD5 t5 s5 x0 x1 y0 y1
  go_wp2_with fail
  generalize w6.alloc (.cells #[.int .i64 x, .int .i64 y] 27) = W6 at *
  generalize w6.heap.size = p6 at *
  refine (hSm _).mono ?_
  rintro e w7 ⟨rfl, hB7⟩
  have hD7 := hD6.trans (hB7.mono hD6.size)
  obtain ⟨x0, x1⟩ := (t6.below hB7).cells
  obtain ⟨y0, y1⟩ := (u6.below hB7).cells
  clear t6 u6 hB7 hD6
  go_wp2
  go_ret
  exact ⟨rfl, hD7⟩

end Go.Proofs.Ytdknggccjhillaa

namespace Go.Proofs.Ytdknggccjhillaa
open Go.RowKit

/-- rows of lines that may be written over: all of their blocks lie from base on, below U -/
structure LnsU (w : World) (base U : Nat) (v : Value) (ps : List RawL) : Prop where
  row : LnR.Own w base v ps
  words : ∀ r ∈ ps, ∃ Ws, WdR.Own w base r.words Ws
  apart : ps.Pairwise fun p q => ∀ g, p.words.ownBlock = some g → q.words.ownBlock ≠ some g
  lt : ∀ g, v.ownBlock = some g → g < U
  ltw : ∀ r ∈ ps, ∀ g, r.words.ownBlock = some g → g < U
  few : ∀ r ∈ ps, r.n ≤ 98304
theorem LnsU.of {w : World} {base : Nat} {v : Value} {L : List Lx.L} (h : LnsOwn w base v L) (hf : ∀ x ∈ L, x.words.length ≤ 98304) : ∃ ps, ps.length = L.length ∧ LnsU w base w.heap.size v ps := by
  obtain ⟨ps, h1, rfl, h3, h4⟩ := h
  refine ⟨ps.map Prod.fst, by simp, h1, ?_, ?_, fun g e => (h1.lt g e).2, ?_, ?_⟩
  · intro r hr
    obtain ⟨p, hp, rfl⟩ := List.mem_map.1 hr
    exact ⟨_, (h3 p hp).2.2⟩
  · rw [List.pairwise_map]
    exact h4
  · intro r hr g e
    obtain ⟨p, hp, rfl⟩ := List.mem_map.1 hr
    exact ((h3 p hp).2.2.lt g e).2
  · intro r hr
    obtain ⟨p, hp, rfl⟩ := List.mem_map.1 hr
    obtain ⟨ad, c, e, -⟩ := (h3 p hp).2.2.sl.shape
    simp only [RawL.words, Value.slice.injEq] at e
    rw [e.2.1]
    exact hf _ (List.mem_map_of_mem hp)
theorem LnsU.below {w w' : World} {base U B : Nat} {v : Value} {ps : List RawL} (h : LnsU w base U v ps) (hb : Below B w w') (hB : w.heap.size ≤ B) : LnsU w' base U v ps :=
  ⟨h.row.below hb hB, fun r hr => let ⟨Ws, hW⟩ := h.words r hr; ⟨Ws, hW.below hb hB⟩, h.apart, h.lt, h.ltw, h.few⟩
theorem LnsOwn.turnS {w w' : World} {base : Nat} {S : List Nat} {v : Value} {L : List Lx.L} (h : LnsOwn w base v L) (ht : Turn S w w') (hS : ∀ x ∈ S, x < base) : LnsOwn w' base v L := by
  obtain ⟨ps, h1, h2, h3, h4⟩ := h
  refine ⟨ps, Row.turn h1 ht fun g e hm => ?_, h2, fun p hp => ⟨(h3 p hp).1, (h3 p hp).2.1, Row.turn (h3 p hp).2.2 ht fun g e hm => ?_⟩, h4⟩
  · have := (h1.lt g e).1
    have := hS g hm
    omega
  · have := ((h3 p hp).2.2.lt g e).1
    have := hS g hm
    omega
/-- a line's cells -/
theorem LnsU.at {w : World} {base U : Nat} {v : Value} {ps : List RawL} (h : LnsU w base U v ps) (i : Nat) (hi : i < ps.length) :
    ∃ b c, v = .slice (some ⟨b, 0, none⟩) ps.length c ∧ base ≤ b ∧ b < U ∧ w.cell? ⟨b, i * 3, none⟩ = some (.int .i64 ps[i].num) ∧ w.cell? ⟨b, i * 3 + 1, none⟩ = some (.bool ps[i].ind) ∧ w.cell? ⟨b, i * 3 + 2, none⟩ = some (.slice ps[i].ad ps[i].n ps[i].c) ∧ ∀ j, w.frozen? ⟨b, j, none⟩ = false := by
  obtain ⟨b, c, e, hb, -, -, -⟩ := h.row.set i 0 hi (by decide)
  obtain ⟨b', o', c', e', -, hc⟩ := h.row.sl.cells i hi
  have hfr : ∀ j, w.frozen? ⟨b, j, none⟩ = false := by
    rcases h.row.2 with ⟨rfl, -⟩ | ⟨g, cap, cur, e2, -, h3, -⟩
    · cases e
    · rw [e] at e2
      simp only [Value.slice.injEq, Option.some.injEq, Addr.mk.injEq] at e2
      obtain ⟨⟨rfl, -, -⟩, -, -⟩ := e2
      exact fun j => frozen_of_row w _ j _ _ h3
  have hlt := h.lt b (by rw [e]; rfl)
  rw [e] at e'
  simp only [Value.slice.injEq, Option.some.injEq, Addr.mk.injEq] at e'
  obtain ⟨⟨rfl, rfl, -⟩, -, -⟩ := e'
  have c0 := hc 0 _ (by decide) rfl
  have c1 := hc 1 _ (by decide) rfl
  have c2 := hc 2 _ (by decide) rfl
  rw [show 0 + (i * LnR.k + 0) = i * 3 by show 0 + (i * 3 + 0) = _; omega] at c0
  rw [show 0 + (i * LnR.k + 1) = i * 3 + 1 by show 0 + (i * 3 + 1) = _; omega] at c1
  rw [show 0 + (i * LnR.k + 2) = i * 3 + 2 by show 0 + (i * 3 + 2) = _; omega] at c2
  exact ⟨b, c, e, hb, hlt, c0, c1, c2, hfr⟩
/-- a line, written over -/
theorem LnsU.putLine {w : World} {base U b c : Nat} {ps : List RawL} (h : LnsU w base U (.slice (some ⟨b, 0, none⟩) ps.length c) ps) (i : Nat) (hi : i < ps.length) (num : Int) (ind : Bool) :
    LnsU (((w.setCell ⟨b, i * 3, none⟩ (.int .i64 num)).setCell ⟨b, i * 3 + 1, none⟩ (.bool ind)).setCell ⟨b, i * 3 + 2, none⟩ (.slice none 0 0)) base U (.slice (some ⟨b, 0, none⟩) ps.length c) (ps.set i ⟨num, ind, none, 0, 0⟩) := by
  have hT : Turn [b] w (((w.setCell ⟨b, i * 3, none⟩ (.int .i64 num)).setCell ⟨b, i * 3 + 1, none⟩ (.bool ind)).setCell ⟨b, i * 3 + 2, none⟩ (.slice none 0 0)) := (((Turn.refl [b] w).set (p := ⟨b, i * 3, none⟩) (fun _ => by simp) _).set (p := ⟨b, i * 3 + 1, none⟩) (fun _ => by simp) _).set (p := ⟨b, i * 3 + 2, none⟩) (fun _ => by simp) _
  have hr : LnR.Own (((w.setCell ⟨b, i * 3, none⟩ (.int .i64 num)).setCell ⟨b, i * 3 + 1, none⟩ (.bool ind)).setCell ⟨b, i * 3 + 2, none⟩ (.slice none 0 0)) base (.slice (some ⟨b, 0, none⟩) ps.length c) (ps.set i ⟨num, ind, none, 0, 0⟩) := by
    obtain ⟨b1, c1, e1, -, -, -, k1⟩ := h.row.set i 0 hi (by decide)
    simp only [Value.slice.injEq, Option.some.injEq, Addr.mk.injEq] at e1
    obtain ⟨⟨rfl, -, -⟩, -, -⟩ := e1
    have k1 := k1 ⟨num, ps[i].ind, ps[i].ad, ps[i].n, ps[i].c⟩ (.int .i64 num) rfl
    obtain ⟨b2, c2, e2, -, -, -, k2⟩ := k1.set i 1 (by rw [List.length_set]; exact hi) (by decide)
    simp only [Value.slice.injEq, Option.some.injEq, Addr.mk.injEq] at e2
    obtain ⟨⟨rfl, -, -⟩, -, -⟩ := e2
    have k2 := k2 ⟨num, ind, ps[i].ad, ps[i].n, ps[i].c⟩ (.bool ind) (by rw [List.getElem_set_self]; rfl)
    rw [List.set_set] at k2
    obtain ⟨b3, c3, e3, -, -, -, k3⟩ := k2.set i 2 (by rw [List.length_set]; exact hi) (by decide)
    simp only [Value.slice.injEq, Option.some.injEq, Addr.mk.injEq] at e3
    obtain ⟨⟨rfl, -, -⟩, -, -⟩ := e3
    have k3 := k3 ⟨num, ind, none, 0, 0⟩ (.slice none 0 0) (by rw [List.getElem_set_self]; rfl)
    rw [List.set_set] at k3
    exact k3
  refine ⟨hr, ?_, ?_, h.lt, ?_, ?_⟩
  · intro r hm
    rcases List.mem_or_eq_of_mem_set hm with hm | rfl
    · obtain ⟨Ws, hW⟩ := h.words r hm
      refine ⟨Ws, Row.turn hW hT fun g e hg => ?_⟩
      rw [List.mem_singleton] at hg
      subst hg
      have := own_apart hW h.row (by decide)
      rw [e] at this
      rcases this with h | h
      · cases h
      · exact h rfl
    · exact ⟨[], Rc.Own.nil _ _⟩
  · rw [List.pairwise_iff_getElem]
    intro x y hx hy hxy g e1 e2
    rw [List.length_set] at hx hy
    rw [List.getElem_set] at e1 e2
    split at e1
    · cases e1
    · split at e2
      · cases e2
      · exact List.pairwise_iff_getElem.1 h.apart x y hx hy hxy g e1 e2
  · intro r hm g e
    rcases List.mem_or_eq_of_mem_set hm with hm | rfl
    · exact h.ltw r hm g e
    · cases e
  · intro r hm
    rcases List.mem_or_eq_of_mem_set hm with hm | rfl
    · exact h.few r hm
    · exact Nat.zero_le _
/-- a word of a line, written over -/
theorem LnsU.putWord {w : World} {base U b c : Nat} {ps : List RawL} (h : LnsU w base U (.slice (some ⟨b, 0, none⟩) ps.length c) ps) (i : Nat) (hi : i < ps.length) (k : Nat) (hk : k < ps[i].n) (x : Lx.V) :
    ∃ g c2, ps[i].ad = some ⟨g, 0, none⟩ ∧ ps[i].c = c2 ∧ base ≤ g ∧ g < U ∧ (∀ j, w.frozen? ⟨g, j, none⟩ = false) ∧ (∀ f, f < 5 → ∃ u, w.cell? ⟨g, k * 5 + f, none⟩ = some u) ∧
      LnsU (((((w.setCell ⟨g, k * 5, none⟩ (.string (str x.text))).setCell ⟨g, k * 5 + 1, none⟩ (.int .i64 x.line)).setCell ⟨g, k * 5 + 2, none⟩ (.int .i64 x.col)).setCell ⟨g, k * 5 + 3, none⟩ (.bool x.quoted)).setCell ⟨g, k * 5 + 4, none⟩ (.bool x.mark)) base U (.slice (some ⟨b, 0, none⟩) ps.length c) ps := by
  obtain ⟨Ws, hW⟩ := h.words ps[i] (List.getElem_mem hi)
  obtain ⟨ad, c', e, -⟩ := hW.sl.shape
  simp only [RawL.words, Value.slice.injEq] at e
  have hk' : k < Ws.length := by omega
  obtain ⟨g, cap, eg, hg1, hg2, -, k1⟩ := hW.set k 0 hk' (by decide)
  have hfr : ∀ j, w.frozen? ⟨g, j, none⟩ = false := by
    rcases hW.2 with ⟨e2, -⟩ | ⟨g', cap', cur, e2, -, h3, -⟩
    · rw [eg] at e2; cases e2
    · rw [eg] at e2
      simp only [Value.slice.injEq, Option.some.injEq, Addr.mk.injEq] at e2
      obtain ⟨⟨rfl, -, -⟩, -, -⟩ := e2
      exact fun j => frozen_of_row w _ j _ _ h3
  obtain ⟨b', o', c'', e', -, hc⟩ := hW.sl.cells k hk'
  have hbg : b ≠ g := by
    have := own_apart hW h.row (by decide)
    rw [eg] at this
    simp only [Value.ownBlock] at this
    rcases this with h | h
    · cases h
    · intro e; subst e; exact h rfl
  have hgU : g < U := h.ltw _ (List.getElem_mem hi) g (by rw [eg]; rfl)
  rw [eg] at e'
  simp only [Value.slice.injEq, Option.some.injEq, Addr.mk.injEq] at e'
  obtain ⟨⟨rfl, rfl, -⟩, -, -⟩ := e'
  have e3 := eg
  simp only [RawL.words, Value.slice.injEq] at e3
  refine ⟨g, cap, e3.1, e3.2.2, hg1, hgU, hfr, fun f hf => ?_, ?_⟩
  · have hl := WdR.len Ws[k]
    refine ⟨(WdR.enc Ws[k])[f]'(by rw [hl]; exact hf), ?_⟩
    have := hc f ((WdR.enc Ws[k])[f]'(by rw [hl]; exact hf)) hf (List.getElem?_eq_getElem _)
    rw [show 0 + (k * WdR.k + f) = k * 5 + f by show 0 + (k * 5 + f) = _; omega] at this
    exact this
  · rw [eg] at k1
    have k1 := k1 ⟨x.text, Ws[k].line, Ws[k].col, Ws[k].quoted, Ws[k].mark⟩ (.string (str x.text)) rfl
    obtain ⟨b2, c2, e2, -, -, -, k2⟩ := k1.set k 1 (by rw [List.length_set]; exact hk') (by decide)
    simp only [Value.slice.injEq, Option.some.injEq, Addr.mk.injEq] at e2
    obtain ⟨⟨rfl, -, -⟩, -, -⟩ := e2
    have k2 := k2 ⟨x.text, x.line, Ws[k].col, Ws[k].quoted, Ws[k].mark⟩ (.int .i64 x.line) (by rw [List.getElem_set_self]; rfl)
    rw [List.set_set] at k2
    obtain ⟨b3, c3, e3, -, -, -, k3⟩ := k2.set k 2 (by rw [List.length_set]; exact hk') (by decide)
    simp only [Value.slice.injEq, Option.some.injEq, Addr.mk.injEq] at e3
    obtain ⟨⟨rfl, -, -⟩, -, -⟩ := e3
    have k3 := k3 ⟨x.text, x.line, x.col, Ws[k].quoted, Ws[k].mark⟩ (.int .i64 x.col) (by rw [List.getElem_set_self]; rfl)
    rw [List.set_set] at k3
    obtain ⟨b4, c4, e4, -, -, -, k4⟩ := k3.set k 3 (by rw [List.length_set]; exact hk') (by decide)
    simp only [Value.slice.injEq, Option.some.injEq, Addr.mk.injEq] at e4
    obtain ⟨⟨rfl, -, -⟩, -, -⟩ := e4
    have k4 := k4 ⟨x.text, x.line, x.col, x.quoted, Ws[k].mark⟩ (.bool x.quoted) (by rw [List.getElem_set_self]; rfl)
    rw [List.set_set] at k4
    obtain ⟨b5, c5, e5, -, -, -, k5⟩ := k4.set k 4 (by rw [List.length_set]; exact hk') (by decide)
    simp only [Value.slice.injEq, Option.some.injEq, Addr.mk.injEq] at e5
    obtain ⟨⟨rfl, -, -⟩, -, -⟩ := e5
    have k5 := k5 ⟨x.text, x.line, x.col, x.quoted, x.mark⟩ (.bool x.mark) (by rw [List.getElem_set_self]; rfl)
    rw [List.set_set] at k5
    have hT : Turn [g] w (((((w.setCell ⟨g, k * 5, none⟩ (.string (str x.text))).setCell ⟨g, k * 5 + 1, none⟩ (.int .i64 x.line)).setCell ⟨g, k * 5 + 2, none⟩ (.int .i64 x.col)).setCell ⟨g, k * 5 + 3, none⟩ (.bool x.quoted)).setCell ⟨g, k * 5 + 4, none⟩ (.bool x.mark)) := (((((Turn.refl [g] w).set (p := ⟨g, k * 5, none⟩) (fun _ => by simp) _).set (p := ⟨g, k * 5 + 1, none⟩) (fun _ => by simp) _).set (p := ⟨g, k * 5 + 2, none⟩) (fun _ => by simp) _).set (p := ⟨g, k * 5 + 3, none⟩) (fun _ => by simp) _).set (p := ⟨g, k * 5 + 4, none⟩) (fun _ => by simp) _
    refine ⟨Row.turn h.row hT fun g' e' hm => ?_, fun r hr => ?_, h.apart, h.lt, h.ltw, h.few⟩
    · rw [List.mem_singleton] at hm
      simp only [Value.ownBlock, Option.some.injEq] at e'
      omega
    · obtain ⟨j, hj, rfl⟩ := List.mem_iff_getElem.1 hr
      by_cases hij : j = i
      · subst hij
        refine ⟨Ws.set k ⟨x.text, x.line, x.col, x.quoted, x.mark⟩, ?_⟩
        rw [eg]
        exact k5
      · obtain ⟨Ws', hW'⟩ := h.words ps[j] (List.getElem_mem hj)
        refine ⟨Ws', Row.turn hW' hT fun g' e' hm => ?_⟩
        rw [List.mem_singleton] at hm
        subst hm
        have hgi : ps[i].words.ownBlock = some g' := by rw [eg]; rfl
        rcases Nat.lt_or_ge j i with hlt | hge
        · exact List.pairwise_iff_getElem.1 h.apart j i hj hi hlt g' e' hgi
        · exact List.pairwise_iff_getElem.1 h.apart i j hi hj (by omega) g' hgi e'

end Go.Proofs.Ytdknggccjhillaa
