/-
  LexBlanks ANSWERS true.
-/
import Derived.Test.YtdknggccjhillaaLBack
import Derived.Test.YtdknggccjhillaaZPick
namespace Go.Proofs.Ytdknggccjhillaa
open Go.RowKit

theorem Own.take {w : World} {base : Nat} {g n cap : Nat} {l : List UInt8} (h : Own w base (.slice (some ⟨g, 0, none⟩) n cap) l) (m : Nat) (hm : m ≤ l.length) : Own w base (.slice (some ⟨g, 0, none⟩) m cap) (l.take m) := by
  have hlen : (l.take m).length = m := by rw [List.length_take]; omega
  unfold Own
  rw [hlen]
  rcases h.2 with ⟨h0, -⟩ | ⟨g', cap', cur, hv, hb, hh, hle, hmax, hsz, htk⟩
  · cases h0
  · simp only [Value.slice.injEq, Option.some.injEq, Addr.mk.injEq] at hv
    obtain ⟨⟨rfl, -⟩, rfl, rfl⟩ := hv
    refine ⟨by simp only [bV, List.length_map, hlen]; omega, .inr ⟨g, cap, cur, rfl, hb, hh, by omega, hmax, hsz, ?_⟩⟩
    rw [Nat.mul_one] at htk ⊢
    unfold bV at htk ⊢
    rw [List.map_take, ← htk, List.take_take]
    congr 1
    omega
theorem Own.some_ {w : World} {base : Nat} {v : Value} {l : List UInt8} (h : Own w base v l) (hl : l ≠ []) : ∃ g cap, v = .slice (some ⟨g, 0, none⟩) l.length cap ∧ l.length ≤ cap := by
  rcases h.2 with ⟨h0, h1⟩ | ⟨g', cap', cur, hv, hb, hh, hle, hmax, hsz, htk⟩
  · exfalso
    rw [h0] at h
    exact hl (List.eq_nil_of_length_eq_zero (by omega))
  · exact ⟨g', cap', hv, hle⟩

/-- what pick reads: a counter, and the bytes that came in -/
structure PickS (w : World) (gn gh n : Nat) (ad : Option Addr) (c : Nat) (l : List UInt8) : Prop where
  n : w.heap[gn]? = some (.cells #[.int .i64 (n : Int)] 3 (0, 0))
  h : w.heap[gh]? = some (.cells #[.slice ad l.length c] 44 (0, 0))
  b : Byts w gh (.slice ad l.length c) l
  lt : gh < gn
theorem PickS.below {w w' : World} {gn gh n : Nat} {ad : Option Addr} {c : Nat} {l : List UInt8} {B : Nat} (h : PickS w gn gh n ad c l) (hb : Below B w w') (hB : gn < B) : PickS w' gn gh n ad c l :=
  ⟨(hb.block gn hB).trans h.n, (hb.block gh (by have := h.lt; omega)).trans h.h, h.b.below hb (by have := h.lt; omega), h.lt⟩
/-- pick, called -/
theorem picked {w : World} {gn gh n : Nat} {ad : Option Addr} {c : Nat} {l : List UInt8} (h : PickS w gn gh n ad c l) (hnn : n ≤ 1000000) (hl : l.length ≤ 1048576) :
    Calls Try.prog 28 #[.pointer (some ⟨gn, 0, none⟩), .pointer (some ⟨gh, 0, none⟩)] w fun e w' => (∃ z : Nat, e = .returned (.int .i64 (z : Int)) ∧ z ≤ 255) ∧ PickS w' gn gh (n + 1) ad c l ∧ Turn [gn] w w' := by
  have hlt := h.lt
  have hgn : gn < w.heap.size := (Array.getElem?_eq_some_iff.1 h.n).1
  refine (pick_any w gn gh n ad c l h.n h.h (h.b.mono (by omega)) (by omega) (fun hl0 b o e => ?_) (by omega) (by omega)).mono ?_
  · obtain ⟨ad', c', e1, -, -, h4⟩ := h.b
    simp only [Value.slice.injEq] at e1
    obtain ⟨rfl, -, rfl⟩ := e1
    obtain ⟨b', o', e2, hb', -⟩ := h4 hl0
    rw [e] at e2
    simp only [Option.some.injEq, Addr.mk.injEq] at e2
    omega
  · rintro e w' ⟨hz, rfl⟩
    refine ⟨hz, ⟨?_, ?_, ?_, h.lt⟩, Turn.set1 w gn 0 _⟩
    · rw [heap_setCell_same w gn 0 _ 3 _ h.n]
      rfl
    · rw [Below.heap_setCell _ _ _ _ (by show gh ≠ gn; omega)]
      exact h.h
    · exact h.b.below ((Below.refl gn w).setCell (p := ⟨gn, 0, none⟩) (Nat.le_refl _) _) (by omega)

/-- the text of a line's first k words -/
def Inn (ws : List (Lx.W Nat)) (k : Nat) (I : List UInt8) : Prop :=
  (k = 0 ∧ I = []) ∨ ∃ pre w, Lx.Seps pre ∧ Lx.WOk w ∧ ws.take k = pre.map Prod.fst ++ [w] ∧ I = Lx.run pre ++ Lx.wtext w
theorem Inn.step {ws : List (Lx.W Nat)} {k : Nat} {I : List UInt8} (h : Inn ws k I) (hk : k < ws.length) (hw : Lx.WOk ws[k]) {s : List UInt8} (hs : (k = 0 ∧ s = []) ∨ (0 < k ∧ Lx.SepOk s ∧ s.length ≤ 7)) : Inn ws (k + 1) (I ++ s ++ Lx.wtext ws[k]) := by
  right
  rcases h with ⟨rfl, rfl⟩ | ⟨pre, w, h1, h2, h3, rfl⟩
  · rcases hs with ⟨-, rfl⟩ | ⟨h, -⟩
    · exact ⟨[], ws[0], (fun _ h => by cases h), hw, by rw [List.take_succ_eq_append_getElem hk]; rfl, rfl⟩
    · omega
  · rcases hs with ⟨h0, -⟩ | ⟨-, hs, hl⟩
    · rw [h0] at h3
      have := congrArg List.length h3
      simp at this
    · refine ⟨pre ++ [(w, s)], ws[k], Lx.seps_add h1 h2 hs hl, hw, ?_, ?_⟩
      · rw [List.take_succ_eq_append_getElem hk, h3, List.map_append]; rfl
      · rw [Lx.run_app]
        simp [Lx.run]
theorem Inn.last {ws : List (Lx.W Nat)} {I : List UInt8} (h : Inn ws ws.length I) (hne : ws ≠ []) : ∃ pre w, Lx.Seps pre ∧ Lx.WOk w ∧ ws = pre.map Prod.fst ++ [w] ∧ I = Lx.run pre ++ Lx.wtext w := by
  rcases h with ⟨h0, -⟩ | ⟨pre, w, h1, h2, h3, h4⟩
  · exact absurd (List.eq_nil_of_length_eq_zero h0) hne
  · rw [List.take_length] at h3
    exact ⟨pre, w, h1, h2, h3, h4⟩
theorem full_last {D : List (Bool × List (Lx.W Nat × List UInt8) × List UInt8)} {i : Bool} {pre : List (Lx.W Nat × List UInt8)} {w : Lx.W Nat} {t e : List UInt8} : Lx.full D ++ ((if i = true then [9] else []) ++ (Lx.run pre ++ Lx.wtext w)) ++ (t ++ 10 :: e) = Lx.full (D ++ [(i, pre ++ [(w, t)], e)]) := by
  rw [Lx.full_app]
  simp [Lx.full, Lx.ltext, Lx.run_app, Lx.run]
/-- a row of one line of one word, laid -/
theorem LnsS.one (w : World) (u : Lx.V) : LnsS ((w.alloc (.cells #[.string (str u.text), .int .i64 u.line, .int .i64 u.col, .bool u.quoted, .bool u.mark] 35)).alloc (.cells #[.int .i64 0, .bool false, .slice (some ⟨w.heap.size, 0, none⟩) 1 1] 33)) (w.heap.size + 2) (.slice (some ⟨w.heap.size + 1, 0, none⟩) 1 1) [⟨0, false, [u]⟩] := by
  have h1 := WdR.lit w u #[.string (str u.text), .int .i64 u.line, .int .i64 u.col, .bool u.quoted, .bool u.mark] rfl
  have hz : (w.alloc (.cells #[.string (str u.text), .int .i64 u.line, .int .i64 u.col, .bool u.quoted, .bool u.mark] 35)).heap.size = w.heap.size + 1 := Array.size_push ..
  have h2 := LnR.lit (w.alloc (.cells #[.string (str u.text), .int .i64 u.line, .int .i64 u.col, .bool u.quoted, .bool u.mark] 35)) ⟨0, false, some ⟨w.heap.size, 0, none⟩, 1, 1⟩ #[.int .i64 0, .bool false, .slice (some ⟨w.heap.size, 0, none⟩) 1 1] rfl
  rw [hz] at h2
  refine ⟨[(⟨0, false, some ⟨w.heap.size, 0, none⟩, 1, 1⟩, ⟨0, false, [u]⟩)], h2, rfl, fun p hp => ?_⟩
  rw [List.mem_singleton] at hp
  rw [hp]
  exact ⟨rfl, rfl, (Rc.Sl.alloc (R := WdR) h1 (by rw [show (w.alloc (.cells #[.string (str u.text), .int .i64 u.line, .int .i64 u.col, .bool u.quoted, .bool u.mark] WdR.e)).heap.size = w.heap.size + 1 from Array.size_push ..]; exact Nat.le_refl _) _).mono (by omega)⟩

theorem vtext_len' (u : Lx.V) : (Lx.vtext u).length ≤ 2 * u.text.length + 2 := by
  have h := qb_len u.text
  have hq : (Lx.quote u.text).length ≤ 2 * u.text.length + 2 := by
    unfold Lx.quote
    rw [List.length_cons, List.length_append, List.length_singleton]; omega
  unfold Lx.vtext Lx.show_
  split
  · omega
  · split
    · exact hq
    · split <;> omega
theorem vwrite_one (u : Lx.V) : Lx.vwrite [⟨0, false, [u]⟩] = Lx.vtext u ++ [10] := by
  simp [Lx.vwrite, Lx.vline, Lx.wrest]
theorem pick_frame {w w' W2 : World} {gn : Nat} (h : Below gn W2 w) (ht : Turn [gn] w w') (hg : gn ≤ w.heap.size) : Below gn W2 w' :=
  h.trans (ht.below' hg (fun x hx => by rw [List.mem_singleton] at hx; omega))
theorem tot_take (ls : List (Lx.Ln Nat)) {k : Nat} (hk : k < ls.length) : Lx.tot (ls.take (k + 1)) = Lx.tot (ls.take k) + (Lx.wsum ls[k].words + 1) := by
  rw [List.take_succ_eq_append_getElem hk]
  simp only [Lx.tot, List.map_append, List.sum_append, List.map_cons, List.map_nil, List.sum_cons, List.sum_nil, Nat.add_zero]
theorem wsum_take (ws : List (Lx.W Nat)) {k : Nat} (hk : k < ws.length) : Lx.wsum (ws.take (k + 1)) = Lx.wsum (ws.take k) + (ws[k].text.length + 1) := by
  rw [List.take_succ_eq_append_getElem hk]
  simp only [Lx.wsum, List.map_append, List.sum_append, List.map_cons, List.map_nil, List.sum_cons, List.sum_nil, Nat.add_zero]
theorem tot_le (ls : List (Lx.Ln Nat)) (k : Nat) : Lx.tot (ls.take k) ≤ Lx.tot ls := by
  conv => rhs; rw [← List.take_append_drop k ls]
  simp only [Lx.tot, List.map_append, List.sum_append]
  omega
theorem wsum_le (ws : List (Lx.W Nat)) (k : Nat) : Lx.wsum (ws.take k) ≤ Lx.wsum ws := by
  conv => rhs; rw [← List.take_append_drop k ws]
  simp only [Lx.wsum, List.map_append, List.sum_append]
  omega

set_option maxRecDepth 100000 in
set_option maxHeartbeats 4000000 in
theorem blanks_walk (s : ByteArray) (v : Value) (hw : List UInt8) (w : World) (hv : Byts w w.heap.size v hw) (hwl : hw.length ≤ 1048576) : Calls Try.prog 8 #[.string s, v] w fun e w' => e = .returned (.bool true) ∧ Below w.heap.size w w' := by
  have eS := eql_spot
  have nS := neq_spot
  have gS := guard_spot
  have hmf : ∀ (fn : Fn) (first cap : Array Value) (w : World), (Instr.makeFunc fn first cap).run Try.prog w = .ok (.func fn first cap) w := fun _ _ _ _ => rfl
  obtain ⟨ad, c, rfl, -⟩ := id hv
  have hA := (Below.refl w.heap.size w).alloc (Nat.le_refl _) (.cells #[.slice ad hw.length c] 44)
  have hH : (w.alloc (.cells #[.slice ad hw.length c] 44)).heap[w.heap.size]? = some (.cells #[.slice ad hw.length c] 44 (0, 0)) := heap_alloc_new w _
  have hz : (w.alloc (.cells #[.slice ad hw.length c] 44)).heap.size = w.heap.size + 1 := Array.size_push ..
  have hv0 : Byts (w.alloc (.cells #[.slice ad hw.length c] 44)) w.heap.size (.slice ad hw.length c) hw := hv.below hA (Nat.le_refl _)
  go_enter Try.func8, Try.ntmps8
  go_wp2_with fail
  generalize w.alloc (.cells #[.slice ad hw.length c] 44) = W0 at *
  refine (works_any _).mono ?_
  rintro e w1 ⟨rfl, hB1⟩
  have hC1 := hA.trans (hB1.mono hA.size)
  have hH1 : w1.heap[w.heap.size]? = some (.cells #[.slice ad hw.length c] 44 (0, 0)) := (hB1.block _ (by omega)).trans hH
  have hv1 := hv0.below hB1 (by omega)
  have hz1 : w.heap.size < w1.heap.size := by have := hB1.size; omega
  clear hv hA hH hz hv0 hB1
  go_wp2_with fail
  rcases Nat.lt_or_ge 32768 s.size with hbig | hsm
  · refine (Lines_long s _ hbig).mono ?_
    rintro e w2 ⟨rfl, hB2⟩
    have hC2 := hC1.trans (hB2.mono hC1.size)
    have hD2 := hC2.alloc hC2.size (.cells #[.int .i64 3, .int .i64 32768] 27)
    obtain ⟨x0, y0⟩ := (SV.new w2 3 32768).cells
    go_wp2
    go_ret
    exact ⟨rfl, hD2⟩
  have hli := Lines_any s w1 hsm
  cases hlx : Lx.lex (bs s) with
  | bad a =>
    rw [hlx] at hli
    clear hlx
    refine hli.mono ?_
    rintro e w2 ⟨hq, hB2⟩
    simp only [LsEnd] at hq
    subst hq
    have hC2 := hC1.trans (hB2.mono hC1.size)
    have hD2 := hC2.alloc hC2.size (.cells #[.int .i64 6, .int .i64 (a : Int)] 27)
    obtain ⟨x0, y0⟩ := (SV.new w2 6 (a : Int)).cells
    go_wp2
    go_ret
    exact ⟨rfl, hD2⟩
  | ok ls =>
  rw [hlx] at hli
  refine hli.mono ?_
  rintro e w2 ⟨⟨vl, rfl, hL⟩, hB2⟩
  have hC2 := hC1.trans (hB2.mono hC1.size)
  have hD2 := hC2.alloc hC2.size (.cells #[.int .i64 0, .int .i64 0] 27)
  obtain ⟨x0, y0⟩ := (SV.new w2 0 0).cells
  rcases Nat.lt_or_ge 2000 s.size with hbig2 | hsm2
  · have i0 : (2000 : Int) < (s.size : Int) := by omega
    obtain ⟨a1, n1, c1, rfl⟩ := hL.isSl
    go_wp2
    go_ret
    exact ⟨rfl, hD2⟩
  have i0 : ¬ (2000 : Int) < (s.size : Int) := by omega
  have hzz : Lx.tot ls ≤ 6000 := by
    have := Lx.lex_size hlx
    rw [bs_length] at this
    omega
  have HOK : Hid _ := Lx.lns_ok _ _ ls (Nat.le_refl _) hlx
  have hL2 := hL.alloc (.cells #[.int .i64 0, .int .i64 0] 27)
  have hH2 : (w2.alloc (.cells #[.int .i64 0, .int .i64 0] 27)).heap[w.heap.size]? = some (.cells #[.slice ad hw.length c] 44 (0, 0)) := (((hB2.alloc hB2.size (.cells #[.int .i64 0, .int .i64 0] 27)).block _ hz1)).trans hH1
  have hv2 := hv1.below (hB2.alloc hB2.size (.cells #[.int .i64 0, .int .i64 0] 27)) (by omega)
  have hz2 : w.heap.size < (w2.alloc (.cells #[.int .i64 0, .int .i64 0] 27)).heap.size := Nat.lt_of_lt_of_le hz1 (hB2.alloc hB2.size (.cells #[.int .i64 0, .int .i64 0] 27)).size
  clear hlx hli hL hB2 hC2 hC1 hH1 hv1 hz1
  obtain ⟨a1, c1, rfl, -⟩ := hL2.s.shape
  rw [List.length_map] at *
  go_upto_region 7 with fail
  clear x0 y0
  generalize w2.alloc (.cells #[.int .i64 0, .int .i64 0] 27) = W2 at *
  generalize w2.heap.size = g2 at *
  have hPS : PickS (W2.alloc (.cells #[.int .i64 0] 3)) W2.heap.size w.heap.size 0 ad c hw := by
    have hb := (Below.refl W2.heap.size W2).alloc (Nat.le_refl _) (.cells #[.int .i64 0] 3)
    exact ⟨heap_alloc_new W2 _, (hb.block _ hz2).trans hH2, hv2.below hb (by omega), hz2⟩
  have hBg := (Below.refl W2.heap.size W2).alloc (Nat.le_refl _) (.cells #[.int .i64 0] 3)
  have hgl : W2.heap.size + 1 ≤ (W2.alloc (.cells #[.int .i64 0] 3)).heap.size := by show _ ≤ (W2.heap.push _).size; rw [Array.size_push]; omega
  have HLS : Hid (∀ W, Below W2.heap.size W2 W → LnsS W W2.heap.size (.slice a1 ls.length c1) (ls.map (Lx.toldL (bs s)))) := fun W hW => hL2.s.below hW (Nat.le_refl _)
  go_wp2
  go_loopw [7, 10] (fun b i wr => ∃ (k N : Nat) (D : List (Bool × List (Lx.W Nat × List UInt8) × List UInt8)) (X : List UInt8), k ≤ ls.length ∧ i = .int .i64 (k : Int) ∧ Own wr (W2.heap.size + 1) b X ∧ Hid (X = Lx.full D) ∧ Hid (Lx.Fulls D (ls.take k)) ∧ X.length ≤ 14 * Lx.tot (ls.take k) ∧ N ≤ Lx.tot (ls.take k) ∧ PickS wr W2.heap.size w.heap.size N ad c hw ∧ Below W2.heap.size W2 wr ∧ W2.heap.size + 1 ≤ wr.heap.size) (fun _ i _ => ls.length - (intOf i).toNat)
  case atStart => exact ⟨0, 0, [], [], Nat.zero_le _, rfl, Own.nil _ _, rfl, ⟨(fun _ h => by cases h), rfl⟩, Nat.zero_le _, Nat.zero_le _, hPS, hBg, hgl⟩
  case round =>
  clear hPS hBg hgl
  obtain ⟨k, N, D, X, hk, rfl, hO, HX, HF, hXl, hNl, hPS, hBg, hgl⟩ := hrel
  have htk := tot_le ls k
  have hlsl : ls.length ≤ 6000 := by have := Lx.tot_len ls; omega
  by_cases hlt : k < ls.length
  · have i1 : (k : Int) < (ls.length : Int) := by omega
    have htk2 := tot_take ls hlt
    have htk3 := tot_le ls (k + 1)
    have hxo := HOK.out ls[k] (List.getElem_mem hlt)
    have hgd : (ls.map (Lx.toldL (bs s))).getD k Lx.noL = Lx.toldL (bs s) ls[k] := by simp [List.getD, List.getElem?_eq_getElem hlt]
    have HTK : Hid (ls.take (k + 1) = ls.take k ++ [ls[k]]) := List.take_succ_eq_append_getElem hlt
    obtain ⟨x, hx⟩ : ∃ x, ls[k] = x := ⟨_, rfl⟩
    rw [hx] at htk2 hxo hgd HTK
    clear hx
    obtain ⟨xa, xi, ws⟩ := x
    obtain ⟨hne, hok⟩ := hxo
    simp only at hne hok htk2
    have HOK2 : Hid _ := hok
    have HNE : Hid _ := hne
    clear hne hok
    have hwsl : ws.length ≤ 6000 := by have := Lx.wsum_len ws; omega
    have HAT : Hid (∀ W, Below W2.heap.size W2 W → ∃ b o ad2 c2, a1 = some ⟨b, o, none⟩ ∧ W.cell? ⟨b, o + k * 3 + 1, none⟩ = some (.bool xi) ∧ W.cell? ⟨b, o + k * 3 + 2, none⟩ = some (.slice ad2 ws.length c2) ∧ WdR.Sl W W2.heap.size (.slice ad2 ws.length c2) (ws.map (Lx.told (bs s)))) := fun W hW => by
      obtain ⟨b, o, c', ad2, c2, e, hb, -, p1, p2, hWW⟩ := (HLS.out W hW).at k (by rw [List.length_map]; exact hlt)
      rw [hgd] at p1 p2 hWW
      simp only [Value.slice.injEq] at e
      simp only [Lx.toldL, List.length_map] at p1 p2 hWW
      exact ⟨b, o, ad2, c2, e.1, p1, p2, hWW⟩
    obtain ⟨b, o, ad2, c2, rfl, p1, p2, -⟩ := HAT.out wr hBg
    obtain ⟨a5, n5, c5, rfl⟩ := own_sl hO
    go_upto_if 41 with fail
    go_cut [7] (fun b' W => ∃ X1, Own W (W2.heap.size + 1) b' X1 ∧ Hid (X1 = X ++ (if xi = true then [9] else [])) ∧ X1.length ≤ X.length + 1 ∧ PickS W W2.heap.size w.heap.size N ad c hw ∧ Below W2.heap.size W2 W ∧ W2.heap.size + 1 ≤ W.heap.size)
    case first =>
      cases xi with
      | true =>
        have hb4 : Byts (wr.alloc (.cells #[.int .u8 9] 5)) (wr.heap.size + 1) (.slice (some ⟨wr.heap.size, 0, none⟩) 1 1) [9] := byts_lit wr #[.int .u8 9] [9] 1 (by simp [bV]) rfl
        have hO4 := hO.alloc (.cells #[.int .u8 9] 5)
        have hb5 := (Below.refl wr.heap.size wr).alloc (Nat.le_refl _) (.cells #[.int .u8 9] 5)
        have HLn : Hid (X.length + ([9] : List UInt8).length ≤ 1099511627800) := by show _ ≤ _; simp only [List.length_cons, List.length_nil]; omega
        go_wp2_with (at_builtin; go_must (refine wpList_append_byts rfl _ _ rfl (W2.heap.size + 1) (wr.heap.size + 1) _ _ X [9] rfl hO4 rfl hb4 HLn (Nat.le_trans hgl hb5.size) ?_))
        intro v5 w5 hO5 hg5
        have hB5 : Below (W2.heap.size + 1) wr w5 := ((hb5.mono hgl).grown hg5 (Nat.le_trans hgl hb5.size) fun j e => (World.ownsRow.lt hO4 j e).1)
        obtain ⟨a6, n6, c6, rfl⟩ := own_sl hO5
        go_wp2
        go_meet
        case rel => exact ⟨_, hO5, rfl, by simp only [List.length_append, List.length_cons, List.length_nil]; omega, hPS.below hB5 (by omega), hBg.trans (hB5.mono (by omega)), Nat.le_trans hgl hB5.size⟩
      | false =>
        go_wp2
        go_meet
        case rel => exact ⟨X, hO, by simp [Hid], by omega, hPS, hBg, hgl⟩
    case rest =>
    obtain ⟨X1, hO1, HX1, hX1l, hPS1, hBg1, hgl1⟩ := hcut
    clear hO hPS hBg hgl p1 p2
    obtain ⟨a5, n5, c5, rfl⟩ := own_sl hO1
    go_wp2
    go_loopw [7, 11] (fun b' i w' => ∃ (q M : Nat) (I Y : List UInt8), q ≤ ws.length ∧ i = .int .i64 (q : Int) ∧ Own w' (W2.heap.size + 1) b' Y ∧ Hid (Y = X1 ++ I) ∧ Hid (Inn ws q I) ∧ Y.length ≤ X1.length + 9 * Lx.wsum (ws.take q) ∧ M ≤ N + Lx.wsum (ws.take q) ∧ PickS w' W2.heap.size w.heap.size M ad c hw ∧ Below W2.heap.size W2 w' ∧ W2.heap.size + 1 ≤ w'.heap.size) (fun _ i _ => ws.length - (intOf i).toNat)
    case atStart => exact ⟨0, N, [], X1, Nat.zero_le _, rfl, hO1, by simp [Hid], .inl ⟨rfl, rfl⟩, by omega, by omega, hPS1, hBg1, hgl1⟩
    case round =>
    clear hO1 hPS1 hBg1 hgl1
    obtain ⟨q, M, I, Y, hq, rfl, hO, HY, HI, hYl, hMl, hPS, hBg, hgl⟩ := hrel
    have hwt := wsum_le ws q
    obtain ⟨b', o', ad3, c3, e3, -, p2, hWS⟩ := HAT.out wr hBg
    simp only [Option.some.injEq, Addr.mk.injEq] at e3
    obtain ⟨rfl, rfl, -⟩ := e3
    obtain ⟨a5, n5, c5, rfl⟩ := own_sl hO
    by_cases hql : q < ws.length
    · have i2 : (q : Int) < (ws.length : Int) := by omega
      have hwt2 := wsum_take ws hql
      have hwt3 := wsum_le ws (q + 1)
      clear hWS
      go_upto_if 56 with fail
      go_cut [7] (fun b' W => ∃ (Z sp : List UInt8) (M' : Nat), Own W (W2.heap.size + 1) b' Z ∧ Hid (Z = Y ++ sp) ∧ Hid ((q = 0 ∧ sp = []) ∨ (0 < q ∧ Lx.SepOk sp ∧ sp.length ≤ 7)) ∧ Z.length ≤ Y.length + 7 ∧ M' ≤ M + 1 ∧ PickS W W2.heap.size w.heap.size M' ad c hw ∧ Below W2.heap.size W2 W ∧ W2.heap.size + 1 ≤ W.heap.size)
      case first =>
        by_cases hq0 : q = 0
        · have i3 : ¬ (0 : Int) < (q : Int) := by omega
          have HQ0 : Hid _ := hq0
          clear hq0
          go_wp2
          go_meet
          case rel => exact ⟨Y, [], M, hO, by simp [Hid], .inl ⟨HQ0.out, rfl⟩, by omega, by omega, hPS, hBg, hgl⟩
        · have i3 : (0 : Int) < (q : Int) := by omega
          go_wp2_with fail
          refine (picked hPS (by omega) hwl).mono ?_
          rintro e wA ⟨⟨z, rfl, hz⟩, hPA, hTA⟩
          have hOA : Own wA (W2.heap.size + 1) (.slice a5 n5 c5) Y := row_turn hO hTA (by omega)
          have hBA := pick_frame hBg hTA (by omega)
          have hgA := Nat.le_trans hgl hTA.size
          go_wp2_with fail
          refine (blank_any z hz _).mono ?_
          rintro e wB ⟨⟨sp, rfl, hs1, hs2⟩, hBB⟩
          have hOB := hOA.below hBB (Nat.le_refl _)
          have hPB := hPA.below hBB (by omega)
          have hBB2 := hBA.trans (hBB.mono (by omega))
          have hgB := Nat.le_trans hgA hBB.size
          have HS1 : Hid _ := hs1
          have hsz : sp.size ≤ 7 := by rw [← bs_length]; exact hs2
          have HLn : Hid (Y.length + sp.size ≤ 1099511627800) := by show _ ≤ _; omega
          clear hPS hO hBg hTA hPA hOA hBA hBB hs1
          go_wp2_with (at_builtin; go_must (refine wpList_append_text rfl _ _ rfl (W2.heap.size + 1) _ Y sp rfl hOB rfl HLn hgB ?_))
          intro v5 w5 hO5 hB5
          obtain ⟨a6, n6, c6, rfl⟩ := own_sl hO5
          go_wp2
          go_meet
          case rel => exact ⟨_, bs sp, M + 1, hO5, rfl, .inr ⟨by omega, HS1.out, hs2⟩, by rw [List.length_append]; omega, by omega, hPB.below hB5 (by omega), hBB2.trans (hB5.mono (by omega)), Nat.le_trans hgB hB5.size⟩
      case rest =>
      obtain ⟨Z, sp, M', hOZ, HZ, HSP, hZl, hM'l, hPZ, hBZ, hgZ⟩ := hcut
      clear hO hPS hBg hgl p2
      obtain ⟨b', o', ad4, c4, e4, -, p2, hWS⟩ := HAT.out wc hBZ
      simp only [Option.some.injEq, Addr.mk.injEq] at e4
      obtain ⟨rfl, rfl, -⟩ := e4
      obtain ⟨a5, n5, c5, rfl⟩ := own_sl hOZ
      obtain ⟨b2, o2, cc, e, hb2, q0, q1, q2, q3, q4⟩ := WdR.at hWS q (by rw [List.length_map]; exact hql)
      simp only [Value.slice.injEq, List.length_map] at e
      obtain ⟨rfl, -, rfl⟩ := e
      have hgu : (ws.map (Lx.told (bs s))).getD q Lx.noV = Lx.told (bs s) ws[q] := by simp [List.getD, List.getElem?_eq_getElem hql]
      have HVT : Hid (Lx.vtext (Lx.told (bs s) ws[q]) = Lx.wtext ws[q]) := rfl
      have hut : (Lx.told (bs s) ws[q]).text.length ≤ 6000 := by show ws[q].text.length ≤ _; omega
      rw [hgu] at q0 q1 q2 q3 q4
      have hvtl := Lx.wtext_len ws[q]
      obtain ⟨u, hu⟩ : ∃ u, Lx.told (bs s) ws[q] = u := ⟨_, rfl⟩
      rw [hu] at q0 q1 q2 q3 q4 HVT hut
      clear hu hgu hWS
      obtain ⟨ut, ul, uc, uq, um⟩ := u
      simp only at q0 q1 q2 q3 q4 hut
      have hW3 : WAt (wc.alloc (.cells #[.string (str ut), .int .i64 ul, .int .i64 uc, .bool uq, .bool um] 35)) wc.heap.size ⟨ut, ul, uc, uq, um⟩ := heap_alloc_new wc _
      have hbc := (Below.refl wc.heap.size wc).alloc (Nat.le_refl _) (.cells #[.string (str ut), .int .i64 ul, .int .i64 uc, .bool uq, .bool um] 35)
      have hO3 := hOZ.alloc (.cells #[.string (str ut), .int .i64 ul, .int .i64 uc, .bool uq, .bool um] 35)
      have hP3 := hPZ.below hbc (by omega)
      have hB3 := hBZ.trans (hbc.mono (by omega))
      have hg3 := Nat.le_trans hgZ hbc.size
      go_upto_region 20 with fail
      clear q0 q1 q2 q3 q4 p2 hOZ hPZ hBZ hbc
      generalize wc.alloc (.cells #[.string (str ut), .int .i64 ul, .int .i64 uc, .bool uq, .bool um] 35) = W3 at *
      generalize wc.heap.size = gw at *
      obtain ⟨z0, z1, z2, z3, z4⟩ := hW3.cells
      simp only at z0 z1 z2 z3 z4
      have hone := LnsS.one W3 ⟨ut, ul, uc, uq, um⟩
      have hbA := (Below.refl W3.heap.size W3).alloc (Nat.le_refl _) (.cells #[.string (str ut), .int .i64 ul, .int .i64 uc, .bool uq, .bool um] 35)
      have hbB := hbA.alloc hbA.size (.cells #[.int .i64 0, .bool false, .slice (some ⟨W3.heap.size, 0, none⟩) 1 1] 33)
      have hO4 := (hO3.alloc (.cells #[.string (str ut), .int .i64 ul, .int .i64 uc, .bool uq, .bool um] 35)).alloc (.cells #[.int .i64 0, .bool false, .slice (some ⟨W3.heap.size, 0, none⟩) 1 1] 33)
      have hsz4 : ((W3.alloc (.cells #[.string (str ut), .int .i64 ul, .int .i64 uc, .bool uq, .bool um] 35)).alloc (.cells #[.int .i64 0, .bool false, .slice (some ⟨W3.heap.size, 0, none⟩) 1 1] 33)).heap.size = W3.heap.size + 2 := by
        show ((W3.heap.push _).push _).size = _
        rw [Array.size_push, Array.size_push]
      have hvl := vtext_len' ⟨ut, ul, uc, uq, um⟩
      have hwrt := Write_any _ [⟨0, false, [⟨ut, ul, uc, uq, um⟩]⟩] _ _ hone (by rw [hsz4]; exact Nat.le_refl _) (by rw [vwrite_one, List.length_append, List.length_singleton]; simp only at hvl; omega) (by simp) (fun x hx => by rw [List.mem_singleton] at hx; rw [hx]; simp) (fun x hx u hu => by rw [List.mem_singleton] at hx; rw [hx] at hu; rw [List.mem_singleton] at hu; rw [hu]; show ut.length ≤ _; omega)
      rw [vwrite_one, HVT.out] at hwrt
      simp only at hwrt
      go_wp2_with fail
      refine hwrt.mono ?_
      rintro e w4 ⟨rfl, hB4⟩
      have hO5 := hO4.below hB4 (Nat.le_refl _)
      have hP5 := (hP3.below hbB (by omega)).below hB4 (by rw [hsz4]; omega)
      have hB5 := (hB3.trans (hbB.mono (by omega))).trans (hB4.mono (by rw [hsz4]; omega))
      have hg5 : W2.heap.size + 1 ≤ w4.heap.size := Nat.le_trans hg3 (Nat.le_trans hbB.size hB4.size)
      clear hwrt hB4 hO4 hone hbA hbB hsz4 hO3 hP3 hB3 hg3 z0 z1 z2 z3 z4 hW3 hvl
      have HLn : Hid (Z.length + (str (Lx.wtext ws[q] ++ [10])).size ≤ 1099511627800) := by
        show _ ≤ _
        rw [str_size, List.length_append, List.length_singleton]; omega
      go_wp2_with (at_builtin; go_must (refine wpList_append_text rfl _ _ rfl (W2.heap.size + 1) _ Z (str (Lx.wtext ws[q] ++ [10])) rfl hO5 rfl HLn hg5 ?_))
      intro v5 w5 hO6 hB6
      rw [bs_str] at hO6
      obtain ⟨g, cap, rfl, hcap⟩ := hO6.some_ (by simp)
      obtain ⟨m, hm⟩ : ∃ m, (Z ++ Lx.wtext ws[q]).length = m := ⟨_, rfl⟩
      have hm1 : (Z ++ (Lx.wtext ws[q] ++ [10])).length = m + 1 := by rw [← List.append_assoc, List.length_append, hm]; rfl
      rw [hm1] at hO6 hcap ⊢
      have hO7 := hO6.take m (by rw [hm1]; omega)
      rw [← List.append_assoc, List.take_left' hm] at hO7
      have hsh : ∀ W : World, (Instr.slice 44 (.slice (some ⟨g, 0, none⟩) (m + 1) cap) none (some (.int .i64 (m : Int))) none).run Try.prog W = .ok (.slice (some ⟨g, 0, none⟩) m cap) W := fun W => slice_head W _ _ _ m (by omega)
      have hml : m ≤ 1000000 := by rw [← hm, List.length_append]; omega
      have i4 : (m : Int) ≤ 1000000 := by omega
      have HM2 : Hid _ := hm
      have HIN : Hid _ := HI.out.step hql (HOK2.out _ (List.getElem_mem hql)) HSP.out
      have HYY : Hid (Z ++ Lx.wtext ws[q] = X1 ++ (I ++ sp ++ Lx.wtext ws[q])) := by
        show _ = _
        rw [HZ.out, HY.out]; simp
      have hP6 := hP5.below hB6 (by omega)
      have hB7 := hB5.trans (hB6.mono (by omega))
      have hg7 := Nat.le_trans hg5 hB6.size
      have hZw : (Z ++ Lx.wtext ws[q]).length ≤ X1.length + 9 * Lx.wsum (ws.take (q + 1)) := by rw [List.length_append]; omega
      clear hm hm1 hO6 hO5 hP5 hB5 hB6 hcap HLn
      go_wp2
      exact ⟨⟨q + 1, M', _, _, by omega, by go_num, hO7, HYY, HIN, hZw, by omega, hP6, hB7, hg7⟩, by simp [intOf]; omega⟩
    · obtain rfl : q = ws.length := by omega
      have i2 : ¬ (ws.length : Int) < (ws.length : Int) := by omega
      rw [List.take_length] at hYl hMl
      obtain ⟨pre, wl, k1, k2, k3, k4⟩ := HI.out.last HNE.out
      have HK1 : Hid _ := k1
      have HK2 : Hid _ := k2
      have HK3 : Hid _ := k3
      have HK4 : Hid _ := k4
      clear k1 k2 k3 k4 HI hWS
      go_wp2_with fail
      refine (picked hPS (by omega) hwl).mono ?_
      rintro e wA ⟨⟨z, rfl, hz⟩, hPA, hTA⟩
      have hOA : Own wA (W2.heap.size + 1) (.slice a5 n5 c5) Y := row_turn hO hTA (by omega)
      have hBA := pick_frame hBg hTA (by omega)
      have hgA := Nat.le_trans hgl hTA.size
      go_wp2_with fail
      refine (behind_any z hz _).mono ?_
      rintro e wB ⟨⟨sp, rfl, t, e', he1, he2, he3, he4⟩, hBB⟩
      have hOB := hOA.below hBB (Nat.le_refl _)
      have hPB := hPA.below hBB (by omega)
      have hBB2 := hBA.trans (hBB.mono (by omega))
      have hgB := Nat.le_trans hgA hBB.size
      have hsz : sp.size ≤ 13 := by rw [← bs_length]; exact he4
      have HLn : Hid (Y.length + sp.size ≤ 1099511627800) := by show _ ≤ _; omega
      have HX' : Hid (Y ++ bs sp = Lx.full (D ++ [(xi, pre ++ [(wl, t)], e')])) := by
        show _ = _
        rw [← full_last, he1, HY.out, HX1.out, HX.out, HK4.out]
        simp
      have HF' : Hid (Lx.Fulls (D ++ [(xi, pre ++ [(wl, t)], e')]) (ls.take (k + 1))) := by
        show Lx.Fulls _ _
        rw [HTK.out]
        exact Lx.fulls_add (x := ⟨xa, xi, ws⟩) HF.out HK1.out HK2.out he2 he3 HK3.out
      clear hPS hO hBg hTA hPA hOA hBA hBB he1 he2 he3
      go_wp2_with (at_builtin; go_must (refine wpList_append_text rfl _ _ rfl (W2.heap.size + 1) _ Y sp rfl hOB rfl HLn hgB ?_))
      intro v5 w5 hO5 hB5
      obtain ⟨a6, n6, c6, rfl⟩ := own_sl hO5
      have hln : (Y ++ bs sp).length ≤ 14 * Lx.tot (ls.take (k + 1)) := by rw [List.length_append]; omega
      go_wp2
      exact ⟨⟨k + 1, M + 1, _, _, by omega, by go_num, hO5, HX', HF', hln, by omega, hPB.below hB5 (by omega), hBB2.trans (hB5.mono (by omega)), Nat.le_trans hgB hB5.size⟩, by simp [intOf]; omega⟩
  · obtain rfl : k = ls.length := by omega
    have i1 : ¬ (ls.length : Int) < (ls.length : Int) := by omega
    rw [List.take_length] at HF hXl hNl
    obtain ⟨ms, hm1, hm2⟩ := Lx.fulls_lex HF.out
    rw [← HX.out] at hm1
    have HM1 : Hid _ := hm1
    have HM2 : Hid _ := hm2
    clear hm1 hm2 HF
    have hcv := conv_byts hO.byts
    obtain ⟨a5, c5, rfl, -⟩ := hO.byts
    have hL3 := hL2.below hBg (Nat.le_refl _)
    have hD3 := hD2.trans (hBg.mono hD2.size)
    have hsz : (str X).size = X.length := str_size X
    clear hO hPS hBg hgl
    go_wp2_with fail
    rcases Nat.lt_or_ge 32768 X.length with hbig3 | hsm3
    · have i2 : (32768 : Int) < (X.length : Int) := by omega
      refine (Lines_long (str X) _ (by rw [hsz]; exact hbig3)).mono ?_
      rintro e w4 ⟨rfl, hB4⟩
      have hC4 := hD3.trans (hB4.mono hD3.size)
      have hD4 := hC4.alloc hC4.size (.cells #[.int .i64 3, .int .i64 32768] 27)
      obtain ⟨x0, y0⟩ := (SV.new w4 3 32768).cells
      clear hsz
      go_wp2
      go_ret
      exact ⟨rfl, hD4⟩
    · have i2 : ¬ (32768 : Int) < (X.length : Int) := by omega
      have hli := Lines_any (str X) wr (by rw [hsz]; exact hsm3)
      rw [bs_str, HM1.out] at hli
      refine hli.mono ?_
      rintro e w4 ⟨⟨v2, rfl, hMM⟩, hB4⟩
      have hL4 := hL3.below hB4 (Nat.le_refl _)
      have hC4 := hD3.trans (hB4.mono hD3.size)
      have hD4 := hC4.alloc hC4.size (.cells #[.int .i64 0, .int .i64 0] 27)
      have s4 := SV.new w4 0 0
      have hL5 := hL4.alloc (.cells #[.int .i64 0, .int .i64 0] 27)
      have hM5 := hMM.alloc (.cells #[.int .i64 0, .int .i64 0] 27)
      clear hL3 hL4 hMM hC4 hD3 hB4 hli
      obtain ⟨a6, n6, c6, rfl⟩ := hM5.isSl
      obtain ⟨x0, y0⟩ := s4.cells
      clear hsz
      go_wp2_with fail
      refine (alike_told hL5 hM5 (by omega) HM2.out).mono ?_
      rintro e w5 ⟨rfl, hB5⟩
      go_wp2
      go_ret
      exact ⟨rfl, hD4.trans (hB5.mono hD4.size)⟩

end Go.Proofs.Ytdknggccjhillaa
