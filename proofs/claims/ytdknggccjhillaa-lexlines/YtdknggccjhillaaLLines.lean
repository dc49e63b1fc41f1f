/-
  LexLines ANSWERS true.
-/
import Derived.Test.YtdknggccjhillaaLLinesN
import Derived.Test.YtdknggccjhillaaXSize
namespace Go.Proofs.Ytdknggccjhillaa
open Go.RowKit

set_option maxRecDepth 100000 in
set_option maxHeartbeats 8000000 in
theorem lines_ok (s : ByteArray) (w : World) (ls : List (Lx.Ln Nat)) (hs : s.size ≤ 32768) (hlx : Lx.lex (bs s) = .ok ls) :
    Calls Try.prog 3 #[.string s] w fun e w' => e = .returned (.bool true) ∧ Below w.heap.size w w' := by
  have eS := eql_spot
  have nS := neq_spot
  have gS := guard_spot
  have hz : Lx.tot ls ≤ 98304 := by
    have := Lx.lex_size hlx
    rw [bs_length] at this
    omega
  have hA : ∀ W : World, Calls Try.prog 14 #[.string s] W fun e w' => (∃ v, e = .returned (.tuple #[v, .agg #[.int .i64 0, .int .i64 0]]) ∧ LnsOwn w' W.heap.size v (ls.map (Lx.toldL (bs s)))) ∧ Below W.heap.size W w' := fun W => by
    have := Lines_any s W hs
    rw [hlx] at this
    exact this
  have hT : ∀ W : World, Calls Try.prog 15 #[.string s] W fun e w' => (∃ v, e = .returned (.tuple #[v, .agg #[.int .i64 0, .int .i64 0]]) ∧ LnsOwn w' W.heap.size v (ls.map (Lx.toldL (bs s)))) ∧ Below W.heap.size W w' := fun W => by
    have := LinesT_any s W hs
    rw [hlx] at this
    exact this
  have hSm : ∀ (W : World) (va vb : Value), LnsS W W.heap.size va (ls.map (Lx.toldL (bs s))) → LnsS W W.heap.size vb (ls.map (Lx.toldL (bs s))) → Calls Try.prog 16 #[va, vb] W fun e w' => e = .returned (.bool true) ∧ Below W.heap.size W w' := fun W va vb ha hb => by
    refine (SameT_any va vb _ _ W W.heap.size ha hb ?_ ?_).mono ?_
    · have := Lx.tot_len ls
      rw [List.length_map]; omega
    · intro x hx
      obtain ⟨y, hy, rfl⟩ := List.mem_map.1 hx
      have h1 := Lx.tot_mem hy
      have h2 := Lx.wsum_len y.words
      simp only [Lx.toldL, List.length_map]
      omega
    · rintro e w' ⟨rfl, h⟩
      exact ⟨by simp, h⟩
  have HFW : Hid (∀ x ∈ ls.map (Lx.toldL (bs s)), x.words.length ≤ 98304) := by
    intro x hx
    obtain ⟨y, hy, rfl⟩ := List.mem_map.1 hx
    have h1 := Lx.tot_mem hy
    have h2 := Lx.wsum_len y.words
    simp only [Lx.toldL, List.length_map]
    omega
  have HLN : Hid (ls.length ≤ 98304) := Nat.le_trans (Lx.tot_len ls) hz
  have hn : (ls.map (Lx.toldL (bs s))).length = ls.length := List.length_map _
  have HN : Hid _ := hn
  clear hn hlx hz
  generalize ls.map (Lx.toldL (bs s)) = L at *
  go_enter Try.func3, Try.ntmps3
  go_wp2_with fail
  refine (works_any _).mono ?_
  rintro e w1 ⟨rfl, hB1⟩
  have hlo := long_any s.size w1
  rw [decide_eq_false (by omega)] at hlo
  go_wp2_with fail
  refine hlo.mono ?_
  rintro e w2 ⟨rfl, rfl⟩
  clear hlo
  go_wp2_with fail
  refine (hA _).mono ?_
  rintro e w3 ⟨⟨v, rfl, hL⟩, hB3⟩
  have hC3 := hB1.trans (hB3.mono hB1.size)
  have s3 := SV.new w3 0 0
  have hD3 := hC3.alloc hC3.size (.cells #[.int .i64 0, .int .i64 0] 27)
  have hL3 := hL.alloc (.cells #[.int .i64 0, .int .i64 0] 27)
  obtain ⟨ps, hpl, hU⟩ := LnsU.of hL HFW.out
  have hU3 := hU.below ((Below.refl w3.heap.size w3).alloc (Nat.le_refl _) (.cells #[.int .i64 0, .int .i64 0] 27)) (Nat.le_refl _)
  have h31 : w2.heap.size ≤ w3.heap.size := hB3.size
  have h32 : w3.heap.size < (w3.alloc (.cells #[.int .i64 0, .int .i64 0] 27)).heap.size := s3.lt
  have h01 := hB1.size
  clear hC3 hB3 hB1 hL hU
  obtain ⟨a1, c1, rfl, -⟩ := hL3.s.shape
  go_wp2_with fail
  generalize w3.alloc (.cells #[.int .i64 0, .int .i64 0] 27) = W3 at *
  generalize w3.heap.size = p3 at *
  refine (hT _).mono ?_
  rintro e w4 ⟨⟨vb, rfl, hLb⟩, hB4⟩
  have hC4 := hD3.trans (hB4.mono hD3.size)
  have s4 := (s3.below hB4).alloc (.cells #[.int .i64 0, .int .i64 0] 27)
  have t4 := SV.new w4 0 0
  have hD4 := hC4.alloc hC4.size (.cells #[.int .i64 0, .int .i64 0] 27)
  have hL4 := (hL3.below hB4 (Nat.le_refl _)).alloc (.cells #[.int .i64 0, .int .i64 0] 27)
  have hLb4 := hLb.alloc (.cells #[.int .i64 0, .int .i64 0] 27)
  have hU4 := (hU3.below hB4 (Nat.le_refl _)).below ((Below.refl w4.heap.size w4).alloc (Nat.le_refl _) (.cells #[.int .i64 0, .int .i64 0] 27)) (Nat.le_refl _)
  have h43 : W3.heap.size ≤ w4.heap.size := hB4.size
  clear hC4 hB4 hD3 s3 hL3 hLb hU3
  obtain ⟨a2, c2, rfl, -⟩ := hLb4.s.shape
  go_wp2_with fail
  generalize w4.alloc (.cells #[.int .i64 0, .int .i64 0] 27) = W4 at *
  generalize w4.heap.size = p4 at *
  refine (hSm _ _ _ hL4.s hLb4.s).mono ?_
  rintro e w5 ⟨rfl, hB5⟩
  have s5 := s4.below hB5
  have t5 := t4.below hB5
  have hD5 := hD4.trans (hB5.mono hD4.size)
  have hLb5 := hLb4.below hB5 (Nat.le_refl _)
  have hU5 := hU4.below hB5 (Nat.le_refl _)
  clear hD4 hB5 s4 t4 hL4 hLb4 hU4
  obtain ⟨x0, x1⟩ := s5.cells
  obtain ⟨y0, y1⟩ := t5.cells
  have HPL : Hid (ps.length = L.length) := hpl
  have HL3 : Hid (L.length ≤ 98304) := by show _ ≤ _; have := HLN.out; have := HN.out; omega
  clear hpl
  go_wp2
  clear x0 x1 y0 y1 s5
  go_loopw [9] (fun iv w' => ∃ (i : Nat) (qs : List RawL), i ≤ L.length ∧ iv = .int .i64 (i : Int) ∧ qs.length = L.length ∧ LnsU w' w2.heap.size p3 (.slice a1 L.length c1) qs ∧ Turn (List.range' w2.heap.size (p3 - w2.heap.size)) w5 w') (fun iv _ => L.length - (intOf iv).toNat)
  case atStart => exact ⟨0, ps, Nat.zero_le _, rfl, HPL.out, hU5, Turn.refl _ _⟩
  case round =>
  clear hU5
  obtain ⟨i, qs, hi, rfl, hql, hUi, hTi⟩ := hrel
  have HQL : Hid _ := hql
  have i0 : (i : Int) ≤ 98304 := by have := HL3.out; omega
  by_cases hlt : i < L.length
  · have i1 : (i : Int) < (L.length : Int) := by omega
    have hiq : i < qs.length := by omega
    obtain ⟨r, hr⟩ : ∃ r, qs[i] = r := ⟨_, rfl⟩
    have HRR : Hid _ := hr
    have hrn : r.n ≤ 98304 := by rw [← hr]; exact hUi.few _ (List.getElem_mem hiq)
    obtain ⟨b, c, e, hb1, hb2, -, -, -, -⟩ := hUi.at i hiq
    rw [hql] at e
    simp only [Value.slice.injEq] at e
    obtain ⟨rfl, -, rfl⟩ := e
    clear hr hql
    go_upto_block 2 with fail
    go_cut [10] (fun _ w' => LnsU w' w2.heap.size p3 (.slice (some ⟨b, 0, none⟩) L.length c1) qs ∧ Turn (List.range' w2.heap.size (p3 - w2.heap.size)) w5 w')
    case first =>
      go_wp2
      go_loopw [10] (fun kv w' => ∃ k : Nat, k ≤ r.n ∧ kv = .int .i64 (k : Int) ∧ LnsU w' w2.heap.size p3 (.slice (some ⟨b, 0, none⟩) L.length c1) qs ∧ Turn (List.range' w2.heap.size (p3 - w2.heap.size)) w5 w') (fun kv _ => r.n - (intOf kv).toNat)
      case atStart => exact ⟨0, Nat.zero_le _, rfl, hUi, hTi⟩
      case round =>
      clear hUi hTi
      obtain ⟨k, hk, rfl, hUk, hTk⟩ := hrel
      have k0 : (k : Int) ≤ 98304 := by omega
      obtain ⟨b', c', e, -, -, -, -, p2, -⟩ := hUk.at i hiq
      simp only [Value.slice.injEq, Option.some.injEq, Addr.mk.injEq] at e
      obtain ⟨⟨rfl, -, -⟩, -, -⟩ := e
      rw [HRR.out] at p2
      by_cases hkl : k < r.n
      · have k1 : (k : Int) < (r.n : Int) := by omega
        have hUk' := hUk
        rw [← HQL.out] at hUk'
        obtain ⟨g, c2', ead, ec, hg1, hg2, hfr, hcl, hU'⟩ := hUk'.putWord i hiq k (by rw [HRR.out]; exact hkl) ⟨[103, 111, 110, 101], 0, 0, false, false⟩
        rw [HRR.out] at ead ec
        rw [ead] at p2
        obtain ⟨u0, q0⟩ := hcl 0 (by decide)
        obtain ⟨u1, q1⟩ := hcl 1 (by decide)
        obtain ⟨u2, q2⟩ := hcl 2 (by decide)
        obtain ⟨u3, q3⟩ := hcl 3 (by decide)
        obtain ⟨u4, q4⟩ := hcl 4 (by decide)
        rw [Nat.add_zero] at q0
        have HU' : Hid _ := hU'
        have HTk : Hid _ := hTk
        clear hU' hcl hUk hUk' ead ec hTk
        go_wp2
        refine ⟨⟨k + 1, by omega, by first | rfl | go_num, ?_, ?_⟩, by simp [intOf]; omega⟩
        · rw [← HQL.out]; exact HU'.out
        · have hm : g < w5.heap.size → g ∈ List.range' w2.heap.size (p3 - w2.heap.size) := fun _ => by rw [List.mem_range'_1]; omega
          exact ((((HTk.out.set (p := ⟨g, k * 5, none⟩) hm _).set (p := ⟨g, k * 5 + 1, none⟩) hm _).set (p := ⟨g, k * 5 + 2, none⟩) hm _).set (p := ⟨g, k * 5 + 3, none⟩) hm _).set (p := ⟨g, k * 5 + 4, none⟩) hm _
      · obtain rfl : k = r.n := by omega
        have k1 : ¬ (r.n : Int) < (r.n : Int) := by omega
        go_wp2
        go_meet
        case rel => exact ⟨hUk, hTk⟩
    case rest =>
      obtain ⟨hUk, hTk⟩ := hcut
      clear hUi hTi
      have hUk' := hUk
      rw [← HQL.out] at hUk'
      obtain ⟨b', c', e, -, -, p0, p1, p2, hfr⟩ := hUk.at i hiq
      simp only [Value.slice.injEq, Option.some.injEq, Addr.mk.injEq] at e
      obtain ⟨⟨rfl, -, -⟩, -, -⟩ := e
      have HU' : Hid _ := hUk'.putLine i hiq (-1) false
      have HTk : Hid _ := hTk
      have f0 := hfr (i * 3)
      have f1 := hfr (i * 3 + 1)
      have f2 := hfr (i * 3 + 2)
      clear hUk hUk' hTk hfr
      go_wp2
      refine ⟨⟨i + 1, qs.set i ⟨-1, false, none, 0, 0⟩, by omega, by first | rfl | go_num, by rw [List.length_set]; exact HQL.out, ?_, ?_⟩, by simp [intOf]; omega⟩
      · rw [← HQL.out]; exact HU'.out
      · have hm : b < w5.heap.size → b ∈ List.range' w2.heap.size (p3 - w2.heap.size) := fun _ => by rw [List.mem_range'_1]; omega
        exact ((HTk.out.set (p := ⟨b, i * 3, none⟩) hm _).set (p := ⟨b, i * 3 + 1, none⟩) hm _).set (p := ⟨b, i * 3 + 2, none⟩) hm _
  · obtain rfl : i = L.length := by omega
    have i1 : ¬ (L.length : Int) < (L.length : Int) := by omega
    have hrg : ∀ x ∈ List.range' w2.heap.size (p3 - w2.heap.size), w2.heap.size ≤ x ∧ x < p3 := fun x hx => by
      rw [List.mem_range'_1] at hx
      omega
    have hp43 : p3 ≤ p4 := by omega
    have hLb6 := hLb5.turnS hTi fun x hx => by have := (hrg x hx).2; omega
    have t6 := t5.turn hTi fun hx => by have := (hrg _ hx).2; omega
    have hD6 := hD5.trans (hTi.below' hD5.size fun x hx => by have := (hrg x hx).1; omega)
    clear hUi hTi t5 hLb5 hD5 hrg hql HQL
    go_wp2_with fail
    refine (hA _).mono ?_
    rintro e w7 ⟨⟨vc, rfl, hLc⟩, hB7⟩
    have hC7 := hD6.trans (hB7.mono hD6.size)
    have t7 := (t6.below hB7).alloc (.cells #[.int .i64 0, .int .i64 0] 27)
    have u7 := SV.new w7 0 0
    have hD7 := hC7.alloc hC7.size (.cells #[.int .i64 0, .int .i64 0] 27)
    have hLb7 := (hLb6.below hB7 (Nat.le_refl _)).alloc (.cells #[.int .i64 0, .int .i64 0] 27)
    have hLc7 := hLc.alloc (.cells #[.int .i64 0, .int .i64 0] 27)
    clear hC7 hB7 hD6 t6 hLb6 hLc
    obtain ⟨a3, c3, rfl, -⟩ := hLc7.s.shape
    go_wp2_with fail
    generalize w7.alloc (.cells #[.int .i64 0, .int .i64 0] 27) = W7 at *
    generalize w7.heap.size = p7 at *
    refine (hSm _ _ _ hLc7.s hLb7.s).mono ?_
    rintro e w8 ⟨rfl, hB8⟩
    have hD8 := hD7.trans (hB8.mono hD7.size)
    obtain ⟨x0, x1⟩ := (t7.below hB8).cells
    obtain ⟨y0, y1⟩ := (u7.below hB8).cells
    clear t7 u7 hB8 hD7 hLc7 hLb7
    go_wp2
    go_ret
    exact ⟨rfl, hD8⟩

set_option maxRecDepth 100000 in
theorem lines_big (s : ByteArray) (w : World) (hs : 262144 < s.size) : Calls Try.prog 3 #[.string s] w fun e w' => e = .returned (.bool true) ∧ Below w.heap.size w w' := by
  have eS := eql_spot
  have gS := guard_spot
  go_enter Try.func3, Try.ntmps3
  go_wp2_with fail
  refine (works_any _).mono ?_
  rintro e w1 ⟨rfl, hB1⟩
  have hlo := long_any s.size w1
  rw [decide_eq_true hs] at hlo
  go_wp2_with fail
  refine hlo.mono ?_
  rintro e w2 ⟨rfl, rfl⟩
  clear hlo
  go_wp2_with fail
  refine (Lines_long s _ (by omega)).mono ?_
  rintro e w3 ⟨rfl, hB3⟩
  have hC3 := hB1.trans (hB3.mono hB1.size)
  obtain ⟨x0, x1⟩ := (SV.new w3 3 32768).cells
  have hD3 := hC3.alloc hC3.size (.cells #[.int .i64 3, .int .i64 32768] 27)
  go_wp2
  go_ret
  exact ⟨rfl, hD3⟩

theorem lines_walk (s : ByteArray) (w : World) : Calls Try.prog 3 #[.string s] w fun e w' => e = .returned (.bool true) ∧ Below w.heap.size w w' := by
  rcases Nat.lt_or_ge 262144 s.size with hbig | hsm
  · exact lines_big s w hbig
  · rcases Nat.lt_or_ge 32768 s.size with hb | hs
    · exact lines_nil s w 3 32768 hsm (fun W => Lines_long s W hb) (fun W => LinesT_long s W hb)
    · cases hlx : Lx.lex (bs s) with
      | ok ls => exact lines_ok s w ls hs hlx
      | bad a =>
        refine lines_nil s w 6 (a : Int) hsm (fun W => ?_) (fun W => ?_)
        · have := Lines_any s W hs
          rw [hlx] at this
          exact this
        · have := LinesT_any s W hs
          rw [hlx] at this
          exact this

end Go.Proofs.Ytdknggccjhillaa
