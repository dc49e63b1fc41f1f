/-
  LexQuotes ANSWERS true.
-/
import Derived.Test.YtdknggccjhillaaLBack
import Derived.Test.YtdknggccjhillaaLPlaces
import Derived.Test.YtdknggccjhillaaXWord
namespace Go.Proofs.Ytdknggccjhillaa
open Go.RowKit

theorem neq_want (W : World) (s : ByteArray) (Q : Bool) : (binOp .neq 35 (.agg #[.string s, .int .i64 1, .int .i64 0, .bool Q, .bool false]) (.agg #[.string s, .int .i64 1, .int .i64 0, .bool Q, .bool false])).run Try.prog W = .ok (.bool false) W := by
  have := neq_word W ⟨bs s, 1, 0, Q, false⟩ ⟨bs s, 1, 0, Q, false⟩
  unfold wdA at this
  simp only [show str (bs s) = s from str_of s, decide_true, Bool.not_true] at this
  exact this

set_option maxRecDepth 100000 in
set_option maxHeartbeats 2000000 in
theorem quotes_walk (s : ByteArray) (w : World) : Calls Try.prog 5 #[.string s] w fun e w' => e = .returned (.bool true) ∧ Below w.heap.size w w' := by
  have eS := eql_spot
  have nS := neq_spot
  have gS := guard_spot
  have gW := guard_word
  have nWW : ∀ (Q : Bool) (W : World), (binOp .neq 35 (.agg #[.string s, .int .i64 1, .int .i64 0, .bool Q, .bool false]) (.agg #[.string s, .int .i64 1, .int .i64 0, .bool Q, .bool false])).run Try.prog W = .ok (.bool false) W := fun Q W => neq_want W s Q
  go_enter Try.func5, Try.ntmps5
  go_wp2_with fail
  refine (works_any _).mono ?_
  rintro e w1 ⟨rfl, hB1⟩
  have hlo := long_any s.size w1
  by_cases h : 262144 < s.size
  · rw [decide_eq_true h] at hlo
    go_wp2_with fail
    refine hlo.mono ?_
    rintro e w2 ⟨rfl, rfl⟩
    go_wp2
    go_ret
    exact ⟨rfl, hB1⟩
  rw [decide_eq_false h] at hlo
  go_wp2_with fail
  refine hlo.mono ?_
  rintro e w2 ⟨rfl, rfl⟩
  clear hlo
  go_wp2_with fail
  refine (Quote_any s _ (by omega)).mono ?_
  rintro e w3 ⟨rfl, hB2⟩
  have hB3 := hB1.trans (hB2.mono hB1.size)
  clear hB1 hB2
  go_wp2_with fail
  refine (Show_any s _ (by omega)).mono ?_
  rintro e w4 ⟨rfl, hB4⟩
  have hB5 := hB3.trans (hB4.mono hB3.size)
  clear hB3 hB4
  have L0 : Hid (Lx.lex (bs (str (Lx.quote (bs s)))) = .ok [⟨0, false, [⟨bs s, 0, true, false⟩]⟩]) := by
    show _ = _
    rw [bs_str]; exact Lx.lex_quote _
  have L1 : Hid (Lx.lex (bs (str (Lx.show_ (bs s)))) = .ok [⟨0, false, [⟨bs s, 0, !Lx.plain (bs s), false⟩]⟩]) := by
    show _ = _
    rw [bs_str]
    unfold Lx.show_
    cases hp : Lx.plain (bs s) with
    | true => rw [if_pos rfl]; exact Lx.lex_plain hp
    | false => rw [if_neg (by simp)]; exact Lx.lex_quote _
  have E0 : ((str (Lx.quote (bs s))).toList == (str (Lx.quote (bs s))).toList) = true := by simp
  have E1 : ((str (Lx.show_ (bs s))).toList == (str (Lx.quote (bs s))).toList) = !Lx.plain (bs s) := by
    rw [beq_str]
    unfold Lx.show_
    cases hp : Lx.plain (bs s) with
    | true =>
      rw [if_pos rfl]
      refine decide_eq_false fun e => ?_
      have h1 := congrArg List.length e
      unfold Lx.quote at h1
      rw [List.length_cons, List.length_append, List.length_singleton] at h1
      have h2 : (bs s).length ≤ ((bs s).flatMap Lx.qb).length := by
        generalize bs s = l
        induction l with
        | nil => simp
        | cons c r ih =>
          rw [List.flatMap_cons, List.length_append, List.length_cons]
          have : 1 ≤ (Lx.qb c).length := by unfold Lx.qb; split <;> (try split) <;> (try split) <;> simp
          omega
      omega
    | false =>
      rw [if_neg (by simp)]
      exact decide_eq_true rfl
  have hPl := Plain_any s
  have hPt := PlainT_any s
  have hQt := QuoteT_any s
  have hSt := ShowT_any s
  generalize (!Lx.plain (bs s)) = QT at *
  generalize Lx.plain (bs s) = PL at *
  obtain ⟨qS, hqS⟩ : ∃ q, str (Lx.quote (bs s)) = q := ⟨_, rfl⟩
  obtain ⟨tS, htS⟩ : ∃ q, str (Lx.show_ (bs s)) = q := ⟨_, rfl⟩
  rw [hqS] at L0 E0 E1 hQt ⊢
  rw [htS] at L1 E1 hSt ⊢
  clear hqS htS
  have E2 : (tS.toList == tS.toList) = true := by simp
  have hix0 : ∀ W : World, (Instr.index 41 (.agg #[.string qS, .string tS]) (.int .i64 0)).run Try.prog W = .ok (.string qS) W := fun _ => by kernel_rfl
  have hix1 : ∀ W : World, (Instr.index 41 (.agg #[.string qS, .string tS]) (.int .i64 1)).run Try.prog W = .ok (.string tS) W := fun _ => by kernel_rfl
  have M0 : (qS.toList != qS.toList) = false := by simp
  have M1 : (tS.toList != tS.toList) = false := by simp
  have b0 : (PL == PL) = true := by simp
  go_wp2_with fail
  refine (hPl _ (by omega)).mono ?_
  rintro e w5 ⟨rfl, rfl⟩
  go_wp2_with fail
  refine (hPt _ (by omega)).mono ?_
  rintro e w6 ⟨rfl, rfl⟩
  go_wp2_with fail
  refine (hQt _ (by omega)).mono ?_
  rintro e w7 ⟨rfl, hB7⟩
  have hB8 := hB5.trans (hB7.mono hB5.size)
  clear hB5 hB7
  go_wp2_with fail
  refine (hSt _ (by omega)).mono ?_
  rintro e w8 ⟨rfl, hB9⟩
  have hB10 := hB8.trans (hB9.mono hB8.size)
  clear hB8 hB9 hPl hPt hQt hSt b0
  go_wp2
  go_loopw [39] (fun i wr => ∃ k : Nat, k ≤ 2 ∧ i = .int .i64 (k : Int) ∧ Below w.heap.size w wr) (fun i _ => 2 - (intOf i).toNat)
  case atStart => exact ⟨0, by omega, rfl, hB10⟩
  case round =>
    clear hB10
    obtain ⟨k, hk, rfl, hB⟩ := hrel
    have hk3 : k = 0 ∨ k = 1 ∨ k = 2 := by omega
    rcases hk3 with rfl | rfl | rfl
    · skip
      go_wp2_with fail
      rcases Nat.lt_or_ge 32768 qS.size with hbig | hsm
      · have i2 : (32768 : Int) < (qS.size : Int) := by omega
        refine (Lines_long qS _ hbig).mono ?_
        rintro e w4 ⟨rfl, hB4⟩
        have hC4 := hB.trans (hB4.mono hB.size)
        have hD4 := hC4.alloc hC4.size (.cells #[.int .i64 3, .int .i64 32768] 27)
        obtain ⟨x0, y0⟩ := (SV.new w4 3 32768).cells
        go_wp2
        exact ⟨⟨1, by omega, rfl, hD4⟩, by simp [intOf]⟩
      · have i2 : ¬ (32768 : Int) < (qS.size : Int) := by omega
        have hli := Lines_any qS wr hsm
        rw [L0.out] at hli
        refine hli.mono ?_
        rintro e w4 ⟨⟨v, rfl, hL⟩, hB4⟩
        have hC4 := hB.trans (hB4.mono hB.size)
        have hD4 := hC4.alloc hC4.size (.cells #[.int .i64 0, .int .i64 0] 27)
        have hD5 := hD4.alloc hD4.size (.cells #[.string s, .int .i64 1, .int .i64 0, .bool true, .bool false] 35)
        have hS := ((hL.alloc (.cells #[.int .i64 0, .int .i64 0] 27)).alloc (.cells #[.string s, .int .i64 1, .int .i64 0, .bool true, .bool false] 35)).s
        obtain ⟨x0, y0⟩ := ((SV.new w4 0 0).alloc (.cells #[.string s, .int .i64 1, .int .i64 0, .bool true, .bool false] 35)).cells
        have hWw : WAt ((w4.alloc (.cells #[.int .i64 0, .int .i64 0] 27)).alloc (.cells #[.string s, .int .i64 1, .int .i64 0, .bool true, .bool false] 35)) (w4.heap.size + 1) ⟨bs s, 1, 0, true, false⟩ := by
          have := heap_alloc_new (w4.alloc (.cells #[.int .i64 0, .int .i64 0] 27)) (.cells #[.string s, .int .i64 1, .int .i64 0, .bool true, .bool false] 35)
          rw [show (w4.alloc (.cells #[.int .i64 0, .int .i64 0] 27)).heap.size = w4.heap.size + 1 from Array.size_push ..] at this
          unfold WAt
          rw [this]
          show some _ = some (Obj.cells #[.string (str (bs s)), _, _, _, _] _ _)
          rw [show str (bs s) = s from str_of s]
        obtain ⟨z0, z1, z2, z3, z4⟩ := hWw.cells
        simp only [show str (bs s) = s from str_of s] at z0 z1 z2 z3 z4
        obtain ⟨b, o, c, ad, c2, rfl, hb, p0, p1, p2, hW⟩ := hS.at 0 (Nat.zero_lt_one)
        obtain ⟨b2, o2, c3, e, hb2, q0, q1, q2, q3, q4⟩ := WdR.at hW 0 (Nat.zero_lt_one)
        simp only [Value.slice.injEq] at e
        obtain ⟨rfl, -, rfl⟩ := e
        have P0 : ((w4.alloc (.cells #[.int .i64 0, .int .i64 0] 27)).alloc (.cells #[.string s, .int .i64 1, .int .i64 0, .bool true, .bool false] 35)).cell? ⟨b, o, none⟩ = some (.int .i64 1) := p0
        have P1 : ((w4.alloc (.cells #[.int .i64 0, .int .i64 0] 27)).alloc (.cells #[.string s, .int .i64 1, .int .i64 0, .bool true, .bool false] 35)).cell? ⟨b, o + 1, none⟩ = some (.bool false) := p1
        have P2 : ((w4.alloc (.cells #[.int .i64 0, .int .i64 0] 27)).alloc (.cells #[.string s, .int .i64 1, .int .i64 0, .bool true, .bool false] 35)).cell? ⟨b, o + 2, none⟩ = some (.slice (some ⟨b2, o2, none⟩) 1 c2) := p2
        have Q0 : ((w4.alloc (.cells #[.int .i64 0, .int .i64 0] 27)).alloc (.cells #[.string s, .int .i64 1, .int .i64 0, .bool true, .bool false] 35)).cell? ⟨b2, o2, none⟩ = some (.string s) := by
          have := q0
          rw [show o2 + 0 * 5 = o2 by omega] at this
          rw [this]
          show some (Value.string (str (bs s))) = _
          rw [show str (bs s) = s from str_of s]
        have Q1 : ((w4.alloc (.cells #[.int .i64 0, .int .i64 0] 27)).alloc (.cells #[.string s, .int .i64 1, .int .i64 0, .bool true, .bool false] 35)).cell? ⟨b2, o2 + 1, none⟩ = some (.int .i64 1) := by
          rw [← show o2 + 0 * 5 + 1 = o2 + 1 by omega]; exact q1
        have Q2 : ((w4.alloc (.cells #[.int .i64 0, .int .i64 0] 27)).alloc (.cells #[.string s, .int .i64 1, .int .i64 0, .bool true, .bool false] 35)).cell? ⟨b2, o2 + 2, none⟩ = some (.int .i64 0) := by
          rw [← show o2 + 0 * 5 + 2 = o2 + 2 by omega]; exact q2
        have Q3 : ((w4.alloc (.cells #[.int .i64 0, .int .i64 0] 27)).alloc (.cells #[.string s, .int .i64 1, .int .i64 0, .bool true, .bool false] 35)).cell? ⟨b2, o2 + 3, none⟩ = some (.bool true) := by
          rw [← show o2 + 0 * 5 + 3 = o2 + 3 by omega]; exact q3
        have Q4 : ((w4.alloc (.cells #[.int .i64 0, .int .i64 0] 27)).alloc (.cells #[.string s, .int .i64 1, .int .i64 0, .bool true, .bool false] 35)).cell? ⟨b2, o2 + 4, none⟩ = some (.bool false) := by
          rw [← show o2 + 0 * 5 + 4 = o2 + 4 by omega]; exact q4
        clear p0 p1 p2 q0 q1 q2 q3 q4 hW hS hL hli hC4 hD4
        have nW := nWW true
        go_wp2_with fail
        go_quiet (fail)
        go_wp2
        exact ⟨⟨1, by omega, rfl, below_drewN hD5 _⟩, by simp [intOf]⟩
    · skip
      go_wp2_with fail
      rcases Nat.lt_or_ge 32768 tS.size with hbig | hsm
      · have i2 : (32768 : Int) < (tS.size : Int) := by omega
        refine (Lines_long tS _ hbig).mono ?_
        rintro e w4 ⟨rfl, hB4⟩
        have hC4 := hB.trans (hB4.mono hB.size)
        have hD4 := hC4.alloc hC4.size (.cells #[.int .i64 3, .int .i64 32768] 27)
        obtain ⟨x0, y0⟩ := (SV.new w4 3 32768).cells
        go_wp2
        exact ⟨⟨2, by omega, rfl, hD4⟩, by simp [intOf]⟩
      · have i2 : ¬ (32768 : Int) < (tS.size : Int) := by omega
        have hli := Lines_any tS wr hsm
        rw [L1.out] at hli
        refine hli.mono ?_
        rintro e w4 ⟨⟨v, rfl, hL⟩, hB4⟩
        have hC4 := hB.trans (hB4.mono hB.size)
        have hD4 := hC4.alloc hC4.size (.cells #[.int .i64 0, .int .i64 0] 27)
        have hD5 := hD4.alloc hD4.size (.cells #[.string s, .int .i64 1, .int .i64 0, .bool QT, .bool false] 35)
        have hS := ((hL.alloc (.cells #[.int .i64 0, .int .i64 0] 27)).alloc (.cells #[.string s, .int .i64 1, .int .i64 0, .bool QT, .bool false] 35)).s
        obtain ⟨x0, y0⟩ := ((SV.new w4 0 0).alloc (.cells #[.string s, .int .i64 1, .int .i64 0, .bool QT, .bool false] 35)).cells
        have hWw : WAt ((w4.alloc (.cells #[.int .i64 0, .int .i64 0] 27)).alloc (.cells #[.string s, .int .i64 1, .int .i64 0, .bool QT, .bool false] 35)) (w4.heap.size + 1) ⟨bs s, 1, 0, QT, false⟩ := by
          have := heap_alloc_new (w4.alloc (.cells #[.int .i64 0, .int .i64 0] 27)) (.cells #[.string s, .int .i64 1, .int .i64 0, .bool QT, .bool false] 35)
          rw [show (w4.alloc (.cells #[.int .i64 0, .int .i64 0] 27)).heap.size = w4.heap.size + 1 from Array.size_push ..] at this
          unfold WAt
          rw [this]
          show some _ = some (Obj.cells #[.string (str (bs s)), _, _, _, _] _ _)
          rw [show str (bs s) = s from str_of s]
        obtain ⟨z0, z1, z2, z3, z4⟩ := hWw.cells
        simp only [show str (bs s) = s from str_of s] at z0 z1 z2 z3 z4
        obtain ⟨b, o, c, ad, c2, rfl, hb, p0, p1, p2, hW⟩ := hS.at 0 (Nat.zero_lt_one)
        obtain ⟨b2, o2, c3, e, hb2, q0, q1, q2, q3, q4⟩ := WdR.at hW 0 (Nat.zero_lt_one)
        simp only [Value.slice.injEq] at e
        obtain ⟨rfl, -, rfl⟩ := e
        have P0 : ((w4.alloc (.cells #[.int .i64 0, .int .i64 0] 27)).alloc (.cells #[.string s, .int .i64 1, .int .i64 0, .bool QT, .bool false] 35)).cell? ⟨b, o, none⟩ = some (.int .i64 1) := p0
        have P1 : ((w4.alloc (.cells #[.int .i64 0, .int .i64 0] 27)).alloc (.cells #[.string s, .int .i64 1, .int .i64 0, .bool QT, .bool false] 35)).cell? ⟨b, o + 1, none⟩ = some (.bool false) := p1
        have P2 : ((w4.alloc (.cells #[.int .i64 0, .int .i64 0] 27)).alloc (.cells #[.string s, .int .i64 1, .int .i64 0, .bool QT, .bool false] 35)).cell? ⟨b, o + 2, none⟩ = some (.slice (some ⟨b2, o2, none⟩) 1 c2) := p2
        have Q0 : ((w4.alloc (.cells #[.int .i64 0, .int .i64 0] 27)).alloc (.cells #[.string s, .int .i64 1, .int .i64 0, .bool QT, .bool false] 35)).cell? ⟨b2, o2, none⟩ = some (.string s) := by
          have := q0
          rw [show o2 + 0 * 5 = o2 by omega] at this
          rw [this]
          show some (Value.string (str (bs s))) = _
          rw [show str (bs s) = s from str_of s]
        have Q1 : ((w4.alloc (.cells #[.int .i64 0, .int .i64 0] 27)).alloc (.cells #[.string s, .int .i64 1, .int .i64 0, .bool QT, .bool false] 35)).cell? ⟨b2, o2 + 1, none⟩ = some (.int .i64 1) := by
          rw [← show o2 + 0 * 5 + 1 = o2 + 1 by omega]; exact q1
        have Q2 : ((w4.alloc (.cells #[.int .i64 0, .int .i64 0] 27)).alloc (.cells #[.string s, .int .i64 1, .int .i64 0, .bool QT, .bool false] 35)).cell? ⟨b2, o2 + 2, none⟩ = some (.int .i64 0) := by
          rw [← show o2 + 0 * 5 + 2 = o2 + 2 by omega]; exact q2
        have Q3 : ((w4.alloc (.cells #[.int .i64 0, .int .i64 0] 27)).alloc (.cells #[.string s, .int .i64 1, .int .i64 0, .bool QT, .bool false] 35)).cell? ⟨b2, o2 + 3, none⟩ = some (.bool QT) := by
          rw [← show o2 + 0 * 5 + 3 = o2 + 3 by omega]; exact q3
        have Q4 : ((w4.alloc (.cells #[.int .i64 0, .int .i64 0] 27)).alloc (.cells #[.string s, .int .i64 1, .int .i64 0, .bool QT, .bool false] 35)).cell? ⟨b2, o2 + 4, none⟩ = some (.bool false) := by
          rw [← show o2 + 0 * 5 + 4 = o2 + 4 by omega]; exact q4
        clear p0 p1 p2 q0 q1 q2 q3 q4 hW hS hL hli hC4 hD4
        have nW := nWW QT
        go_wp2_with fail
        go_quiet (fail)
        go_wp2
        exact ⟨⟨2, by omega, rfl, below_drewN hD5 _⟩, by simp [intOf]⟩
    · go_wp2
      go_ret
      exact ⟨rfl, hB⟩

end Go.Proofs.Ytdknggccjhillaa
