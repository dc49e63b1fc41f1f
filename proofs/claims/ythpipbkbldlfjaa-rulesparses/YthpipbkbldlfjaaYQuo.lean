/-
  WHAT THE DOCUMENT's quoted DOES.
-/
import Derived.Test.YthpipbkbldlfjaaYText
namespace Go.Proofs.Ythpipbkbldlfjaa
open Go.RowKit

/-- what quoted answers -/
def qres (n a : Nat) : Lx.R Nat (Option (List UInt8 × List (Lx.B Nat))) → Array Value
  | .bad x => #[.string .empty, .int .i64 0, .int .i64 (x : Int)]
  | .ok none => #[.string .empty, .int .i64 0, .int .i64 (a : Int)]
  | .ok (some (s, r)) => #[.string (str s), .int .i64 ((n - r.length : Nat) : Int), .int .i64 (-1)]
theorem drop_at {l : List (Lx.B Nat)} {k : Nat} (h : k < l.length) : l.drop k = l.getD k Lx.noB :: l.drop (k + 1) := by
  rw [List.drop_eq_getElem_cons h]
  simp [List.getD, List.getElem?_eq_getElem h]

set_option maxRecDepth 100000 in
set_option maxHeartbeats 4000000 in
theorem quotedT_any (w : World) (B : Nat) (v : Value) (l : List (Lx.B Nat)) (i : Nat) (h : ByR.Sl w B v l) (hBw : B ≤ w.heap.size) (hi : i < l.length) (hn : ∀ b ∈ l, b.c ≠ 10) (hll : l.length ≤ 1099511) :
    Calls Try.prog 60 #[v, .int .i64 (i : Int)] w fun e w' => e = .returned (.tuple (qres l.length (l.getD i Lx.noB).at_ (Lx.quo (l.drop (i + 1)) []))) ∧ Below w.heap.size w w' := by
  obtain ⟨ad, c, rfl, hle⟩ := h.shape
  obtain ⟨R, hR⟩ : ∃ R, Lx.quo (l.drop (i + 1)) [] = R := ⟨_, rfl⟩
  have HR : Hid _ := hR
  rw [hR]
  clear hR
  have HN : Hid _ := hn
  clear hn
  obtain ⟨av, hav⟩ : ∃ av, (l.getD i Lx.noB).at_ = av := ⟨_, rfl⟩
  have HAV : Hid _ := hav
  rw [hav]
  clear hav
  go_enter Try.func60, Try.ntmps60
  go_wp2
  go_loopw [7, 8, 9] (fun s k _ wr => ∃ (j : Nat) (acc : List UInt8), i + 1 ≤ j ∧ j ≤ l.length ∧ k = .int .i64 (j : Int) ∧ Own wr w.heap.size s acc ∧ acc.length ≤ j ∧ Lx.quo (l.drop j) acc = R ∧ Below w.heap.size w wr) (fun _ k _ _ => l.length - (intOf k).toNat)
  case atStart => exact ⟨i + 1, [], Nat.le_refl _, by omega, by go_num, Own.nil _ _, by simp, HR.out, Below.refl _ _⟩
  case round =>
    obtain ⟨j, acc, hj1, hj2, rfl, hO, hal, hq, hB⟩ := hrel
    have HQ : Hid _ := hq
    clear hq
    have hsl := h.below hB hBw
    by_cases hlt : j < l.length
    · obtain ⟨b, o, c', e, hb, p0, p1, p2⟩ := ByR.at hsl j hlt
      simp only [Value.slice.injEq] at e
      obtain ⟨rfl, -, rfl⟩ := e
      have i1 : (j : Int) < (l.length : Int) := by omega
      have hd := drop_at hlt
      have hx10 : (l.getD j Lx.noB).c ≠ 10 := HN.out _ (by simp [List.getD, List.getElem?_eq_getElem hlt])
      have HP1 : Hid (∀ hj : j + 1 < l.length, wr.cell? ⟨b, o + (j + 1) * 3, none⟩ = some (.int .u8 ((l.getD (j + 1) Lx.noB).c.toNat : Int)) ∧ wr.cell? ⟨b, o + (j + 1) * 3 + 1, none⟩ = some (.bool (l.getD (j + 1) Lx.noB).join)) := fun hj => by
        obtain ⟨b', o', c', e, -, q0, q1, -⟩ := ByR.at hsl (j + 1) hj
        simp only [Value.slice.injEq, Option.some.injEq, Addr.mk.injEq] at e
        obtain ⟨⟨rfl, rfl, -⟩, -, -⟩ := e
        exact ⟨q0, q1⟩
      obtain ⟨x, hx⟩ : ∃ x, l.getD j Lx.noB = x := ⟨_, rfl⟩
      rw [hx] at p0 p1 p2 hd hx10
      rw [hd] at HQ
      clear hd hx
      have e10 : (((x.c.toNat : Int)) != 10) = true := by
        have := beq_lit x.c 10
        rw [show ((10 : UInt8).toNat : Int) = 10 from rfl, decide_eq_false hx10] at this
        simpa [bne] using this
      have e34 := beq_lit x.c 34
      rw [show ((34 : UInt8).toNat : Int) = 34 from rfl] at e34
      have e92 := beq_lit x.c 92
      rw [show ((92 : UInt8).toNat : Int) = 92 from rfl] at e92
      clear hx10
      rw [Lx.quo] at HQ
      by_cases h34 : x.c = 34
      · rw [if_pos h34] at HQ
        rw [decide_eq_true h34] at e34
        have hcv := conv_byts hO.byts
        obtain ⟨a5, n5, c5, rfl⟩ := own_sl hO
        clear h34 e92
        go_wp2
        go_ret3
        refine ⟨?_, hB⟩
        rw [← HQ.out]
        have : l.length - (l.drop (j + 1)).length = j + 1 := by rw [List.length_drop]; omega
        simp only [qres, this]
        rfl
      rw [if_neg h34] at HQ
      rw [decide_eq_false h34] at e34
      by_cases h92 : x.c ≠ 92
      · rw [if_pos h92] at HQ
        rw [decide_eq_false h92] at e92
        have m92 : (((x.c.toNat : Int)) != 92) = true := by simpa [bne] using e92
        clear h34 h92
        have hb4 : Byts (wr.alloc (.cells #[.int .u8 (x.c.toNat : Int)] 5)) (wr.heap.size + 1) (.slice (some ⟨wr.heap.size, 0, none⟩) 1 1) [x.c] := byts_lit wr #[.int .u8 (x.c.toNat : Int)] [x.c] 1 (by simp [bV]) rfl
        have hO4 := hO.alloc (.cells #[.int .u8 (x.c.toNat : Int)] 5)
        have hB4 := hB.alloc hB.size (.cells #[.int .u8 (x.c.toNat : Int)] 5)
        have HLn : Hid (acc.length + [x.c].length ≤ 1099511627800) := by show _ ≤ _; simp only [List.length_cons, List.length_nil]; omega
        obtain ⟨a5, n5, c5, rfl⟩ := own_sl hO
        go_wp2_with (at_builtin; go_must (refine wpList_append_byts rfl _ _ rfl w.heap.size (wr.heap.size + 1) _ _ acc [x.c] rfl hO4 rfl hb4 HLn hB4.size ?_))
        intro v5 w5 hO5 hg5
        have hB5 := hB4.grown hg5 hB4.size fun j e => (World.ownsRow.lt hO4 j e).1
        clear hb4 hO4 hB4 HLn hg5 hO
        go_wp2
        exact ⟨⟨j + 1, _, by omega, by omega, by go_num, hO5, by simp only [List.length_append, List.length_cons, List.length_nil]; omega, HQ.out, hB5⟩, by simp [intOf]; omega⟩
      rw [if_neg h92] at HQ
      have h92' : x.c = 92 := Decidable.not_not.1 h92
      rw [decide_eq_true h92'] at e92
      have m92 : (((x.c.toNat : Int)) != 92) = false := by simpa [bne] using e92
      clear h34 h92 h92'
      by_cases hk1 : j + 1 < l.length
      · obtain ⟨q0, q1⟩ := HP1.out hk1
        have hd1 := drop_at hk1
        obtain ⟨y, hy⟩ : ∃ y, l.getD (j + 1) Lx.noB = y := ⟨_, rfl⟩
        rw [hy] at q0 q1 hd1
        rw [hd1, Lx.quo.qesc] at HQ
        clear hd1 hy HP1
        have i2 : (((j : Int) + 1) == (l.length : Int)) = false := by rw [beq_eq_false_iff_ne]; omega
        have i3 : (j : Int) + 1 < (l.length : Int) := by omega
        by_cases hjn : y.join = true
        · rw [if_pos hjn] at HQ
          rw [hjn] at q1
          clear hjn
          obtain ⟨a5, n5, c5, rfl⟩ := own_sl hO
          go_wp2_with fail
          go_quiet (fail)
          go_wp2
          go_ret3
          rw [← HQ.out]
          exact ⟨rfl, below_drewN hB _⟩
        rw [if_neg hjn] at HQ
        rw [Bool.not_eq_true] at hjn
        rw [hjn] at q1
        clear hjn
        have f34 := beq_lit y.c 34
        rw [show ((34 : UInt8).toNat : Int) = 34 from rfl] at f34
        have f92 := beq_lit y.c 92
        rw [show ((92 : UInt8).toNat : Int) = 92 from rfl] at f92
        have f110 := beq_lit y.c 110
        rw [show ((110 : UInt8).toNat : Int) = 110 from rfl] at f110
        have f116 := beq_lit y.c 116
        rw [show ((116 : UInt8).toNat : Int) = 116 from rfl] at f116
        by_cases g34 : y.c = 34
        · rw [decide_eq_true g34] at f34
          rw [show Lx.esc y.c = some y.c by unfold Lx.esc; rw [if_pos (.inl g34)]] at HQ
          clear g34 f92 f110 f116
          have hb4 : Byts (wr.alloc (.cells #[.int .u8 (y.c.toNat : Int)] 5)) (wr.heap.size + 1) (.slice (some ⟨wr.heap.size, 0, none⟩) 1 1) [y.c] := byts_lit wr #[.int .u8 (y.c.toNat : Int)] [y.c] 1 (by simp [bV]) rfl
          have hO4 := hO.alloc (.cells #[.int .u8 (y.c.toNat : Int)] 5)
          have hB4 := hB.alloc hB.size (.cells #[.int .u8 (y.c.toNat : Int)] 5)
          have HLn : Hid (acc.length + ([y.c] : List UInt8).length ≤ 1099511627800) := by show _ ≤ _; simp only [List.length_cons, List.length_nil]; omega
          obtain ⟨a5, n5, c5, rfl⟩ := own_sl hO
          go_wp2_with (at_builtin; go_must (refine wpList_append_byts rfl _ _ rfl w.heap.size (wr.heap.size + 1) _ _ acc [y.c] rfl hO4 rfl hb4 HLn hB4.size ?_))
          intro v5 w5 hO5 hg5
          have hB5 := hB4.grown hg5 hB4.size fun j e => (World.ownsRow.lt hO4 j e).1
          clear hb4 hO4 hB4 HLn hg5 hO
          go_wp2
          exact ⟨⟨j + 2, _, by omega, by omega, by go_num, hO5, by simp only [List.length_append, List.length_cons, List.length_nil]; omega, HQ.out, hB5⟩, by simp [intOf]; omega⟩
        rw [decide_eq_false g34] at f34
        by_cases g92 : y.c = 92
        · rw [decide_eq_true g92] at f92
          rw [show Lx.esc y.c = some y.c by unfold Lx.esc; rw [if_pos (.inr g92)]] at HQ
          clear g34 g92 f110 f116
          have hb4 : Byts (wr.alloc (.cells #[.int .u8 (y.c.toNat : Int)] 5)) (wr.heap.size + 1) (.slice (some ⟨wr.heap.size, 0, none⟩) 1 1) [y.c] := byts_lit wr #[.int .u8 (y.c.toNat : Int)] [y.c] 1 (by simp [bV]) rfl
          have hO4 := hO.alloc (.cells #[.int .u8 (y.c.toNat : Int)] 5)
          have hB4 := hB.alloc hB.size (.cells #[.int .u8 (y.c.toNat : Int)] 5)
          have HLn : Hid (acc.length + ([y.c] : List UInt8).length ≤ 1099511627800) := by show _ ≤ _; simp only [List.length_cons, List.length_nil]; omega
          obtain ⟨a5, n5, c5, rfl⟩ := own_sl hO
          go_wp2_with (at_builtin; go_must (refine wpList_append_byts rfl _ _ rfl w.heap.size (wr.heap.size + 1) _ _ acc [y.c] rfl hO4 rfl hb4 HLn hB4.size ?_))
          intro v5 w5 hO5 hg5
          have hB5 := hB4.grown hg5 hB4.size fun j e => (World.ownsRow.lt hO4 j e).1
          clear hb4 hO4 hB4 HLn hg5 hO
          go_wp2
          exact ⟨⟨j + 2, _, by omega, by omega, by go_num, hO5, by simp only [List.length_append, List.length_cons, List.length_nil]; omega, HQ.out, hB5⟩, by simp [intOf]; omega⟩
        rw [decide_eq_false g92] at f92
        by_cases g110 : y.c = 110
        · rw [decide_eq_true g110] at f110
          rw [show Lx.esc y.c = some 10 by unfold Lx.esc; rw [if_neg (fun h => h.elim g34 g92), if_pos g110]] at HQ
          clear g34 g92 g110 f116
          have hb4 : Byts (wr.alloc (.cells #[.int .u8 10] 5)) (wr.heap.size + 1) (.slice (some ⟨wr.heap.size, 0, none⟩) 1 1) [10] := byts_lit wr #[.int .u8 10] [10] 1 (by simp [bV]) rfl
          have hO4 := hO.alloc (.cells #[.int .u8 10] 5)
          have hB4 := hB.alloc hB.size (.cells #[.int .u8 10] 5)
          have HLn : Hid (acc.length + ([10] : List UInt8).length ≤ 1099511627800) := by show _ ≤ _; simp only [List.length_cons, List.length_nil]; omega
          obtain ⟨a5, n5, c5, rfl⟩ := own_sl hO
          go_wp2_with (at_builtin; go_must (refine wpList_append_byts rfl _ _ rfl w.heap.size (wr.heap.size + 1) _ _ acc [10] rfl hO4 rfl hb4 HLn hB4.size ?_))
          intro v5 w5 hO5 hg5
          have hB5 := hB4.grown hg5 hB4.size fun j e => (World.ownsRow.lt hO4 j e).1
          clear hb4 hO4 hB4 HLn hg5 hO
          go_wp2
          exact ⟨⟨j + 2, _, by omega, by omega, by go_num, hO5, by simp only [List.length_append, List.length_cons, List.length_nil]; omega, HQ.out, hB5⟩, by simp [intOf]; omega⟩
        rw [decide_eq_false g110] at f110
        by_cases g116 : y.c = 116
        · rw [decide_eq_true g116] at f116
          rw [show Lx.esc y.c = some 9 by unfold Lx.esc; rw [if_neg (fun h => h.elim g34 g92), if_neg g110, if_pos g116]] at HQ
          clear g34 g92 g110 g116
          have hb4 : Byts (wr.alloc (.cells #[.int .u8 9] 5)) (wr.heap.size + 1) (.slice (some ⟨wr.heap.size, 0, none⟩) 1 1) [9] := byts_lit wr #[.int .u8 9] [9] 1 (by simp [bV]) rfl
          have hO4 := hO.alloc (.cells #[.int .u8 9] 5)
          have hB4 := hB.alloc hB.size (.cells #[.int .u8 9] 5)
          have HLn : Hid (acc.length + ([9] : List UInt8).length ≤ 1099511627800) := by show _ ≤ _; simp only [List.length_cons, List.length_nil]; omega
          obtain ⟨a5, n5, c5, rfl⟩ := own_sl hO
          go_wp2_with (at_builtin; go_must (refine wpList_append_byts rfl _ _ rfl w.heap.size (wr.heap.size + 1) _ _ acc [9] rfl hO4 rfl hb4 HLn hB4.size ?_))
          intro v5 w5 hO5 hg5
          have hB5 := hB4.grown hg5 hB4.size fun j e => (World.ownsRow.lt hO4 j e).1
          clear hb4 hO4 hB4 HLn hg5 hO
          go_wp2
          exact ⟨⟨j + 2, _, by omega, by omega, by go_num, hO5, by simp only [List.length_append, List.length_cons, List.length_nil]; omega, HQ.out, hB5⟩, by simp [intOf]; omega⟩
        rw [decide_eq_false g116] at f116
        rw [show Lx.esc y.c = none by unfold Lx.esc; rw [if_neg (fun h => h.elim g34 g92), if_neg g110, if_neg g116]] at HQ
        clear g34 g92 g110 g116
        obtain ⟨a5, n5, c5, rfl⟩ := own_sl hO
        go_wp2_with fail
        go_quiet (fail)
        go_wp2
        go_ret3
        rw [← HQ.out]
        exact ⟨rfl, below_drewN hB _⟩
      · have i2 : (((j : Int) + 1) == (l.length : Int)) = true := by rw [beq_iff_eq]; omega
        rw [List.drop_of_length_le (by omega), Lx.quo.qesc] at HQ
        obtain ⟨a5, n5, c5, rfl⟩ := own_sl hO
        go_wp2_with fail
        go_quiet (fail)
        go_wp2
        go_ret3
        rw [← HQ.out]
        exact ⟨rfl, below_drewN hB _⟩
    · obtain rfl : j = l.length := by omega
      have i1 : ¬ (l.length : Int) < (l.length : Int) := by omega
      obtain ⟨b, o, c', e, hb, p0, p1, p2⟩ := ByR.at hsl i hi
      simp only [Value.slice.injEq] at e
      obtain ⟨rfl, -, rfl⟩ := e
      have HE : Hid (R = .ok none) := by
        show _ = _
        rw [← HQ.out, List.drop_length]; rfl
      rw [HAV.out] at p2
      clear HQ p0 p1
      have i2 : (i : Int) < (l.length : Int) := by omega
      obtain ⟨a5, n5, c5, rfl⟩ := own_sl hO
      go_wp2_with fail
      go_quiet (fail)
      go_wp2
      go_ret3
      rw [HE.out]
      exact ⟨rfl, below_drewN hB _⟩

end Go.Proofs.Ythpipbkbldlfjaa
