/-
  WHAT THE DOCUMENT's Bare, Place, Plain, Quote, Show DO.
-/
import Derived.Test.YthpipbkbldlfjaaXMath
import Derived.Test.YthpipbkbldlfjaaKit
namespace Go.Proofs.Ythpipbkbldlfjaa
open Go.RowKit

theorem bare_iff (c : UInt8) : Lx.bare c = decide (33 ≤ c.toNat ∧ c.toNat ≤ 126 ∧ c.toNat ≠ 34 ∧ c.toNat ≠ 35 ∧ c.toNat ≠ 58 ∧ c.toNat ≠ 61 ∧ c.toNat ≠ 92) := by
  have h : ∀ n : Fin 256, Lx.bare (UInt8.ofNat n.1) = decide (33 ≤ n.1 ∧ n.1 ≤ 126 ∧ n.1 ≠ 34 ∧ n.1 ≠ 35 ∧ n.1 ≠ 58 ∧ n.1 ≠ 61 ∧ n.1 ≠ 92) := by decide +kernel
  have := h ⟨c.toNat, c.toNat_lt⟩
  simpa using this
set_option maxRecDepth 100000 in
theorem BareT_any (c : UInt8) (w : World) : Calls Try.prog 61 #[.int .u8 (c.toNat : Int)] w fun e w' => e = .returned (.bool (Lx.bare c)) ∧ w' = w := by
  have HOk : Hid _ := bare_iff c
  have hx2 := c.toNat_lt
  generalize Lx.bare c = K at *
  generalize c.toNat = X at *
  go_enter Try.func61, Try.ntmps61
  go_wp2
  all_goals go_ret
  all_goals refine ⟨?_, rfl⟩
  all_goals rw [HOk.out]
  all_goals refine congrArg (fun b => Ending.returned (Value.bool b)) ?_
  all_goals rw [Bool.eq_iff_iff]
  all_goals simp only [Bool.and_eq_true, bne_iff_ne, decide_eq_true_eq, ne_eq, Bool.false_eq_true, false_iff]
  all_goals omega

theorem take_byte (s : ByteArray) (k : Nat) (h : k < s.size) : (bs s).take (k + 1) = (bs s).take k ++ [s[k]] := by
  rw [List.take_succ_eq_append_getElem (by rw [bs_length]; exact h)]
  congr 2
theorem place_step (s : ByteArray) (k : Nat) (h : k < s.size) : Lx.place (bs s) (k + 1) = if s[k] = 10 then ((Lx.place (bs s) k).1 + 1, 0) else ((Lx.place (bs s) k).1, (Lx.place (bs s) k).2 + 1) := by
  unfold Lx.place
  rw [take_byte s k h, List.count_append, List.reverse_append, List.reverse_singleton, List.singleton_append, List.takeWhile_cons]
  by_cases hx : s[k] = 10
  · rw [if_pos hx, hx]
    simp only [bne_self_eq_false, Bool.false_eq_true, if_false, List.count_singleton_self, List.length_nil]
  · rw [if_neg hx, if_pos (by simpa using hx)]
    have : List.count 10 [s[k]] = 0 := List.count_eq_zero.2 (by simpa using fun e => hx e.symm)
    rw [this]
    rfl
/-- Place at any number -/
def placeI (t : List UInt8) (n : Int) : Nat × Nat := Lx.place t n.toNat
theorem place_le (s : ByteArray) (k : Nat) : (Lx.place (bs s) k).1 ≤ k + 1 ∧ (Lx.place (bs s) k).2 ≤ k := by
  unfold Lx.place
  have h1 : ((bs s).take k).length ≤ k := by rw [List.length_take]; omega
  have h2 := List.count_le_length (a := (10 : UInt8)) (l := (bs s).take k)
  have h3 := List.Sublist.length_le (List.takeWhile_sublist (fun c : UInt8 => c != 10) (l := ((bs s).take k).reverse))
  rw [List.length_reverse] at h3
  exact ⟨by show _ + 1 ≤ _; omega, by show _ ≤ _; omega⟩
theorem place_all (t : List UInt8) (n : Nat) (h : t.length ≤ n) : Lx.place t n = Lx.place t t.length := by
  unfold Lx.place
  rw [List.take_of_length_le h, List.take_length]
set_option maxRecDepth 100000 in
set_option maxHeartbeats 1000000 in
theorem PlaceT_any (s : ByteArray) (n : Int) (w : World) (hs : s.size ≤ 1099511627) : Calls Try.prog 32 #[.string s, .int .i64 n] w fun e w' => e = .returned (.tuple #[.int .i64 ((placeI (bs s) n).1 : Int), .int .i64 ((placeI (bs s) n).2 : Int)]) ∧ w' = w := by
  go_enter Try.func32, Try.ntmps32
  go_wp2
  go_loopw [6, 7, 8] (fun a b i wr => ∃ k : Nat, k ≤ s.size ∧ (k : Int) ≤ max n 0 ∧ i = .int .i64 (k : Int) ∧ wr = w ∧ a = .int .i64 ((Lx.place (bs s) k).1 : Int) ∧ b = .int .i64 ((Lx.place (bs s) k).2 : Int)) (fun _ _ i _ => s.size - (intOf i).toNat)
  case atStart => exact ⟨0, Nat.zero_le _, by omega, rfl, rfl, rfl, rfl⟩
  case round =>
    obtain ⟨k, hk, hkn, rfl, rfl, rfl, rfl⟩ := hrel
    obtain ⟨h1, h2⟩ := place_le s k
    by_cases hlt : k < s.size
    · have i1 : (k : Int) < (s.size : Int) := by omega
      by_cases hn : (k : Int) < n
      · have HST : Hid _ := place_step s k hlt
        generalize (Lx.place (bs s) k).1 = a at *
        generalize (Lx.place (bs s) k).2 = b at *
        by_cases hx : s[k] = 10
        · rw [if_pos hx] at HST
          have hx' : s[k].toNat = 10 := by rw [hx]; rfl
          clear hx
          go_wp2
          exact ⟨⟨k + 1, by omega, by omega, by go_num, trivial, by rw [HST.out]; go_num, by rw [HST.out]; rfl⟩, by simp [intOf]; omega⟩
        · rw [if_neg hx] at HST
          have hx' : ((s[k].toNat : Int) == 10) = false := by
            rw [beq_eq_false_iff_ne]
            intro e
            exact hx (UInt8.toNat_inj.1 (by show s[k].toNat = 10; omega))
          clear hx
          go_wp2
          exact ⟨⟨k + 1, by omega, by omega, by go_num, trivial, by rw [HST.out], by rw [HST.out]; go_num⟩, by simp [intOf]; omega⟩
      · have HF : Hid (placeI (bs s) n = Lx.place (bs s) k) := by
          show Lx.place _ n.toNat = _
          rw [show n.toNat = k by omega]
        go_wp2
        go_ret2
        rw [HF.out]
        exact ⟨rfl, rfl⟩
    · obtain rfl : k = s.size := by omega
      have i1 : ¬ (s.size : Int) < (s.size : Int) := by omega
      have HF : Hid (placeI (bs s) n = Lx.place (bs s) s.size) := by
        show Lx.place _ n.toNat = _
        rw [← bs_length]
        exact place_all _ _ (by rw [bs_length]; omega)
      go_wp2
      go_ret2
      rw [HF.out]
      exact ⟨rfl, rfl⟩

theorem plain_eq (s : ByteArray) : Lx.plain (bs s) = (decide (0 < s.size) && (bs s).all Lx.bare) := by
  unfold Lx.plain
  congr 1
  cases h : bs s with
  | nil =>
    have := bs_length s
    rw [h] at this
    simp [← this]
  | cons c r =>
    have := bs_length s
    rw [h] at this
    simp [← this]
set_option maxRecDepth 100000 in
set_option maxHeartbeats 1000000 in
theorem PlainT_any (s : ByteArray) (w : World) (hs : s.size ≤ 1099511627) : Calls Try.prog 88 #[.string s] w fun e w' => e = .returned (.bool (Lx.plain (bs s))) ∧ w' = w := by
  have HP : Hid _ := plain_eq s
  generalize Lx.plain (bs s) = P at *
  go_enter Try.func88, Try.ntmps88
  go_wp2
  go_loopw [3] (fun i wr => ∃ k : Nat, k ≤ s.size ∧ i = .int .i64 (k : Int) ∧ wr = w ∧ ∀ c ∈ (bs s).take k, Lx.bare c = true) (fun i _ => s.size - (intOf i).toNat)
  case atStart => exact ⟨0, Nat.zero_le _, rfl, rfl, by simp⟩
  case round =>
    obtain ⟨k, hk, rfl, rfl, hall⟩ := hrel
    have HA : Hid _ := hall
    clear hall
    by_cases hlt : k < s.size
    · have i1 : (k : Int) < (s.size : Int) := by omega
      have HT : Hid _ := take_byte s k hlt
      go_wp2_with fail
      obtain ⟨x, hx⟩ : ∃ x, s[k] = x := ⟨_, rfl⟩
      rw [hx] at HT ⊢
      refine (BareT_any x _).mono ?_
      rintro e w2 ⟨rfl, rfl⟩
      cases hg : Lx.bare x with
      | true =>
        have HG : Hid _ := hg
        clear hg
        go_wp2
        refine ⟨⟨k + 1, by omega, by go_num, trivial, fun c hc => ?_⟩, by simp [intOf]; omega⟩
        rw [HT.out] at hc
        rcases List.mem_append.1 hc with h | h
        · exact HA.out c h
        · simp at h; rw [h, HG.out]
      | false =>
        have HG : Hid _ := hg
        clear hg
        go_wp2
        go_ret
        refine ⟨?_, rfl⟩
        have : (bs s).all Lx.bare = false := by
          rw [List.all_eq_false]
          refine ⟨x, ?_, by rw [HG.out]; simp⟩
          have : x ∈ (bs s).take (k + 1) := by rw [HT.out]; simp
          exact List.mem_of_mem_take this
        rw [HP.out, this, Bool.and_false]
        rfl
    · obtain rfl : k = s.size := by omega
      have i1 : ¬ (s.size : Int) < (s.size : Int) := by omega
      go_wp2
      go_ret
      refine ⟨?_, rfl⟩
      rw [HP.out, List.all_eq_true.2 (fun c hc => HA.out c (by rw [List.take_of_length_le (by rw [bs_length]; exact Nat.le_refl _)]; exact hc)), Bool.and_true]
      simp

theorem quote_step (s : ByteArray) (k : Nat) (h : k < s.size) : ((bs s).take (k + 1)).flatMap Lx.qb = ((bs s).take k).flatMap Lx.qb ++ Lx.qb s[k] := by
  rw [take_byte s k h]
  simp
theorem qb_len (l : List UInt8) : (l.flatMap Lx.qb).length ≤ 2 * l.length := by
  induction l with
  | nil => simp
  | cons c r ih =>
    simp only [List.flatMap_cons, List.length_append, List.length_cons]
    have : (Lx.qb c).length ≤ 2 := by unfold Lx.qb; split; · simp
                                      split; · simp
                                      split <;> simp
    omega
theorem own_sl {w : World} {base : Nat} {v : Value} {l : List UInt8} (h : Own w base v l) : ∃ a n c, v = .slice a n c := by
  rcases h.2 with ⟨rfl, -⟩ | ⟨g, cap, cur, rfl, -⟩
  · exact ⟨_, _, _, rfl⟩
  · exact ⟨_, _, _, rfl⟩
set_option maxRecDepth 100000 in
set_option maxHeartbeats 2000000 in
theorem QuoteT_any (s : ByteArray) (w : World) (hs : s.size ≤ 1099511) : Calls Try.prog 69 #[.string s] w fun e w' => e = .returned (.string (str (Lx.quote (bs s)))) ∧ Below w.heap.size w w' := by
  have HQ : Hid (Lx.quote (bs s) = 34 :: ((bs s).flatMap Lx.qb ++ [34])) := rfl
  generalize Lx.quote (bs s) = Q at *
  have hO0 : Own (w.alloc (.cells #[.int .u8 34] 5)) w.heap.size (.slice (some ⟨w.heap.size, 0, none⟩) 1 1) [34] := by
    refine ⟨rfl, .inr ⟨w.heap.size, 1, #[.int .u8 34], rfl, Nat.le_refl _, heap_alloc_new w _, Nat.le_refl _, by unfold maxLen; omega, rfl, rfl⟩⟩
  go_enter Try.func69, Try.ntmps69
  go_wp2
  go_loopw [3, 4] (fun v i wr => ∃ k : Nat, k ≤ s.size ∧ i = .int .i64 (k : Int) ∧ Own wr w.heap.size v (34 :: ((bs s).take k).flatMap Lx.qb) ∧ Below w.heap.size w wr) (fun _ i _ => s.size - (intOf i).toNat)
  case atStart => exact ⟨0, Nat.zero_le _, rfl, hO0, (Below.refl _ _).alloc (Nat.le_refl _) _⟩
  case round =>
    obtain ⟨k, hk, rfl, hO, hB⟩ := hrel
    have hln := qb_len ((bs s).take k)
    rw [List.length_take] at hln
    by_cases hlt : k < s.size
    · have i1 : (k : Int) < (s.size : Int) := by omega
      have hll : (34 :: ((bs s).take k).flatMap Lx.qb).length ≤ 1099511627 := by simp only [List.length_cons]; omega
      have HST : Hid ((34 : UInt8) :: ((bs s).take (k + 1)).flatMap Lx.qb = (34 :: ((bs s).take k).flatMap Lx.qb) ++ Lx.qb s[k]) := by show _ = _; rw [quote_step s k hlt]; rfl
      generalize (34 : UInt8) :: ((bs s).take k).flatMap Lx.qb = L at *
      clear hln
      obtain ⟨x, hx⟩ : ∃ x, s[k] = x := ⟨_, rfl⟩
      rw [hx] at HST
      have e34 := beq_lit x 34
      have e92 := beq_lit x 92
      have e10 := beq_lit x 10
      have e9 := beq_lit x 9
      have n34 : ((34 : UInt8).toNat : Int) = 34 := rfl
      have n92 : ((92 : UInt8).toNat : Int) = 92 := rfl
      have n10 : ((10 : UInt8).toNat : Int) = 10 := rfl
      have n9 : ((9 : UInt8).toNat : Int) = 9 := rfl
      rw [n34] at e34
      rw [n92] at e92
      rw [n10] at e10
      rw [n9] at e9
      clear n34 n92 n10 n9
      by_cases h34 : x = 34
      · rw [decide_eq_true h34] at e34
        rw [show Lx.qb x = [92, x] by unfold Lx.qb; rw [if_pos (.inl h34)]] at HST
        clear h34 e92 e10 e9
        have hb4 : Byts (wr.alloc (.cells #[.int .u8 92, .int .u8 (x.toNat : Int)] 5)) (wr.heap.size + 1) (.slice (some ⟨wr.heap.size, 0, none⟩) 2 2) [92, x] := byts_lit wr #[.int .u8 92, .int .u8 (x.toNat : Int)] [92, x] 2 (by simp [bV]) rfl
        have hO4 := hO.alloc (.cells #[.int .u8 92, .int .u8 (x.toNat : Int)] 5)
        have hB4 := hB.alloc hB.size (.cells #[.int .u8 92, .int .u8 (x.toNat : Int)] 5)
        have HLn : Hid (L.length + ([92, x] : List UInt8).length ≤ 1099511627800) := by show _ ≤ _; simp only [List.length_cons, List.length_nil]; omega
        obtain ⟨a5, n5, c5, rfl⟩ := own_sl hO
        go_wp2_with (at_builtin; go_must (refine wpList_append_byts rfl _ _ rfl w.heap.size (wr.heap.size + 1) _ _ L [92, x] rfl hO4 rfl hb4 HLn hB4.size ?_))
        intro v5 w5 hO5 hg5
        have hB5 := hB4.grown hg5 hB4.size fun j e => (World.ownsRow.lt hO4 j e).1
        clear hb4 hO4 hB4 HLn hg5 hO
        go_wp2
        exact ⟨⟨k + 1, by omega, by go_num, by rw [HST.out]; exact hO5, hB5⟩, by simp [intOf]; omega⟩
      rw [decide_eq_false h34] at e34
      by_cases h92 : x = 92
      · rw [decide_eq_true h92] at e92
        rw [show Lx.qb x = [92, x] by unfold Lx.qb; rw [if_pos (.inr h92)]] at HST
        clear h34 h92 e10 e9
        have hb4 : Byts (wr.alloc (.cells #[.int .u8 92, .int .u8 (x.toNat : Int)] 5)) (wr.heap.size + 1) (.slice (some ⟨wr.heap.size, 0, none⟩) 2 2) [92, x] := byts_lit wr #[.int .u8 92, .int .u8 (x.toNat : Int)] [92, x] 2 (by simp [bV]) rfl
        have hO4 := hO.alloc (.cells #[.int .u8 92, .int .u8 (x.toNat : Int)] 5)
        have hB4 := hB.alloc hB.size (.cells #[.int .u8 92, .int .u8 (x.toNat : Int)] 5)
        have HLn : Hid (L.length + ([92, x] : List UInt8).length ≤ 1099511627800) := by show _ ≤ _; simp only [List.length_cons, List.length_nil]; omega
        obtain ⟨a5, n5, c5, rfl⟩ := own_sl hO
        go_wp2_with (at_builtin; go_must (refine wpList_append_byts rfl _ _ rfl w.heap.size (wr.heap.size + 1) _ _ L [92, x] rfl hO4 rfl hb4 HLn hB4.size ?_))
        intro v5 w5 hO5 hg5
        have hB5 := hB4.grown hg5 hB4.size fun j e => (World.ownsRow.lt hO4 j e).1
        clear hb4 hO4 hB4 HLn hg5 hO
        go_wp2
        exact ⟨⟨k + 1, by omega, by go_num, by rw [HST.out]; exact hO5, hB5⟩, by simp [intOf]; omega⟩
      rw [decide_eq_false h92] at e92
      by_cases h10 : x = 10
      · rw [decide_eq_true h10] at e10
        rw [show Lx.qb x = [92, 110] by unfold Lx.qb; rw [if_neg (fun h => h.elim h34 h92), if_pos h10]] at HST
        clear h34 h92 h10 e9
        have hb4 : Byts (wr.alloc (.cells #[.int .u8 92, .int .u8 110] 5)) (wr.heap.size + 1) (.slice (some ⟨wr.heap.size, 0, none⟩) 2 2) [92, 110] := byts_lit wr #[.int .u8 92, .int .u8 110] [92, 110] 2 (by simp [bV]) rfl
        have hO4 := hO.alloc (.cells #[.int .u8 92, .int .u8 110] 5)
        have hB4 := hB.alloc hB.size (.cells #[.int .u8 92, .int .u8 110] 5)
        have HLn : Hid (L.length + ([92, 110] : List UInt8).length ≤ 1099511627800) := by show _ ≤ _; simp only [List.length_cons, List.length_nil]; omega
        obtain ⟨a5, n5, c5, rfl⟩ := own_sl hO
        go_wp2_with (at_builtin; go_must (refine wpList_append_byts rfl _ _ rfl w.heap.size (wr.heap.size + 1) _ _ L [92, 110] rfl hO4 rfl hb4 HLn hB4.size ?_))
        intro v5 w5 hO5 hg5
        have hB5 := hB4.grown hg5 hB4.size fun j e => (World.ownsRow.lt hO4 j e).1
        clear hb4 hO4 hB4 HLn hg5 hO
        go_wp2
        exact ⟨⟨k + 1, by omega, by go_num, by rw [HST.out]; exact hO5, hB5⟩, by simp [intOf]; omega⟩
      rw [decide_eq_false h10] at e10
      by_cases h9 : x = 9
      · rw [decide_eq_true h9] at e9
        rw [show Lx.qb x = [92, 116] by unfold Lx.qb; rw [if_neg (fun h => h.elim h34 h92), if_neg h10, if_pos h9]] at HST
        clear h34 h92 h10 h9
        have hb4 : Byts (wr.alloc (.cells #[.int .u8 92, .int .u8 116] 5)) (wr.heap.size + 1) (.slice (some ⟨wr.heap.size, 0, none⟩) 2 2) [92, 116] := byts_lit wr #[.int .u8 92, .int .u8 116] [92, 116] 2 (by simp [bV]) rfl
        have hO4 := hO.alloc (.cells #[.int .u8 92, .int .u8 116] 5)
        have hB4 := hB.alloc hB.size (.cells #[.int .u8 92, .int .u8 116] 5)
        have HLn : Hid (L.length + ([92, 116] : List UInt8).length ≤ 1099511627800) := by show _ ≤ _; simp only [List.length_cons, List.length_nil]; omega
        obtain ⟨a5, n5, c5, rfl⟩ := own_sl hO
        go_wp2_with (at_builtin; go_must (refine wpList_append_byts rfl _ _ rfl w.heap.size (wr.heap.size + 1) _ _ L [92, 116] rfl hO4 rfl hb4 HLn hB4.size ?_))
        intro v5 w5 hO5 hg5
        have hB5 := hB4.grown hg5 hB4.size fun j e => (World.ownsRow.lt hO4 j e).1
        clear hb4 hO4 hB4 HLn hg5 hO
        go_wp2
        exact ⟨⟨k + 1, by omega, by go_num, by rw [HST.out]; exact hO5, hB5⟩, by simp [intOf]; omega⟩
      rw [decide_eq_false h9] at e9
      rw [show Lx.qb x = [x] by unfold Lx.qb; rw [if_neg (fun h => h.elim h34 h92), if_neg h10, if_neg h9]] at HST
      clear h34 h92 h10 h9
      have hb4 : Byts (wr.alloc (.cells #[.int .u8 (x.toNat : Int)] 5)) (wr.heap.size + 1) (.slice (some ⟨wr.heap.size, 0, none⟩) 1 1) [x] := byts_lit wr #[.int .u8 (x.toNat : Int)] [x] 1 (by simp [bV]) rfl
      have hO4 := hO.alloc (.cells #[.int .u8 (x.toNat : Int)] 5)
      have hB4 := hB.alloc hB.size (.cells #[.int .u8 (x.toNat : Int)] 5)
      have HLn : Hid (L.length + ([x] : List UInt8).length ≤ 1099511627800) := by show _ ≤ _; simp only [List.length_cons, List.length_nil]; omega
      obtain ⟨a5, n5, c5, rfl⟩ := own_sl hO
      go_wp2_with (at_builtin; go_must (refine wpList_append_byts rfl _ _ rfl w.heap.size (wr.heap.size + 1) _ _ L [x] rfl hO4 rfl hb4 HLn hB4.size ?_))
      intro v5 w5 hO5 hg5
      have hB5 := hB4.grown hg5 hB4.size fun j e => (World.ownsRow.lt hO4 j e).1
      clear hb4 hO4 hB4 HLn hg5 hO
      go_wp2
      exact ⟨⟨k + 1, by omega, by go_num, by rw [HST.out]; exact hO5, hB5⟩, by simp [intOf]; omega⟩
    · obtain rfl : k = s.size := by omega
      have i1 : ¬ (s.size : Int) < (s.size : Int) := by omega
      have hll : (34 :: ((bs s).take s.size).flatMap Lx.qb).length ≤ 1099511627 := by simp only [List.length_cons]; omega
      have HE : Hid (Q = (34 :: ((bs s).take s.size).flatMap Lx.qb) ++ [34]) := by
        show _ = _
        rw [HQ.out, List.take_of_length_le (by rw [bs_length]; exact Nat.le_refl _)]; rfl
      generalize (34 : UInt8) :: ((bs s).take s.size).flatMap Lx.qb = L at *
      clear hln
      have hb4 : Byts (wr.alloc (.cells #[.int .u8 34] 5)) (wr.heap.size + 1) (.slice (some ⟨wr.heap.size, 0, none⟩) 1 1) [34] := byts_lit wr #[.int .u8 34] [34] 1 (by simp [bV]) rfl
      have hO4 := hO.alloc (.cells #[.int .u8 34] 5)
      have hB4 := hB.alloc hB.size (.cells #[.int .u8 34] 5)
      have HLn : Hid (L.length + ([34] : List UInt8).length ≤ 1099511627800) := by show _ ≤ _; simp only [List.length_cons, List.length_nil]; omega
      obtain ⟨a5, n5, c5, rfl⟩ := own_sl hO
      go_wp2_with (at_builtin; go_must (refine wpList_append_byts rfl _ _ rfl w.heap.size (wr.heap.size + 1) _ _ L [34] rfl hO4 rfl hb4 HLn hB4.size ?_))
      intro v5 w5 hO5 hg5
      have hB5 := hB4.grown hg5 hB4.size fun j e => (World.ownsRow.lt hO4 j e).1
      rw [← HE.out] at hO5
      have hcv := conv_byts hO5.byts
      obtain ⟨a6, n6, c6, rfl⟩ := own_sl hO5
      clear hb4 hO4 hB4 HLn hg5 hO
      go_wp2
      go_ret
      exact ⟨rfl, hB5⟩

end Go.Proofs.Ythpipbkbldlfjaa
