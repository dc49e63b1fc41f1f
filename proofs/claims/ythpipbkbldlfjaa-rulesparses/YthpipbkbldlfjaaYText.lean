/-
  WHAT THE DOCUMENT's Bare, Place, Plain, Quote, Show DO.
-/
import Derived.Test.YthpipbkbldlfjaaXMath
import Derived.Test.YthpipbkbldlfjaaKit
import Derived.Lib.Bytealg
import Derived.Lib.IndexLaws
namespace Go.Proofs.Ythpipbkbldlfjaa
open Go.RowKit

theorem bare_iff (c : UInt8) : Lx.bare c = decide (33 ≤ c.toNat ∧ c.toNat ≤ 126 ∧ c.toNat ≠ 34 ∧ c.toNat ≠ 35 ∧ c.toNat ≠ 58 ∧ c.toNat ≠ 61 ∧ c.toNat ≠ 92) := by
  have h : ∀ n : Fin 256, Lx.bare (UInt8.ofNat n.1) = decide (33 ≤ n.1 ∧ n.1 ≤ 126 ∧ n.1 ≠ 34 ∧ n.1 ≠ 35 ∧ n.1 ≠ 58 ∧ n.1 ≠ 61 ∧ n.1 ≠ 92) := by decide +kernel
  have := h ⟨c.toNat, c.toNat_lt⟩
  simpa using this
set_option maxRecDepth 100000 in
theorem BareT_any (c : UInt8) (w : World) : Calls Try.prog 61 #[.int .u8 (c.toNat : Int)] w fun e w' => e = .returned (.bool (Lx.bare c)) ∧ w' = w := by
  have HOk : Hid _ := bare_iff c
  have hx2 := c.toNat_lt
  generalize Lx.bare c = K at *
  generalize c.toNat = X at *
  go_enter Try.func61, Try.ntmps61
  go_wp2
  all_goals go_ret
  all_goals refine ⟨?_, rfl⟩
  all_goals rw [HOk.out]
  all_goals refine congrArg (fun b => Ending.returned (Value.bool b)) ?_
  all_goals rw [Bool.eq_iff_iff]
  all_goals simp only [Bool.and_eq_true, bne_iff_ne, decide_eq_true_eq, ne_eq, Bool.false_eq_true, false_iff]
  all_goals omega

theorem take_byte (s : ByteArray) (k : Nat) (h : k < s.size) : (bs s).take (k + 1) = (bs s).take k ++ [s[k]] := by
  rw [List.take_succ_eq_append_getElem (by rw [bs_length]; exact h)]
  congr 2
theorem place_step (s : ByteArray) (k : Nat) (h : k < s.size) : Lx.place (bs s) (k + 1) = if s[k] = 10 then ((Lx.place (bs s) k).1 + 1, 0) else ((Lx.place (bs s) k).1, (Lx.place (bs s) k).2 + 1) := by
  unfold Lx.place
  rw [take_byte s k h, List.count_append, List.reverse_append, List.reverse_singleton, List.singleton_append, List.takeWhile_cons]
  by_cases hx : s[k] = 10
  · rw [if_pos hx, hx]
    simp only [bne_self_eq_false, Bool.false_eq_true, if_false, List.count_singleton_self, List.length_nil]
  · rw [if_neg hx, if_pos (by simpa using hx)]
    have : List.count 10 [s[k]] = 0 := List.count_eq_zero.2 (by simpa using fun e => hx e.symm)
    rw [this]
    rfl
/-- Place at any number -/
def placeI (t : List UInt8) (n : Int) : Nat × Nat := Lx.place t n.toNat
theorem place_le (s : ByteArray) (k : Nat) : (Lx.place (bs s) k).1 ≤ k + 1 ∧ (Lx.place (bs s) k).2 ≤ k := by
  unfold Lx.place
  have h1 : ((bs s).take k).length ≤ k := by rw [List.length_take]; omega
  have h2 := List.count_le_length (a := (10 : UInt8)) (l := (bs s).take k)
  have h3 := List.Sublist.length_le (List.takeWhile_sublist (fun c : UInt8 => c != 10) (l := ((bs s).take k).reverse))
  rw [List.length_reverse] at h3
  exact ⟨by show _ + 1 ≤ _; omega, by show _ ≤ _; omega⟩
theorem place_all (t : List UInt8) (n : Nat) (h : t.length ≤ n) : Lx.place t n = Lx.place t t.length := by
  unfold Lx.place
  rw [List.take_of_length_le h, List.take_length]
set_option maxRecDepth 100000 in
set_option maxHeartbeats 1000000 in
theorem PlaceT_any (s : ByteArray) (n : Int) (w : World) (hs : s.size ≤ 1099511627) : Calls Try.prog 32 #[.string s, .int .i64 n] w fun e w' => e = .returned (.tuple #[.int .i64 ((placeI (bs s) n).1 : Int), .int .i64 ((placeI (bs s) n).2 : Int)]) ∧ w' = w := by
  go_enter Try.func32, Try.ntmps32
  go_wp2
  go_loopw [6, 7, 8] (fun a b i wr => ∃ k : Nat, k ≤ s.size ∧ (k : Int) ≤ max n 0 ∧ i = .int .i64 (k : Int) ∧ wr = w ∧ a = .int .i64 ((Lx.place (bs s) k).1 : Int) ∧ b = .int .i64 ((Lx.place (bs s) k).2 : Int)) (fun _ _ i _ => s.size - (intOf i).toNat)
  case atStart => exact ⟨0, Nat.zero_le _, by omega, rfl, rfl, rfl, rfl⟩
  case round =>
    obtain ⟨k, hk, hkn, rfl, rfl, rfl, rfl⟩ := hrel
    obtain ⟨h1, h2⟩ := place_le s k
    by_cases hlt : k < s.size
    · have i1 : (k : Int) < (s.size : Int) := by omega
      by_cases hn : (k : Int) < n
      · have HST : Hid _ := place_step s k hlt
        generalize (Lx.place (bs s) k).1 = a at *
        generalize (Lx.place (bs s) k).2 = b at *
        by_cases hx : s[k] = 10
        · rw [if_pos hx] at HST
          have hx' : s[k].toNat = 10 := by rw [hx]; rfl
          clear hx
          go_wp2
          exact ⟨⟨k + 1, by omega, by omega, by go_num, trivial, by rw [HST.out]; go_num, by rw [HST.out]; rfl⟩, by simp [intOf]; omega⟩
        · rw [if_neg hx] at HST
          have hx' : ((s[k].toNat : Int) == 10) = false := by
            rw [beq_eq_false_iff_ne]
            intro e
            exact hx (UInt8.toNat_inj.1 (by show s[k].toNat = 10; omega))
          clear hx
          go_wp2
          exact ⟨⟨k + 1, by omega, by omega, by go_num, trivial, by rw [HST.out], by rw [HST.out]; go_num⟩, by simp [intOf]; omega⟩
      · have HF : Hid (placeI (bs s) n = Lx.place (bs s) k) := by
          show Lx.place _ n.toNat = _
          rw [show n.toNat = k by omega]
        go_wp2
        go_ret2
        rw [HF.out]
        exact ⟨rfl, rfl⟩
    · obtain rfl : k = s.size := by omega
      have i1 : ¬ (s.size : Int) < (s.size : Int) := by omega
      have HF : Hid (placeI (bs s) n = Lx.place (bs s) s.size) := by
        show Lx.place _ n.toNat = _
        rw [← bs_length]
        exact place_all _ _ (by rw [bs_length]; omega)
      go_wp2
      go_ret2
      rw [HF.out]
      exact ⟨rfl, rfl⟩

theorem plain_eq (s : ByteArray) : Lx.plain (bs s) = (decide (0 < s.size) && (bs s).all Lx.bare) := by
  unfold Lx.plain
  congr 1
  cases h : bs s with
  | nil =>
    have := bs_length s
    rw [h] at this
    simp [← this]
  | cons c r =>
    have := bs_length s
    rw [h] at this
    simp [← this]
set_option maxRecDepth 100000 in
set_option maxHeartbeats 1000000 in
theorem PlainT_any (s : ByteArray) (w : World) (hs : s.size ≤ 1099511627) : Calls Try.prog 88 #[.string s] w fun e w' => e = .returned (.bool (Lx.plain (bs s))) ∧ w' = w := by
  have HP : Hid _ := plain_eq s
  generalize Lx.plain (bs s) = P at *
  go_enter Try.func88, Try.ntmps88
  go_wp2
  go_loopw [3] (fun i wr => ∃ k : Nat, k ≤ s.size ∧ i = .int .i64 (k : Int) ∧ wr = w ∧ ∀ c ∈ (bs s).take k, Lx.bare c = true) (fun i _ => s.size - (intOf i).toNat)
  case atStart => exact ⟨0, Nat.zero_le _, rfl, rfl, by simp⟩
  case round =>
    obtain ⟨k, hk, rfl, rfl, hall⟩ := hrel
    have HA : Hid _ := hall
    clear hall
    by_cases hlt : k < s.size
    · have i1 : (k : Int) < (s.size : Int) := by omega
      have HT : Hid _ := take_byte s k hlt
      go_wp2_with fail
      obtain ⟨x, hx⟩ : ∃ x, s[k] = x := ⟨_, rfl⟩
      rw [hx] at HT ⊢
      refine (BareT_any x _).mono ?_
      rintro e w2 ⟨rfl, rfl⟩
      cases hg : Lx.bare x with
      | true =>
        have HG : Hid _ := hg
        clear hg
        go_wp2
        refine ⟨⟨k + 1, by omega, by go_num, trivial, fun c hc => ?_⟩, by simp [intOf]; omega⟩
        rw [HT.out] at hc
        rcases List.mem_append.1 hc with h | h
        · exact HA.out c h
        · simp at h; rw [h, HG.out]
      | false =>
        have HG : Hid _ := hg
        clear hg
        go_wp2
        go_ret
        refine ⟨?_, rfl⟩
        have : (bs s).all Lx.bare = false := by
          rw [List.all_eq_false]
          refine ⟨x, ?_, by rw [HG.out]; simp⟩
          have : x ∈ (bs s).take (k + 1) := by rw [HT.out]; simp
          exact List.mem_of_mem_take this
        rw [HP.out, this, Bool.and_false]
        rfl
    · obtain rfl : k = s.size := by omega
      have i1 : ¬ (s.size : Int) < (s.size : Int) := by omega
      go_wp2
      go_ret
      refine ⟨?_, rfl⟩
      rw [HP.out, List.all_eq_true.2 (fun c hc => HA.out c (by rw [List.take_of_length_le (by rw [bs_length]; exact Nat.le_refl _)]; exact hc)), Bool.and_true]
      simp

theorem quote_step (s : ByteArray) (k : Nat) (h : k < s.size) : ((bs s).take (k + 1)).flatMap Lx.qb = ((bs s).take k).flatMap Lx.qb ++ Lx.qb s[k] := by
  rw [take_byte s k h]
  simp
theorem qb_len (l : List UInt8) : (l.flatMap Lx.qb).length ≤ 2 * l.length := by
  induction l with
  | nil => simp
  | cons c r ih =>
    simp only [List.flatMap_cons, List.length_append, List.length_cons]
    have : (Lx.qb c).length ≤ 2 := by unfold Lx.qb; split; · simp
                                      split; · simp
                                      split <;> simp
    omega
theorem own_sl {w : World} {base : Nat} {v : Value} {l : List UInt8} (h : Own w base v l) : ∃ a n c, v = .slice a n c := by
  rcases h.2 with ⟨rfl, -⟩ | ⟨g, cap, cur, rfl, -⟩
  · exact ⟨_, _, _, rfl⟩
  · exact ⟨_, _, _, rfl⟩
set_option maxRecDepth 100000 in
set_option maxHeartbeats 2000000 in
theorem QuoteT_any (s : ByteArray) (w : World) (hs : s.size ≤ 1099511) : Calls Try.prog 69 #[.string s] w fun e w' => e = .returned (.string (str (Lx.quote (bs s)))) ∧ Below w.heap.size w w' := by
  have HQ : Hid (Lx.quote (bs s) = 34 :: ((bs s).flatMap Lx.qb ++ [34])) := rfl
  generalize Lx.quote (bs s) = Q at *
  have hO0 : Own (w.alloc (.cells #[.int .u8 34] 5)) w.heap.size (.slice (some ⟨w.heap.size, 0, none⟩) 1 1) [34] := by
    refine ⟨rfl, .inr ⟨w.heap.size, 1, #[.int .u8 34], rfl, Nat.le_refl _, heap_alloc_new w _, Nat.le_refl _, by unfold maxLen; omega, rfl, rfl⟩⟩
  go_enter Try.func69, Try.ntmps69
  go_wp2
  go_loopw [3, 4] (fun v i wr => ∃ k : Nat, k ≤ s.size ∧ i = .int .i64 (k : Int) ∧ Own wr w.heap.size v (34 :: ((bs s).take k).flatMap Lx.qb) ∧ Below w.heap.size w wr) (fun _ i _ => s.size - (intOf i).toNat)
  case atStart => exact ⟨0, Nat.zero_le _, rfl, hO0, (Below.refl _ _).alloc (Nat.le_refl _) _⟩
  case round =>
    obtain ⟨k, hk, rfl, hO, hB⟩ := hrel
    have hln := qb_len ((bs s).take k)
    rw [List.length_take] at hln
    by_cases hlt : k < s.size
    · have i1 : (k : Int) < (s.size : Int) := by omega
      have hll : (34 :: ((bs s).take k).flatMap Lx.qb).length ≤ 1099511627 := by simp only [List.length_cons]; omega
      have HST : Hid ((34 : UInt8) :: ((bs s).take (k + 1)).flatMap Lx.qb = (34 :: ((bs s).take k).flatMap Lx.qb) ++ Lx.qb s[k]) := by show _ = _; rw [quote_step s k hlt]; rfl
      generalize (34 : UInt8) :: ((bs s).take k).flatMap Lx.qb = L at *
      clear hln
      obtain ⟨x, hx⟩ : ∃ x, s[k] = x := ⟨_, rfl⟩
      rw [hx] at HST
      have e34 := beq_lit x 34
      have e92 := beq_lit x 92
      have e10 := beq_lit x 10
      have e9 := beq_lit x 9
      have n34 : ((34 : UInt8).toNat : Int) = 34 := rfl
      have n92 : ((92 : UInt8).toNat : Int) = 92 := rfl
      have n10 : ((10 : UInt8).toNat : Int) = 10 := rfl
      have n9 : ((9 : UInt8).toNat : Int) = 9 := rfl
      rw [n34] at e34
      rw [n92] at e92
      rw [n10] at e10
      rw [n9] at e9
      clear n34 n92 n10 n9
      by_cases h34 : x = 34
      · rw [decide_eq_true h34] at e34
        rw [show Lx.qb x = [92, x] by unfold Lx.qb; rw [if_pos (.inl h34)]] at HST
        clear h34 e92 e10 e9
        have hb4 : Byts (wr.alloc (.cells #[.int .u8 92, .int .u8 (x.toNat : Int)] 5)) (wr.heap.size + 1) (.slice (some ⟨wr.heap.size, 0, none⟩) 2 2) [92, x] := byts_lit wr #[.int .u8 92, .int .u8 (x.toNat : Int)] [92, x] 2 (by simp [bV]) rfl
        have hO4 := hO.alloc (.cells #[.int .u8 92, .int .u8 (x.toNat : Int)] 5)
        have hB4 := hB.alloc hB.size (.cells #[.int .u8 92, .int .u8 (x.toNat : Int)] 5)
        have HLn : Hid (L.length + ([92, x] : List UInt8).length ≤ 1099511627800) := by show _ ≤ _; simp only [List.length_cons, List.length_nil]; omega
        obtain ⟨a5, n5, c5, rfl⟩ := own_sl hO
        go_wp2_with (at_builtin; go_must (refine wpList_append_byts rfl _ _ rfl w.heap.size (wr.heap.size + 1) _ _ L [92, x] rfl hO4 rfl hb4 HLn hB4.size ?_))
        intro v5 w5 hO5 hg5
        have hB5 := hB4.grown hg5 hB4.size fun j e => (World.ownsRow.lt hO4 j e).1
        clear hb4 hO4 hB4 HLn hg5 hO
        go_wp2
        exact ⟨⟨k + 1, by omega, by go_num, by rw [HST.out]; exact hO5, hB5⟩, by simp [intOf]; omega⟩
      rw [decide_eq_false h34] at e34
      by_cases h92 : x = 92
      · rw [decide_eq_true h92] at e92
        rw [show Lx.qb x = [92, x] by unfold Lx.qb; rw [if_pos (.inr h92)]] at HST
        clear h34 h92 e10 e9
        have hb4 : Byts (wr.alloc (.cells #[.int .u8 92, .int .u8 (x.toNat : Int)] 5)) (wr.heap.size + 1) (.slice (some ⟨wr.heap.size, 0, none⟩) 2 2) [92, x] := byts_lit wr #[.int .u8 92, .int .u8 (x.toNat : Int)] [92, x] 2 (by simp [bV]) rfl
        have hO4 := hO.alloc (.cells #[.int .u8 92, .int .u8 (x.toNat : Int)] 5)
        have hB4 := hB.alloc hB.size (.cells #[.int .u8 92, .int .u8 (x.toNat : Int)] 5)
        have HLn : Hid (L.length + ([92, x] : List UInt8).length ≤ 1099511627800) := by show _ ≤ _; simp only [List.length_cons, List.length_nil]; omega
        obtain ⟨a5, n5, c5, rfl⟩ := own_sl hO
        go_wp2_with (at_builtin; go_must (refine wpList_append_byts rfl _ _ rfl w.heap.size (wr.heap.size + 1) _ _ L [92, x] rfl hO4 rfl hb4 HLn hB4.size ?_))
        intro v5 w5 hO5 hg5
        have hB5 := hB4.grown hg5 hB4.size fun j e => (World.ownsRow.lt hO4 j e).1
        clear hb4 hO4 hB4 HLn hg5 hO
        go_wp2
        exact ⟨⟨k + 1, by omega, by go_num, by rw [HST.out]; exact hO5, hB5⟩, by simp [intOf]; omega⟩
      rw [decide_eq_false h92] at e92
      by_cases h10 : x = 10
      · rw [decide_eq_true h10] at e10
        rw [show Lx.qb x = [92, 110] by unfold Lx.qb; rw [if_neg (fun h => h.elim h34 h92), if_pos h10]] at HST
        clear h34 h92 h10 e9
        have hb4 : Byts (wr.alloc (.cells #[.int .u8 92, .int .u8 110] 5)) (wr.heap.size + 1) (.slice (some ⟨wr.heap.size, 0, none⟩) 2 2) [92, 110] := byts_lit wr #[.int .u8 92, .int .u8 110] [92, 110] 2 (by simp [bV]) rfl
        have hO4 := hO.alloc (.cells #[.int .u8 92, .int .u8 110] 5)
        have hB4 := hB.alloc hB.size (.cells #[.int .u8 92, .int .u8 110] 5)
        have HLn : Hid (L.length + ([92, 110] : List UInt8).length ≤ 1099511627800) := by show _ ≤ _; simp only [List.length_cons, List.length_nil]; omega
        obtain ⟨a5, n5, c5, rfl⟩ := own_sl hO
        go_wp2_with (at_builtin; go_must (refine wpList_append_byts rfl _ _ rfl w.heap.size (wr.heap.size + 1) _ _ L [92, 110] rfl hO4 rfl hb4 HLn hB4.size ?_))
        intro v5 w5 hO5 hg5
        have hB5 := hB4.grown hg5 hB4.size fun j e => (World.ownsRow.lt hO4 j e).1
        clear hb4 hO4 hB4 HLn hg5 hO
        go_wp2
        exact ⟨⟨k + 1, by omega, by go_num, by rw [HST.out]; exact hO5, hB5⟩, by simp [intOf]; omega⟩
      rw [decide_eq_false h10] at e10
      by_cases h9 : x = 9
      · rw [decide_eq_true h9] at e9
        rw [show Lx.qb x = [92, 116] by unfold Lx.qb; rw [if_neg (fun h => h.elim h34 h92), if_neg h10, if_pos h9]] at HST
        clear h34 h92 h10 h9
        have hb4 : Byts (wr.alloc (.cells #[.int .u8 92, .int .u8 116] 5)) (wr.heap.size + 1) (.slice (some ⟨wr.heap.size, 0, none⟩) 2 2) [92, 116] := byts_lit wr #[.int .u8 92, .int .u8 116] [92, 116] 2 (by simp [bV]) rfl
        have hO4 := hO.alloc (.cells #[.int .u8 92, .int .u8 116] 5)
        have hB4 := hB.alloc hB.size (.cells #[.int .u8 92, .int .u8 116] 5)
        have HLn : Hid (L.length + ([92, 116] : List UInt8).length ≤ 1099511627800) := by show _ ≤ _; simp only [List.length_cons, List.length_nil]; omega
        obtain ⟨a5, n5, c5, rfl⟩ := own_sl hO
        go_wp2_with (at_builtin; go_must (refine wpList_append_byts rfl _ _ rfl w.heap.size (wr.heap.size + 1) _ _ L [92, 116] rfl hO4 rfl hb4 HLn hB4.size ?_))
        intro v5 w5 hO5 hg5
        have hB5 := hB4.grown hg5 hB4.size fun j e => (World.ownsRow.lt hO4 j e).1
        clear hb4 hO4 hB4 HLn hg5 hO
        go_wp2
        exact ⟨⟨k + 1, by omega, by go_num, by rw [HST.out]; exact hO5, hB5⟩, by simp [intOf]; omega⟩
      rw [decide_eq_false h9] at e9
      rw [show Lx.qb x = [x] by unfold Lx.qb; rw [if_neg (fun h => h.elim h34 h92), if_neg h10, if_neg h9]] at HST
      clear h34 h92 h10 h9
      have hb4 : Byts (wr.alloc (.cells #[.int .u8 (x.toNat : Int)] 5)) (wr.heap.size + 1) (.slice (some ⟨wr.heap.size, 0, none⟩) 1 1) [x] := byts_lit wr #[.int .u8 (x.toNat : Int)] [x] 1 (by simp [bV]) rfl
      have hO4 := hO.alloc (.cells #[.int .u8 (x.toNat : Int)] 5)
      have hB4 := hB.alloc hB.size (.cells #[.int .u8 (x.toNat : Int)] 5)
      have HLn : Hid (L.length + ([x] : List UInt8).length ≤ 1099511627800) := by show _ ≤ _; simp only [List.length_cons, List.length_nil]; omega
      obtain ⟨a5, n5, c5, rfl⟩ := own_sl hO
      go_wp2_with (at_builtin; go_must (refine wpList_append_byts rfl _ _ rfl w.heap.size (wr.heap.size + 1) _ _ L [x] rfl hO4 rfl hb4 HLn hB4.size ?_))
      intro v5 w5 hO5 hg5
      have hB5 := hB4.grown hg5 hB4.size fun j e => (World.ownsRow.lt hO4 j e).1
      clear hb4 hO4 hB4 HLn hg5 hO
      go_wp2
      exact ⟨⟨k + 1, by omega, by go_num, by rw [HST.out]; exact hO5, hB5⟩, by simp [intOf]; omega⟩
    · obtain rfl : k = s.size := by omega
      have i1 : ¬ (s.size : Int) < (s.size : Int) := by omega
      have hll : (34 :: ((bs s).take s.size).flatMap Lx.qb).length ≤ 1099511627 := by simp only [List.length_cons]; omega
      have HE : Hid (Q = (34 :: ((bs s).take s.size).flatMap Lx.qb) ++ [34]) := by
        show _ = _
        rw [HQ.out, List.take_of_length_le (by rw [bs_length]; exact Nat.le_refl _)]; rfl
      generalize (34 : UInt8) :: ((bs s).take s.size).flatMap Lx.qb = L at *
      clear hln
      have hb4 : Byts (wr.alloc (.cells #[.int .u8 34] 5)) (wr.heap.size + 1) (.slice (some ⟨wr.heap.size, 0, none⟩) 1 1) [34] := byts_lit wr #[.int .u8 34] [34] 1 (by simp [bV]) rfl
      have hO4 := hO.alloc (.cells #[.int .u8 34] 5)
      have hB4 := hB.alloc hB.size (.cells #[.int .u8 34] 5)
      have HLn : Hid (L.length + ([34] : List UInt8).length ≤ 1099511627800) := by show _ ≤ _; simp only [List.length_cons, List.length_nil]; omega
      obtain ⟨a5, n5, c5, rfl⟩ := own_sl hO
      go_wp2_with (at_builtin; go_must (refine wpList_append_byts rfl _ _ rfl w.heap.size (wr.heap.size + 1) _ _ L [34] rfl hO4 rfl hb4 HLn hB4.size ?_))
      intro v5 w5 hO5 hg5
      have hB5 := hB4.grown hg5 hB4.size fun j e => (World.ownsRow.lt hO4 j e).1
      rw [← HE.out] at hO5
      have hcv := conv_byts hO5.byts
      obtain ⟨a6, n6, c6, rfl⟩ := own_sl hO5
      clear hb4 hO4 hB4 HLn hg5 hO
      go_wp2
      go_ret
      exact ⟨rfl, hB5⟩

end Go.Proofs.Ythpipbkbldlfjaa

namespace Go.Proofs.Ythpipbkbldlfjaa
open Go.RowKit

set_option maxRecDepth 100000 in
theorem ShowT_any (s : ByteArray) (w : World) (hs : s.size ≤ 1099511) : Calls Try.prog 70 #[.string s] w fun e w' => e = .returned (.string (str (Lx.show_ (bs s)))) ∧ Below w.heap.size w w' := by
  have HS : Hid (Lx.show_ (bs s) = if Lx.plain (bs s) = true then bs s else Lx.quote (bs s)) := rfl
  generalize Lx.show_ (bs s) = R at *
  go_enter Try.func70, Try.ntmps70
  go_wp2_with fail
  refine (PlainT_any s _ (by omega)).mono ?_
  rintro e w1 ⟨rfl, rfl⟩
  cases hp : Lx.plain (bs s) with
  | true =>
    rw [hp, if_pos rfl] at HS
    clear hp
    go_wp2
    go_ret
    rw [HS.out, str_of]
    exact ⟨rfl, Below.refl _ _⟩
  | false =>
    rw [hp, if_neg (by simp)] at HS
    clear hp
    go_wp2_with fail
    refine (QuoteT_any s _ hs).mono ?_
    rintro e w2 ⟨rfl, hB⟩
    go_wp2
    go_ret
    rw [HS.out]
    exact ⟨rfl, hB⟩

/-- rows of bytes with their places -/
def ByR : Rc (Lx.B Nat) where
  e := 83
  st := 80
  k := 3
  bytes := 16
  z := .agg #[.int .u8 0, .bool false, .int .i64 0]
  enc b := [.int .u8 (b.c.toNat : Int), .bool b.join, .int .i64 (b.at_ : Int)]
  pos := by decide
  len _ := rfl
  one f u hu := by
    simp only [List.mem_cons, List.not_mem_nil, or_false] at hu
    rcases hu with rfl | rfl | rfl <;> rfl
  info := by kernel_rfl
  under := Try.underlying80
  zk := rfl
  small := by decide
def Lx.noB : Lx.B Nat := ⟨0, false, 0⟩
theorem ByR.at {w : World} {B : Nat} {v : Value} {l : List (Lx.B Nat)} (h : ByR.Sl w B v l) (j : Nat) (hj : j < l.length) :
    ∃ b o c, v = .slice (some ⟨b, o, none⟩) l.length c ∧ b < B ∧ w.cell? ⟨b, o + j * 3, none⟩ = some (.int .u8 ((l.getD j Lx.noB).c.toNat : Int)) ∧ w.cell? ⟨b, o + j * 3 + 1, none⟩ = some (.bool (l.getD j Lx.noB).join) ∧ w.cell? ⟨b, o + j * 3 + 2, none⟩ = some (.int .i64 ((l.getD j Lx.noB).at_ : Int)) := by
  obtain ⟨b, o, c, rfl, hb, hc⟩ := h.cells j hj
  have e : l.getD j Lx.noB = l[j] := by simp [List.getD, List.getElem?_eq_getElem hj]
  rw [e]
  exact ⟨b, o, c, rfl, hb, hc 0 _ (by decide) rfl, hc 1 _ (by decide) rfl, hc 2 _ (by decide) rfl⟩
theorem bytes_len : ∀ (n p : Nat) (s : List UInt8), s.length ≤ n → (Lx.bytes p s).length ≤ s.length := by
  intro n
  induction n with
  | zero =>
    intro p s h
    have : s = [] := List.eq_nil_of_length_eq_zero (by omega)
    subst this
    simp [Lx.bytes]
  | succ n ih =>
    intro p s h
    rcases Lx.bytes_cases s with rfl | ⟨r, rfl⟩ | ⟨c, r, rfl, hc⟩
    · simp [Lx.bytes]
    · simp only [List.length_cons] at h
      rw [Lx.bytes_join]
      have := ih (p + 2) r (by omega)
      simp only [List.length_cons]; omega
    · simp only [List.length_cons] at h
      rw [Lx.bytes_one _ _ _ hc]
      have := ih (p + 1) r (by omega)
      simp only [List.length_cons]; omega
theorem drop_byte (s : ByteArray) (k : Nat) (h : k < s.size) : (bs s).drop k = s[k] :: (bs s).drop (k + 1) := by
  rw [List.drop_eq_getElem_cons (by rw [bs_length]; exact h)]
  rfl
set_option maxRecDepth 100000 in
set_option maxHeartbeats 2000000 in
theorem BytesT_any (s : ByteArray) (w : World) (hs : s.size ≤ 1099511) : Calls Try.prog 58 #[.string s] w fun e w' => ∃ v, e = .returned v ∧ ByR.Own w' w.heap.size v (Lx.bytes 0 (bs s)) ∧ Below w.heap.size w w' := by
  have hbl := bytes_len _ 0 (bs s) (Nat.le_refl _)
  rw [bs_length] at hbl
  generalize hbb : Lx.bytes 0 (bs s) = BB at *
  have HBB : Hid _ := hbb
  clear hbb
  go_enter Try.func58, Try.ntmps58
  go_wp2
  go_loopw [3, 4] (fun v i wr => ∃ (k : Nat) (X : List (Lx.B Nat)), k ≤ s.size ∧ i = .int .i64 (k : Int) ∧ ByR.Own wr w.heap.size v X ∧ BB = X ++ Lx.bytes k ((bs s).drop k) ∧ Below w.heap.size w wr) (fun _ i _ => s.size - (intOf i).toNat)
  case atStart => exact ⟨0, [], Nat.zero_le _, rfl, Rc.Own.nil _ _, HBB.out.symm, Below.refl _ _⟩
  case round =>
    obtain ⟨k, X, hk, rfl, hO, hX, hB⟩ := hrel
    have hxl : X.length ≤ 1099511 := by
      have := congrArg List.length hX
      rw [List.length_append] at this
      omega
    have HX : Hid _ := hX
    clear hX
    by_cases hlt : k < s.size
    · have i1 : (k : Int) < (s.size : Int) := by omega
      have hd := drop_byte s k hlt
      by_cases hj : s[k] = 92 ∧ ∃ h : k + 1 < s.size, s[k + 1] = 10
      · obtain ⟨h92, hk1, h10⟩ := hj
        have hd1 := drop_byte s (k + 1) hk1
        have HX2 : Hid (BB = (X ++ [⟨32, true, k⟩]) ++ Lx.bytes (k + 2) ((bs s).drop (k + 2))) := by
          show _ = _
          rw [HX.out, hd, hd1, h92, h10, Lx.bytes_join]; simp
        have n92 : s[k].toNat = 92 := by rw [h92]; rfl
        have n10 : s[k + 1].toNat = 10 := by rw [h10]; rfl
        have i2 : (k : Int) + 1 < (s.size : Int) := by omega
        clear h92 h10 hd hd1
        have hL4 := ByR.lit wr ⟨32, true, k⟩ #[.int .u8 32, .bool true, .int .i64 (k : Int)] rfl
        have hO4 := hO.alloc (.cells #[.int .u8 32, .bool true, .int .i64 (k : Int)] 83)
        have hB4 := hB.alloc hB.size (.cells #[.int .u8 32, .bool true, .int .i64 (k : Int)] 83)
        have HLn : Hid (X.length + [(⟨32, true, k⟩ : Lx.B Nat)].length ≤ 1099511627) := by show _ ≤ _; simp only [List.length_cons, List.length_nil]; omega
        obtain ⟨a5, n5, c5, rfl⟩ := hO.isSl
        go_wp2_with (at_builtin; go_must (refine ByR.append rfl _ _ rfl w.heap.size (wr.heap.size + 1) _ _ X [⟨32, true, k⟩] rfl hO4 rfl hL4 HLn hB4.size ?_))
        intro v5 w5 hO5 hg5
        have hB5 := hB4.grown hg5 hB4.size fun j e => (hO4.lt j e).1
        clear hL4 hO4 hB4 HLn hg5 hO
        go_wp2
        exact ⟨⟨k + 2, _, by omega, by go_num, hO5, HX2.out, hB5⟩, by simp [intOf]; omega⟩
      · have HX2 : Hid (BB = (X ++ [⟨s[k], false, k⟩]) ++ Lx.bytes (k + 1) ((bs s).drop (k + 1))) := by
          show _ = _
          rw [HX.out, hd, Lx.bytes_one]
          · simp
          · by_cases h92 : s[k] = 92
            · right
              intro e
              by_cases hk1 : k + 1 < s.size
              · rw [drop_byte s (k + 1) hk1] at e
                exact hj ⟨h92, hk1, by simpa using e⟩
              · rw [List.drop_of_length_le (by rw [bs_length]; omega)] at e
                simp at e
            · exact .inl h92
        have hL4 := ByR.lit wr ⟨s[k], false, k⟩ #[.int .u8 (s[k].toNat : Int), .bool false, .int .i64 (k : Int)] rfl
        have hO4 := hO.alloc (.cells #[.int .u8 (s[k].toNat : Int), .bool false, .int .i64 (k : Int)] 83)
        have hB4 := hB.alloc hB.size (.cells #[.int .u8 (s[k].toNat : Int), .bool false, .int .i64 (k : Int)] 83)
        have HLn : Hid (X.length + [(⟨s[k], false, k⟩ : Lx.B Nat)].length ≤ 1099511627) := by show _ ≤ _; simp only [List.length_cons, List.length_nil]; omega
        have hj' : s[k] = 92 → ∀ h : k + 1 < s.size, s[k + 1] ≠ 10 := fun h h' e => hj ⟨h, h', e⟩
        clear hj hd
        have e92 := beq_lit s[k] 92
        rw [show ((92 : UInt8).toNat : Int) = 92 from rfl] at e92
        by_cases h92 : s[k] = 92
        · rw [decide_eq_true h92] at e92
          by_cases hk1 : k + 1 < s.size
          · have e10 := beq_lit s[k + 1] 10
            rw [show ((10 : UInt8).toNat : Int) = 10 from rfl, decide_eq_false (hj' h92 hk1)] at e10
            have i2 : (k : Int) + 1 < (s.size : Int) := by omega
            clear hj' h92
            obtain ⟨a5, n5, c5, rfl⟩ := hO.isSl
            go_wp2_with (at_builtin; go_must (refine ByR.append rfl _ _ rfl w.heap.size (wr.heap.size + 1) _ _ X [⟨s[k], false, k⟩] rfl hO4 rfl hL4 HLn hB4.size ?_))
            intro v5 w5 hO5 hg5
            have hB5 := hB4.grown hg5 hB4.size fun j e => (hO4.lt j e).1
            clear hL4 hO4 hB4 HLn hg5 hO
            go_wp2
            exact ⟨⟨k + 1, _, by omega, by go_num, hO5, HX2.out, hB5⟩, by simp [intOf]; omega⟩
          · have i2 : ¬ (k : Int) + 1 < (s.size : Int) := by omega
            clear hj' h92
            obtain ⟨a5, n5, c5, rfl⟩ := hO.isSl
            go_wp2_with (at_builtin; go_must (refine ByR.append rfl _ _ rfl w.heap.size (wr.heap.size + 1) _ _ X [⟨s[k], false, k⟩] rfl hO4 rfl hL4 HLn hB4.size ?_))
            intro v5 w5 hO5 hg5
            have hB5 := hB4.grown hg5 hB4.size fun j e => (hO4.lt j e).1
            clear hL4 hO4 hB4 HLn hg5 hO
            go_wp2
            exact ⟨⟨k + 1, _, by omega, by go_num, hO5, HX2.out, hB5⟩, by simp [intOf]; omega⟩
        · rw [decide_eq_false h92] at e92
          clear hj' h92
          obtain ⟨a5, n5, c5, rfl⟩ := hO.isSl
          go_wp2_with (at_builtin; go_must (refine ByR.append rfl _ _ rfl w.heap.size (wr.heap.size + 1) _ _ X [⟨s[k], false, k⟩] rfl hO4 rfl hL4 HLn hB4.size ?_))
          intro v5 w5 hO5 hg5
          have hB5 := hB4.grown hg5 hB4.size fun j e => (hO4.lt j e).1
          clear hL4 hO4 hB4 HLn hg5 hO
          go_wp2
          exact ⟨⟨k + 1, _, by omega, by go_num, hO5, HX2.out, hB5⟩, by simp [intOf]; omega⟩
    · obtain rfl : k = s.size := by omega
      have i1 : ¬ (s.size : Int) < (s.size : Int) := by omega
      have HF : Hid (BB = X) := by
        show _ = _
        rw [HX.out, List.drop_of_length_le (by rw [bs_length]; exact Nat.le_refl _)]
        simp [Lx.bytes]
      obtain ⟨a5, n5, c5, rfl⟩ := hO.isSl
      go_wp2
      go_ret
      exact ⟨_, rfl, by rw [HF.out]; exact hO, hB⟩

end Go.Proofs.Ythpipbkbldlfjaa

namespace Go.Proofs.Ythpipbkbldlfjaa.Lx

/-- the bytes from the k-th on, joins told as blanks -/
def dn (s : ByteArray) (k : Nat) : List (B Nat) := bytes k ((bs s).drop k)
/-- up to the logical line's end -/
def ln (s : ByteArray) (k : Nat) : List (B Nat) := (dn s k).takeWhile fun x => x.c != 10
/-- from the logical line's end on -/
def bh (s : ByteArray) (k : Nat) : List (B Nat) := (dn s k).dropWhile fun x => x.c != 10
/-- a join stands there -/
def Join (s : ByteArray) (k : Nat) : Prop := ∃ h : k + 1 < s.size, s[k] = 92 ∧ s[k + 1] = 10
/-- the logical line is at its end -/
def Ends (s : ByteArray) (k : Nat) : Prop := k = s.size ∨ ∃ h : k < s.size, s[k] = 10

variable {s : ByteArray} {k : Nat}
theorem dn_end (h : s.size ≤ k) : dn s k = [] := by
  unfold dn
  rw [List.drop_of_length_le (by rw [bs_length]; exact h)]
  rfl
theorem dn_join (h : Join s k) : dn s k = ⟨32, true, k⟩ :: dn s (k + 2) := by
  obtain ⟨h1, h2, h3⟩ := h
  unfold dn
  rw [drop_byte s k (by omega), drop_byte s (k + 1) h1, h2, h3, bytes_join]
theorem dn_one (h : k < s.size) (hn : ¬ Join s k) : dn s k = ⟨s[k], false, k⟩ :: dn s (k + 1) := by
  unfold dn
  rw [drop_byte s k h, bytes_one]
  by_cases h92 : s[k] = 92
  · right
    by_cases hk : k + 1 < s.size
    · rw [drop_byte s (k + 1) hk]
      simp only [List.head?_cons, ne_eq, Option.some.injEq]
      exact fun e => hn ⟨hk, h92, e⟩
    · rw [List.drop_of_length_le (by rw [bs_length]; omega)]
      simp
  · exact .inl h92
theorem not_join {h : k < s.size} (hx : s[k] ≠ 92) : ¬ Join s k := fun ⟨_, h2, _⟩ => hx h2
theorem ln_end (h : Ends s k) : ln s k = [] ∧ bh s k = dn s k := by
  unfold ln bh
  rcases h with rfl | ⟨h, hx⟩
  · rw [dn_end (Nat.le_refl _)]
    exact ⟨rfl, rfl⟩
  · rw [dn_one h (not_join (h := h) (by rw [hx]; decide)), List.takeWhile_cons, List.dropWhile_cons, hx]
    exact ⟨rfl, rfl⟩
theorem ln_join (h : Join s k) : ln s k = ⟨32, true, k⟩ :: ln s (k + 2) ∧ bh s k = bh s (k + 2) := by
  unfold ln bh
  rw [dn_join h, List.takeWhile_cons, List.dropWhile_cons]
  exact ⟨rfl, rfl⟩
theorem ln_one (h : k < s.size) (hn : ¬ Join s k) (h10 : s[k] ≠ 10) : ln s k = ⟨s[k], false, k⟩ :: ln s (k + 1) ∧ bh s k = bh s (k + 1) := by
  have e : (s[k] != 10) = true := by simpa using h10
  unfold ln bh
  rw [dn_one h hn, List.takeWhile_cons, List.dropWhile_cons]
  rw [if_pos e, if_pos e]
  exact ⟨rfl, rfl⟩
/-- behind a line's end -/
theorem ends_next (h : Ends s k) (hk : k < s.size) : (dn s k).drop 1 = dn s (k + 1) := by
  rcases h with rfl | ⟨h, hx⟩
  · omega
  · rw [dn_one h (not_join (h := h) (by rw [hx]; decide))]
    rfl
theorem lns_at (h : k < s.size) : lns (dn s k) = (line (ln s k)).andThen fun (i, ws) => (lns ((bh s k).drop 1)).map id fun T => if ws = [] then T else ⟨k, i, ws⟩ :: T := by
  have : ∃ b r, dn s k = b :: r ∧ b.at_ = k := by
    by_cases hj : Join s k
    · exact ⟨_, _, dn_join hj, rfl⟩
    · exact ⟨_, _, dn_one h hj, rfl⟩
  obtain ⟨b, r, e, ha⟩ := this
  unfold ln bh
  rw [e, lns, ha]
theorem line_tab (h : k < s.size) (hx : s[k] = 9) : line (ln s k) = (rd (ln s (k + 1))).map id (true, ·) := by
  rw [(ln_one h (not_join (h := h) (by rw [hx]; decide)) (by rw [hx]; decide)).1, line, if_pos hx]
theorem line_not (h : k < s.size) (hx : s[k] ≠ 9) : line (ln s k) = (rd (ln s k)).map id (false, ·) := by
  by_cases he : Ends s k
  · rw [(ln_end he).1, line, rd]; rfl
  · by_cases hj : Join s k
    · rw [(ln_join hj).1, line, if_neg (by show ¬ (32 : UInt8) = 9; decide)]
    · rw [(ln_one h hj (fun e => he (.inr ⟨h, e⟩))).1, line, if_neg hx]
theorem lex_dn (s : ByteArray) : lex (bs s) = lns (dn s 0) := by
  unfold lex dn
  rw [List.drop_zero]

end Go.Proofs.Ythpipbkbldlfjaa.Lx

namespace Go.Proofs.Ythpipbkbldlfjaa
open Go.RowKit

set_option maxRecDepth 100000 in
theorem LiteIndexByte_any (s : ByteArray) (c : Int) (w : World) : Calls Try.prog 104 #[.string s, .int .u8 c] w fun e w' => e = .returned (.int .i64 (Lib.indexByte (bs s) c.toNat.toUInt8)) ∧ w' = w := by
  go_enter Try.func104, Try.ntmps104
  go_wp2
  rw [run_callFunc_extern Try.func108 (by kernel_rfl) (by kernel_rfl) (by kernel_rfl) (e := Extern.BytealgIndexByte.indexByte) (by kernel_rfl), Lib.run_indexByteString]
  simp only [Result.andThen]
  rw [Oper.upon_value]
  go_wp2
  go_ret
  exact ⟨rfl, rfl⟩
set_option maxRecDepth 100000 in
theorem IndexByte_any (s : ByteArray) (c : Int) (w : World) : Calls Try.prog 103 #[.string s, .int .u8 c] w fun e w' => e = .returned (.int .i64 (Lib.indexByte (bs s) c.toNat.toUInt8)) ∧ w' = w := by
  go_enter Try.func103, Try.ntmps103
  go_wp2_with fail
  refine (LiteIndexByte_any s c _).mono ?_
  rintro e w1 ⟨rfl, rfl⟩
  go_wp2
  go_ret
  exact ⟨rfl, rfl⟩
theorem indexByte_cases (l : List UInt8) (c : UInt8) : (Lib.indexByte l c = -1 ∧ c ∉ l) ∨ ∃ k : Nat, Lib.indexByte l c = k ∧ k < l.length ∧ l = l.take k ++ c :: l.drop (k + 1) ∧ c ∉ l.take k := by
  by_cases h : Lib.indexByte l c = -1
  · refine .inl ⟨h, fun hm => ?_⟩
    obtain ⟨k, hk, e⟩ := List.getElem_of_mem hm
    exact Lib.indexByte_none h k (by rw [List.getElem?_eq_getElem hk, e])
  · have hg := Lib.indexByte_ge l c
    obtain ⟨k, hk⟩ : ∃ k : Nat, Lib.indexByte l c = k := ⟨(Lib.indexByte l c).toNat, by omega⟩
    obtain ⟨h1, h2⟩ := Lib.indexByte_some hk
    have hlt : k < l.length := (List.getElem?_eq_some_iff.1 h1).1
    refine .inr ⟨k, hk, hlt, ?_, fun hm => ?_⟩
    · have e : l[k] = c := (List.getElem?_eq_some_iff.1 h1).2
      rw [← e, ← List.drop_eq_getElem_cons hlt, List.take_append_drop]
    · obtain ⟨j, hj, e⟩ := List.getElem_of_mem hm
      rw [List.length_take] at hj
      rw [List.getElem_take] at e
      exact h2 j (by omega) (by rw [List.getElem?_eq_getElem (by omega), e])
theorem bare_mem (c : UInt8) : Lx.bare c = decide (32 < c.toNat ∧ c.toNat ≤ 126 ∧ c ∉ ([34, 35, 58, 61, 92] : List UInt8)) := by
  unfold Lx.bare
  rw [decide_eq_decide]
  simp only [List.mem_cons, List.not_mem_nil, or_false, not_or]
  exact Iff.rfl

set_option maxRecDepth 100000 in
theorem bare_any (c : UInt8) (w : World) : Calls Try.prog 97 #[.int .u8 (c.toNat : Int)] w fun e w' => e = .returned (.bool (Lx.bare c)) ∧ w' = w := by
  have HB : Hid _ := bare_mem c
  generalize Lx.bare c = b at *
  go_enter Try.func97, Try.ntmps97
  by_cases h1 : 32 < c.toNat
  · have i1 : (32 : Int) < (c.toNat : Int) := by omega
    by_cases h2 : c.toNat ≤ 126
    · have i2 : (c.toNat : Int) ≤ 126 := by omega
      go_wp2_with fail
      refine (IndexByte_any _ _ _).mono ?_
      rintro e w1 ⟨rfl, rfl⟩
      have e1 : ((c.toNat : Int)).toNat.toUInt8 = c := by simp
      rw [e1]
      rcases indexByte_cases (bs ⟨#[34, 35, 58, 61, 92]⟩) c with ⟨e, hm⟩ | ⟨k, e, -, hm1, -⟩
      · rw [e]
        go_wp2
        go_ret
        refine ⟨?_, rfl⟩
        rw [HB.out, decide_eq_true ⟨h1, h2, hm⟩]
        rfl
      · rw [e]
        have i3 : ¬ (k : Int) < 0 := by omega
        have HM : Hid (c ∈ bs ⟨#[34, 35, 58, 61, 92]⟩) := by
          show c ∈ _
          rw [hm1]; simp
        clear hm1
        go_wp2
        go_ret
        refine ⟨?_, rfl⟩
        rw [HB.out.trans (decide_eq_false (fun h => h.2.2 HM.out))]
        rfl
    · have i2 : ¬ (c.toNat : Int) ≤ 126 := by omega
      go_wp2
      go_ret
      refine ⟨?_, rfl⟩
      rw [HB.out, decide_eq_false (fun h => h2 h.2.1)]
      rfl
  · have i1 : ¬ (32 : Int) < (c.toNat : Int) := by omega
    go_wp2
    go_ret
    refine ⟨?_, rfl⟩
    rw [HB.out, decide_eq_false (fun h => h1 h.1)]
    rfl

end Go.Proofs.Ythpipbkbldlfjaa
