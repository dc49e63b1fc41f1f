/-
  WHAT Plain, Quote, Show AND written DO.
-/
import Derived.Test.YtfgdlnidfkjbdaaDoorZSkip
import Derived.Test.YtfgdlnidfkjbdaaDoorYQuo
import Derived.Test.YtfgdlnidfkjbdaaDoorLaidSB
namespace Go.Proofs.YtfgdlnidfkjbdaaDoor
open Go.RowKit

theorem not_empty (s : ByteArray) : (!s.toList.isEmpty) = decide (0 < s.size) := by
  have e : s.toList = bs s := by rw [bs, Lib.toList_data]
  rw [e]
  have hl := bs_length s
  cases h : bs s with
  | nil => rw [h] at hl; simp [← hl]
  | cons c r => rw [h] at hl; simp [← hl]
set_option maxRecDepth 100000 in
set_option maxHeartbeats 1000000 in
theorem Plain_any (s : ByteArray) (w : World) (hs : s.size ≤ 1099511627) : Calls Tryd.prog 49 #[.string s] w fun e w' => e = .returned (.bool (Lx.plain (bs s))) ∧ w' = w := by
  have HP : Hid _ := plain_eq s
  generalize Lx.plain (bs s) = P at *
  go_enter Tryd.func49, Tryd.ntmps49
  go_wp2
  go_loopw [6] (fun i wr => ∃ k : Nat, k ≤ s.size ∧ i = .int .i64 (k : Int) ∧ wr = w ∧ ∀ c ∈ (bs s).take k, Lx.bare c = true) (fun i _ => s.size - (intOf i).toNat)
  case atStart => exact ⟨0, Nat.zero_le _, rfl, rfl, by simp⟩
  case round =>
    obtain ⟨k, hk, rfl, rfl, hall⟩ := hrel
    have HA : Hid _ := hall
    clear hall
    by_cases hlt : k < s.size
    · have i1 : (k : Int) < (s.size : Int) := by omega
      have HT : Hid _ := take_byte s k hlt
      go_wp2_with fail
      obtain ⟨x, hx⟩ : ∃ x, s[k] = x := ⟨_, rfl⟩
      rw [hx] at HT ⊢
      refine (bare_any x _).mono ?_
      rintro e w2 ⟨rfl, rfl⟩
      cases hg : Lx.bare x with
      | true =>
        have HG : Hid _ := hg
        clear hg
        go_wp2
        refine ⟨⟨k + 1, by omega, by go_num, trivial, fun c hc => ?_⟩, by simp [intOf]; omega⟩
        rw [HT.out] at hc
        rcases List.mem_append.1 hc with h | h
        · exact HA.out c h
        · simp at h; rw [h, HG.out]
      | false =>
        have HG : Hid _ := hg
        clear hg
        go_wp2
        go_ret
        refine ⟨?_, rfl⟩
        have : (bs s).all Lx.bare = false := by
          rw [List.all_eq_false]
          refine ⟨x, ?_, by rw [HG.out]; simp⟩
          have : x ∈ (bs s).take (k + 1) := by rw [HT.out]; simp
          exact List.mem_of_mem_take this
        rw [HP.out, this, Bool.and_false]
        rfl
    · obtain rfl : k = s.size := by omega
      have i1 : ¬ (s.size : Int) < (s.size : Int) := by omega
      go_wp2
      go_ret
      refine ⟨?_, rfl⟩
      rw [HP.out, List.all_eq_true.2 (fun c hc => HA.out c (by rw [List.take_of_length_le (by rw [bs_length]; exact Nat.le_refl _)]; exact hc)), Bool.and_true, ← not_empty]
      rfl

theorem bd_len {X : List UInt8} {n : Nat} (h : X.length ≤ 2 * n) (hn : n ≤ 1099511) : (34 :: X).length ≤ 1099511627 := by rw [List.length_cons]; omega
set_option maxRecDepth 100000 in
set_option maxHeartbeats 1000000 in
theorem Quote_any (s : ByteArray) (w : World) (hs : s.size ≤ 1099511) : Calls Tryd.prog 50 #[.string s] w fun e w' => e = .returned (.string (str (Lx.quote (bs s)))) ∧ Below w.heap.size w w' := by
  have HQ : Hid (Lx.quote (bs s) = 34 :: ((bs s).flatMap Lx.qb ++ [34])) := rfl
  generalize Lx.quote (bs s) = Q at *
  have hb0 := Bd.new w
  have hB0 := (Below.refl w.heap.size w).alloc (Nat.le_refl _) (.cells #[.pointer none, .slice none 0 0] 66)
  go_enter Tryd.func50, Tryd.ntmps50
  go_wp2_with fail
  refine (WriteByte_any _ w.heap.size w.heap.size [] 34 hb0 (by simp) hB0.size).mono ?_
  rintro e w1 ⟨rfl, hb1, hB1, -⟩
  have hB2 := hB0.trans hB1
  clear hb0 hB0 hB1
  go_wp2
  go_loopw [9] (fun i wr => ∃ k : Nat, k ≤ s.size ∧ i = .int .i64 (k : Int) ∧ Bd wr w.heap.size w.heap.size (34 :: ((bs s).take k).flatMap Lx.qb) ∧ Below w.heap.size w wr) (fun i _ => s.size - (intOf i).toNat)
  case atStart => exact ⟨0, Nat.zero_le _, rfl, hb1, hB2⟩
  case round =>
    clear hb1 hB2
    obtain ⟨k, hk, rfl, hb, hB⟩ := hrel
    have hql := qb_len ((bs s).take k)
    rw [List.length_take, bs_length, Nat.min_eq_left hk] at hql
    by_cases hlt : k < s.size
    · have i1 : (k : Int) < (s.size : Int) := by omega
      have HST : Hid _ := quote_step s k hlt
      obtain ⟨X, hX⟩ : ∃ X, ((bs s).take k).flatMap Lx.qb = X := ⟨_, rfl⟩
      rw [hX] at HST hb hql
      have hl0 := bd_len (n := s.size) (by omega) hs (X := X)
      obtain ⟨x, hx⟩ : ∃ x, s[k] = x := ⟨_, rfl⟩
      rw [hx] at HST
      by_cases h1 : x = 34 ∨ x = 92
      · have HQB : Hid (34 :: (X ++ Lx.qb x) = (34 :: X) ++ [92] ++ [x]) := by
          show _ = _
          unfold Lx.qb
          rw [if_pos h1]; simp
        have e1 : ((x.toNat : Int) == 34) = true ∨ ((x.toNat : Int) == 34) = false ∧ ((x.toNat : Int) == 92) = true := by
          by_cases h : x = 34
          · exact .inl (byte_eq h)
          · exact .inr ⟨byte_ne h, byte_eq (h1.resolve_left h)⟩
        clear h1
        rcases e1 with e34 | ⟨e34, e92⟩
        all_goals
          go_wp2_with fail
          refine (WriteByte_any _ w.heap.size w.heap.size _ 92 hb hl0 hB.size).mono ?_
          rintro e w2 ⟨rfl, hb2, hB2, -⟩
          have hB3 := hB.trans hB2
          go_wp2_with fail
          refine (WriteByte_any _ w.heap.size w.heap.size _ x hb2 (by rw [List.length_append, List.length_cons]; simp only [List.length_cons, List.length_nil]; omega) hB3.size).mono ?_
          rintro e w3 ⟨rfl, hb3, hB4, -⟩
          have hB5 := hB3.trans hB4
          go_wp2
          refine ⟨⟨k + 1, by omega, by go_num, ?_, hB5⟩, by simp [intOf]; omega⟩
          rw [HST.out, HQB.out]
          exact hb3
      · have e34 : ((x.toNat : Int) == 34) = false := byte_ne (fun h => h1 (.inl h))
        have e92 : ((x.toNat : Int) == 92) = false := byte_ne (fun h => h1 (.inr h))
        by_cases h10 : x = 10
        · have e10 : ((x.toNat : Int) == 10) = true := byte_eq h10
          have HQB : Hid (34 :: (X ++ Lx.qb x) = (34 :: X) ++ bs ⟨#[92, 110]⟩) := by
            show _ = _
            unfold Lx.qb
            rw [if_neg h1, if_pos h10]; rfl
          clear h1 h10
          go_wp2_with fail
          refine (WriteString_any _ w.heap.size w.heap.size _ _ hb hl0 (by decide) hB.size).mono ?_
          rintro e w3 ⟨rfl, hb3, hB4, -⟩
          have hB5 := hB.trans hB4
          go_wp2
          refine ⟨⟨k + 1, by omega, by go_num, ?_, hB5⟩, by simp [intOf]; omega⟩
          rw [HST.out, HQB.out]
          exact hb3
        · have e10 : ((x.toNat : Int) == 10) = false := byte_ne h10
          by_cases h9 : x = 9
          · have e9 : ((x.toNat : Int) == 9) = true := byte_eq h9
            have HQB : Hid (34 :: (X ++ Lx.qb x) = (34 :: X) ++ bs ⟨#[92, 116]⟩) := by
              show _ = _
              unfold Lx.qb
              rw [if_neg h1, if_neg h10, if_pos h9]; rfl
            clear h1 h10 h9
            go_wp2_with fail
            refine (WriteString_any _ w.heap.size w.heap.size _ _ hb hl0 (by decide) hB.size).mono ?_
            rintro e w3 ⟨rfl, hb3, hB4, -⟩
            have hB5 := hB.trans hB4
            go_wp2
            refine ⟨⟨k + 1, by omega, by go_num, ?_, hB5⟩, by simp [intOf]; omega⟩
            rw [HST.out, HQB.out]
            exact hb3
          · have e9 : ((x.toNat : Int) == 9) = false := byte_ne h9
            have HQB : Hid (34 :: (X ++ Lx.qb x) = (34 :: X) ++ [x]) := by
              show _ = _
              unfold Lx.qb
              rw [if_neg h1, if_neg h10, if_neg h9]; rfl
            clear h1 h10 h9
            go_wp2_with fail
            refine (WriteByte_any _ w.heap.size w.heap.size _ x hb hl0 hB.size).mono ?_
            rintro e w3 ⟨rfl, hb3, hB4, -⟩
            have hB5 := hB.trans hB4
            go_wp2
            refine ⟨⟨k + 1, by omega, by go_num, ?_, hB5⟩, by simp [intOf]; omega⟩
            rw [HST.out, HQB.out]
            exact hb3
    · obtain rfl : k = s.size := by omega
      have i1 : ¬ (s.size : Int) < (s.size : Int) := by omega
      rw [List.take_of_length_le (by rw [bs_length]; exact Nat.le_refl _)] at hb
      rw [List.take_of_length_le (by rw [bs_length]; exact Nat.le_refl _)] at hql
      have hl0 := bd_len hql hs
      go_wp2_with fail
      refine (WriteByte_any _ w.heap.size w.heap.size _ 34 hb hl0 hB.size).mono ?_
      rintro e w3 ⟨rfl, hb3, hB4, -⟩
      have hB5 := hB.trans hB4
      go_wp2_with fail
      refine (String_any _ w.heap.size w.heap.size _ hb3 hB5.size).mono ?_
      rintro e w4 ⟨rfl, hB6⟩
      go_wp2
      go_ret
      refine ⟨?_, hB5.trans hB6⟩
      rw [HQ.out]
      rfl

set_option maxRecDepth 100000 in
theorem Show_any (s : ByteArray) (w : World) (hs : s.size ≤ 1099511) : Calls Tryd.prog 33 #[.string s] w fun e w' => e = .returned (.string (str (Lx.show_ (bs s)))) ∧ Below w.heap.size w w' := by
  have HS : Hid (Lx.show_ (bs s) = if Lx.plain (bs s) = true then bs s else Lx.quote (bs s)) := rfl
  generalize Lx.show_ (bs s) = R at *
  go_enter Tryd.func33, Tryd.ntmps33
  go_wp2_with fail
  refine (Plain_any s _ (by omega)).mono ?_
  rintro e w1 ⟨rfl, rfl⟩
  cases hp : Lx.plain (bs s) with
  | true =>
    rw [hp, if_pos rfl] at HS
    clear hp
    go_wp2
    go_ret
    rw [HS.out, str_of]
    exact ⟨rfl, Below.refl _ _⟩
  | false =>
    rw [hp, if_neg (by simp)] at HS
    clear hp
    go_wp2_with fail
    refine (Quote_any s _ hs).mono ?_
    rintro e w2 ⟨rfl, hB⟩
    go_wp2
    go_ret
    rw [HS.out]
    exact ⟨rfl, hB⟩

end Go.Proofs.YtfgdlnidfkjbdaaDoor
