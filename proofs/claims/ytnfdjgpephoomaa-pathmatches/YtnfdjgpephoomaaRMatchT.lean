/-
  THE WALK OF THE DOCUMENT's Match.
-/
import Derived.Test.YtnfdjgpephoomaaRJoinT
import Derived.Deep.QuietTactic
import Derived.BigQuiet
namespace Go.Proofs.Ytnfdjgpephoomaa
open Go.RowKit

theorem marks_take (p : Pm.B) (k : Nat) (hk : k < p.length) : Pm.marks (p.take (k + 1)) = Pm.marks (p.take k) + (if p[k] = 37 then 1 else 0) := by
  unfold Pm.marks
  rw [List.take_succ_eq_append_getElem hk, List.countP_append]
  simp [List.countP_cons]
theorem marks_zero {p : Pm.B} (h : Pm.marks p = 0) : (37 : UInt8) ∉ p := by
  intro hm
  have := List.countP_eq_zero.1 h _ hm
  simp at this
/-- one mark, and where it stands -/
theorem marks_at {p : Pm.B} {i : Nat} (h1 : Pm.marks p = 1) (hi : i < p.length) (hc : p[i] = 37) (h0 : Pm.marks (p.take i) = 0) : p = p.take i ++ 37 :: p.drop (i + 1) ∧ (37 : UInt8) ∉ p.take i ∧ (37 : UInt8) ∉ p.drop (i + 1) := by
  have e : p = p.take i ++ 37 :: p.drop (i + 1) := by
    conv => lhs; rw [← List.take_append_drop i p, List.drop_eq_getElem_cons hi, hc]
  refine ⟨e, marks_zero h0, marks_zero ?_⟩
  have h2 := h1
  rw [e] at h2
  unfold Pm.marks at h2 h0 ⊢
  rw [List.countP_append, List.countP_cons, h0] at h2
  simp only [beq_self_eq_true, if_true] at h2
  omega
/-- Match of a pattern with one mark, by places -/
theorem match_at {p s : Pm.B} {i : Nat} (h1 : Pm.marks p = 1) (hi : i < p.length) (hc : p[i] = 37) (h0 : Pm.marks (p.take i) = 0) :
    Pm.matchP p s = if p.length ≤ s.length ∧ s.take i = p.take i ∧ s.drop (s.length - (p.length - i - 1)) = p.drop (i + 1) then ((s.drop i).take (s.length - (p.length - 1)), true) else ([], false) := by
  obtain ⟨e, ha, hb⟩ := marks_at h1 hi hc h0
  obtain ⟨e1, e2⟩ := Pm.take_mark (p.take i) (p.drop (i + 1)) ha
  rw [← e] at e1 e2
  have hl1 : (p.take i).length = i := by rw [List.length_take]; omega
  have hl2 : (p.drop (i + 1)).length = p.length - i - 1 := by rw [List.length_drop]; omega
  unfold Pm.matchP
  rw [h1, if_neg (by omega), e1, e2, hl1]
  have q1 : (p.take i).isPrefixOf s = true ↔ s.take i = p.take i := by
    rw [List.isPrefixOf_iff_prefix, List.prefix_iff_eq_take, hl1]
    exact eq_comm
  have q2 : (p.drop (i + 1)).isSuffixOf s = true ↔ s.drop (s.length - (p.length - i - 1)) = p.drop (i + 1) := by
    rw [List.isSuffixOf_iff_suffix, List.suffix_iff_eq_drop, hl2]
    exact eq_comm
  simp only [true_and, q1, q2]

theorem bs_beq (p s : ByteArray) : (p.toList == s.toList) = decide (bs p = bs s) := by
  rw [ByteArray.toList_eq, ByteArray.toList_eq]
  by_cases h : bs p = bs s
  · rw [decide_eq_true h]
    exact beq_iff_eq.2 h
  · rw [decide_eq_false h]
    exact beq_false_of_ne h

set_option maxRecDepth 100000 in
set_option maxHeartbeats 4000000 in
theorem MatchT_any (p s : ByteArray) (w : World) (hp : p.size ≤ 9223372036854775807) (hs : s.size ≤ 9223372036854775807) : Calls Try.prog 24 #[.string p, .string s] w fun e w' => (∃ t, e = .returned (.tuple #[.string t, .bool (Pm.matchP (bs p) (bs s)).2]) ∧ bs t = (Pm.matchP (bs p) (bs s)).1) ∧ Below w.heap.size w w' := by
  have hpl : (bs p).length = p.size := bs_length p
  have hsl : (bs s).length = s.size := bs_length s
  go_enter Try.func24, Try.ntmps24
  go_wp2
  go_loopw [6, 7, 8] (fun a n i wr => ∃ (k at' m : Nat), k ≤ p.size ∧ m ≤ k ∧ at' ≤ k ∧ i = .int .i64 (k : Int) ∧ a = .int .i64 (at' : Int) ∧ n = .int .i64 (m : Int) ∧ w = wr ∧ Pm.marks ((bs p).take k) = m ∧ (m ≠ 0 → at' < k ∧ (bs p)[at']? = some 37 ∧ Pm.marks ((bs p).take at') + 1 = m)) (fun _ _ i _ => p.size - (intOf i).toNat)
  case atStart => exact ⟨0, 0, 0, Nat.zero_le _, Nat.zero_le _, Nat.zero_le _, rfl, rfl, rfl, rfl, rfl, fun h => absurd rfl h⟩
  case round =>
    obtain ⟨k, i, m, hk, hmk, hik, rfl, rfl, rfl, rfl, hm, hat⟩ := hrel
    have HM : Hid _ := hm
    have HA : Hid _ := hat
    clear hm hat
    by_cases hlt : k < p.size
    · have HT : Hid _ := marks_take (bs p) k (by rw [hpl]; exact hlt)
      have HE : Hid ((bs p)[k]? = some p[k]) := by show _ = _; rw [List.getElem?_eq_getElem (by rw [hpl]; exact hlt)]; rfl
      have e0 : (bs p)[k]'(by rw [hpl]; exact hlt) = p[k] := rfl
      rw [e0] at HT
      clear e0
      have i1 : (k : Int) < (p.size : Int) := by omega
      generalize hx : p[k] = x at *
      by_cases hc : x = 37
      · have q1 : ((x.toNat : Int) == 37) = true := by rw [hc]; rfl
        rw [if_pos hc] at HT
        rw [hc] at HE
        clear hc
        go_wp2
        refine ⟨⟨k + 1, k, m + 1, by omega, by omega, by omega, by go_num, rfl, by go_num, trivial, ?_, fun _ => ⟨by omega, HE.out, ?_⟩⟩, by simp [intOf]; omega⟩
        · rw [HT.out, HM.out]
        · rw [HM.out]
      · have q1 : ((x.toNat : Int) == 37) = false := by
          rw [beq_eq_false_iff_ne]
          intro h
          exact hc (UInt8.toNat_inj.1 (by have : x.toNat = 37 := by omega
                                          rw [this]; rfl))
        rw [if_neg hc] at HT
        clear hc
        go_wp2
        refine ⟨⟨k + 1, i, m, by omega, by omega, by omega, by go_num, rfl, rfl, trivial, ?_, fun h => ?_⟩, by simp [intOf]; omega⟩
        · rw [HT.out, HM.out]; rfl
        · obtain ⟨a1, a2, a3⟩ := HA.out h
          exact ⟨by omega, a2, a3⟩
    · obtain rfl : k = p.size := by omega
      rw [List.take_of_length_le (by omega)] at HM
      have i1 : ¬ (p.size : Int) < (p.size : Int) := by omega
      by_cases h0 : m = 0
      · subst h0
        have HP : Hid (Pm.matchP (bs p) (bs s) = ([], decide (bs p = bs s))) := by show _ = _; unfold Pm.matchP; rw [if_pos HM.out]
        have i2 : ((0 : Nat) : Int) = 0 := rfl
        go_wp2
        go_ret2
        rw [HP.out, bs_beq]
        exact ⟨⟨_, rfl, rfl⟩, Below.refl _ _⟩
      have i2 : ((m : Int) == 0) = false := by simp; omega
      by_cases h1 : 1 < m
      · have HP : Hid (Pm.matchP (bs p) (bs s) = ([], false)) := by
          have := HM.out
          show _ = _
          unfold Pm.matchP
          rw [if_neg (by omega), if_neg (by omega)]
        have i3 : (1 : Int) < (m : Int) := by omega
        go_wp2
        go_ret2
        rw [HP.out]
        exact ⟨⟨_, rfl, rfl⟩, Below.refl _ _⟩
      have i3 : ¬ (1 : Int) < (m : Int) := by omega
      obtain ⟨hi1, hi2, hi3⟩ := HA.out h0
      have hi1' : i < (bs p).length := by omega
      have HP : Hid _ := match_at (p := bs p) (s := bs s) (i := i) (by have := HM.out; omega) hi1' (by rw [List.getElem?_eq_getElem hi1'] at hi2; exact Option.some.inj hi2) (by omega)
      rw [hpl, hsl] at HP
      clear hi2 hi3 HA
      by_cases h2 : s.size < p.size
      · have i4 : (s.size : Int) < (p.size : Int) := by omega
        rw [if_neg (by omega)] at HP
        go_wp2
        go_ret2
        rw [HP.out]
        exact ⟨⟨_, rfl, rfl⟩, Below.refl _ _⟩
      · have i4 : ¬ (s.size : Int) < (p.size : Int) := by omega
        obtain ⟨j, hj⟩ : ∃ j, j + i + 1 = p.size := ⟨p.size - i - 1, by omega⟩
        obtain ⟨q, hq⟩ : ∃ q, q + j = s.size := ⟨s.size - j, by omega⟩
        have z1 : (p.size : Int) - (i : Int) - 1 = (j : Int) := by omega
        have z2 : (s.size : Int) - (j : Int) = (q : Int) := by omega
        have z3 : (i : Int) ≤ (s.size : Int) := by omega
        have z4 : (i : Int) ≤ (p.size : Int) := by omega
        have z5 : (q : Int) ≤ (s.size : Int) := by omega
        have z6 : (i : Int) + 1 ≤ (p.size : Int) := by omega
        have hz1 : s.size - (p.size - i - 1) = q := by omega
        have hz2 : s.size - (p.size - 1) = q - i := by omega
        rw [hz1, hz2] at HP
        have G1 : ((s.extract 0 i).toList == (p.extract 0 i).toList) = decide ((bs s).take i = (bs p).take i) := by
          rw [bs_beq, bs_extract, bs_extract]; simp
        have G2 : ((s.extract q s.size).toList == (p.extract (i + 1) p.size).toList) = decide ((bs s).drop q = (bs p).drop (i + 1)) := by
          rw [bs_beq, bs_extract, bs_extract, List.take_of_length_le (by rw [List.length_drop]; omega), List.take_of_length_le (by rw [List.length_drop]; omega)]
        clear hz1 hz2
        by_cases c1 : (bs s).take i = (bs p).take i
        · rw [decide_eq_true c1] at G1
          by_cases c2 : (bs s).drop q = (bs p).drop (i + 1)
          · rw [decide_eq_true c2] at G2
            rw [if_pos ⟨by omega, c1, c2⟩] at HP
            clear c1 c2
            go_upto_region 13 with fail
            go_quiet (fail)
            go_wp2
            go_ret2
            rw [HP.out]
            exact ⟨⟨_, rfl, bs_extract _ _ _⟩, below_drewN (Below.refl _ _) _⟩
          · rw [decide_eq_false c2] at G2
            rw [if_neg (fun h => c2 h.2.2)] at HP
            clear c1 c2
            go_upto_region 13 with fail
            go_quiet (fail)
            go_wp2
            go_ret2
            rw [HP.out]
            exact ⟨⟨_, rfl, rfl⟩, below_drewN (Below.refl _ _) _⟩
        · rw [decide_eq_false c1] at G1
          rw [if_neg (fun h => c1 h.2.1)] at HP
          clear c1 G2
          go_upto_region 13 with fail
          go_quiet (fail)
          go_wp2
          go_ret2
          rw [HP.out]
          exact ⟨⟨_, rfl, rfl⟩, below_drewN (Below.refl _ _) _⟩

end Go.Proofs.Ytnfdjgpephoomaa
