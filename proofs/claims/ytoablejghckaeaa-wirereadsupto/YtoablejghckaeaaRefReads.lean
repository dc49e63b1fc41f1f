/-
  THE WALKS OF THE DOCUMENT's ANSWERS ReadUint, AskUint, AskText.
-/
import Derived.Test.YtoablejghckaeaaWorks
import Derived.Test.YtoablejghckaeaaAsks
namespace Go.Proofs.Ytoablejghckaeaa
open Go.RowKit

theorem u64_wrap_pos {n : Int} (h0 : 0 ≤ n) (h : n < 18446744073709551616) : IntKind.u64.wrap n = n := by
  obtain ⟨m, rfl⟩ := Int.eq_ofNat_of_zero_le h0
  exact u64_wrap_small m (by omega)

/-- ReadUint's answer -/
def rdU (bs : List UInt8) : Nat × Nat :=
  match Wm.getU 0 bs with
  | none => (0, 0)
  | some q => q

set_option maxRecDepth 100000 in
set_option maxHeartbeats 2000000 in
theorem ReadUint_any (v : Value) (bs : List UInt8) (B : Nat) (w : World) (hv : Byts w B v bs) (hbs : bs.length ≤ 1099511627776) :
    Calls Try.prog 39 #[v] w fun e w' => e = .returned (.tuple #[.int .u64 ((rdU bs).1 : Int), .int .i64 ((rdU bs).2 : Int)]) ∧ w' = w := by
  have hv0 := hv
  obtain ⟨ad, cap, rfl, _, _, _⟩ := hv0
  go_enter Try.func39, Try.ntmps39
  go_wp2
  go_loop [4, 5] (fun nn i => ∃ k acc : Nat, nn = .int .u64 (acc : Int) ∧ i = .int .i64 (k : Int) ∧ k ≤ bs.length ∧ ((k ≤ 9 ∧ acc < 128 ^ k ∧ Wm.getU 0 bs = comb acc k (Wm.getU k (bs.drop k))) ∨ (k = 10 ∧ Wm.getU 0 bs = none)))
    (fun _ i => 11 - (intOf i).toNat)
  case atStart =>
    refine ⟨0, 0, rfl, rfl, by omega, .inl ⟨by omega, by simp, ?_⟩⟩
    rw [List.drop_zero]
    cases Wm.getU 0 bs with
    | none => rfl
    | some q => simp [comb]
  case round =>
    obtain ⟨k, acc, rfl, rfl, hk, hst⟩ := hrel
    have Hst : Hid _ := hst
    clear hst
    by_cases hlt : k < bs.length ∧ k < 10
    · obtain ⟨hl1, hl2⟩ := hlt
      obtain ⟨hk9, hacc, hget⟩ : k ≤ 9 ∧ acc < 128 ^ k ∧ Wm.getU 0 bs = comb acc k (Wm.getU k (bs.drop k)) := by
        rcases Hst.out with h | h
        · exact h
        · omega
      have hl1' : (k : Int) < (bs.length : Int) := by omega
      have hl2' : (k : Int) < 10 := by omega
      obtain ⟨g, o, rfl, hgl, hcell⟩ := hv.open (by intro h; subst h; simp at hl1)
      have hck := hcell k hl1
      have hdr := drop_at bs k hl1
      obtain ⟨b, hb⟩ : ∃ b, b = bs.getD k 0 := ⟨_, rfl⟩
      rw [← hb] at hck hdr
      have Hg : Hid (Wm.getU 0 bs = comb acc k (Wm.getU k (b :: bs.drop (k + 1)))) := by rw [← hdr]; exact hget
      have Hacc : Hid (acc < 128 ^ k) := hacc
      clear hb hdr hget hcell Hst hacc hv
      have hb256 : (b.toNat : Int) ≤ 255 := by have := b.toNat_lt; omega
      by_cases h91 : k = 9 ∧ 1 < b.toNat % 128
      · have h1 : ((k : Int) == 9) = true := by rw [beq_iff_eq]; omega
        have h2 : (1 : Int) < (b.toNat : Int) % 128 := by omega
        have Hres : Hid (rdU bs = (0, 0)) := by
          show _ = _
          unfold rdU
          rw [Hg.out, comb_bad acc k b _ (.inl ⟨h91.1, by omega⟩)]
        clear h91 Hg
        go_wp2
        go_ret2
        rw [Hres.out]
        exact ⟨rfl, rfl⟩
      · have hd : Hid ((b.toNat : Int) % 128 = ((b.toNat % 128 : Nat) : Int)) := by show _ = _; omega
        by_cases h9 : k = 9
        · have h1 : ((k : Int) == 9) = true := by rw [beq_iff_eq]; omega
          have h2 : ¬ (1 : Int) < (b.toNat : Int) % 128 := by omega
          have hd1 : b.toNat % 128 ≤ 1 := by omega
          have H9 : Hid (k = 9) := h9
          clear h9 h91
          go_wp2
          go_loop [7, 8] (fun pp j => ∃ t q : Nat, t ≤ k ∧ j = .int .i64 (t : Int) ∧ pp = .int .u64 (q : Int) ∧ q = 128 ^ t) (fun _ j => k - (intOf j).toNat)
          case atStart => exact ⟨0, 1, by omega, rfl, rfl, rfl⟩
          case round =>
            obtain ⟨t, q, ht, rfl, rfl, hq⟩ := hrel
            have Hq : Hid (q = 128 ^ t) := hq
            clear hq
            by_cases htk : t < k
            · have htk' : (t : Int) < (k : Int) := by omega
              have hw : IntKind.u64.wrap ((q : Int) * 128) = ((q * 128 : Nat) : Int) := by
                have h8 : 128 ^ t ≤ 128 ^ 8 := Nat.pow_le_pow_right (by decide) (by omega)
                have h9 : 128 ^ 8 = 72057594037927936 := by decide
                have := Hq.out
                have e : (q : Int) * 128 = ((q * 128 : Nat) : Int) := by omega
                rw [e]
                exact u64_wrap_small _ (by omega)
              go_wp2
              exact ⟨⟨t + 1, q * 128, by omega, by go_num, by go_num, by rw [Hq.out, Nat.pow_succ]⟩, by simp [intOf]; omega⟩
            · have htk' : ¬ (t : Int) < (k : Int) := by omega
              have hqk : q = 128 ^ k := by rw [Hq.out, show t = k by omega]
              have hsm := shl_small (k := k) (d := b.toNat % 128) hk9 (fun _ => hd1) (by omega)
              rw [← hqk] at hsm
              have hqp : 0 < q := by rw [hqk]; exact Nat.pow_pos (by decide)
              have hxq : acc < q := by rw [hqk]; exact Hacc.out
              have ew1 : IntKind.u64.wrap ((b.toNat : Int) % 128 * (q : Int)) = ((q * (b.toNat % 128) : Nat) : Int) := by
                have e : (b.toNat : Int) % 128 * (q : Int) = ((q * (b.toNat % 128) : Nat) : Int) := by
                  rw [hd.out, ← Int.natCast_mul, Nat.mul_comm]
                rw [e]
                exact u64_wrap_small _ (by omega)
              have ew2 : IntKind.u64.wrap ((acc : Int) + ((q * (b.toNat % 128) : Nat) : Int)) = ((acc + q * (b.toNat % 128) : Nat) : Int) := by
                have e : (acc : Int) + ((q * (b.toNat % 128) : Nat) : Int) = ((acc + q * (b.toNat % 128) : Nat) : Int) := by omega
                rw [e]
                exact u64_wrap_small _ (by omega)
              generalize hX : q * (b.toNat % 128) = X at ew1 ew2 hsm
              have HX : Hid (X = 128 ^ k * (b.toNat % 128)) := by rw [← hX, hqk]; rfl
              clear hX hqk hxq hqp hsm Hq
              by_cases h128 : b.toNat < 128
              · have h128' : (b.toNat : Int) < 128 := by omega
                by_cases h0 : 0 < k ∧ b.toNat % 128 = 0
                · have h0' : (0 : Int) < (k : Int) := by omega
                  have h0'' : ((b.toNat : Int) % 128 == 0) = true := by rw [beq_iff_eq]; omega
                  have Hres : Hid (rdU bs = (0, 0)) := by
                    show _ = _
                    unfold rdU
                    rw [Hg.out, comb_bad acc k b _ (.inr ⟨by omega, h0.1⟩)]
                  clear Hg h0 hd
                  go_wp2
                  go_ret2
                  rw [Hres.out]
                  exact ⟨rfl, rfl⟩
                · have Hres : Hid (rdU bs = (acc + X, k + 1)) := by
                    show _ = _
                    unfold rdU
                    rw [Hg.out, comb_last acc k b _ h128 (by omega) (by omega), HX.out, Nat.add_comm 1 k]
                  clear Hg
                  by_cases hk0 : 0 < k
                  · have h0' : (0 : Int) < (k : Int) := by omega
                    have h0'' : ((b.toNat : Int) % 128 == 0) = false := by rw [beq_eq_false_iff_ne]; omega
                    clear h0 hk0 hd
                    go_wp2
                    go_ret2
                    rw [Hres.out]
                    refine ⟨?_, rfl⟩
                    first | rfl | (simp; done)
                  · have h0' : ¬ (0 : Int) < (k : Int) := by omega
                    clear h0 hk0 hd
                    go_wp2
                    go_ret2
                    rw [Hres.out]
                    refine ⟨?_, rfl⟩
                    first | rfl | (simp; done)
              · have h128' : ¬ (b.toNat : Int) < 128 := by omega
                go_wp2
                refine ⟨⟨k + 1, acc + X, by go_num, by go_num, by omega, ?_⟩, by simp [intOf]; omega⟩
                have h9 := H9.out
                by_cases h9 : k = 9
                · refine .inr ⟨by omega, ?_⟩
                  rw [Hg.out, comb_bad acc k b _ (.inl ⟨h9, by omega⟩)]
                · refine .inl ⟨by omega, ?_, ?_⟩
                  · have h5 : 128 ^ k * (b.toNat % 128) ≤ 128 ^ k * 127 := Nat.mul_le_mul_left _ (by omega)
                    have := Hacc.out
                    rw [HX.out, Nat.pow_succ]; omega
                  · rw [Hg.out, comb_more acc k b _ (by omega) h128, HX.out]
        · have h1 : ((k : Int) == 9) = false := by rw [beq_eq_false_iff_ne]; omega
          have H9 : Hid (¬ k = 9) := h9
          clear h91
          go_wp2
          go_loop [7, 8] (fun pp j => ∃ t q : Nat, t ≤ k ∧ j = .int .i64 (t : Int) ∧ pp = .int .u64 (q : Int) ∧ q = 128 ^ t) (fun _ j => k - (intOf j).toNat)
          case atStart => exact ⟨0, 1, by omega, rfl, rfl, rfl⟩
          case round =>
            obtain ⟨t, q, ht, rfl, rfl, hq⟩ := hrel
            have Hq : Hid (q = 128 ^ t) := hq
            clear hq
            by_cases htk : t < k
            · have htk' : (t : Int) < (k : Int) := by omega
              have hw : IntKind.u64.wrap ((q : Int) * 128) = ((q * 128 : Nat) : Int) := by
                have h8 : 128 ^ t ≤ 128 ^ 8 := Nat.pow_le_pow_right (by decide) (by omega)
                have h9 : 128 ^ 8 = 72057594037927936 := by decide
                have := Hq.out
                have e : (q : Int) * 128 = ((q * 128 : Nat) : Int) := by omega
                rw [e]
                exact u64_wrap_small _ (by omega)
              go_wp2
              exact ⟨⟨t + 1, q * 128, by omega, by go_num, by go_num, by rw [Hq.out, Nat.pow_succ]⟩, by simp [intOf]; omega⟩
            · have htk' : ¬ (t : Int) < (k : Int) := by omega
              have hqk : q = 128 ^ k := by rw [Hq.out, show t = k by omega]
              have hsm := shl_small (k := k) (d := b.toNat % 128) hk9 (by omega) (by omega)
              rw [← hqk] at hsm
              have hqp : 0 < q := by rw [hqk]; exact Nat.pow_pos (by decide)
              have hxq : acc < q := by rw [hqk]; exact Hacc.out
              have ew1 : IntKind.u64.wrap ((b.toNat : Int) % 128 * (q : Int)) = ((q * (b.toNat % 128) : Nat) : Int) := by
                have e : (b.toNat : Int) % 128 * (q : Int) = ((q * (b.toNat % 128) : Nat) : Int) := by
                  rw [hd.out, ← Int.natCast_mul, Nat.mul_comm]
                rw [e]
                exact u64_wrap_small _ (by omega)
              have ew2 : IntKind.u64.wrap ((acc : Int) + ((q * (b.toNat % 128) : Nat) : Int)) = ((acc + q * (b.toNat % 128) : Nat) : Int) := by
                have e : (acc : Int) + ((q * (b.toNat % 128) : Nat) : Int) = ((acc + q * (b.toNat % 128) : Nat) : Int) := by omega
                rw [e]
                exact u64_wrap_small _ (by omega)
              generalize hX : q * (b.toNat % 128) = X at ew1 ew2 hsm
              have HX : Hid (X = 128 ^ k * (b.toNat % 128)) := by rw [← hX, hqk]; rfl
              clear hX hqk hxq hqp hsm Hq
              by_cases h128 : b.toNat < 128
              · have h128' : (b.toNat : Int) < 128 := by omega
                by_cases h0 : 0 < k ∧ b.toNat % 128 = 0
                · have h0' : (0 : Int) < (k : Int) := by omega
                  have h0'' : ((b.toNat : Int) % 128 == 0) = true := by rw [beq_iff_eq]; omega
                  have Hres : Hid (rdU bs = (0, 0)) := by
                    show _ = _
                    unfold rdU
                    rw [Hg.out, comb_bad acc k b _ (.inr ⟨by omega, h0.1⟩)]
                  clear Hg h0 hd
                  go_wp2
                  go_ret2
                  rw [Hres.out]
                  exact ⟨rfl, rfl⟩
                · have Hres : Hid (rdU bs = (acc + X, k + 1)) := by
                    show _ = _
                    unfold rdU
                    rw [Hg.out, comb_last acc k b _ h128 (by omega) (by omega), HX.out, Nat.add_comm 1 k]
                  clear Hg
                  by_cases hk0 : 0 < k
                  · have h0' : (0 : Int) < (k : Int) := by omega
                    have h0'' : ((b.toNat : Int) % 128 == 0) = false := by rw [beq_eq_false_iff_ne]; omega
                    clear h0 hk0 hd
                    go_wp2
                    go_ret2
                    rw [Hres.out]
                    refine ⟨?_, rfl⟩
                    first | rfl | (simp; done)
                  · have h0' : ¬ (0 : Int) < (k : Int) := by omega
                    clear h0 hk0 hd
                    go_wp2
                    go_ret2
                    rw [Hres.out]
                    refine ⟨?_, rfl⟩
                    first | rfl | (simp; done)
              · have h128' : ¬ (b.toNat : Int) < 128 := by omega
                go_wp2
                refine ⟨⟨k + 1, acc + X, by go_num, by go_num, by omega, ?_⟩, by simp [intOf]; omega⟩
                by_cases h9 : k = 9
                · refine .inr ⟨by omega, ?_⟩
                  rw [Hg.out, comb_bad acc k b _ (.inl ⟨h9, by omega⟩)]
                · refine .inl ⟨by omega, ?_, ?_⟩
                  · have h5 : 128 ^ k * (b.toNat % 128) ≤ 128 ^ k * 127 := Nat.mul_le_mul_left _ (by omega)
                    have := Hacc.out
                    rw [HX.out, Nat.pow_succ]; omega
                  · rw [Hg.out, comb_more acc k b _ (by omega) h128, HX.out]
    · have Hres : Hid (rdU bs = (0, 0)) := by
        show _ = _
        unfold rdU
        rcases Hst.out with ⟨h1, h2, h3⟩ | ⟨h1, h2⟩
        · rw [h3, List.drop_eq_nil_of_le (by omega)]
          simp [Wm.getU, comb]
        · rw [h2]
      clear Hst
      by_cases hl : k < bs.length
      · have hl' : (k : Int) < (bs.length : Int) := by omega
        have hl2 : ¬ (k : Int) < 10 := by omega
        clear hlt
        go_wp2
        go_ret2
        rw [Hres.out]
        exact ⟨rfl, rfl⟩
      · have hl' : ¬ (k : Int) < (bs.length : Int) := by omega
        clear hlt
        go_wp2
        go_ret2
        rw [Hres.out]
        exact ⟨rfl, rfl⟩
end Go.Proofs.Ytoablejghckaeaa
