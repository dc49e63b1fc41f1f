/-
  THE WALK OF number.
-/
import Derived.Test.YtohdakjfacalbaaWCur
namespace Go.Proofs.Ytohdakjfacalbaa
open Go.RowKit

def comb (acc k : Nat) : Option (Nat × Nat) → Option (Nat × Nat)
  | none => none
  | some (v, c) => some (acc + 128 ^ k * v, c + k)

theorem Byts.open {w : World} {B : Nat} {ad : Option Addr} {n c : Nat} {l : List UInt8} (h : Byts w B (.slice ad n c) l) (hne : l ≠ []) :
    ∃ b o, ad = some ⟨b, o, none⟩ ∧ b < B ∧ ∀ j, j < l.length → w.cell? ⟨b, o + j, none⟩ = some (.int .u8 ((l.getD j 0).toNat : Int)) := by
  obtain ⟨ad', c', hv, _, _, h⟩ := h
  simp only [Value.slice.injEq] at hv
  obtain ⟨rfl, _, rfl⟩ := hv
  exact h hne

theorem curStep {wr : World} {p : Nat} {v : Value} {a k : Nat} (h : HasCur wr p v (a + k)) (q : Nat) : HasCur ((wr.drewN q).setCell ⟨p, 1, none⟩ (.int .i64 ((a : Int) + (k : Int) + 1))) p v (a + (k + 1)) := by
  have := (h.drewN q).set (a + (k + 1))
  have e : ((a + (k + 1) : Nat) : Int) = (a : Int) + (k : Int) + 1 := by omega
  rwa [e] at this
theorem growStep {w wr : World} {p : Nat} (h : w.grownBy wr (some p)) (q j : Nat) (u : Value) : w.grownBy ((wr.drewN q).setCell ⟨p, j, none⟩ u) (some p) :=
  grownBy_trans (grownBy_trans h (grownBy_drewN _ _ q)) (grownBy_set _ _ _ _)

theorem u64_wrap_small (n : Nat) (h : n < 18446744073709551616) : IntKind.u64.wrap (n : Int) = (n : Int) := by
  have e : IntKind.u64.wrap (n : Int) = (n : Int) % 18446744073709551616 := by simp [IntKind.wrap, IntKind.bits, IntKind.signed]
  rw [e]; omega

theorem and127 (b : UInt8) : bits .and .u8 (b.toNat : Int) 127 = ((b.toNat % 128 : Nat) : Int) := by
  have := u8_and_nat b.toNat 127 b.toNat_lt (by decide)
  rw [nat_mask7] at this
  exact this
theorem and128 (b : UInt8) : bits .and .u8 (b.toNat : Int) 128 = ((b.toNat / 128 * 128 : Nat) : Int) := by
  have := u8_and_nat b.toNat 128 b.toNat_lt (by decide)
  have h2 := nat_bit 7 b.toNat
  have h3 := b.toNat_lt
  have e : b.toNat / 2 ^ 7 % 2 * 2 ^ 7 = b.toNat / 128 * 128 := by omega
  rw [e] at h2
  rw [← h2]
  exact this
theorem and128_lo {b : UInt8} (h : b.toNat < 128) : (bits BinOp.and IntKind.u8 (b.toNat : Int) 128 == 0) = true := by
  rw [and128, beq_iff_eq]; omega
theorem and128_hi {b : UInt8} (h : ¬ b.toNat < 128) : (bits BinOp.and IntKind.u8 (b.toNat : Int) 128 == 0) = false := by
  rw [and128, beq_eq_false_iff_ne]; have := b.toNat_lt; omega

theorem pow_split (k : Nat) : 2 ^ (7 * k) = 128 ^ k := by rw [Nat.pow_mul]
theorem shl_small {k d : Nat} (hk : k ≤ 9) (h9 : k = 9 → d ≤ 1) (hd : d < 128) : 128 ^ k * d + 128 ^ k ≤ 18446744073709551616 := by
  by_cases h : k = 9
  · have := h9 h; subst h
    have h2 : 128 ^ 9 * d ≤ 128 ^ 9 * 1 := Nat.mul_le_mul_left _ this
    have h3 := Wm.pow9
    omega
  · have h1 : 128 ^ k ≤ 128 ^ 8 := Nat.pow_le_pow_right (by decide) (by omega)
    have h2 : 128 ^ k * d + 128 ^ k = 128 ^ k * (d + 1) := by rw [Nat.mul_add, Nat.mul_one]
    rw [h2]
    have h3 : 128 ^ k * (d + 1) ≤ 128 ^ 8 * 128 := Nat.mul_le_mul h1 (by omega)
    have h4 : 128 ^ 8 * 128 = 9223372036854775808 := by decide
    omega

theorem orShift (acc k : Nat) (b : UInt8) (hk : k ≤ 9) (hacc : acc < 128 ^ k) (h9 : k = 9 → b.toNat ≤ 1) :
    bits .or .u64 (acc : Int) (IntKind.u64.wrap (IntKind.u64.wrap (bits .and .u8 (b.toNat : Int) 127) * 2 ^ (7 * k))) = ((acc + 128 ^ k * (b.toNat % 128) : Nat) : Int) := by
  have hs := shl_small (k := k) (d := b.toNat % 128) hk (fun h => by have := h9 h; omega) (by omega)
  rw [and127, u64_wrap_small _ (by omega)]
  have e : ((b.toNat % 128 : Nat) : Int) * 2 ^ (7 * k) = ((128 ^ k * (b.toNat % 128) : Nat) : Int) := by
    rw [← pow_split]; push_cast; exact Int.mul_comm _ _
  rw [e]
  generalize hd : 128 ^ k * (b.toNat % 128) = x at *
  rw [u64_wrap_small _ (by have : 0 < 128 ^ k := Nat.pow_pos (by decide); omega), u64_or_nat acc x (by omega) (by have : 0 < 128 ^ k := Nat.pow_pos (by decide); omega), Nat.or_comm]
  rw [nat_join (7 * k) x acc (by rw [pow_split, ← hd]; exact Nat.mul_mod_right _ _) (by rw [pow_split]; exact hacc), Nat.add_comm]

theorem ret_u64 {a b : Int} {x : Value} (h : a = b) : Ending.returned (.tuple #[.int .u64 a, x]) = .returned (.tuple #[.int .u64 b, x]) := by rw [h]

theorem drop_at (bs : List UInt8) (j : Nat) (h : j < bs.length) : bs.drop j = bs.getD j 0 :: bs.drop (j + 1) := by
  rw [List.drop_eq_getElem_cons h]; simp [List.getD, List.getElem?_eq_getElem h]

theorem comb_more (acc k : Nat) (b : UInt8) (r : List UInt8) (hk : k ≤ 8) (h : ¬ b.toNat < 128) : comb acc k (Wm.getU k (b :: r)) = comb (acc + 128 ^ k * (b.toNat % 128)) (k + 1) (Wm.getU (k + 1) r) := by
  have hb := b.toNat_lt
  simp only [Wm.getU]
  rw [if_neg (by omega), if_neg (by omega), if_neg h]
  cases Wm.getU (k + 1) r with
  | none => rfl
  | some q =>
    obtain ⟨v, c⟩ := q
    simp only [comb, Option.some.injEq, Prod.mk.injEq]
    refine ⟨?_, by omega⟩
    have e : b.toNat - 128 = b.toNat % 128 := by omega
    rw [e, Nat.pow_succ, Nat.mul_add, Nat.mul_assoc, Nat.add_assoc]
theorem comb_last (acc k : Nat) (b : UInt8) (r : List UInt8) (h : b.toNat < 128) (h9 : k = 9 → b.toNat ≤ 1) (h0 : b.toNat = 0 → k = 0) : comb acc k (Wm.getU k (b :: r)) = some (acc + 128 ^ k * (b.toNat % 128), 1 + k) := by
  simp only [Wm.getU]
  rw [if_neg (by omega), if_neg (by omega), if_pos h]
  have e : b.toNat % 128 = b.toNat := by omega
  simp only [comb, e]
theorem comb_bad (acc k : Nat) (b : UInt8) (r : List UInt8) (h : (k = 9 ∧ 1 < b.toNat) ∨ (b.toNat = 0 ∧ 0 < k)) : comb acc k (Wm.getU k (b :: r)) = none := by
  simp only [Wm.getU]
  by_cases h1 : k = 9 ∧ 1 < b.toNat
  · rw [if_pos h1]; rfl
  · rw [if_neg h1, if_pos (by omega)]; rfl

set_option maxRecDepth 100000 in
set_option maxHeartbeats 1000000 in
theorem number_any (p : Nat) (v : Value) (a base : Nat) (bs : List UInt8) (w : World) (hc : HasCur w p v a) (hown : Own w base v bs) (ha : a ≤ bs.length) (hbs : bs.length ≤ 1099511627776) :
    Calls Try.prog 75 #[.pointer (some ⟨p, 0, none⟩)] w fun e w' => ∃ n c : Nat, ((e = .returned (.tuple #[.int .u64 (n : Int), .int .i64 0]) ∧ Wm.getU 0 (bs.drop a) = some (n, c)) ∨ (e = .returned (.tuple #[.int .u64 0, .int .i64 7]) ∧ Wm.getU 0 (bs.drop a) = none)) ∧
      HasCur w' p v (a + c) ∧ a + c ≤ bs.length ∧ w.grownBy w' (some p) := by
  obtain ⟨ad, cp, rfl, _, _, hby⟩ := hown.byts
  go_enter Try.func75, Try.ntmps75
  go_wp2
  go_step3
  go_wp2
  go_step3
  go_wp2
  go_loopw [4, 5] (fun nn sh wr => ∃ k acc : Nat, nn = .int .u64 (acc : Int) ∧ sh = .int .i64 (7 * (k : Int)) ∧ k ≤ 9 ∧ a + k ≤ bs.length ∧ acc < 128 ^ k ∧
      Wm.getU 0 (bs.drop a) = comb acc k (Wm.getU k (bs.drop (a + k))) ∧ HasCur wr p (.slice ad bs.length cp) (a + k) ∧ w.grownBy wr (some p))
    (fun _ sh _ => 70 - (intOf sh).toNat)
  case atStart =>
    refine ⟨0, 0, rfl, rfl, by omega, by omega, by simp, ?_, hc, grownBy_refl _ _⟩
    cases Wm.getU 0 (bs.drop a) with
    | none => rfl
    | some q => simp [comb]
  case round =>
    obtain ⟨k, acc, rfl, rfl, hk, hak, hacc, hget, hcr, hgr⟩ := hrel
    have Hacc : Hid (acc < 128 ^ k) := hacc
    have Hget : Hid (Wm.getU 0 (bs.drop a) = comb acc k (Wm.getU k (bs.drop (a + k)))) := hget
    have Hcr : Hid (HasCur wr p (.slice ad bs.length cp) (a + k)) := hcr
    have c0 := hcr.cell0
    have c1 := hcr.cell1
    have f1 := hcr.free 1
    have Hor : Hid (Own wr base (.slice ad bs.length cp) bs) := hown.kept hc hgr
    clear hacc hget hc hcr hown
    by_cases hlt : a + k < bs.length
    · obtain ⟨g, o, rfl, hgl, hcell⟩ := Hor.out.byts.open (by intro h; subst h; simp at hlt)
      have hck := hcell (a + k) hlt
      have hdr := drop_at bs (a + k) hlt
      clear hby hcell
      obtain ⟨b, hb⟩ : ∃ b, b = bs.getD (a + k) 0 := ⟨_, rfl⟩
      rw [← hb] at hck hdr
      have Hg : Hid (Wm.getU 0 (bs.drop a) = comb acc k (Wm.getU k (b :: bs.drop (a + k + 1)))) := by rw [← hdr]; exact Hget.out
      clear hb hdr Hget
      have hb256 : (b.toNat : Int) ≤ 255 := by have := b.toNat_lt; omega
      have i1 : (0 : Int) ≤ (a : Int) + (k : Int) := by omega
      have i2 : (a : Int) + (k : Int) < (bs.length : Int) := by omega
      by_cases hbad : (k = 9 ∧ 1 < b.toNat) ∨ (b.toNat = 0 ∧ 0 < k)
      · have Hres : Hid (Wm.getU 0 (bs.drop a) = none) := by
          show _ = _
          rw [Hg.out]; exact comb_bad acc k b _ hbad
        clear Hg
        rcases hbad with ⟨h1, h2⟩ | ⟨h1, h2⟩
        · have h1' : (7 * (k : Int) == 63) = true := by rw [beq_iff_eq]; omega
          have h2' : (1 : Int) < (b.toNat : Int) := by omega
          clear h1 h2
          go_wp2
          go_quiet (fail)
          go_wp2
          go_quiet (fail)
          go_wp2
          rw [Exit.noGoto_ret]
          go_ret2
          exact ⟨0, k + 1, .inr ⟨rfl, Hres.out⟩, curStep Hcr.out _, by omega, growStep hgr _ _ _⟩
        · have h1' : ((b.toNat : Int) == 0) = true := by rw [beq_iff_eq]; omega
          have h2' : (0 : Int) < 7 * (k : Int) := by omega
          have h3' : (b.toNat : Int) ≤ 1 := by omega
          clear h1 h2
          go_wp2
          go_quiet (fail)
          go_wp2
          go_quiet (fail)
          go_wp2
          all_goals rw [Exit.noGoto_ret]
          all_goals go_ret2
          all_goals exact ⟨0, k + 1, .inr ⟨rfl, Hres.out⟩, curStep Hcr.out _, by omega, growStep hgr _ _ _⟩
      · by_cases h128 : b.toNat < 128
        · have hand := and128_lo h128
          have Hres : Hid (Wm.getU 0 (bs.drop a) = some (acc + 128 ^ k * (b.toNat % 128), k + 1)) := by
            show _ = _
            rw [Hg.out, comb_last acc k b _ h128 (by omega) (by omega), Nat.add_comm 1 k]
          clear Hg
          by_cases h9 : k = 9
          · have hb1 : (b.toNat : Int) ≤ 1 := by omega
            have h0' : ((b.toNat : Int) == 0) = false := by rw [beq_eq_false_iff_ne]; omega
            have h63' : (7 * (k : Int) == 63) = true := by rw [beq_iff_eq]; omega
            have Hval : Hid _ := orShift acc k b hk Hacc.out (by omega)
            clear h9 hbad
            go_wp2
            go_quiet (fail)
            go_wp2
            go_quiet (fail)
            go_wp2
            rw [Exit.noGoto_ret]
            go_ret2
            exact ⟨acc + 128 ^ k * (b.toNat % 128), k + 1, .inl ⟨ret_u64 Hval.out, Hres.out⟩, curStep Hcr.out _, by omega, growStep hgr _ _ _⟩
          · have h63' : (7 * (k : Int) == 63) = false := by rw [beq_eq_false_iff_ne]; omega
            by_cases h0 : b.toNat = 0
            · have hk0 : 7 * (k : Int) ≤ 0 := by omega
              have h0' : ((b.toNat : Int) == 0) = true := by rw [beq_iff_eq]; omega
              have Hval : Hid _ := orShift acc k b hk Hacc.out (by omega)
              clear h0 hbad
              go_wp2
              go_quiet (fail)
              go_wp2
              go_quiet (fail)
              go_wp2
              rw [Exit.noGoto_ret]
              go_ret2
              exact ⟨acc + 128 ^ k * (b.toNat % 128), k + 1, .inl ⟨ret_u64 Hval.out, Hres.out⟩, curStep Hcr.out _, by omega, growStep hgr _ _ _⟩
            · have h0' : ((b.toNat : Int) == 0) = false := by rw [beq_eq_false_iff_ne]; omega
              have Hval : Hid _ := orShift acc k b hk Hacc.out (by omega)
              clear h0 hbad
              go_wp2
              go_quiet (fail)
              go_wp2
              go_quiet (fail)
              go_wp2
              rw [Exit.noGoto_ret]
              go_ret2
              exact ⟨acc + 128 ^ k * (b.toNat % 128), k + 1, .inl ⟨ret_u64 Hval.out, Hres.out⟩, curStep Hcr.out _, by omega, growStep hgr _ _ _⟩
        · have h128' : (128 : Int) ≤ (b.toNat : Int) := by omega
          have h9' : (k : Int) ≤ 8 := by omega
          have h0' : ((b.toNat : Int) == 0) = false := by rw [beq_eq_false_iff_ne]; omega
          have h63' : (7 * (k : Int) == 63) = false := by rw [beq_eq_false_iff_ne]; omega
          have hand := and128_hi h128
          have Hval : Hid _ := orShift acc k b hk Hacc.out (by omega)
          go_wp2
          go_quiet (fail)
          go_wp2
          go_quiet (fail)
          go_wp2
          refine ⟨⟨k + 1, acc + 128 ^ k * (b.toNat % 128), by rw [Hval.out], by go_num, by omega, by omega, ?_, ?_, curStep Hcr.out _, growStep hgr _ _ _⟩, by simp [intOf]; omega⟩
          · have := Hacc.out
            have h5 : 128 ^ k * (b.toNat % 128) ≤ 128 ^ k * 127 := Nat.mul_le_mul_left _ (by omega)
            rw [Nat.pow_succ]; omega
          · rw [Hg.out, comb_more acc k b _ (by omega) h128]; rfl
    · have Hres : Hid (Wm.getU 0 (bs.drop a) = none) := by
        show _ = _
        rw [Hget.out, List.drop_eq_nil_of_le (by omega)]; simp [Wm.getU, comb]
      have i2 : (bs.length : Int) ≤ (a : Int) + (k : Int) := by omega
      clear Hget
      go_wp2
      go_quiet (fail)
      go_wp2
      rw [Exit.noGoto_ret]
      go_ret2
      exact ⟨0, k, .inr ⟨rfl, Hres.out⟩, Hcr.out.drewN _, by omega, grownBy_trans hgr (grownBy_drewN _ _ _)⟩
end Go.Proofs.Ytohdakjfacalbaa
