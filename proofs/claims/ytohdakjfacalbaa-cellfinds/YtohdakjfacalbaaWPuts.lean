/-
  THE WALKS OF appendUint, appendText, PutUint, PutText, PutList.
-/
import Derived.Test.YtohdakjfacalbaaWKit
namespace Go.Proofs.Ytohdakjfacalbaa
open Go.RowKit

set_option maxRecDepth 100000 in
set_option maxHeartbeats 400000 in
theorem appendUint_any (n : Nat) (hn : n < 18446744073709551616) (base : Nat) (v : Value) (xs : List UInt8) (w : World) (hown : Own w base v xs) (hx : xs.length ≤ 1099511627776) (hbase : base ≤ w.heap.size) :
    Calls Try.prog 80 #[v, .int .u64 (n : Int)] w fun e w' => ∃ v', e = .returned v' ∧ Own w' base v' (xs ++ Wm.putU n) ∧ Below base w w' := by
  obtain ⟨i0, hi, hz0, hz1, hz2⟩ := info_parts info5
  have Hn : Hid (n < 18446744073709551616) := hn
  have Hx : Hid (xs.length ≤ 1099511627776) := hx
  clear hn hx
  go_enter Try.func80, Try.ntmps80
  go_wp2
  go_loopw [0, 1] (fun v' nn wr => ∃ (f m : Nat) (ys : List UInt8), nn = .int .u64 (m : Int) ∧ Own wr base v' (xs ++ ys) ∧ ys ++ Wm.putF f m = Wm.putU n ∧ ys.length + f = 9 ∧ m < 128 ^ f * 2 ∧ Below base w wr)
    (fun _ nn _ => (intOf nn).toNat)
  case atStart => exact ⟨9, n, [], rfl, by simpa using hown, rfl, rfl, by rw [Wm.pow9]; exact Hn.out, Below.refl _ _⟩
  case round =>
    obtain ⟨f, m, ys, rfl, ho, hys, hf, hm, hb⟩ := hrel
    have Hys : Hid (ys ++ Wm.putF f m = Wm.putU n) := hys
    have Hm : Hid (m < 128 ^ f * 2) := hm
    have Hf : Hid (ys.length + f = 9) := hf
    clear hys hm hf
    have Hl : Hid ((xs ++ ys).length ≤ 1099511627800) := by have := Hx.out; have := Hf.out; show (xs ++ ys).length ≤ _; rw [List.length_append]; omega
    have hbs : base ≤ wr.heap.size := Nat.le_trans hbase hb.size
    by_cases h : m < 128
    · go_wp2_with (at_builtin; refine wpList_append_byte wr rfl (.tmp 16) (.tmp 19) rfl base _ (xs ++ ys) _ (UInt8.ofNat m) ?hc rfl ho rfl Hl hbs ?_)
      case hc => rw [Wm.ofNat_toNat (by omega)]
      intro v' w' h1 h2
      go_wp2
      go_ret
      refine ⟨v', rfl, ?_, hb.trans h2⟩
      have e : Wm.putU n = ys ++ [UInt8.ofNat m] := by
        rw [← Hys.out]; cases f <;> simp [Wm.putF, h]
      rw [e]; simpa using h1
    · have Hd : Hid (bits .or .u64 (bits .and .u64 (m : Int) 127) 128 % 256 = ((m % 128 + 128 : Nat) : Int)) := digit_more m (Wm.pow_le (f := f) (by have := Hf.out; omega) Hm.out)
      go_wp2_with (at_builtin; refine wpList_append_byte wr rfl (.tmp 7) (.tmp 12) rfl base _ (xs ++ ys) _ (UInt8.ofNat (m % 128 + 128)) ?hc rfl ho rfl Hl hbs ?_)
      case hc => rw [Hd.out, Wm.ofNat_toNat (by omega)]
      intro v' w' h1 h2
      go_wp2
      obtain ⟨g, hg, hp, hlt⟩ := Wm.putF_step h Hm.out
      refine ⟨⟨g, m / 128, ys ++ [UInt8.ofNat (m % 128 + 128)], by go_num, by simpa using h1, ?_, ?_, hlt, hb.trans h2⟩, by simp [intOf]; omega⟩
      · rw [← Hys.out, hp]; simp
      · have := Hf.out; simp; omega

theorem strCells_bV (s : ByteArray) : Lib.strCells s = bV s.data.toList := rfl
theorem size_toList (s : ByteArray) : s.data.toList.length = s.size := by rw [Array.length_toList]; rfl

set_option maxRecDepth 100000 in
set_option maxHeartbeats 400000 in
theorem appendText_any (s : ByteArray) (hs : s.size ≤ 1099511627776) (base : Nat) (v : Value) (xs : List UInt8) (w : World) (hown : Own w base v xs) (hx : xs.length ≤ 1099511627776) (hbase : base ≤ w.heap.size) :
    Calls Try.prog 79 #[v, .string s] w fun e w' => ∃ v', e = .returned v' ∧ Own w' base v' (xs ++ Wm.putT s.data.toList) ∧ Below base w w' := by
  obtain ⟨i0, hi, hz0, hz1, hz2⟩ := info_parts info5
  go_enter Try.func79, Try.ntmps79
  go_wp2_with fail
  refine (appendUint_any s.size (by omega) base v xs _ hown hx hbase).mono ?_
  rintro e w1 ⟨v1, rfl, ho, hb⟩
  have hbs : base ≤ w1.heap.size := Nat.le_trans hbase hb.size
  have hl : (xs ++ Wm.putU s.size).length ≤ 1099511627800 := by have := (Wm.putU_length s.size).2; rw [List.length_append]; omega
  have Hl : Hid ((xs ++ Wm.putU s.size).length ≤ 1099511627800) := hl
  clear hl
  go_wp2_with (at_builtin; refine Lib.wpList_append_own_string _ rfl (.tmp 9) (.tmp 10) 32 9 rfl base 5 i0 Try.underlying32 Try.underlying9 hi hz0 hz1 hz2 _ _ _ rfl ho s rfl ?c1 ?c2 hbs ?_)
  case c1 => have := Hl.out; unfold maxLen; omega
  case c2 => have := Hl.out; omega
  intro v' w' h1 h2 _
  go_wp2
  go_ret
  refine ⟨v', rfl, ?_, hb.grown h2 hbs fun k hk => (World.ownsRow.lt ho k hk).1⟩
  unfold Own Wm.putT
  rw [size_toList, ← List.append_assoc, bV_append, List.length_append, List.length_append, size_toList]
  exact h1

set_option maxRecDepth 100000 in
theorem PutUint_any (n : Nat) (hn : n < 18446744073709551616) (w : World) :
    Calls Try.prog 70 #[.int .u64 (n : Int)] w fun e w' => ∃ v', e = .returned v' ∧ Own w' w.heap.size v' (Wm.putU n) ∧ Below w.heap.size w w' := by
  have Hn : Hid (n < 18446744073709551616) := hn
  clear hn
  go_enter Try.func70, Try.ntmps70
  go_wp2_with fail
  refine (appendUint_any n Hn.out w.heap.size _ [] _ (Own.nil _ _) (by simp) (Nat.le_refl _)).mono ?_
  rintro e w1 ⟨v1, rfl, ho, hb⟩
  go_wp2
  go_ret
  exact ⟨v1, rfl, ho, hb⟩

set_option maxRecDepth 100000 in
theorem PutText_any (s : ByteArray) (hs : s.size ≤ 1099511627776) (w : World) :
    Calls Try.prog 69 #[.string s] w fun e w' => ∃ v', e = .returned v' ∧ Own w' w.heap.size v' (Wm.putT s.data.toList) ∧ Below w.heap.size w w' := by
  go_enter Try.func69, Try.ntmps69
  go_wp2_with fail
  refine (appendText_any s hs w.heap.size _ [] _ (Own.nil _ _) (by simp) (Nat.le_refl _)).mono ?_
  rintro e w1 ⟨v1, rfl, ho, hb⟩
  go_wp2
  go_ret
  exact ⟨v1, rfl, ho, hb⟩

end Go.Proofs.Ytohdakjfacalbaa
