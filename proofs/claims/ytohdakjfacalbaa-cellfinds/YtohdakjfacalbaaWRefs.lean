/-
  THE WALKS OF THE DOCUMENT's ANSWERS Uint, Text, List, and of slices.Clone on texts.
-/
import Derived.Test.YtohdakjfacalbaaWNumber
import Derived.Test.YtohdakjfacalbaaWPuts
namespace Go.Proofs.Ytohdakjfacalbaa
open Go.RowKit

set_option maxRecDepth 100000 in
set_option maxHeartbeats 1000000 in
theorem refUint_any (n : Nat) (hn : n < 18446744073709551616) (w : World) :
    Calls Try.prog 41 #[.int .u64 (n : Int)] w fun e w' => ∃ v', e = .returned v' ∧ Own w' w.heap.size v' (Wm.putU n) ∧ Below w.heap.size w w' := by
  have Hn : Hid (n < 18446744073709551616) := hn
  clear hn
  go_enter Try.func41, Try.ntmps41
  go_wp2
  go_loopw [0, 3] (fun nn v' wr => ∃ (f m : Nat) (ys : List UInt8), nn = .int .u64 (m : Int) ∧ Own wr w.heap.size v' ys ∧ ys ++ Wm.putF f m = Wm.putU n ∧ ys.length + f = 9 ∧ m < 128 ^ f * 2 ∧ Below w.heap.size w wr)
    (fun nn _ _ => (intOf nn).toNat)
  case atStart => exact ⟨9, n, [], rfl, Own.nil _ _, rfl, rfl, by rw [Wm.pow9]; exact Hn.out, Below.refl _ _⟩
  case round =>
    obtain ⟨f, m, ys, rfl, ho, hys, hf, hm, hb⟩ := hrel
    have Hys : Hid (ys ++ Wm.putF f m = Wm.putU n) := hys
    have Hm : Hid (m < 128 ^ f * 2) := hm
    have Hf : Hid (ys.length + f = 9) := hf
    clear hys hm hf
    have Hl : Hid (ys.length ≤ 1099511627800) := by have := Hf.out; show _ ≤ _; omega
    have hbs : w.heap.size ≤ wr.heap.size := hb.size
    by_cases h : m < 128
    · go_wp2_with (at_builtin; go_must (refine wpList_append_byte wr rfl (.tmp 15) (.tmp 18) rfl w.heap.size _ ys _ (UInt8.ofNat m) ?hc rfl ho rfl Hl hbs ?_))
      case hc => rw [Wm.ofNat_toNat (by omega)]
      intro v' w' h1 h2
      go_wp2
      go_ret
      refine ⟨v', rfl, ?_, hb.trans h2⟩
      have e : Wm.putU n = ys ++ [UInt8.ofNat m] := by
        rw [← Hys.out]; cases f <;> simp [Wm.putF, h]
      rw [e]; exact h1
    · have h' : (128 : Int) ≤ (m : Int) := by omega
      have hw : IntKind.u64.wrap ((m : Int) / 128) = (m : Int) / 128 := by
        have := Wm.pow_le (f := f) (by have := Hf.out; omega) Hm.out
        exact u64_wrap_small (m / 128) (by omega)
      go_wp2_with (at_builtin; go_must (refine wpList_append_byte wr rfl (.tmp 6) (.tmp 11) rfl w.heap.size _ ys _ (UInt8.ofNat (m % 128 + 128)) ?hc rfl ho rfl Hl hbs ?_))
      case hc => rw [Wm.ofNat_toNat (by omega)]; omega
      intro v' w' h1 h2
      go_wp2
      obtain ⟨g, hg, hp, hlt⟩ := Wm.putF_step h Hm.out
      refine ⟨⟨g, m / 128, ys ++ [UInt8.ofNat (m % 128 + 128)], by go_num, by simpa using h1, ?_, ?_, hlt, hb.trans h2⟩, by simp [intOf]; omega⟩
      · rw [← Hys.out, hp]; simp
      · have := Hf.out; simp; omega

set_option maxRecDepth 100000 in
set_option maxHeartbeats 1000000 in
theorem refText_any (s : ByteArray) (hs : s.size ≤ 1099511627776) (w : World) :
    Calls Try.prog 43 #[.string s] w fun e w' => ∃ v', e = .returned v' ∧ Own w' w.heap.size v' (Wm.putT s.data.toList) ∧ Below w.heap.size w w' := by
  go_enter Try.func43, Try.ntmps43
  go_wp2_with fail
  refine (refUint_any s.size (by omega) _).mono ?_
  rintro e w1 ⟨v1, rfl, ho, hb⟩
  go_wp2
  go_loopw [3, 4] (fun v' i wr => ∃ k : Nat, k ≤ s.size ∧ i = .int .i64 (k : Int) ∧ Own wr w.heap.size v' (Wm.putU s.size ++ s.data.toList.take k) ∧ Below w.heap.size w wr)
    (fun _ i _ => s.size - (intOf i).toNat)
  case atStart => exact ⟨0, Nat.zero_le _, rfl, by simpa using ho, hb⟩
  case round =>
    obtain ⟨k, hk, rfl, hor, hbr⟩ := hrel
    have hbs : w.heap.size ≤ wr.heap.size := hbr.size
    by_cases hlt : k < s.size
    · have Hl : Hid ((Wm.putU s.size ++ s.data.toList.take k).length ≤ 1099511627800) := by
        have h2 := (Wm.putU_length s.size).2
        show (Wm.putU s.size ++ s.data.toList.take k).length ≤ _
        rw [List.length_append, List.length_take]; omega
      have HS : Hid (s.data.toList.take (k + 1) = s.data.toList.take k ++ [s[k]]) := by
        show _ = _
        rw [List.take_succ_eq_append_getElem (by rw [size_toList]; exact hlt)]; rfl
      go_wp2_with (at_builtin; go_must (refine wpList_append_byte wr rfl (.tmp 15) (.tmp 19) rfl w.heap.size _ _ _ s[k] ?hc rfl hor rfl Hl hbs ?_))
      case hc => rfl
      intro v' w' h1 h2
      go_wp2
      refine ⟨⟨k + 1, by omega, by go_num, ?_, hbr.trans h2⟩, by simp [intOf]; omega⟩
      rw [HS.out]
      simpa using h1
    · go_wp2
      go_ret
      refine ⟨_, rfl, ?_, hbr⟩
      unfold Wm.putT
      rw [size_toList]
      rwa [List.take_of_length_le (by rw [size_toList]; omega)] at hor

end Go.Proofs.Ytohdakjfacalbaa
