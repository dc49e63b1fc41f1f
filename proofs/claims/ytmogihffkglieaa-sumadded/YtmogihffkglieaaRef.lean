/-
  THE REFERENCE: the register bit by bit; the bytes and the sum's bytes.
-/
import Derived.Test.YtmogihffkglieaaSeal
namespace Go.Proofs.Ytmogihffkglieaa
open Go.RowKit

theorem x00 : bits .xor .u32 0 0 = 0 := by decide
theorem x01 : bits .xor .u32 0 1 = 1 := by decide
theorem x10 : bits .xor .u32 1 0 = 1 := by decide
theorem x11 : bits .xor .u32 1 1 = 0 := by decide

set_option maxHeartbeats 2000000 in
theorem refOf_any (v : Value) (l : List UInt8) (w : World) (B : Nat) (hv : Byts w B v l) (hl : Hid (l.length ≤ 1099511627776)) :
    Calls Try.prog 16 #[v] w fun e w' => e = .returned (.int .u32 (Sm.of l : Int)) ∧ w' = w := by
  obtain ⟨ad, c, rfl, hlc, -, hcell⟩ := hv
  have HL : Hid (l ≠ [] → ∃ b o, ad = some ⟨b, o, none⟩ ∧ b < B ∧ ∀ j, j < l.length → w.cell? ⟨b, o + j, none⟩ = some (.int .u8 ((l.getD j 0).toNat : Int))) := hcell
  clear hcell
  have hsg := signed32
  go_enter Try.func16, Try.ntmps16
  go_wp2_with fail
  go_loop [3, 4] (fun r i => ∃ k n : Nat, k ≤ l.length ∧ i = .int .i64 (k : Int) ∧ r = .int .u32 (n : Int) ∧ n = Sm.run Sm.M (l.take k)) (fun _ i => l.length - (intOf i).toNat)
  case atStart => exact ⟨0, Sm.M, Nat.zero_le _, rfl, rfl, by simp [Sm.run]⟩
  case round =>
    obtain ⟨k, n, hk, rfl, rfl, hn⟩ := hrel
    have Hn : Hid (n = Sm.run Sm.M (l.take k)) := hn
    have Hlt : Hid (n < 4294967296) := by rw [hn]; exact Sm.run_lt _ (by decide)
    clear hn
    by_cases hlt : k < l.length
    · have hl2 := hl.out
      obtain ⟨b, o, rfl, hbB, hc⟩ := HL.out (by intro h; rw [h] at hlt; simp at hlt)
      have hck := hc k hlt
      clear hc
      have HS : Hid (Sm.run Sm.M (l.take (k + 1)) = Sm.sN 8 (n ^^^ (l.getD k 0).toNat)) := by
        show _ = _
        rw [take_snoc l k hlt, Sm.run_snoc, ← Hn.out]
      have hx : (l.getD k 0).toNat < 256 := UInt8.toNat_lt _
      generalize (l.getD k 0).toNat = x at *
      go_wp2_with fail
      go_loop [3, 5, 6] (fun r y j => ∃ t m z : Nat, t ≤ 8 ∧ j = .int .i64 (t : Int) ∧ r = .int .u32 (m : Int) ∧ y = .int .u8 (z : Int) ∧ m < 4294967296 ∧ z = x / 2 ^ t ∧ m ^^^ z = Sm.sN t (n ^^^ x)) (fun _ _ j => 8 - (intOf j).toNat)
      case atStart => exact ⟨0, n, x, by omega, rfl, rfl, rfl, Hlt.out, by simp, rfl⟩
      case round =>
        obtain ⟨t, m, z, ht, rfl, rfl, rfl, hm, hz, he⟩ := hrel
        have Hm : Hid (m < 4294967296) := hm
        have hz2 : z < 256 := by rw [hz]; exact Nat.lt_of_le_of_lt (Nat.div_le_self _ _) hx
        have Hz : Hid (z / 2 = x / 2 ^ (t + 1)) := by show _ = _; rw [hz, Nat.div_div_eq_div_mul, Nat.pow_succ]
        have Hz0 : Hid (z = x / 2 ^ t) := hz
        have He0 : Hid (m ^^^ z = Sm.sN t (n ^^^ x)) := he
        have He : Hid ((m / 2 ^^^ (if (m % 2 + z % 2) % 2 = 1 then Sm.P else 0)) ^^^ z / 2 = Sm.sN (t + 1) (n ^^^ x)) := by show _ = _; rw [Sm.bit_step, he, Sm.sN_succ]
        clear hm hz he
        by_cases htl : t < 8
        · have htl' : (t : Int) < 8 := by omega
          have hxp : bits .xor .u32 ((m : Int) / 2) 3988292384 = ((m / 2 ^^^ Sm.P : Nat) : Int) := u32_xor_nat (m / 2) Sm.P (by have := Hm.out; omega) (by decide)
          have Hx1 : Hid (m / 2 ^^^ Sm.P < 4294967296) := xor32_lt (by have := Hm.out; omega) (by decide)
          have Hx2 : Hid (m / 2 < 4294967296) := by have := Hm.out; show _ < _; omega
          generalize hp : m / 2 ^^^ Sm.P = mp at *
          have hw2 : (m : Int) / 2 % 4294967296 = (m : Int) / 2 := by have := Hm.out; omega
          have c00 := x00
          have c01 := x01
          have c10 := x10
          have c11 := x11
          rcases Nat.mod_two_eq_zero_or_one m with h2 | h2 <;> rcases Nat.mod_two_eq_zero_or_one z with h3 | h3
          · have h2' : (m : Int) % 2 = 0 := by omega
            have h3' : (z : Int) % 2 = 0 := by omega
            have He' : Hid (m / 2 ^^^ z / 2 = Sm.sN (t + 1) (n ^^^ x)) := by have := He.out; rw [h2, h3] at this; show _ = _; simpa using this
            clear He h2 h3
            go_wp2
            exact ⟨⟨t + 1, m / 2, z / 2, by omega, by go_num, by go_num, by go_num, Hx2.out, Hz.out, He'.out⟩, by simp [intOf]; omega⟩
          · have h2' : (m : Int) % 2 = 0 := by omega
            have h3' : (z : Int) % 2 = 1 := by omega
            have He' : Hid (mp ^^^ z / 2 = Sm.sN (t + 1) (n ^^^ x)) := by have := He.out; rw [h2, h3] at this; show _ = _; simpa [hp] using this
            clear He h2 h3 hp
            go_wp2
            exact ⟨⟨t + 1, mp, z / 2, by omega, by go_num, rfl, by go_num, Hx1.out, Hz.out, He'.out⟩, by simp [intOf]; omega⟩
          · have h2' : (m : Int) % 2 = 1 := by omega
            have h3' : (z : Int) % 2 = 0 := by omega
            have He' : Hid (mp ^^^ z / 2 = Sm.sN (t + 1) (n ^^^ x)) := by have := He.out; rw [h2, h3] at this; show _ = _; simpa [hp] using this
            clear He h2 h3 hp
            go_wp2
            exact ⟨⟨t + 1, mp, z / 2, by omega, by go_num, rfl, by go_num, Hx1.out, Hz.out, He'.out⟩, by simp [intOf]; omega⟩
          · have h2' : (m : Int) % 2 = 1 := by omega
            have h3' : (z : Int) % 2 = 1 := by omega
            have He' : Hid (m / 2 ^^^ z / 2 = Sm.sN (t + 1) (n ^^^ x)) := by have := He.out; rw [h2, h3] at this; show _ = _; simpa using this
            clear He h2 h3
            go_wp2
            exact ⟨⟨t + 1, m / 2, z / 2, by omega, by go_num, by go_num, by go_num, Hx2.out, Hz.out, He'.out⟩, by simp [intOf]; omega⟩
        · obtain rfl : t = 8 := by omega
          have hz8 : z = 0 := by rw [Hz0.out]; exact Nat.div_eq_of_lt hx
          have He8 : Hid (m = Sm.sN 8 (n ^^^ x)) := by have := He0.out; rw [hz8, Nat.xor_zero] at this; exact this
          clear hz8 He Hz Hz0 He0
          go_wp2
          refine ⟨⟨k + 1, m, by omega, by go_num, rfl, by rw [HS.out, He8.out]⟩, by simp [intOf]; omega⟩
    · obtain rfl : k = l.length := by omega
      have hnot := not32 n Hlt.out
      have HE : Hid (Sm.M ^^^ n = Sm.of l) := by
        show _ = _
        rw [Hn.out, List.take_length, Sm.of_eq]
      rw [HE.out] at hnot
      go_wp2
      go_ret
      exact ⟨rfl, rfl⟩

theorem le4_cells (s : Nat) (hs : s < 4294967296) (a b c d : Int) (ha : a = ((s % 256 : Nat) : Int)) (hb : b = ((s / 256 % 256 : Nat) : Int)) (hc : c = ((s / 65536 % 256 : Nat) : Int)) (hd : d = ((s / 16777216 : Nat) : Int)) :
    (#[Value.int .u8 a, .int .u8 b, .int .u8 c, .int .u8 d] : Array Value).toList = bV (Sm.le4 s) := by
  have e : d = ((s / 16777216 % 256 : Nat) : Int) := by omega
  simp only [bV, Sm.le4, List.map_cons, List.map_nil, Sm.ofNat_mod, ha, hb, hc, e]

set_option maxRecDepth 100000 in
set_option maxHeartbeats 2000000 in
theorem refSeal_any (v : Value) (l : List UInt8) (w : World) (B : Nat) (hB : B ≤ w.heap.size) (hv : Byts w B v l) (hl : Hid (l.length ≤ 1099511627776)) :
    Calls Try.prog 17 #[v] w fun e w' => ∃ v', e = .returned v' ∧ Own w' w.heap.size v' (Sm.seal_ l) ∧ Below w.heap.size w w' := by
  have Hl : Hid (([] : List UInt8).length + l.length ≤ 1099511627800) := by have := hl.out; show _ ≤ _; simp; omega
  have Hl4 : Hid (l.length + (Sm.le4 (Sm.of l)).length ≤ 1099511627800) := by have := hl.out; show _ ≤ _; rw [Sm.le4_length]; omega
  have h0 : Own (w.alloc (.cells #[] 5)) w.heap.size (.slice (some ⟨w.heap.size, 0, none⟩) 0 0) [] := World.ownsRow_lit (size := 1) w #[] 0 (Nat.le_refl _) (by decide) rfl
  have hs := Sm.of_lt l
  have hsa : Hid (Sm.seal_ l = l ++ Sm.le4 (Sm.of l)) := rfl
  generalize Sm.seal_ l = sl at *
  have Hlit : Hid (∀ (a b c d : Int), a = ((Sm.of l % 256 : Nat) : Int) → b = ((Sm.of l / 256 % 256 : Nat) : Int) → c = ((Sm.of l / 65536 % 256 : Nat) : Int) → d = ((Sm.of l / 16777216 : Nat) : Int) → (#[Value.int .u8 a, .int .u8 b, .int .u8 c, .int .u8 d] : Array Value).toList = bV (Sm.le4 (Sm.of l))) := le4_cells (Sm.of l) hs
  have Hlen : Hid (4 = (Sm.le4 (Sm.of l)).length) := rfl
  generalize Sm.le4 (Sm.of l) = q at *
  go_enter Try.func17, Try.ntmps17
  go_wp2_with fail
  refine (refOf_any v l w B hv hl).mono ?_
  rintro e w1 ⟨rfl, hw1⟩
  rw [hw1]
  clear hw1
  generalize Sm.of l = s at *
  go_wp2_with (at_builtin; go_must (refine wpList_append_byts rfl (.tmp 7) (.tmp 8) rfl w.heap.size B _ _ [] l rfl h0 rfl (hv.alloc hB _) Hl (by simp) ?_))
  intro v' w2 h1 h2
  have hb2 : Below w.heap.size w w2 := ((Below.refl _ w).alloc (Nat.le_refl _) _).grown h2 (by simp) fun k hk => (World.ownsRow.lt h0 k hk).1
  have q1 : (s : Int) % 256 = ((s % 256 : Nat) : Int) := by omega
  have q2 : (s : Int) / 256 % 256 = ((s / 256 % 256 : Nat) : Int) := by omega
  have q3 : (s : Int) / 65536 % 256 = ((s / 65536 % 256 : Nat) : Int) := by omega
  have q4 : (s : Int) / 16777216 = ((s / 16777216 : Nat) : Int) := by omega
  have Q1 : Hid ((s : Int) % 256 = ((s % 256 : Nat) : Int)) := q1
  have Q2 : Hid ((s : Int) / 256 % 256 = ((s / 256 % 256 : Nat) : Int)) := q2
  have Q3 : Hid ((s : Int) / 65536 % 256 = ((s / 65536 % 256 : Nat) : Int)) := q3
  have Q4 : Hid ((s : Int) / 16777216 = ((s / 16777216 : Nat) : Int)) := q4
  clear q1 q2 q3 q4
  go_wp2_with (at_builtin; go_must (refine wpList_append_byts rfl (.tmp 10) (.tmp 25) rfl w.heap.size (w2.heap.size + 1) _ _ l q rfl (h1.alloc _) rfl (byts_lit _ _ _ _ (Hlit.out _ _ _ _ (by first | exact Q1.out | omega) (by first | exact Q2.out | omega) (by first | exact Q3.out | omega) (by first | exact Q4.out | omega)) Hlen.out) Hl4 (by have := hb2.size; simp; omega) ?_))
  intro v3 w3 h3 h4
  go_wp2
  go_ret
  rw [hsa.out]
  exact ⟨_, rfl, h3, (hb2.alloc hb2.size _).grown h4 (by have := hb2.size; simp; omega) fun k hk => (World.ownsRow.lt h1 k hk).1⟩
end Go.Proofs.Ytmogihffkglieaa
