/-
  More and Of: the register behind the bytes.
-/
import Derived.Test.YtmogihffkglieaaSteps
namespace Go.Proofs.Ytmogihffkglieaa
open Go.RowKit

theorem tab_at (j : Nat) (hj : j < 16) : (tabV 16).toArray[j]? = some (.int .u32 (Sm.sN 4 j : Int)) := by
  simp [tabV, tabN, hj]

theorem new_cell (w : World) (cs : Array Value) (t : TypeId) (j : Nat) : (w.alloc (.cells cs t)).cell? ⟨w.heap.size, j, none⟩ = cs[j]? := by
  simp [go_sem]

theorem not32 (r : Nat) (h : r < 4294967296) : bits .xor .u32 IntKind.u32.max (r : Int) = ((Sm.M ^^^ r : Nat) : Int) := u32_xor_nat Sm.M r (by decide) h
theorem signed32 : IntKind.u32.signed = false := rfl

theorem take_snoc (l : List UInt8) (k : Nat) (h : k < l.length) : l.take (k + 1) = l.take k ++ [l.getD k 0] := by
  rw [List.take_succ_eq_append_getElem h]
  simp [List.getD, List.getElem?_eq_getElem h]

theorem xor32_lt {a b : Nat} (ha : a < 4294967296) (hb : b < 4294967296) : a ^^^ b < 4294967296 := Nat.xor_lt_two_pow (n := 32) ha hb

theorem More_any (s : Nat) (hs : Hid (s < 4294967296)) (v : Value) (l : List UInt8) (w : World) (B : Nat) (hB : B ≤ w.heap.size) (hv : Byts w B v l) (hl : Hid (l.length ≤ 1099511627776)) :
    Calls Try.prog 12 #[.int .u32 (s : Int), v] w fun e w' => e = .returned (.int .u32 (Sm.more s l : Int)) ∧ Below w.heap.size w w' := by
  obtain ⟨ad, c, rfl, hlc, -, hcell⟩ := hv
  have hnot := not32 s hs.out
  have hsg := signed32
  obtain ⟨s', hs'⟩ : ∃ s', s' = Sm.M ^^^ s := ⟨_, rfl⟩
  have Hs' : Hid (s' = Sm.M ^^^ s) := hs'
  rw [← hs'] at hnot
  have Hs'lt : Hid (s' < 4294967296) := by rw [hs']; exact Sm.not_lt hs.out
  clear hs'
  go_enter Try.func12, Try.ntmps12
  go_wp2_with fail
  refine (steps_any w).mono ?_
  rintro e w1 ⟨rfl, hb1⟩
  go_wp2_with fail
  rw [← tab16_eq]
  have hb2 : Below w.heap.size w (w1.alloc (.cells (tabV 16).toArray 36)) := hb1.alloc hb1.size _
  have hcs : ∀ j, j < 16 → (w1.alloc (.cells (tabV 16).toArray 36)).cell? ⟨w1.heap.size, j, none⟩ = some (.int .u32 (Sm.sN 4 j : Int)) := fun j hj => (new_cell w1 _ 36 j).trans (tab_at j hj)
  generalize (tabV 16).toArray = cs at *
  generalize w1.alloc (.cells cs 36) = w2 at *
  generalize w1.heap.size = g at *
  have HB : Hid (Below w.heap.size w w2) := hb2
  have HC : Hid (∀ j, j < 16 → w2.cell? ⟨g, j, none⟩ = some (.int .u32 (Sm.sN 4 j : Int))) := hcs
  have HL : Hid (l ≠ [] → ∃ b o, ad = some ⟨b, o, none⟩ ∧ b < B ∧ ∀ j, j < l.length → w.cell? ⟨b, o + j, none⟩ = some (.int .u8 ((l.getD j 0).toNat : Int))) := hcell
  clear hcs hb2 hb1 hcell hnot
  go_loop [6, 15] (fun r i => ∃ k n : Nat, k ≤ l.length ∧ i = .int .i64 (k : Int) ∧ r = .int .u32 (n : Int) ∧ n = Sm.run s' (l.take k)) (fun _ i => l.length - (intOf i).toNat)
  case atStart => exact ⟨0, s', Nat.zero_le _, rfl, rfl, by simp [Sm.run]⟩
  case round =>
    obtain ⟨k, n, hk, rfl, rfl, hn⟩ := hrel
    have Hn : Hid (n = Sm.run s' (l.take k)) := hn
    have Hlt : Hid (n < 4294967296) := by rw [hn]; exact Sm.run_lt _ Hs'lt.out
    clear hn
    by_cases hlt : k < l.length
    · have hl2 := hl.out
      obtain ⟨b, o, rfl, hbB, hc⟩ := HL.out (by intro h; rw [h] at hlt; simp at hlt)
      have hck := (HB.out.cell (p := ⟨b, o + k, none⟩) (Nat.lt_of_lt_of_le hbB hB)).trans (hc k hlt)
      clear hc
      have HS : Hid (Sm.run s' (l.take (k + 1)) = Sm.sN 8 (n ^^^ (l.getD k 0).toNat)) := by
        show _ = _
        rw [take_snoc l k hlt, Sm.run_snoc, ← Hn.out]
      have hx : (l.getD k 0).toNat < 256 := UInt8.toNat_lt _
      generalize (l.getD k 0).toNat = x at *
      have hwx : IntKind.u32.wrap (x : Int) = (x : Int) := by rw [IntKind.wrap_u32']; omega
      obtain ⟨m0, hm0⟩ : ∃ m0, m0 = n ^^^ x := ⟨_, rfl⟩
      have hxor : bits .xor .u32 (n : Int) (x : Int) = (m0 : Int) := by rw [hm0]; exact u32_xor_nat n x Hlt.out (by omega)
      have Hm0 : Hid (m0 < 4294967296) := by rw [hm0]; exact xor32_lt Hlt.out (by omega)
      rw [← hm0] at HS
      clear hm0
      go_wp2_with fail
      go_loop [6, 23] (fun r j => ∃ t m : Nat, t ≤ 2 ∧ j = .int .i64 (t : Int) ∧ r = .int .u32 (m : Int) ∧ m = Sm.sN (4 * t) m0) (fun _ j => 2 - (intOf j).toNat)
      case atStart => exact ⟨0, m0, by omega, rfl, rfl, rfl⟩
      case round =>
        obtain ⟨t, m, ht, rfl, rfl, hm⟩ := hrel
        have Hm : Hid (m = Sm.sN (4 * t) m0) := hm
        have Hmlt : Hid (m < 4294967296) := by rw [hm]; exact Sm.sN_lt _ Hm0.out
        clear hm
        by_cases htl : t < 2
        · have htl' : (t : Int) < 2 := by omega
          have hand : bits .and .u32 (m : Int) 15 = ((m % 16 : Nat) : Int) := by
            have := u32_and_nat m 15 Hmlt.out (by decide)
            rwa [nat_mask4] at this
          have hxr : bits .xor .u32 ((m : Int) / 16) (Sm.sN 4 (m % 16) : Int) = (Sm.sN 4 m : Int) := by
            have := u32_xor_nat (m / 16) (Sm.sN 4 (m % 16)) (by have := Hmlt.out; omega) (Sm.sN_lt 4 (by omega))
            rw [Sm.nibble m]
            exact this
          have hat := HC.out (m % 16) (Nat.mod_lt _ (by decide))
          have hq16 : m % 16 < 16 := Nat.mod_lt _ (by decide)
          have HQ : Hid (Sm.sN (4 * (t + 1)) m0 = Sm.sN 4 m) := by
            show _ = _
            rw [Nat.mul_add, Sm.sN_add, ← Hm.out]
          generalize Sm.sN 4 (m % 16) = q at *
          generalize Sm.sN 4 m = m' at *
          generalize m % 16 = lo at *
          go_wp2
          refine ⟨⟨t + 1, m', by omega, by go_num, rfl, HQ.out.symm⟩, by simp [intOf]; omega⟩
        · obtain rfl : t = 2 := by omega
          go_wp2
          refine ⟨⟨k + 1, m, by omega, by go_num, rfl, by rw [HS.out, Hm.out]⟩, by simp [intOf]; omega⟩
    · obtain rfl : k = l.length := by omega
      have hnot := not32 n Hlt.out
      have HE : Hid (Sm.M ^^^ n = Sm.more s l) := by
        show _ = _
        rw [Hn.out, List.take_length, Hs'.out]
        rfl
      rw [HE.out] at hnot
      go_wp2
      go_ret
      exact ⟨rfl, HB.out⟩

theorem Of_any (v : Value) (l : List UInt8) (w : World) (B : Nat) (hB : B ≤ w.heap.size) (hv : Byts w B v l) (hl : Hid (l.length ≤ 1099511627776)) :
    Calls Try.prog 11 #[v] w fun e w' => e = .returned (.int .u32 (Sm.of l : Int)) ∧ Below w.heap.size w w' := by
  go_enter Try.func11, Try.ntmps11
  go_wp2_with fail
  refine (More_any 0 (show _ < _ by decide) v l w B hB hv hl).mono ?_
  rintro e w1 ⟨rfl, hb1⟩
  go_wp2
  go_ret
  exact ⟨rfl, hb1⟩
end Go.Proofs.Ytmogihffkglieaa
