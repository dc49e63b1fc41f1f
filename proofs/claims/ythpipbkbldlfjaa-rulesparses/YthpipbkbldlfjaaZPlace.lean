/-
  strings.Count AT ONE BYTE; WHAT Place DOES.
-/
import Derived.Test.YthpipbkbldlfjaaYText
import Derived.Test.YthpipbkbldlfjaaSLibL
namespace Go.Proofs.Ythpipbkbldlfjaa
open Go.RowKit

set_option maxRecDepth 100000 in
theorem Count_one (s : ByteArray) (c : UInt8) (w : World) : Calls Try.prog 51 #[.string s, .string ⟨#[c]⟩] w fun e w' => e = .returned (.int .i64 ((bs s).count c : Int)) ∧ w' = w := by
  go_enter Try.func51, Try.ntmps51
  go_wp2
  rw [run_callFunc_extern Try.func81 (by kernel_rfl) (by kernel_rfl) (by kernel_rfl) (e := Extern.BytealgCount.count) (by kernel_rfl), Lib.run_countString]
  simp only [Result.andThen]
  rw [Oper.upon_value]
  go_wp2
  go_ret
  refine ⟨?_, rfl⟩
  have e : ((c.toNat : Int)).toNat.toUInt8 = c := by simp
  first | rfl | (simp [Lib.countByte, bs]; rfl)

/-- a place by the last byte 10 ahead of it -/
theorem place_last (s t : ByteArray) (m : Nat) (hm : m ≤ s.size) (he : bs t = (bs s).take m) : t.size = m ∧ (Lx.place (bs s) m).1 = (bs t).count 10 + 1 ∧ (bs t).count 10 ≤ m ∧ -1 ≤ Lib.lastIndexByte t 10 ∧ Lib.lastIndexByte t 10 < (m : Int) ∧ ((Lx.place (bs s) m).2 : Int) = (m : Int) - (Lib.lastIndexByte t 10 + 1) := by
  have hl : ((bs s).take m).length = m := by rw [List.length_take, bs_length]; omega
  have ht : t.size = m := by rw [← bs_length, he, hl]
  have hc : (bs t).count 10 ≤ m := by
    have := List.count_le_length (a := (10 : UInt8)) (l := bs t)
    rw [bs_length] at this
    omega
  refine ⟨ht, by unfold Lx.place; rw [he], hc, ?_⟩
  unfold Lx.place
  rcases lastIdx_cases t 10 with ⟨e, h⟩ | ⟨k, e, hk, h1, h2⟩
  · rw [show ((10 : UInt8).toNat : Int) = 10 from rfl] at e
    rw [e]
    rw [he] at h
    obtain ⟨t1, -⟩ := Lx.tw_all (p := fun c : UInt8 => c != 10) (l := ((bs s).take m).reverse) (fun x hx => by
      rw [List.mem_reverse] at hx
      rw [bne_iff_ne]
      rintro rfl
      exact h hx)
    rw [t1, List.length_reverse, hl]
    omega
  · rw [show ((10 : UInt8).toNat : Int) = 10 from rfl] at e
    rw [e]
    rw [he] at h1 h2
    obtain ⟨A, hA⟩ : ∃ A, List.drop (k + 1) ((bs s).take m) = A := ⟨_, rfl⟩
    have hAl : A.length = m - (k + 1) := by rw [← hA, List.length_drop, hl]
    rw [hA] at h1 h2
    rw [h1, List.reverse_append, List.reverse_cons, List.append_assoc, List.singleton_append]
    rw [List.takeWhile_append_of_pos (fun x hx => by
      rw [List.mem_reverse] at hx
      rw [bne_iff_ne]
      rintro rfl
      exact h2 hx), List.takeWhile_cons]
    simp only [bne_self_eq_false, Bool.false_eq_true, if_false, List.append_nil, List.length_reverse, hAl]
    omega

set_option maxRecDepth 100000 in
set_option maxHeartbeats 1000000 in
theorem Place_any (s : ByteArray) (n : Int) (w : World) (hs : s.size ≤ 1099511627) : Calls Try.prog 26 #[.string s, .int .i64 n] w fun e w' => e = .returned (.tuple #[.int .i64 ((placeI (bs s) n).1 : Int), .int .i64 ((placeI (bs s) n).2 : Int)]) ∧ w' = w := by
  have hlt : s.size < 4611686018427387904 := by omega
  rcases Int.lt_or_le n 0 with hn | hn
  · have HPP : placeI (bs s) n = Lx.place (bs s) 0 := by unfold placeI; rw [show n.toNat = 0 by omega]
    have i2 : ¬ (s.size : Int) < 0 := by omega
    obtain ⟨ht, q1, q2, q3, q4, q5⟩ := place_last s ByteArray.empty 0 (by omega) rfl
    have HT : Hid _ := ht
    have HP : Hid (placeI (bs s) n = Lx.place (bs s) 0) := HPP
    have Q1 : Hid _ := q1
    have Q5 : Hid _ := q5
    have hsz : (ByteArray.empty).size < 4611686018427387904 := by omega
    have qi : (((ByteArray.empty).size : Nat) : Int) = ((0 : Nat) : Int) := by rw [ht]
    rw [HP.out]
    clear ht q1 q5
    obtain ⟨L, hL⟩ : ∃ L, Lib.lastIndexByte ByteArray.empty 10 = L := ⟨_, rfl⟩
    rw [hL] at q3 q4 Q5
    obtain ⟨C, hC⟩ : ∃ C, (bs ByteArray.empty).count 10 = C := ⟨_, rfl⟩
    rw [hC] at q2 Q1
    have hLI := LastIndexByte_any ByteArray.empty 10 hsz w
    have hCO := Count_one ByteArray.empty 10 w
    rw [hL] at hLI
    rw [hC] at hCO
    clear hL hC
    go_enter Try.func26, Try.ntmps26
    go_wp2_with fail
    refine hLI.mono ?_
    rintro e w1 ⟨rfl, rfl⟩
    go_wp2_with fail
    refine hCO.mono ?_
    rintro e w1 ⟨rfl, rfl⟩
    go_wp2
    go_ret2
    refine ⟨?_, rfl⟩
    rw [Q5.out, Q1.out, show ((C + 1 : Nat) : Int) = (C : Int) + 1 by omega]
    first | rfl | (rw [← show (-(L + 1) : Int) = ((0 : Nat) : Int) - (L + 1) by omega]; rfl)
  rcases Int.lt_or_le (s.size : Int) n with hn2 | hn2
  · have HPP : placeI (bs s) n = Lx.place (bs s) s.size := by unfold placeI; rw [← bs_length, place_all _ _ (by rw [bs_length]; omega)]
    have i2 : ¬ n < 0 := by omega
    obtain ⟨ht, q1, q2, q3, q4, q5⟩ := place_last s s s.size (by omega) (by rw [← bs_length, List.take_length])
    have HT : Hid _ := ht
    have HP : Hid (placeI (bs s) n = Lx.place (bs s) s.size) := HPP
    have Q1 : Hid _ := q1
    have Q5 : Hid _ := q5
    have hsz : (s).size < 4611686018427387904 := by omega
    have qi : (((s).size : Nat) : Int) = ((s.size : Nat) : Int) := by rw [ht]
    rw [HP.out]
    clear ht q1 q5
    obtain ⟨L, hL⟩ : ∃ L, Lib.lastIndexByte s 10 = L := ⟨_, rfl⟩
    rw [hL] at q3 q4 Q5
    obtain ⟨C, hC⟩ : ∃ C, (bs s).count 10 = C := ⟨_, rfl⟩
    rw [hC] at q2 Q1
    have hLI := LastIndexByte_any s 10 hsz w
    have hCO := Count_one s 10 w
    rw [hL] at hLI
    rw [hC] at hCO
    clear hL hC
    go_enter Try.func26, Try.ntmps26
    go_wp2_with fail
    refine hLI.mono ?_
    rintro e w1 ⟨rfl, rfl⟩
    go_wp2_with fail
    refine hCO.mono ?_
    rintro e w1 ⟨rfl, rfl⟩
    go_wp2
    go_ret2
    refine ⟨?_, rfl⟩
    rw [Q5.out, Q1.out, show ((C + 1 : Nat) : Int) = (C : Int) + 1 by omega]
    first | rfl | (rw [← show (-(L + 1) : Int) = ((0 : Nat) : Int) - (L + 1) by omega]; rfl)
  · obtain ⟨m, rfl⟩ : ∃ m : Nat, n = (m : Int) := ⟨n.toNat, by omega⟩
    have hm : m ≤ s.size := by omega
    have HPP : placeI (bs s) (m : Int) = Lx.place (bs s) m := by unfold placeI; rw [Int.toNat_natCast]
    have i2 : ¬ (m : Int) < 0 := by omega
    have i3 : ¬ (s.size : Int) < (m : Int) := by omega
    obtain ⟨ht, q1, q2, q3, q4, q5⟩ := place_last s (s.extract 0 m) m hm (by rw [bs_extract, List.drop_zero, Nat.sub_zero])
    have HT : Hid _ := ht
    have HP : Hid (placeI (bs s) (m : Int) = Lx.place (bs s) m) := HPP
    have Q1 : Hid _ := q1
    have Q5 : Hid _ := q5
    have hsz : ((s.extract 0 m)).size < 4611686018427387904 := by omega
    have qi : ((((s.extract 0 m)).size : Nat) : Int) = ((m : Nat) : Int) := by rw [ht]
    rw [HP.out]
    clear ht q1 q5
    obtain ⟨L, hL⟩ : ∃ L, Lib.lastIndexByte (s.extract 0 m) 10 = L := ⟨_, rfl⟩
    rw [hL] at q3 q4 Q5
    obtain ⟨C, hC⟩ : ∃ C, (bs (s.extract 0 m)).count 10 = C := ⟨_, rfl⟩
    rw [hC] at q2 Q1
    have hLI := LastIndexByte_any (s.extract 0 m) 10 hsz w
    have hCO := Count_one (s.extract 0 m) 10 w
    rw [hL] at hLI
    rw [hC] at hCO
    clear hL hC
    go_enter Try.func26, Try.ntmps26
    go_wp2_with fail
    refine hLI.mono ?_
    rintro e w1 ⟨rfl, rfl⟩
    go_wp2_with fail
    refine hCO.mono ?_
    rintro e w1 ⟨rfl, rfl⟩
    go_wp2
    go_ret2
    refine ⟨?_, rfl⟩
    rw [Q5.out, Q1.out, show ((C + 1 : Nat) : Int) = (C : Int) + 1 by omega]
    first | rfl | (rw [← show (-(L + 1) : Int) = ((0 : Nat) : Int) - (L + 1) by omega]; rfl)

end Go.Proofs.Ythpipbkbldlfjaa
