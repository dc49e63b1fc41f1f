/-
  lex.Place OF A TEXT OF ANY LENGTH; lex.Lines OF A TEXT THAT IS TOO LONG.
-/
import Derived.Test.YthpipbkbldlfjaaZLines
import Derived.Test.YthpipbkbldlfjaaZPlace
namespace Go.Proofs.Ythpipbkbldlfjaa
open Go.RowKit

set_option maxRecDepth 100000 in
set_option maxHeartbeats 1000000 in
theorem Place_wide (s : ByteArray) (m : Nat) (w : World) (hm : m ≤ s.size) (hs : s.size ≤ 140737488351232) : Calls Try.prog 26 #[.string s, .int .i64 (m : Int)] w fun e w' => e = .returned (.tuple #[.int .i64 ((Lx.place (bs s) m).1 : Int), .int .i64 ((Lx.place (bs s) m).2 : Int)]) ∧ w' = w := by
  have hpp : placeI (bs s) (m : Int) = Lx.place (bs s) m := by unfold placeI; rw [Int.toNat_natCast]
  rw [← hpp]
  clear hpp
  have hn : 0 ≤ (m : Int) := by omega
  have hn2 : (m : Int) ≤ (s.size : Int) := by omega
  have HPP : placeI (bs s) (m : Int) = Lx.place (bs s) m := by unfold placeI; rw [Int.toNat_natCast]
  have i2 : ¬ (m : Int) < 0 := by omega
  have i3 : ¬ (s.size : Int) < (m : Int) := by omega
  obtain ⟨ht, q1, q2, q3, q4, q5⟩ := place_last s (s.extract 0 m) m hm (by rw [bs_extract, List.drop_zero, Nat.sub_zero])
  have HT : Hid _ := ht
  have HP : Hid (placeI (bs s) (m : Int) = Lx.place (bs s) m) := HPP
  have Q1 : Hid _ := q1
  have Q5 : Hid _ := q5
  have hsz : ((s.extract 0 m)).size < 4611686018427387904 := by omega
  have qi : ((((s.extract 0 m)).size : Nat) : Int) = ((m : Nat) : Int) := by rw [ht]
  rw [HP.out]
  clear ht q1 q5
  obtain ⟨L, hL⟩ : ∃ L, Lib.lastIndexByte (s.extract 0 m) 10 = L := ⟨_, rfl⟩
  rw [hL] at q3 q4 Q5
  obtain ⟨C, hC⟩ : ∃ C, (bs (s.extract 0 m)).count 10 = C := ⟨_, rfl⟩
  rw [hC] at q2 Q1
  have hLI := LastIndexByte_any (s.extract 0 m) 10 hsz w
  have hCO := Count_one (s.extract 0 m) 10 w
  rw [hL] at hLI
  rw [hC] at hCO
  clear hL hC
  go_enter Try.func26, Try.ntmps26
  go_wp2_with fail
  refine hLI.mono ?_
  rintro e w1 ⟨rfl, rfl⟩
  go_wp2_with fail
  refine hCO.mono ?_
  rintro e w1 ⟨rfl, rfl⟩
  go_wp2
  go_ret2
  refine ⟨?_, rfl⟩
  rw [Q5.out, Q1.out, show ((C + 1 : Nat) : Int) = (C : Int) + 1 by omega]
  first | rfl | (rw [← show (-(L + 1) : Int) = ((0 : Nat) : Int) - (L + 1) by omega]; rfl)


set_option maxRecDepth 100000 in
theorem Lines_long (s : ByteArray) (w : World) (hs : 32768 < s.size) :
    Calls Try.prog 25 #[.string s] w fun e w' => e = .returned (.tuple #[.slice none 0 0, .agg #[.int .i64 3, .int .i64 32768]]) ∧ Below w.heap.size w w' := by
  have hmf : ∀ (fn : Fn) (first cap : Array Value) (w : World), (Instr.makeFunc fn first cap).run Try.prog w = .ok (.func fn first cap) w := fun _ _ _ _ => rfl
  have i0 : (32768 : Int) < (s.size : Int) := by omega
  go_enter_defers Try.func25, Try.ntmps25
  have hV : LV ((w.alloc (.cells #[.slice none 0 0] 31)).alloc (.cells #[.int .i64 0, .int .i64 0] 42)) w.heap.size (.slice none 0 0) := by
    have : LV (w.alloc (.cells #[.slice none 0 0] 31)) w.heap.size (.slice none 0 0) := heap_alloc_new w _
    exact this.turn ((Turn.refl [] _).alloc _) (by simp)
  have hS : SV ((w.alloc (.cells #[.slice none 0 0] 31)).alloc (.cells #[.int .i64 0, .int .i64 0] 42)) (w.heap.size + 1) 0 0 := by
    have := heap_alloc_new (w.alloc (.cells #[.slice none 0 0] 31)) (.cells #[.int .i64 0, .int .i64 0] 42)
    rw [show (w.alloc (.cells #[.slice none 0 0] 31)).heap.size = w.heap.size + 1 from Array.size_push ..] at this
    exact this
  have hT := ((Turn.refl [] w).alloc (.cells #[.slice none 0 0] 31)).alloc (.cells #[.int .i64 0, .int .i64 0] 42)
  go_wp2
  refine leaves_cons (f := 48) (args := #[.pointer (some ⟨w.heap.size, 0, none⟩), .pointer (some ⟨w.heap.size + 1, 0, none⟩)]) (by simp) (by simp [go_sem]) ?_
  refine (catch_thrown w.heap.size (w.heap.size + 1) _ _ _ _ _ _ [] hV hS (by omega)).mono ?_
  rintro e u' w2 ⟨rfl, rfl, hV2, hS2, hT5⟩
  refine ⟨_, results_lines rfl rfl hV2 hS2, rfl, ?_⟩
  exact (hT.trans hT5 (by simp only [List.mem_cons, List.not_mem_nil, or_false]; omega)).below (by simp)

end Go.Proofs.Ythpipbkbldlfjaa
