/-
  LexStands.
-/
import Derived.Test.YtdknggccjhillaaLStD
namespace Go.Proofs.Ytdknggccjhillaa
open Go.RowKit

set_option maxRecDepth 1000000 in
set_option maxHeartbeats 4000000 in
theorem stands_walk (s : ByteArray) (w : World) : Calls Try.prog 10 #[.string s] w fun e w' => e = .returned (.bool true) ∧ Below w.heap.size w w' := by
  have eS := eql_spot
  have nS := neq_spot
  have gS := guard_spot
  go_enter Try.func10, Try.ntmps10
  go_wp2_with fail
  refine (works_any _).mono ?_
  rintro e w1 ⟨rfl, hB1⟩
  go_wp2_with fail
  rcases Nat.lt_or_ge 32768 s.size with hbig | hsm
  · refine (Lines_long s _ hbig).mono ?_
    rintro e w2 ⟨rfl, hB2⟩
    have hC2 := hB1.trans (hB2.mono hB1.size)
    have hD2 := hC2.alloc hC2.size (.cells #[.int .i64 3, .int .i64 32768] 27)
    obtain ⟨x0, y0⟩ := (SV.new w2 3 32768).cells
    go_wp2
    go_ret
    exact ⟨rfl, hD2⟩
  have hli := Lines_any s w1 hsm
  cases hlx : Lx.lex (bs s) with
  | bad a =>
    rw [hlx] at hli
    clear hlx
    refine hli.mono ?_
    rintro e w2 ⟨hq, hB2⟩
    simp only [LsEnd] at hq
    subst hq
    have hC2 := hB1.trans (hB2.mono hB1.size)
    have hD2 := hC2.alloc hC2.size (.cells #[.int .i64 6, .int .i64 (a : Int)] 27)
    obtain ⟨x0, y0⟩ := (SV.new w2 6 (a : Int)).cells
    go_wp2
    go_ret
    exact ⟨rfl, hD2⟩
  | ok ls =>
    rw [hlx] at hli
    have HST : Hid _ := Lx.lex_stands hlx
    have hz : Lx.tot ls ≤ 98304 := by
      have := Lx.lex_size hlx
      rw [bs_length] at this
      omega
    have HLL : Hid (ls.length ≤ 98304) := Nat.le_trans (Lx.tot_len ls) hz
    clear hlx
    refine hli.mono ?_
    rintro e w2 ⟨⟨v, rfl, hL⟩, hB2⟩
    have hC2 := hB1.trans (hB2.mono hB1.size)
    have hD2 := hC2.alloc hC2.size (.cells #[.int .i64 0, .int .i64 0] 27)
    have s2 := SV.new w2 0 0
    have hL2 := hL.alloc (.cells #[.int .i64 0, .int .i64 0] 27)
    clear hL hB1 hB2 hC2 hli
    obtain ⟨a1, c1, rfl, -⟩ := hL2.s.shape
    rw [List.length_map] at *
    obtain ⟨x0, y0⟩ := s2.cells
    go_upto_region 6 with fail
    clear x0 y0 s2
    generalize w2.alloc (.cells #[.int .i64 0, .int .i64 0] 27) = W2 at *
    have hI0 : IntR.Own (W2.alloc (.cells #[.int .i64 0] 3)) W2.heap.size (.slice (some ⟨W2.heap.size, 0, none⟩) 1 1) [0] := by
      refine ⟨rfl, .inr ⟨W2.heap.size, 1, #[.int .i64 0], rfl, ?_, heap_alloc_new W2 _, ?_⟩⟩
      · exact Nat.le_refl _
      · exact ⟨Nat.le_refl _, by unfold maxLen; decide, rfl, rfl⟩
    have hB0 := (Below.refl W2.heap.size W2).alloc (Nat.le_refl _) (.cells #[.int .i64 0] 3)
    go_wp2
    go_loopw [5, 6] (fun v i wr => ∃ k : Nat, k ≤ s.size ∧ i = .int .i64 (k : Int) ∧ IntR.Own wr W2.heap.size v (starts s k) ∧ Below W2.heap.size W2 wr) (fun _ i _ => s.size - (intOf i).toNat)
    case atStart => exact ⟨0, Nat.zero_le _, rfl, hI0, hB0⟩
    case round =>
    clear hI0 hB0
    obtain ⟨k, hk, rfl, hI, hB⟩ := hrel
    have hsl := (starts_len s k).2
    obtain ⟨a5, n5, c5, rfl⟩ := hI.isSl
    by_cases hlt : k < s.size
    · have i1 : (k : Int) < (s.size : Int) := by omega
      have hbt := byte_some s k hlt
      by_cases hx : s[k] = 10
      · have e10 : ((s[k].toNat : Int) == 10) = true := byte_eq hx
        have HS : Hid (starts s k ++ [k + 1] = starts s (k + 1)) := by
          show _ = _
          rw [starts, hbt, hx, if_pos rfl]
        clear hx hbt
        have hL4 := IntR.lit wr (k + 1) #[.int .i64 ((k + 1 : Nat) : Int)] rfl
        have hO4 := hI.alloc (.cells #[.int .i64 ((k + 1 : Nat) : Int)] 3)
        have hB4 := hB.alloc hB.size (.cells #[.int .i64 ((k + 1 : Nat) : Int)] 3)
        rw [show ((k + 1 : Nat) : Int) = (k : Int) + 1 by omega] at hL4 hO4 hB4
        have HLn : Hid ((starts s k).length + [k + 1].length ≤ 1099511627) := by show _ ≤ _; simp only [List.length_cons, List.length_nil]; omega
        go_wp2_with (at_builtin; go_must (refine IntR.append rfl _ _ rfl W2.heap.size (wr.heap.size + 1) _ _ (starts s k) [k + 1] rfl hO4 rfl hL4 HLn hB4.size ?_))
        intro v5 w5 hO5 hg5
        have hB5 := hB4.grown hg5 hB4.size fun j e => (hO4.lt j e).1
        rw [HS.out] at hO5
        clear hL4 hO4 hB4 HLn hg5 hI
        go_wp2
        exact ⟨⟨k + 1, by omega, by go_num, hO5, hB5⟩, by simp [intOf]; omega⟩
      · have e10 : ((s[k].toNat : Int) == 10) = false := byte_ne hx
        have HS : Hid (starts s k = starts s (k + 1)) := by
          show _ = _
          rw [starts, hbt, if_neg (by simpa using hx), List.append_nil]
        clear hx hbt
        rw [HS.out] at hI
        go_wp2
        exact ⟨⟨k + 1, by omega, by go_num, hI, hB⟩, by simp [intOf]; omega⟩
    obtain rfl : k = s.size := by omega
    obtain ⟨W3, hW3⟩ : ∃ X, X = wr := ⟨_, rfl⟩
    subst hW3
    have i1 : ¬ (s.size : Int) < (s.size : Int) := by omega
    have HSA : Hid _ := starts_at s
    have hS3 := hI.sl
    have hL3 := (hL2.below hB (Nat.le_refl _)).s
    have hD3 := hD2.trans (hB.mono hD2.size)
    obtain ⟨ST, hST⟩ : ∃ ST, starts s s.size = ST := ⟨_, rfl⟩
    rw [hST] at HSA hS3 hsl
    clear hI hB hL2 hD2 hlt hST
    obtain ⟨b4, o4, c6, e, -⟩ := IntR.at hS3 0 (by have := HSA.out 0 (Nat.zero_le _); omega)
    simp only [Value.slice.injEq] at e
    obtain ⟨rfl, rfl, rfl⟩ := e
    go_wp2
    refine sb_loop s W3 ST _ _ _ ls _ _ ?_ _ _ _ _ _ _ _ _ _ _ _ _ _ _ _ _ _ _ _ _ _ _ _ _ _ _ _ _ _ _ _ _ _ _ _ _ _ _ _ _ _ _ _ _ _ _ _ _ _ _ _ _ _ _ _ _ _ _ _ _ _ _ _ _ _ _ _ _ _ _ _ _ _ _ _ _ _ _ _ _ _ _ _ _ _ _ _ _ _ _ _ _ _ _ _ _ _ _ _ _ _ _ _ _ _ _ _ _ _ _ _ _ _ _ _ _ _ _ _ _ _ _ _ _ _ _ _ _ _ _ _ _ _ _ _ _ _ _ _ _ _ _ _ _ _ _ _ _ _ _ _ _ _ _ _ _ _ _ _ _ _ _ _ _ _ _ _ _ _ _ _ _ _ _ _ _ _ _ _ _ _ _ _ _ _ _ _ _ _ _ _ _ _ _ _ _ _ _ _ _ _ _ _ _ _ _ _ _ _ _ _ _ _ _ _ _ _ _ _ _ _ _ _ _ _ _ _ _ ?_ ?_
    · exact ⟨hsm, hsl, HSA.out, hS3, hL3, hz, HLL.out⟩
    · exact ⟨0, 0, -1, Nat.zero_le _, rfl, rfl, by omega, by omega, HST.out, Below.refl _ _⟩
    intro a' w'' hX
    unfold SbWX at hX
    obtain ⟨u2, hX⟩ := hX
    obtain ⟨u7, hX⟩ := hX
    obtain ⟨u8, hX⟩ := hX
    obtain ⟨u9, hX⟩ := hX
    obtain ⟨u10, hX⟩ := hX
    obtain ⟨u11, hX⟩ := hX
    obtain ⟨u12, hX⟩ := hX
    obtain ⟨u13, hX⟩ := hX
    obtain ⟨u43, hX⟩ := hX
    obtain ⟨u44, hX⟩ := hX
    obtain ⟨u45, hX⟩ := hX
    obtain ⟨u46, hX⟩ := hX
    obtain ⟨u47, hX⟩ := hX
    obtain ⟨u48, hX⟩ := hX
    obtain ⟨u49, hX⟩ := hX
    obtain ⟨u50, hX⟩ := hX
    obtain ⟨u51, hX⟩ := hX
    obtain ⟨u52, hX⟩ := hX
    obtain ⟨u53, hX⟩ := hX
    obtain ⟨u54, hX⟩ := hX
    obtain ⟨u55, hX⟩ := hX
    obtain ⟨u56, hX⟩ := hX
    obtain ⟨u57, hX⟩ := hX
    obtain ⟨u58, hX⟩ := hX
    obtain ⟨u59, hX⟩ := hX
    obtain ⟨u60, hX⟩ := hX
    obtain ⟨u61, hX⟩ := hX
    obtain ⟨u62, hX⟩ := hX
    obtain ⟨u63, hX⟩ := hX
    obtain ⟨u64, hX⟩ := hX
    obtain ⟨u65, hX⟩ := hX
    obtain ⟨u66, hX⟩ := hX
    obtain ⟨u67, hX⟩ := hX
    obtain ⟨u68, hX⟩ := hX
    obtain ⟨u69, hX⟩ := hX
    obtain ⟨u70, hX⟩ := hX
    obtain ⟨u71, hX⟩ := hX
    obtain ⟨u72, hX⟩ := hX
    obtain ⟨u73, hX⟩ := hX
    obtain ⟨u74, hX⟩ := hX
    obtain ⟨u75, hX⟩ := hX
    obtain ⟨u76, hX⟩ := hX
    obtain ⟨u77, hX⟩ := hX
    obtain ⟨u78, hX⟩ := hX
    obtain ⟨u79, hX⟩ := hX
    obtain ⟨u80, hX⟩ := hX
    obtain ⟨u81, hX⟩ := hX
    obtain ⟨u82, hX⟩ := hX
    obtain ⟨u83, hX⟩ := hX
    obtain ⟨u84, hX⟩ := hX
    obtain ⟨u85, hX⟩ := hX
    obtain ⟨u86, hX⟩ := hX
    obtain ⟨u87, hX⟩ := hX
    obtain ⟨u88, hX⟩ := hX
    obtain ⟨u89, hX⟩ := hX
    obtain ⟨u90, hX⟩ := hX
    obtain ⟨u91, hX⟩ := hX
    obtain ⟨u92, hX⟩ := hX
    obtain ⟨u93, hX⟩ := hX
    obtain ⟨u94, hX⟩ := hX
    obtain ⟨u95, hX⟩ := hX
    obtain ⟨u96, hX⟩ := hX
    obtain ⟨u97, hX⟩ := hX
    obtain ⟨u98, hX⟩ := hX
    obtain ⟨u99, hX⟩ := hX
    obtain ⟨u100, hX⟩ := hX
    obtain ⟨u101, hX⟩ := hX
    obtain ⟨u102, hX⟩ := hX
    obtain ⟨u103, hX⟩ := hX
    obtain ⟨u104, hX⟩ := hX
    obtain ⟨u105, hX⟩ := hX
    obtain ⟨u106, hX⟩ := hX
    obtain ⟨u107, hX⟩ := hX
    obtain ⟨u108, hX⟩ := hX
    obtain ⟨u109, hX⟩ := hX
    obtain ⟨u110, hX⟩ := hX
    obtain ⟨u111, hX⟩ := hX
    obtain ⟨u112, hX⟩ := hX
    obtain ⟨u113, hX⟩ := hX
    obtain ⟨u114, hX⟩ := hX
    obtain ⟨u115, hX⟩ := hX
    obtain ⟨u116, hX⟩ := hX
    obtain ⟨u117, hX⟩ := hX
    obtain ⟨u118, hX⟩ := hX
    obtain ⟨u119, hX⟩ := hX
    obtain ⟨u120, hX⟩ := hX
    obtain ⟨u121, hX⟩ := hX
    obtain ⟨u122, hX⟩ := hX
    obtain ⟨u123, hX⟩ := hX
    obtain ⟨u124, hX⟩ := hX
    obtain ⟨u125, hX⟩ := hX
    obtain ⟨u126, hX⟩ := hX
    obtain ⟨u127, hX⟩ := hX
    obtain ⟨u128, hX⟩ := hX
    obtain ⟨u129, hX⟩ := hX
    obtain ⟨u130, hX⟩ := hX
    obtain ⟨u131, hX⟩ := hX
    obtain ⟨u132, hX⟩ := hX
    obtain ⟨u133, hX⟩ := hX
    obtain ⟨u134, hX⟩ := hX
    obtain ⟨u135, hX⟩ := hX
    obtain ⟨u136, hX⟩ := hX
    obtain ⟨u137, hX⟩ := hX
    obtain ⟨u138, hX⟩ := hX
    obtain ⟨u139, hX⟩ := hX
    obtain ⟨u140, hX⟩ := hX
    obtain ⟨u141, hX⟩ := hX
    obtain ⟨u142, hX⟩ := hX
    obtain ⟨u143, hX⟩ := hX
    obtain ⟨u144, hX⟩ := hX
    obtain ⟨u145, hX⟩ := hX
    obtain ⟨u146, hX⟩ := hX
    obtain ⟨u147, hX⟩ := hX
    obtain ⟨u148, hX⟩ := hX
    obtain ⟨u149, hX⟩ := hX
    obtain ⟨u150, hX⟩ := hX
    obtain ⟨u151, hX⟩ := hX
    obtain ⟨u152, hX⟩ := hX
    obtain ⟨u153, hX⟩ := hX
    obtain ⟨u154, hX⟩ := hX
    obtain ⟨u155, hX⟩ := hX
    obtain ⟨u156, hX⟩ := hX
    obtain ⟨u157, hX⟩ := hX
    obtain ⟨u158, hX⟩ := hX
    obtain ⟨u159, hX⟩ := hX
    obtain ⟨u160, hX⟩ := hX
    obtain ⟨u161, hX⟩ := hX
    obtain ⟨u162, hX⟩ := hX
    obtain ⟨u163, hX⟩ := hX
    obtain ⟨u164, hX⟩ := hX
    obtain ⟨u165, hX⟩ := hX
    obtain ⟨u166, hX⟩ := hX
    obtain ⟨u167, hX⟩ := hX
    obtain ⟨u168, hX⟩ := hX
    obtain ⟨u169, hX⟩ := hX
    obtain ⟨u170, hX⟩ := hX
    obtain ⟨u171, hX⟩ := hX
    obtain ⟨u172, hX⟩ := hX
    obtain ⟨u173, hX⟩ := hX
    obtain ⟨u174, hX⟩ := hX
    obtain ⟨u175, hX⟩ := hX
    obtain ⟨u176, hX⟩ := hX
    obtain ⟨u177, hX⟩ := hX
    obtain ⟨u178, hX⟩ := hX
    obtain ⟨u179, hX⟩ := hX
    obtain ⟨u180, hX⟩ := hX
    obtain ⟨u181, hX⟩ := hX
    obtain ⟨u182, hX⟩ := hX
    obtain ⟨u183, hX⟩ := hX
    obtain ⟨u184, hX⟩ := hX
    obtain ⟨u185, hX⟩ := hX
    obtain ⟨u186, hX⟩ := hX
    obtain ⟨u187, hX⟩ := hX
    obtain ⟨u188, hX⟩ := hX
    obtain ⟨u189, hX⟩ := hX
    obtain ⟨u190, hX⟩ := hX
    obtain ⟨u191, hX⟩ := hX
    obtain ⟨u192, hX⟩ := hX
    obtain ⟨u193, hX⟩ := hX
    obtain ⟨u194, hX⟩ := hX
    obtain ⟨u195, hX⟩ := hX
    obtain ⟨u196, hX⟩ := hX
    obtain ⟨u197, hX⟩ := hX
    obtain ⟨u198, hX⟩ := hX
    obtain ⟨u199, hX⟩ := hX
    obtain ⟨u200, hX⟩ := hX
    obtain ⟨u201, hX⟩ := hX
    obtain ⟨u202, hX⟩ := hX
    obtain ⟨u203, hX⟩ := hX
    obtain ⟨u204, hX⟩ := hX
    obtain ⟨u205, hX⟩ := hX
    obtain ⟨u206, hX⟩ := hX
    obtain ⟨u207, hX⟩ := hX
    obtain ⟨u208, hX⟩ := hX
    obtain ⟨u209, hX⟩ := hX
    obtain ⟨u210, hX⟩ := hX
    obtain ⟨u211, hX⟩ := hX
    obtain ⟨u212, hX⟩ := hX
    obtain ⟨u213, hX⟩ := hX
    obtain ⟨u214, hX⟩ := hX
    obtain ⟨u215, hX⟩ := hX
    obtain ⟨u216, hX⟩ := hX
    obtain ⟨u217, hX⟩ := hX
    obtain ⟨u218, hX⟩ := hX
    obtain ⟨u219, hX⟩ := hX
    obtain ⟨u220, hX⟩ := hX
    obtain ⟨u221, hX⟩ := hX
    obtain ⟨u222, hX⟩ := hX
    obtain ⟨u223, hX⟩ := hX
    obtain ⟨u224, hX⟩ := hX
    obtain ⟨u225, hX⟩ := hX
    obtain ⟨u226, hX⟩ := hX
    obtain ⟨u227, hX⟩ := hX
    obtain ⟨u228, hX⟩ := hX
    obtain ⟨hB, ea⟩ := hX
    subst ea
    go_wp2
    go_ret
    exact ⟨rfl, hD3.trans (hB.mono hD3.size)⟩

end Go.Proofs.Ytdknggccjhillaa
