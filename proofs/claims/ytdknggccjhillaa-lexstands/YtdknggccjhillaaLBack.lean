/-
  LexBack ANSWERS true.
-/
import Derived.Test.YtdknggccjhillaaLWorks
import Derived.Test.YtdknggccjhillaaZWrite
import Derived.Test.YtdknggccjhillaaXSize
namespace Go.Proofs.Ytdknggccjhillaa
open Go.RowKit

/-- what Write answers to the lines that Lines answered -/
theorem Write_told (t : List UInt8) (ls : List (Lx.Ln Nat)) (v : Value) (w : World) (base : Nat) (h : LnsOwn w base v (ls.map (Lx.toldL t))) (hz : Lx.tot ls ≤ 300000) :
    Calls Try.prog 25 #[v] w fun e w' => e = .returned (.string (str (Lx.write ls))) ∧ Below w.heap.size w w' := by
  have hw := Lx.write_len ls
  have e := Lx.vwrite_told t ls
  have := Write_any v (ls.map (Lx.toldL t)) w w.heap.size h.s (Nat.le_refl _) (by rw [e]; omega) (by rw [List.length_map]; have := Lx.tot_len ls; omega)
    (fun x hx => by
      obtain ⟨y, hy, rfl⟩ := List.mem_map.1 hx
      have h1 := Lx.tot_mem hy
      have h2 := Lx.wsum_len y.words
      show (y.words.map (Lx.told t)).length ≤ _
      rw [List.length_map]; omega)
    (fun x hx u hu => by
      obtain ⟨y, hy, rfl⟩ := List.mem_map.1 hx
      obtain ⟨z, hz2, rfl⟩ := List.mem_map.1 hu
      have h1 := Lx.tot_mem hy
      have h2 := Lx.wsum_mem hz2
      show z.text.length ≤ _
      omega)
  rw [e] at this
  exact this
theorem alike_told {t t' : List UInt8} {ls ms : List (Lx.Ln Nat)} {u v : Value} {w : World} {b1 b2 : Nat} (hu : LnsOwn w b1 u (ls.map (Lx.toldL t))) (hv : LnsOwn w b2 v (ms.map (Lx.toldL t'))) (hz : Lx.tot ls ≤ 300000) (he : ls.map Lx.Ln.er = ms.map Lx.Ln.er) :
    Calls Try.prog 27 #[u, v] w fun e w' => e = .returned (.bool true) ∧ Below w.heap.size w w' := by
  have := alike_any u v _ _ w w.heap.size hu.s hv.s (Nat.le_refl _) (by rw [List.length_map]; have := Lx.tot_len ls; omega) (fun x hx => by
    obtain ⟨y, hy, rfl⟩ := List.mem_map.1 hx
    have h1 := Lx.tot_mem hy
    have h2 := Lx.wsum_len y.words
    show (y.words.map (Lx.told t)).length ≤ _
    rw [List.length_map]; omega)
  rw [decide_eq_true (Lx.bareL_map he)] at this
  exact this

set_option maxRecDepth 100000 in
set_option maxHeartbeats 2000000 in
theorem back_walk (s : ByteArray) (w : World) : Calls Try.prog 7 #[.string s] w fun e w' => e = .returned (.bool true) ∧ Below w.heap.size w w' := by
  have eS := eql_spot
  have nS := neq_spot
  have gS := guard_spot
  go_enter Try.func7, Try.ntmps7
  go_wp2_with fail
  refine (works_any _).mono ?_
  rintro e w1 ⟨rfl, hB1⟩
  go_wp2_with fail
  rcases Nat.lt_or_ge 32768 s.size with hbig | hsm
  · have i0 : (32768 : Int) < (s.size : Int) := by omega
    refine (Lines_long s _ hbig).mono ?_
    rintro e w2 ⟨rfl, hB2⟩
    have hC2 := hB1.trans (hB2.mono hB1.size)
    have hD2 := hC2.alloc hC2.size (.cells #[.int .i64 3, .int .i64 32768] 27)
    obtain ⟨x0, y0⟩ := (SV.new w2 3 32768).cells
    go_wp2
    go_ret
    exact ⟨rfl, hD2⟩
  · have i0 : ¬ (32768 : Int) < (s.size : Int) := by omega
    have hli := Lines_any s w1 hsm
    cases hlx : Lx.lex (bs s) with
    | bad a =>
      rw [hlx] at hli
      clear hlx
      refine hli.mono ?_
      rintro e w2 ⟨hq, hB2⟩
      simp only [LsEnd] at hq
      subst hq
      have hC2 := hB1.trans (hB2.mono hB1.size)
      have hD2 := hC2.alloc hC2.size (.cells #[.int .i64 6, .int .i64 (a : Int)] 27)
      obtain ⟨x0, y0⟩ := (SV.new w2 6 (a : Int)).cells
      go_wp2
      go_ret
      refine ⟨?_, hD2⟩
      show Ending.returned (.bool (!decide ((32768 : Int) < (s.size : Int)))) = _
      rw [decide_eq_false (by omega)]
      rfl
    | ok ls =>
      rw [hlx] at hli
      have HLX : Hid _ := hlx
      clear hlx
      have hz : Lx.tot ls ≤ 98304 := by
        have := Lx.lex_size HLX.out
        rw [bs_length] at this
        omega
      refine hli.mono ?_
      rintro e w2 ⟨⟨v, rfl, hL⟩, hB2⟩
      have hC2 := hB1.trans (hB2.mono hB1.size)
      have hD2 := hC2.alloc hC2.size (.cells #[.int .i64 0, .int .i64 0] 27)
      have s2 := SV.new w2 0 0
      have hL2 := hL.alloc (.cells #[.int .i64 0, .int .i64 0] 27)
      clear hL hB1 hB2 hC2 hli
      obtain ⟨a1, n1, c1, rfl⟩ := hL2.isSl
      obtain ⟨x0, y0⟩ := s2.cells
      go_wp2_with fail
      clear x0 y0 s2
      generalize w2.alloc (.cells #[.int .i64 0, .int .i64 0] 27) = W2 at *
      refine (Write_told _ ls _ _ _ hL2 (by omega)).mono ?_
      rintro e w3 ⟨rfl, hB3⟩
      have hL3 := hL2.below hB3 (Nat.le_refl _)
      have hD3 := hD2.trans (hB3.mono hD2.size)
      clear hL2 hD2 hB3
      obtain ⟨ms, hm1, hm2, hm3⟩ := Lx.lex_back HLX.out
      have HM1 : Hid _ := hm1
      have HM2 : Hid _ := hm2
      have HM3 : Hid _ := hm3
      clear hm1 hm2 hm3
      obtain ⟨T, hT⟩ : ∃ T, Lx.write ls = T := ⟨_, rfl⟩
      have hTl : T.length ≤ 300000 := by
        have := Lx.write_len ls
        rw [← hT]; omega
      rw [hT] at HM1 HM3
      rw [hT]
      clear hT
      have hsz : (str T).size = T.length := str_size T
      go_wp2_with fail
      rcases Nat.lt_or_ge 32768 T.length with hbig2 | hsm2
      · have i1 : (32768 : Int) < ((str T).size : Int) := by rw [hsz]; omega
        refine (Lines_long (str T) _ (by rw [hsz]; exact hbig2)).mono ?_
        rintro e w4 ⟨rfl, hB4⟩
        have hC4 := hD3.trans (hB4.mono hD3.size)
        have hD4 := hC4.alloc hC4.size (.cells #[.int .i64 3, .int .i64 32768] 27)
        obtain ⟨x0, y0⟩ := (SV.new w4 3 32768).cells
        clear hsz
        go_wp2
        go_ret
        exact ⟨rfl, hD4⟩
      · have i1 : ¬ (32768 : Int) < ((str T).size : Int) := by rw [hsz]; omega
        have hli2 := Lines_any (str T) w3 (by rw [hsz]; exact hsm2)
        rw [bs_str, HM1.out] at hli2
        refine hli2.mono ?_
        rintro e w4 ⟨⟨v2, rfl, hM⟩, hB4⟩
        have hzm : Lx.tot ms ≤ 98304 := by
          have := Lx.lex_size HM1.out
          omega
        rw [bs_str] at hM
        have hL4 := hL3.below hB4 (Nat.le_refl _)
        have hC4 := hD3.trans (hB4.mono hD3.size)
        have hD4 := hC4.alloc hC4.size (.cells #[.int .i64 0, .int .i64 0] 27)
        have s4 := SV.new w4 0 0
        have hL5 := hL4.alloc (.cells #[.int .i64 0, .int .i64 0] 27)
        have hM5 := hM.alloc (.cells #[.int .i64 0, .int .i64 0] 27)
        clear hL3 hL4 hM hC4 hD3 hB4 hli2
        obtain ⟨a2, n2, c2, rfl⟩ := hM5.isSl
        obtain ⟨x0, y0⟩ := s4.cells
        clear hsz
        go_wp2_with fail
        clear x0 y0 s4
        generalize w4.alloc (.cells #[.int .i64 0, .int .i64 0] 27) = W4 at *
        refine (alike_told hL5 hM5 (by omega) HM2.out).mono ?_
        rintro e w5 ⟨rfl, hB5⟩
        have hM6 := hM5.below hB5 (Nat.le_refl _)
        have hD5 := hD4.trans (hB5.mono hD4.size)
        clear hL5 hM5 hD4 hB5
        go_wp2_with fail
        refine (Write_told _ ms _ _ _ hM6 (by omega)).mono ?_
        rintro e w6 ⟨rfl, hB6⟩
        rw [HM3.out]
        have hD6 := hD5.trans (hB6.mono hD5.size)
        have i9 : ((str T).toList == (str T).toList) = true := by simp
        go_wp2
        go_ret
        exact ⟨rfl, hD6⟩

end Go.Proofs.Ytdknggccjhillaa
