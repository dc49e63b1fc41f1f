/-
  DepfileBack, walked: the stage's theorem.
-/
import Derived.Test.YtppcfidaalejfaaDpRead
import Derived.Test.YtppcfidaalejfaaDpGreat
import Derived.Test.YtppcfidaalejfaaDpSame
namespace Go.Proofs.Ytppcfidaalejfaa
open Go.RowKit

theorem index_two0 (W : World) : (Instr.index 48 (.agg #[.bool false, .bool true]) (.int .i64 0)).run Try.prog W = .ok (.bool false) W := by
  simp [Instr.index, go_sem]
theorem index_two1 (W : World) : (Instr.index 48 (.agg #[.bool false, .bool true]) (.int .i64 1)).run Try.prog W = .ok (.bool true) W := by
  simp [Instr.index, go_sem]

set_option maxRecDepth 100000 in
set_option maxHeartbeats 4000000 in
theorem back_walk (hP : ParseC) (hPr : PrintC) (hFo : FoldC) (v : Value) (A : List Dp.Rule) (wd : Int) (tx : ByteArray) (w : World) (hv : DrS w w.heap.size v A) (hz : Dp.Sized A) (htx : tx.size ≤ 140737488351232) :
    Calls Try.prog 7 #[v, .int .i64 wd, .string tx] w fun e w' => e = .returned (.bool true) ∧ Below w.heap.size w w' := by
  have eS := eql_spot
  have nS := neq_spot
  have gS := guard_spot
  obtain ⟨ad, c, rfl, hle⟩ := hv.shape
  have hW := works_any hP w
  have hi0 : ∀ W : World, (Instr.index 48 (.agg #[.bool false, .bool true]) (.int .i64 0)).run Try.prog W = .ok (.bool false) W := index_two0
  have hi1 : ∀ W : World, (Instr.index 48 (.agg #[.bool false, .bool true]) (.int .i64 1)).run Try.prog W = .ok (.bool true) W := index_two1
  have htb : (tx.size : Int) ≤ 140737488351232 := by omega
  go_enter Try.func7, Try.ntmps7
  go_wp2_with fail
  refine hW.mono ?_
  rintro e w1 ⟨rfl, hb1⟩
  have hv1 := hv.below hb1 (Nat.le_refl _)
  have hR := RowsS.one hv1 hb1.size
  have hbr := hb1.alloc hb1.size (.cells #[.slice ad A.length c] 23)
  have hv2 := hv1.below ((Below.refl w1.heap.size w1).alloc (Nat.le_refl _) (.cells #[.slice ad A.length c] 23)) hb1.size
  have hG := great_any _ [A] _ _ hR (by simp) (by simpa using hz)
  clear hW hv1 hR hb1 hv
  go_wp2_with fail
  refine hG.mono ?_
  rintro e w2 ⟨M, rfl, HM, hw2⟩
  rw [hw2]
  clear hw2 hG
  by_cases hm : M < 32768
  · have hV : Dp.vol A < 32768 := by have := HM.out hm; simp [Dp.vols] at this; omega
    have m0 : decide ((M : Int) ≥ 32768) = false := decide_eq_false (by omega)
    rw [m0]
    clear HM hm m0
    generalize w1.alloc (.cells #[.slice ad A.length c] 23) = W2 at *
    by_cases htl : tx.size ≤ 262144
    · have p0 : decide ((262144 : Int) < (tx.size : Int)) = false := decide_eq_false (by omega)
      have HTL : Hid _ := htl
      clear htl
      have HV : Hid _ := hV
      have HSM : Hid (A.length ≤ 1099511627 ∧ ∀ x ∈ A, x.2.length ≤ 100000000) := by
        refine ⟨by have := Dp.vol_len A; omega, fun x hx => ?_⟩
        have h1 := Dp.vol_mem hx
        have h2 := Dp.sum_len x.2
        omega
      clear hV
      have HPR : Hid (∀ W, DrS W w.heap.size (.slice ad A.length c) A → w.heap.size ≤ W.heap.size → Calls Try.prog 16 #[.slice ad A.length c] W fun e w' => e = .returned (.tuple #[.string (str (Dp.printed none A).1), .int .i64 (Dp.printed none A).2]) ∧ Below W.heap.size W w') := fun W h hs => hPr _ A W _ h hs (by have := HV.out; omega)
      have HFO : Hid (∀ W, DrS W w.heap.size (.slice ad A.length c) A → w.heap.size ≤ W.heap.size → Calls Try.prog 18 #[.int .i64 wd, .slice ad A.length c] W fun e w' => e = .returned (.tuple #[.string (str (Dp.printed (some wd) A).1), .int .i64 (Dp.printed (some wd) A).2]) ∧ Below W.heap.size W w') := fun W h hs => hFo wd _ A W _ h hs (by have := HV.out; omega)
      cases hall : A.all Dp.may with
      | false =>
        rw [Dp.printed_no hall] at HPR
        clear hall HFO
        have h1 := HPR.out W2 hv2 hbr.size
        go_wp2
        go_loopw [30] (fun k wr => k = .int .i64 0 ∧ wr = W2) (fun k _ => 2 - (intOf k).toNat)
        case atStart => exact ⟨rfl, rfl⟩
        case round =>
          obtain ⟨rfl, rfl⟩ := hrel
          go_wp2_with fail
          refine h1.mono ?_
          rintro e w3 ⟨he, hb3⟩
          rw [show e = .returned (.tuple #[.string ⟨#[]⟩, .int .i64 2]) from he]
          clear he
          go_wp2
          go_ret
          exact ⟨rfl, hbr.trans (hb3.mono hbr.size)⟩
      | true =>
        rw [Dp.printed_yes hall] at HPR HFO
        have HBK : Hid (∀ f, (Dp.print f A).length ≤ 32768 → Dp.parse (Dp.print f A) = .inr A) := fun f h => Dp.parse_back hall h
        clear hall
        go_wp2
        clear p0
        go_loopw [30] (fun k wr => ∃ i : Nat, i ≤ 2 ∧ k = .int .i64 (i : Int) ∧ Below w.heap.size w wr ∧ DrS wr w.heap.size (.slice ad A.length c) A) (fun k _ => 2 - (intOf k).toNat)
        case atStart => exact ⟨0, by omega, rfl, hbr, hv2⟩
        case round =>
          obtain ⟨i, hi, rfl, hbw, hvw⟩ := hrel
          clear hbr hv2
          have hcase : i = 0 ∨ i = 1 ∨ i = 2 := by omega
          rcases hcase with rfl | rfl | rfl
          · have h1 := HPR.out wr hvw hbw.size
            go_wp2_with fail
            refine h1.mono ?_
            rintro e w3 ⟨rfl, hb3⟩
            have hb := hbw.trans (hb3.mono hbw.size)
            have hv3 := hvw.below hb3 hbw.size
            clear h1 hb3 hbw hvw
            obtain ⟨T, hT⟩ : ∃ T, Dp.print none A = T := ⟨_, rfl⟩
            have HB := HBK.out none
            rw [hT] at HB ⊢
            clear hT
            have hsz : (str T).size = T.length := str_size T
            have hpT := hP (str T) w3
            rw [bs_str] at hpT
            obtain ⟨sT, hsT⟩ : ∃ sT, str T = sT := ⟨_, rfl⟩
            rw [hsT] at hpT hsz ⊢
            clear hsT
            by_cases hlen : T.length ≤ 32768
            · rw [HB hlen] at hpT
              have l0 : decide ((32768 : Int) < (sT.size : Int)) = false := decide_eq_false (by omega)
              clear HB hlen hsz
              go_wp2_with fail
              refine hpT.mono ?_
              rintro e w4 ⟨v4, rfl, hO4, hb4⟩
              have hv4 := (hv3.below hb4 hb.size).below (below_new w4 (.cells #[.int .i64 0, .int .i64 0] 26)) (Nat.le_trans hb.size hb4.size)
              have hbb := (hb.trans (hb4.mono hb.size)).alloc (Nat.le_trans hb.size hb4.size) (.cells #[.int .i64 0, .int .i64 0] 26)
              have s4 := Rw.new w4 #[.int .i64 0, .int .i64 0] 26
              have hO5 := (hO4.alloc (.cells #[.int .i64 0, .int .i64 0] 26)).s
              have z0 : (w4.alloc (.cells #[.int .i64 0, .int .i64 0] 26)).cell? ⟨w4.heap.size, 0, none⟩ = some (.int .i64 0) := s4.cell 0
              have z1 : (w4.alloc (.cells #[.int .i64 0, .int .i64 0] 26)).cell? ⟨w4.heap.size, 1, none⟩ = some (.int .i64 0) := s4.cell 1
              have hEq := SameD_quiet (.slice ad A.length c) v4 A A _ _ (hv4.mono hbb.size) hO5 HSM.out.1 HSM.out.2
              rw [decide_eq_true rfl] at hEq
              clear hpT hO4 hO5 hb4 s4 hv3
              go_wp2_with fail
              refine hEq.mono ?_
              rintro e w5 ⟨rfl, n5, hn5⟩
              rw [hn5]
              clear hn5 hEq z0 z1
              go_wp2
              exact ⟨⟨1, by omega, by go_num, below_drewN hbb _, hv4.below (below_drewN (Below.refl w.heap.size _) n5) (Nat.le_refl _)⟩, by simp [intOf]⟩
            · rw [Dp.parse_long (by omega)] at hpT
              have l0 : decide ((32768 : Int) < (sT.size : Int)) = true := decide_eq_true (by omega)
              clear HB hlen hsz
              go_wp2_with fail
              refine hpT.mono ?_
              rintro e w4 ⟨rfl, hb4⟩
              have hv4 := (hv3.below hb4 hb.size).below (below_new w4 (.cells #[.int .i64 3, .int .i64 32768] 26)) (Nat.le_trans hb.size hb4.size)
              have hbb := (hb.trans (hb4.mono hb.size)).alloc (Nat.le_trans hb.size hb4.size) (.cells #[.int .i64 3, .int .i64 32768] 26)
              have s4 := Rw.new w4 #[.int .i64 3, .int .i64 32768] 26
              have z0 : (w4.alloc (.cells #[.int .i64 3, .int .i64 32768] 26)).cell? ⟨w4.heap.size, 0, none⟩ = some (.int .i64 3) := s4.cell 0
              clear hpT hb4 s4 hv3
              go_wp2
              exact ⟨⟨1, by omega, by go_num, hbb, hv4⟩, by simp [intOf]⟩
          · have h1 := HPR.out wr hvw hbw.size
            go_wp2_with fail
            refine h1.mono ?_
            rintro e w2 ⟨rfl, hb2⟩
            have hb := hbw.trans (hb2.mono hbw.size)
            have hv2 := hvw.below hb2 hbw.size
            have h2 := HFO.out w2 hv2 hb.size
            clear h1 hb2 hbw hvw
            generalize str (Dp.print none A) = sq at *
            go_wp2_with fail
            refine h2.mono ?_
            rintro e w3 ⟨rfl, hb3⟩
            have hv3 := hv2.below hb3 hb.size
            have hb := hb.trans (hb3.mono hb.size)
            clear h2 hb3 hv2
            obtain ⟨T, hT⟩ : ∃ T, Dp.print (some wd) A = T := ⟨_, rfl⟩
            have HB := HBK.out (some wd)
            rw [hT] at HB ⊢
            clear hT
            have hsz : (str T).size = T.length := str_size T
            have hpT := hP (str T) w3
            rw [bs_str] at hpT
            obtain ⟨sT, hsT⟩ : ∃ sT, str T = sT := ⟨_, rfl⟩
            rw [hsT] at hpT hsz ⊢
            clear hsT
            by_cases hlen : T.length ≤ 32768
            · rw [HB hlen] at hpT
              have l0 : decide ((32768 : Int) < (sT.size : Int)) = false := decide_eq_false (by omega)
              clear HB hlen hsz
              go_wp2_with fail
              refine hpT.mono ?_
              rintro e w4 ⟨v4, rfl, hO4, hb4⟩
              have hv4 := (hv3.below hb4 hb.size).below (below_new w4 (.cells #[.int .i64 0, .int .i64 0] 26)) (Nat.le_trans hb.size hb4.size)
              have hbb := (hb.trans (hb4.mono hb.size)).alloc (Nat.le_trans hb.size hb4.size) (.cells #[.int .i64 0, .int .i64 0] 26)
              have s4 := Rw.new w4 #[.int .i64 0, .int .i64 0] 26
              have hO5 := (hO4.alloc (.cells #[.int .i64 0, .int .i64 0] 26)).s
              have z0 : (w4.alloc (.cells #[.int .i64 0, .int .i64 0] 26)).cell? ⟨w4.heap.size, 0, none⟩ = some (.int .i64 0) := s4.cell 0
              have z1 : (w4.alloc (.cells #[.int .i64 0, .int .i64 0] 26)).cell? ⟨w4.heap.size, 1, none⟩ = some (.int .i64 0) := s4.cell 1
              have hEq := SameD_quiet (.slice ad A.length c) v4 A A _ _ (hv4.mono hbb.size) hO5 HSM.out.1 HSM.out.2
              rw [decide_eq_true rfl] at hEq
              clear hpT hO4 hO5 hb4 s4 hv3
              go_wp2_with fail
              refine hEq.mono ?_
              rintro e w5 ⟨rfl, n5, hn5⟩
              rw [hn5]
              clear hn5 hEq z0 z1
              go_wp2
              exact ⟨⟨2, by omega, by go_num, below_drewN hbb _, hv4.below (below_drewN (Below.refl w.heap.size _) n5) (Nat.le_refl _)⟩, by simp [intOf]⟩
            · rw [Dp.parse_long (by omega)] at hpT
              have l0 : decide ((32768 : Int) < (sT.size : Int)) = true := decide_eq_true (by omega)
              clear HB hlen hsz
              go_wp2_with fail
              refine hpT.mono ?_
              rintro e w4 ⟨rfl, hb4⟩
              have hv4 := (hv3.below hb4 hb.size).below (below_new w4 (.cells #[.int .i64 3, .int .i64 32768] 26)) (Nat.le_trans hb.size hb4.size)
              have hbb := (hb.trans (hb4.mono hb.size)).alloc (Nat.le_trans hb.size hb4.size) (.cells #[.int .i64 3, .int .i64 32768] 26)
              have s4 := Rw.new w4 #[.int .i64 3, .int .i64 32768] 26
              have z0 : (w4.alloc (.cells #[.int .i64 3, .int .i64 32768] 26)).cell? ⟨w4.heap.size, 0, none⟩ = some (.int .i64 3) := s4.cell 0
              clear hpT hb4 s4 hv3
              go_wp2
              exact ⟨⟨2, by omega, by go_num, hbb, hv4⟩, by simp [intOf]⟩
          · clear HPR HFO HBK
            have hx := fun W => hP tx W
            by_cases hts : tx.size ≤ 32768
            · cases hpt : Dp.parse (bs tx) with
              | inl q =>
                obtain ⟨qk, qi⟩ := q
                obtain ⟨rfl, hqi⟩ := Dp.parse_le (by rw [bs_length]; exact hts) hpt
                rw [bs_length] at hqi
                simp only [hpt] at hx
                have q1 : ((qi : Nat) : Int) ≥ 0 := by omega
                have q2 : ((qi : Nat) : Int) ≤ (tx.size : Int) := by omega
                have HX : Hid _ := hx
                clear hpt hx hqi hts
                go_wp2_with fail
                refine (HX.out wr).mono ?_
                rintro e w4 ⟨rfl, hb4⟩
                have hbb := (hbw.trans (hb4.mono hbw.size)).alloc (Nat.le_trans hbw.size hb4.size) (.cells #[.int .i64 6, .int .i64 (qi : Int)] 26)
                have s4 := Rw.new w4 #[.int .i64 6, .int .i64 (qi : Int)] 26
                have z0 : (w4.alloc (.cells #[.int .i64 6, .int .i64 (qi : Int)] 26)).cell? ⟨w4.heap.size, 0, none⟩ = some (.int .i64 6) := s4.cell 0
                have z1 : (w4.alloc (.cells #[.int .i64 6, .int .i64 (qi : Int)] 26)).cell? ⟨w4.heap.size, 1, none⟩ = some (.int .i64 (qi : Int)) := s4.cell 1
                clear hb4 s4 HX
                go_wp2
                go_ret
                exact ⟨rfl, hbb⟩
              | inr m =>
                simp only [hpt] at hx
                obtain ⟨hvm, hmm⟩ := Dp.parse_vol (by rw [bs_length]; exact hts) hpt
                have HX : Hid _ := hx
                clear hpt hx hts
                go_wp2_with fail
                refine (HX.out wr).mono ?_
                rintro e w4 ⟨v4, rfl, hO4, hb4⟩
                have hbb := (hbw.trans (hb4.mono hbw.size)).alloc (Nat.le_trans hbw.size hb4.size) (.cells #[.int .i64 0, .int .i64 0] 26)
                have s4 := Rw.new w4 #[.int .i64 0, .int .i64 0] 26
                have z0 : (w4.alloc (.cells #[.int .i64 0, .int .i64 0] 26)).cell? ⟨w4.heap.size, 0, none⟩ = some (.int .i64 0) := s4.cell 0
                have z1 : (w4.alloc (.cells #[.int .i64 0, .int .i64 0] 26)).cell? ⟨w4.heap.size, 1, none⟩ = some (.int .i64 0) := s4.cell 1
                have hO5 := (hO4.alloc (.cells #[.int .i64 0, .int .i64 0] 26)).s
                have h6 := hPr v4 m _ _ hO5 (Nat.le_refl _) (by omega)
                rw [Dp.printed_yes hmm] at h6
                have HSM2 : Hid (m.length ≤ 1099511627 ∧ ∀ x ∈ m, x.2.length ≤ 100000000) := by
                  refine ⟨by have := Dp.vol_len m; omega, fun x hx => ?_⟩
                  have h1 := Dp.vol_mem hx
                  have h2 := Dp.sum_len x.2
                  omega
                have HBK : Hid ((Dp.print none m).length ≤ 32768 → Dp.parse (Dp.print none m) = .inr m) := fun h => Dp.parse_back hmm h
                clear hb4 s4 HX hvm hmm
                go_wp2_with fail
                refine h6.mono ?_
                rintro e w6 ⟨rfl, hb6⟩
                have hO6 := hO5.below hb6 (Nat.le_refl _)
                have hb7 := hbb.trans (hb6.mono hbb.size)
                clear h6 hO4 hO5 z0 z1
                obtain ⟨T, hT⟩ : ∃ T, Dp.print none m = T := ⟨_, rfl⟩
                rw [hT] at HBK ⊢
                clear hT
                have hsz : (str T).size = T.length := str_size T
                have hpT := hP (str T) w6
                rw [bs_str] at hpT
                obtain ⟨sT, hsT⟩ : ∃ sT, str T = sT := ⟨_, rfl⟩
                simp only [hsT] at hpT hsz ⊢
                clear hsT
                by_cases hlen : T.length ≤ 32768
                · rw [HBK.out hlen] at hpT
                  have l0 : decide ((32768 : Int) < (sT.size : Int)) = false := decide_eq_false (by omega)
                  clear HBK hlen hsz
                  go_wp2_with fail
                  refine hpT.mono ?_
                  rintro e w8 ⟨v8, rfl, hO8, hb8⟩
                  have hO7 := (hO6.below hb8 hb6.size).below (below_new w8 (.cells #[.int .i64 0, .int .i64 0] 26)) (Nat.le_trans hb6.size hb8.size)
                  have hb9 := (hb7.trans (hb8.mono hb7.size)).alloc (Nat.le_trans hb7.size hb8.size) (.cells #[.int .i64 0, .int .i64 0] 26)
                  have s8 := Rw.new w8 #[.int .i64 0, .int .i64 0] 26
                  have y0 : (w8.alloc (.cells #[.int .i64 0, .int .i64 0] 26)).cell? ⟨w8.heap.size, 0, none⟩ = some (.int .i64 0) := s8.cell 0
                  have y1 : (w8.alloc (.cells #[.int .i64 0, .int .i64 0] 26)).cell? ⟨w8.heap.size, 1, none⟩ = some (.int .i64 0) := s8.cell 1
                  have hO9 := (hO8.alloc (.cells #[.int .i64 0, .int .i64 0] 26)).s
                  have hEq := SameD_quiet v4 v8 m m _ _ (hO7.mono (Nat.le_trans (Nat.le_trans hb6.size hb8.size) (by rw [size_alloc]; omega))) hO9 HSM2.out.1 HSM2.out.2
                  rw [decide_eq_true rfl] at hEq
                  clear hpT hO8 hO9 hb8 s8 hO7 hO6
                  go_wp2_with fail
                  refine hEq.mono ?_
                  rintro e w5 ⟨rfl, n5, hn5⟩
                  rw [hn5]
                  clear hn5 hEq y0 y1
                  go_wp2
                  go_ret
                  exact ⟨rfl, below_drewN hb9 _⟩
                · rw [Dp.parse_long (by omega)] at hpT
                  have l0 : decide ((32768 : Int) < (sT.size : Int)) = true := decide_eq_true (by omega)
                  clear HBK hlen hsz
                  go_wp2_with fail
                  refine hpT.mono ?_
                  rintro e w8 ⟨rfl, hb8⟩
                  have hb9 := (hb7.trans (hb8.mono hb7.size)).alloc (Nat.le_trans hb7.size hb8.size) (.cells #[.int .i64 3, .int .i64 32768] 26)
                  clear hpT hb8 hO6
                  go_wp2
                  go_ret
                  exact ⟨rfl, hb9⟩
            · have hpt : Dp.parse (bs tx) = .inl (3, 32768) := Dp.parse_long (by rw [bs_length]; omega)
              simp only [hpt] at hx
              have q2 : ((32768 : Nat) : Int) ≤ (tx.size : Int) := by omega
              have q1 : (((32768 : Nat) : Int)) ≥ 0 := by omega
              obtain ⟨qi, hqi⟩ : ∃ qi, 32768 = qi := ⟨_, rfl⟩
              rw [hqi] at q1 q2 hx
              have HX : Hid _ := hx
              clear hpt hx hqi hts
              go_wp2_with fail
              refine (HX.out wr).mono ?_
              rintro e w4 ⟨rfl, hb4⟩
              have hbb := (hbw.trans (hb4.mono hbw.size)).alloc (Nat.le_trans hbw.size hb4.size) (.cells #[.int .i64 3, .int .i64 (qi : Int)] 26)
              have s4 := Rw.new w4 #[.int .i64 3, .int .i64 (qi : Int)] 26
              have z0 : (w4.alloc (.cells #[.int .i64 3, .int .i64 (qi : Int)] 26)).cell? ⟨w4.heap.size, 0, none⟩ = some (.int .i64 3) := s4.cell 0
              have z1 : (w4.alloc (.cells #[.int .i64 3, .int .i64 (qi : Int)] 26)).cell? ⟨w4.heap.size, 1, none⟩ = some (.int .i64 (qi : Int)) := s4.cell 1
              clear hb4 s4 HX
              go_wp2
              go_ret
              exact ⟨rfl, hbb⟩
    · have p0 : decide ((262144 : Int) < (tx.size : Int)) = true := decide_eq_true (by omega)
      go_wp2
      go_ret
      exact ⟨rfl, hbr⟩
  · have m0 : decide ((M : Int) ≥ 32768) = true := decide_eq_true (by omega)
    rw [m0]
    clear HM m0 hm
    go_wp2
    go_ret
    exact ⟨rfl, hbr⟩

end Go.Proofs.Ytppcfidaalejfaa
