/-
  WHAT THE DOCUMENT's Lines DOES.
-/
import Derived.Test.YthpipbkbldlfjaaYLnJ
namespace Go.Proofs.Ythpipbkbldlfjaa
open Go.RowKit

theorem map_nil (r : Lx.R Nat (List (Lx.Ln Nat))) : r = r.map id ([] ++ ·) := by cases r <;> rfl
/-- a line more -/
theorem lines_more {R0 : Lx.R Nat (List (Lx.Ln Nat))} {BB : List (Lx.B Nat)} {f t av : Nat} {done : List (Lx.Ln Nat)} {ind : Bool} {ws : List (Lx.W Nat)} (hf : f < BB.length) (hU : Lx.Upto BB f t) (hE : t = BB.length ∨ (BB.getD t Lx.noB).c = 10) (hav : (BB.getD f Lx.noB).at_ = av)
    (hR : R0 = (Lx.lns (BB.drop f)).map id (done ++ ·)) (hL : Lx.line ((BB.take t).drop f) = .ok (ind, ws)) :
    R0 = (Lx.lns (BB.drop (t + 1))).map id ((done ++ (if ws = [] then [] else [⟨av, ind, ws⟩])) ++ ·) := by
  rw [hR, lns_from hf hU hE, hL]
  simp only [Lx.R.andThen]
  rw [Lx.R.map_map, hav]
  congr 1
  funext l
  simp only [Function.comp]
  split <;> simp
theorem lines_bad {R0 : Lx.R Nat (List (Lx.Ln Nat))} {BB : List (Lx.B Nat)} {f t x : Nat} {done : List (Lx.Ln Nat)} (hf : f < BB.length) (hU : Lx.Upto BB f t) (hE : t = BB.length ∨ (BB.getD t Lx.noB).c = 10)
    (hR : R0 = (Lx.lns (BB.drop f)).map id (done ++ ·)) (hL : Lx.line ((BB.take t).drop f) = .bad x) : R0 = .bad x := by
  rw [hR, lns_from hf hU hE, hL]; rfl
set_option maxRecDepth 100000 in
theorem results_linesT {tmps : Array Value} {b2 : Nat} {W : World} {v : Value} {x y : Int} (h2 : tmps.getD 2 undef = v) (h3 : tmps.getD 3 undef = .pointer (some ⟨b2, 0, none⟩)) (hS : SV W b2 x y) :
    (results Try.f31 tmps).run Try.prog W = .ok (.tuple #[v, .agg #[.int .i64 x, .int .i64 y]]) W := by
  obtain ⟨d0, d1⟩ := hS.cells
  have h2' : tmps[2]?.getD undef = v := by simpa using h2
  have h3' : tmps[3]?.getD undef = .pointer (some ⟨b2, 0, none⟩) := by simpa using h3
  simp [results, Try.results31, h2', h3', go_sem, d0, d1]

set_option maxRecDepth 1000000 in
set_option maxHeartbeats 8000000 in
theorem LinesT_any (s : ByteArray) (w : World) (hs : s.size ≤ 32768) :
    Calls Try.prog 31 #[.string s] w fun e w' => LsEnd s w.heap.size e w' (Lx.lex (bs s)) ∧ Below w.heap.size w w' := by
  have hbl := bytes_len _ 0 (bs s) (Nat.le_refl _)
  rw [bs_length] at hbl
  have i1 : ¬ (32768 : Int) < (s.size : Int) := by omega
  have HR : Hid (Lx.lex (bs s) = Lx.lns (Lx.bytes 0 (bs s))) := rfl
  generalize Lx.lex (bs s) = R0 at *
  go_enter Try.func31, Try.ntmps31
  go_wp2_with fail
  refine (BytesT_any s _ (by omega)).mono ?_
  rintro e w1 ⟨vb, rfl, hbO, hB1⟩
  have hS1 : SV w1 w.heap.size 0 0 := (hB1.block w.heap.size (by show _ < (w.heap.push _).size; rw [Array.size_push]; exact Nat.lt_succ_self _)).trans (heap_alloc_new w _)
  have hlt1 := hS1.lt
  have hBw : Below w.heap.size w w1 := ((Below.refl w.heap.size w).alloc (Nat.le_refl _) _).trans (hB1.mono ((Below.refl w.heap.size w).alloc (Nat.le_refl _) _).size)
  obtain ⟨BB, hBB⟩ : ∃ X, Lx.bytes 0 (bs s) = X := ⟨_, rfl⟩
  have HBB : Hid (BB = Lx.bytes 0 (bs s)) := hBB.symm
  rw [hBB] at hbl HR hbO
  have hbS := hbO.sl
  obtain ⟨ad4, cc4, rfl, -⟩ := hbS.shape
  clear hbO hB1 hBB
  go_wp2
  go_loopw [5, 6] (fun v k wr => ∃ (f : Nat) (done : List (Lx.Ln Nat)), f ≤ BB.length + 1 ∧ k = .int .i64 (f : Int) ∧ LnsOwn wr w1.heap.size v (done.map (Lx.toldL (bs s))) ∧ done.length ≤ f ∧ Hid (R0 = (Lx.lns (BB.drop f)).map id (done ++ ·)) ∧ Below w1.heap.size w1 wr) (fun _ k _ => BB.length + 1 - (intOf k).toNat)
  case atStart =>
    refine ⟨0, [], Nat.zero_le _, rfl, LnsOwn.nil _ _, Nat.le_refl _, ?_, Below.refl _ _⟩
    show _ = _
    rw [HR.out]
    exact map_nil _
  case round =>
    clear HR
    obtain ⟨f, done, hf, rfl, hO, hdl, HRf, hB⟩ := hrel
    obtain ⟨va, vn, vc, rfl⟩ := hO.isSl
    obtain ⟨wl, hwl⟩ : ∃ x, x = wr := ⟨_, rfl⟩
    subst hwl
    have hsl := hbS.below hB (Nat.le_refl _)
    by_cases hlt : f < BB.length
    · have i2 : (f : Int) < (BB.length : Int) := by omega
      obtain ⟨b, o, c', e, hb, -, -, p2⟩ := ByR.at hsl f hlt
      simp only [Value.slice.injEq] at e
      obtain ⟨rfl, -, rfl⟩ := e
      go_upto_block 2 with fail
      go_cut [7] (fun k w2 => ∃ t : Nat, Hid (Lx.Upto BB f t) ∧ Hid (t = BB.length ∨ (BB.getD t Lx.noB).c = 10) ∧ k = .int .i64 (t : Int) ∧ wl = w2)
      case first =>
        go_wp2
        go_loopw [7] (fun k w2 => ∃ t : Nat, Hid (Lx.Upto BB f t) ∧ k = .int .i64 (t : Int) ∧ wl = w2) (fun k _ => BB.length - (intOf k).toNat)
        case atStart => exact ⟨f, Lx.Upto.start (by omega), rfl, rfl⟩
        case round =>
          obtain ⟨t, HU, rfl, rfl⟩ := hrel
          have hUl := HU.out.2.1
          by_cases htl : t < BB.length
          · have i3 : (t : Int) < (BB.length : Int) := by omega
            obtain ⟨b', o', c'', e, -, q0, -, -⟩ := ByR.at hsl t htl
            simp only [Value.slice.injEq, Option.some.injEq, Addr.mk.injEq] at e
            obtain ⟨⟨rfl, rfl, -⟩, -, -⟩ := e
            have e10 := beq_lit (BB.getD t Lx.noB).c 10
            rw [show ((10 : UInt8).toNat : Int) = 10 from rfl] at e10
            by_cases h10 : (BB.getD t Lx.noB).c = 10
            · rw [decide_eq_true h10] at e10
              have HE : Hid (t = BB.length ∨ (BB.getD t Lx.noB).c = 10) := .inr h10
              have m10 : ((((BB.getD t Lx.noB).c.toNat : Int)) != 10) = false := by simpa [bne] using e10
              clear h10
              generalize (BB.getD t Lx.noB).c.toNat = X at *
              go_wp2
              go_meet
              case rel => exact ⟨t, HU, HE, rfl, rfl⟩
            · rw [decide_eq_false h10] at e10
              have HU2 : Hid (Lx.Upto BB f (t + 1)) := HU.out.more htl h10
              have m10 : ((((BB.getD t Lx.noB).c.toNat : Int)) != 10) = true := by simpa [bne] using e10
              clear h10
              generalize (BB.getD t Lx.noB).c.toNat = X at *
              go_wp2
              exact ⟨⟨t + 1, HU2, by go_num, trivial⟩, by simp [intOf]; omega⟩
          · have HE : Hid (t = BB.length ∨ (BB.getD t Lx.noB).c = 10) := .inl (by omega)
            have i3 : ¬ (t : Int) < (BB.length : Int) := by omega
            go_wp2
            go_meet
            case rel => exact ⟨t, HU, HE, rfl, rfl⟩
      case rest =>
        obtain ⟨t, HU, HE, rfl, rfl⟩ := hcut
        have hUl := HU.out.2.1
        have hft := HU.out.1
        generalize hav : (BB.getD f Lx.noB).at_ = av at *
        have HAV : Hid _ := hav
        clear hav
        have p2a : (wl.alloc (.cells #[.int .i64 0, .bool false, .slice none 0 0] 48)).cell? ⟨b, o + f * 3 + 2, none⟩ = some (.int .i64 (av : Int)) := by
          rw [((Below.refl wl.heap.size wl).alloc (Nat.le_refl _) _).cell (p := ⟨b, o + f * 3 + 2, none⟩) (Nat.lt_of_lt_of_le hb hB.size)]
          exact p2
        go_wp2_with fail
        refine (PlaceT_any s av _ (by omega)).mono ?_
        rintro e w2 ⟨rfl, rfl⟩
        obtain ⟨num, hnum⟩ : ∃ num, (placeI (bs s) av).1 = num := ⟨_, rfl⟩
        have HNUM : Hid _ := hnum
        rw [hnum]
        clear hnum
        go_upto_region 13 with fail
        have hsla := hsl.alloc hB.size (.cells #[.int .i64 (num : Int), .bool false, .slice none 0 0] 48)
        go_cut [62] (fun k w' => ∃ tab : Bool, k = .bool tab ∧ Hid (tab = true → f < t ∧ Lx.line ((BB.take t).drop f) = (Lx.rd ((BB.take t).drop (f + 1))).map id (true, ·)) ∧ Hid (tab = false → Lx.line ((BB.take t).drop f) = (Lx.rd ((BB.take t).drop f)).map id (false, ·)) ∧ wl.alloc (.cells #[.int .i64 (num : Int), .bool false, .slice none 0 0] 48) = w')
        case first =>
          by_cases hft' : f < t
          · have i4 : (f : Int) < (t : Int) := by omega
            obtain ⟨b', o', c'', e, -, q0, -, -⟩ := ByR.at hsla f hlt
            simp only [Value.slice.injEq, Option.some.injEq, Addr.mk.injEq] at e
            obtain ⟨⟨rfl, rfl, -⟩, -, -⟩ := e
            have e9 := beq_lit (BB.getD f Lx.noB).c 9
            rw [show ((9 : UInt8).toNat : Int) = 9 from rfl] at e9
            have hdr := drop_take_at hft' hUl
            have H1 : Hid (decide ((BB.getD f Lx.noB).c = 9) = true → f < t ∧ Lx.line ((BB.take t).drop f) = (Lx.rd ((BB.take t).drop (f + 1))).map id (true, ·)) := fun h => ⟨hft', by rw [hdr, Lx.line, if_pos (of_decide_eq_true h)]⟩
            have H2 : Hid (decide ((BB.getD f Lx.noB).c = 9) = false → Lx.line ((BB.take t).drop f) = (Lx.rd ((BB.take t).drop f)).map id (false, ·)) := fun h => by rw [hdr, Lx.line, if_neg (of_decide_eq_false h)]
            generalize decide ((BB.getD f Lx.noB).c = 9) = tab at *
            clear hdr
            generalize (BB.getD f Lx.noB).c.toNat = X at *
            go_wp2
            go_meet
            case rel => exact ⟨tab, rfl, H1, H2, rfl⟩
          · have i4 : ¬ (f : Int) < (t : Int) := by omega
            have H2 : Hid (Lx.line ((BB.take t).drop f) = (Lx.rd ((BB.take t).drop f)).map id (false, ·)) := by
              show _ = _
              rw [List.drop_of_length_le (by rw [List.length_take]; omega), Lx.line, Lx.rd]
              rfl
            go_wp2
            go_meet
            case rel => exact ⟨false, rfl, (fun h => by cases h), (fun _ => H2.out), rfl⟩
        case rest =>
        obtain ⟨tab, rfl, H1, H2, rfl⟩ := hcut
        clear hsla p2a
        go_upto_if 62 with fail
        go_cut [9] (fun k w' => ∃ (i0 : Nat) (ind : Bool), k = .int .i64 (i0 : Int) ∧ f ≤ i0 ∧ i0 ≤ t ∧ Hid (Lx.line ((BB.take t).drop f) = (Lx.rd ((BB.take t).drop i0)).map id (ind, ·)) ∧ LW wl wl.heap.size num ind (.slice none 0 0) [] w')
        case first =>
          have hLA : ∀ ind, LW wl wl.heap.size num ind (.slice none 0 0) [] (wl.alloc (.cells #[.int .i64 (num : Int), .bool ind, .slice none 0 0] 48)) := fun ind => ⟨heap_alloc_new wl _, Rc.Own.nil _ _, (Below.refl _ _).alloc (Nat.le_refl _) _⟩
          cases tab with
          | true =>
            have hft' := (H1.out rfl).1
            have HL : Hid _ := (H1.out rfl).2
            go_wp2
            go_meet
            case rel => exact ⟨f + 1, true, by go_num, by omega, by omega, HL, hLA _⟩
          | false =>
            have HL : Hid _ := H2.out rfl
            go_wp2
            go_meet
            case rel => exact ⟨f, false, rfl, Nat.le_refl _, hft, HL, hLA _⟩
        case rest =>
        obtain ⟨i0, ind, rfl, hi1, hi2, HL, hLA⟩ := hcut
        clear H1 H2
        have HLA : Hid _ := hLA
        clear hLA
        go_wp2
        obtain ⟨R, hRR⟩ : ∃ R, Lx.rd ((BB.take t).drop i0) = R := ⟨_, rfl⟩
        have HRR : Hid _ := hRR
        rw [hRR] at HL
        clear hRR
        refine ln_loop s wl BB _ _ _ f t w.heap.size wl.heap.size num ind R ?_ _ _ _ _ _ _ _ _ _ _ _ _ _ _ _ _ _ _ _ _ _ _ _ _ _ _ _ _ _ _ _ _ _ _ _ _ _ _ _ _ _ _ _ _ _ _ _ _ _ _ _ _ _ _ _ _ _ _ _ _ _ _ _ _ _ _ _ _ _ _ _ _ _ _ _ _ _ _ _ _ _ _ _ _ _ _ _ _ _ _ _ _ _ _ _ _ _ _ _ _ _ _ _ _ _ _ _ _ _ _ _ _ _ _ _ _ _ _ _ _ _ _ _ _ _ _ _ _ _ _ _ _ _ _ _ _ _ _ _ _ _ _ _ _ _ _ _ _ _ _ _ _ _ _ _ _ _ _ _ _ _ _ _ _ _ _ _ _ _ _ _ _ _ _ _ _ _ _ _ _ _ _ _ _ _ _ _ _ _ _ _ _ _ _ _ _ _ _ _ _ _ _ ?_ ?_ ?_ ?_
        · exact ⟨hs, HBB.out, hbl, hUl, hsl.mono hB.size, HU.out.2.2, (hB.block w.heap.size hlt1).trans hS1, rfl⟩
        · intro c a d v w h
          cases d <;> exact h
        · exact ⟨i0, [], _, _, _, hi1, hi2, rfl, Nat.zero_le _, by rw [← HRR.out]; exact map_nilW _, HLA.out⟩
        · intro a' w'' hX
          clear HLA HRR
          unfold LnWX at hX
          obtain ⟨u2, hX⟩ := hX
          obtain ⟨u9, hX⟩ := hX
          obtain ⟨u10, hX⟩ := hX
          obtain ⟨u11, hX⟩ := hX
          obtain ⟨u12, hX⟩ := hX
          obtain ⟨u13, hX⟩ := hX
          obtain ⟨u14, hX⟩ := hX
          obtain ⟨u66, hX⟩ := hX
          obtain ⟨u67, hX⟩ := hX
          obtain ⟨u68, hX⟩ := hX
          obtain ⟨u69, hX⟩ := hX
          obtain ⟨u70, hX⟩ := hX
          obtain ⟨u71, hX⟩ := hX
          obtain ⟨u72, hX⟩ := hX
          obtain ⟨u73, hX⟩ := hX
          obtain ⟨u74, hX⟩ := hX
          obtain ⟨u75, hX⟩ := hX
          obtain ⟨u76, hX⟩ := hX
          obtain ⟨u77, hX⟩ := hX
          obtain ⟨u78, hX⟩ := hX
          obtain ⟨u79, hX⟩ := hX
          obtain ⟨u80, hX⟩ := hX
          obtain ⟨u81, hX⟩ := hX
          obtain ⟨u82, hX⟩ := hX
          obtain ⟨u83, hX⟩ := hX
          obtain ⟨u84, hX⟩ := hX
          obtain ⟨u85, hX⟩ := hX
          obtain ⟨u86, hX⟩ := hX
          obtain ⟨u87, hX⟩ := hX
          obtain ⟨u88, hX⟩ := hX
          obtain ⟨u89, hX⟩ := hX
          obtain ⟨u90, hX⟩ := hX
          obtain ⟨u91, hX⟩ := hX
          obtain ⟨u92, hX⟩ := hX
          obtain ⟨u93, hX⟩ := hX
          obtain ⟨u94, hX⟩ := hX
          obtain ⟨u95, hX⟩ := hX
          obtain ⟨u96, hX⟩ := hX
          obtain ⟨u97, hX⟩ := hX
          obtain ⟨u98, hX⟩ := hX
          obtain ⟨u99, hX⟩ := hX
          obtain ⟨u100, hX⟩ := hX
          obtain ⟨u101, hX⟩ := hX
          obtain ⟨u102, hX⟩ := hX
          obtain ⟨u103, hX⟩ := hX
          obtain ⟨u104, hX⟩ := hX
          obtain ⟨u105, hX⟩ := hX
          obtain ⟨u106, hX⟩ := hX
          obtain ⟨u107, hX⟩ := hX
          obtain ⟨u108, hX⟩ := hX
          obtain ⟨u109, hX⟩ := hX
          obtain ⟨u110, hX⟩ := hX
          obtain ⟨u111, hX⟩ := hX
          obtain ⟨u112, hX⟩ := hX
          obtain ⟨u113, hX⟩ := hX
          obtain ⟨u114, hX⟩ := hX
          obtain ⟨u115, hX⟩ := hX
          obtain ⟨u116, hX⟩ := hX
          obtain ⟨u117, hX⟩ := hX
          obtain ⟨u118, hX⟩ := hX
          obtain ⟨u119, hX⟩ := hX
          obtain ⟨u120, hX⟩ := hX
          obtain ⟨u121, hX⟩ := hX
          obtain ⟨u122, hX⟩ := hX
          obtain ⟨u123, hX⟩ := hX
          obtain ⟨u124, hX⟩ := hX
          obtain ⟨u125, hX⟩ := hX
          obtain ⟨u126, hX⟩ := hX
          obtain ⟨u127, hX⟩ := hX
          obtain ⟨u128, hX⟩ := hX
          obtain ⟨u129, hX⟩ := hX
          obtain ⟨u130, hX⟩ := hX
          obtain ⟨u131, hX⟩ := hX
          obtain ⟨u132, hX⟩ := hX
          obtain ⟨u133, hX⟩ := hX
          obtain ⟨u134, hX⟩ := hX
          obtain ⟨u135, hX⟩ := hX
          obtain ⟨u136, hX⟩ := hX
          obtain ⟨u137, hX⟩ := hX
          obtain ⟨u138, hX⟩ := hX
          obtain ⟨u139, hX⟩ := hX
          obtain ⟨u140, hX⟩ := hX
          obtain ⟨u141, hX⟩ := hX
          obtain ⟨u142, hX⟩ := hX
          obtain ⟨u143, hX⟩ := hX
          obtain ⟨u144, hX⟩ := hX
          obtain ⟨u145, hX⟩ := hX
          obtain ⟨u146, hX⟩ := hX
          obtain ⟨u147, hX⟩ := hX
          obtain ⟨u148, hX⟩ := hX
          obtain ⟨u149, hX⟩ := hX
          obtain ⟨u150, hX⟩ := hX
          obtain ⟨u151, hX⟩ := hX
          obtain ⟨u152, hX⟩ := hX
          obtain ⟨u153, hX⟩ := hX
          obtain ⟨u154, hX⟩ := hX
          obtain ⟨u155, hX⟩ := hX
          obtain ⟨u156, hX⟩ := hX
          obtain ⟨u157, hX⟩ := hX
          obtain ⟨u158, hX⟩ := hX
          obtain ⟨u159, hX⟩ := hX
          obtain ⟨u160, hX⟩ := hX
          obtain ⟨u161, hX⟩ := hX
          obtain ⟨u162, hX⟩ := hX
          obtain ⟨u163, hX⟩ := hX
          obtain ⟨u164, hX⟩ := hX
          obtain ⟨u165, hX⟩ := hX
          obtain ⟨u166, hX⟩ := hX
          obtain ⟨u167, hX⟩ := hX
          obtain ⟨u168, hX⟩ := hX
          obtain ⟨u169, hX⟩ := hX
          obtain ⟨u170, hX⟩ := hX
          obtain ⟨u171, hX⟩ := hX
          obtain ⟨u172, hX⟩ := hX
          obtain ⟨u173, hX⟩ := hX
          obtain ⟨u174, hX⟩ := hX
          obtain ⟨u175, hX⟩ := hX
          obtain ⟨u176, hX⟩ := hX
          obtain ⟨u177, hX⟩ := hX
          obtain ⟨u178, hX⟩ := hX
          obtain ⟨u179, hX⟩ := hX
          obtain ⟨u180, hX⟩ := hX
          obtain ⟨u181, hX⟩ := hX
          obtain ⟨u182, hX⟩ := hX
          obtain ⟨u183, hX⟩ := hX
          obtain ⟨u184, hX⟩ := hX
          obtain ⟨u185, hX⟩ := hX
          obtain ⟨u186, hX⟩ := hX
          obtain ⟨u187, hX⟩ := hX
          obtain ⟨u188, hX⟩ := hX
          obtain ⟨u189, hX⟩ := hX
          obtain ⟨u190, hX⟩ := hX
          obtain ⟨u191, hX⟩ := hX
          obtain ⟨u192, hX⟩ := hX
          obtain ⟨⟨ws, ad, n, c, hR, hwt, hLw⟩, ea⟩ := hX
          subst ea
          subst hR
          have HQ2 : Hid (R0 = (Lx.lns (BB.drop (t + 1))).map id ((done ++ (if ws = [] then [] else [⟨av, ind, ws⟩])) ++ ·)) := lines_more hlt HU.out HE.out HAV.out HRf.out HL.out
          clear HL HRf
          obtain ⟨ad', c', e, hcl⟩ := hLw.2.1.sl.shape
          simp only [Value.slice.injEq, List.length_map] at e
          obtain ⟨rfl, rfl, rfl⟩ := e
          obtain ⟨k0, k1, k2⟩ := hLw.cells
          have hB2 := hB.trans (hLw.2.2.mono hB.size)
          have it1 : (t : Int) ≤ 32768 := by omega
          by_cases hws : ws = []
          · rw [if_pos hws, List.append_nil] at HQ2
            have i5 : ¬ (0 : Int) < (ws.length : Int) := by rw [hws]; simp
            clear hws
            have hO2 := hO.below hLw.2.2 (Nat.le_refl _)
            go_wp2
            exact ⟨⟨t + 1, done, by omega, by first | rfl | go_num, hO2, by omega, HQ2, hB2⟩, by simp [intOf]; omega⟩
          · rw [if_neg hws] at HQ2
            have i5 : (0 : Int) < (ws.length : Int) := by have := List.length_pos_iff.2 hws; omega
            clear hws
            obtain ⟨ps, h1, h2, h3, h4⟩ := hO
            have hP1 : LnR.Own w'' w1.heap.size _ (ps.map Prod.fst) := h1.below hLw.2.2 (Nat.le_refl _)
            have hP3 : ∀ p ∈ ps, LineOf w'' w1.heap.size p.1 p.2 := fun p hp => (h3 p hp).below hLw.2.2 (Nat.le_refl _)
            have HAP : Hid (∀ p ∈ ps, Apart p (⟨(num : Int), ind, ad, ws.length, c⟩, Lx.toldL (bs s) ⟨av, ind, ws⟩)) := fun p hp g e1 e2 => by
              have h1 := ((h3 p hp).2.2.lt g e1).2
              have h2 := (hLw.2.1.lt g e2).1
              omega
            have HP5 : Hid _ := h4
            have HPL : Hid (ps.length = done.length) := by
              show _ = _
              have := congrArg List.length h2
              simp only [List.length_map] at this
              omega
            have HP2 : Hid _ := h2
            clear h1 h2 h3 h4
            have hL4 := LnR.lit w'' ⟨(num : Int), ind, ad, ws.length, c⟩ #[.int .i64 (num : Int), .bool ind, .slice ad ws.length c] rfl
            have hO4 := Rc.Own.alloc hP1 (.cells #[.int .i64 (num : Int), .bool ind, .slice ad ws.length c] 48)
            have HP4 : Hid (∀ p ∈ ps, LineOf (w''.alloc (.cells #[.int .i64 (num : Int), .bool ind, .slice ad ws.length c] 48)) w1.heap.size p.1 p.2) := fun p hp => (hP3 p hp).alloc _
            have HX4 : Hid (LineOf (w''.alloc (.cells #[.int .i64 (num : Int), .bool ind, .slice ad ws.length c] 48)) w1.heap.size ⟨(num : Int), ind, ad, ws.length, c⟩ (Lx.toldL (bs s) ⟨av, ind, ws⟩)) := by
              refine LineOf.alloc ⟨?_, rfl, hLw.2.1.low (Nat.le_succ_of_le hB.size)⟩ _
              have := HNUM.out
              simp only [placeI, Int.toNat_natCast] at this
              show (num : Int) = ((Lx.place (bs s) av).1 : Int)
              rw [this]
            have hB4 := hB2.alloc hB2.size (.cells #[.int .i64 (num : Int), .bool ind, .slice ad ws.length c] 48)
            have HLn : Hid ((ps.map Prod.fst).length + ([⟨(num : Int), ind, ad, ws.length, c⟩] : List RawL).length ≤ 1099511627) := by
              show _ ≤ _
              have := HPL.out
              simp only [List.length_cons, List.length_nil, List.length_map]; omega
            clear hP1 hP3 hB2
            go_wp2_with (at_builtin; go_must (refine LnR.append rfl _ _ rfl w1.heap.size (w''.heap.size + 1) _ _ (ps.map Prod.fst) [⟨(num : Int), ind, ad, ws.length, c⟩] rfl hO4 rfl hL4 HLn hB4.size ?_))
            intro v5 w5 hO5 hg5
            have hB5 := hB4.grown hg5 hB4.size fun j e => (hO4.lt j e).1
            have hO6 := LnsOwn.pushed hO4 HP4.out HX4.out hO5 hg5 HP5.out HAP.out
            rw [← HP2.out] at hO6
            have HO6 : Hid (LnsOwn w5 w1.heap.size v5 ((done ++ [(⟨av, ind, ws⟩ : Lx.Ln Nat)]).map (Lx.toldL (bs s)))) := by
              show LnsOwn _ _ _ _
              rw [List.map_append]; exact hO6
            clear hO6 hO5 hO4 hL4 HLn hg5 hB4 HP4 HX4 HAP HP5 k0 k1 k2 hLw
            go_wp2
            exact ⟨⟨t + 1, done ++ [⟨av, ind, ws⟩], by omega, by first | rfl | go_num, HO6.out, by simp only [List.length_append, List.length_cons, List.length_nil]; omega, HQ2, hB5⟩, by simp [intOf]; omega⟩
        · intro a' w'' hX
          clear HLA HRR
          unfold LnWB at hX
          obtain ⟨u2, hX⟩ := hX
          obtain ⟨u9, hX⟩ := hX
          obtain ⟨u10, hX⟩ := hX
          obtain ⟨u11, hX⟩ := hX
          obtain ⟨u12, hX⟩ := hX
          obtain ⟨u13, hX⟩ := hX
          obtain ⟨u14, hX⟩ := hX
          obtain ⟨u66, hX⟩ := hX
          obtain ⟨u67, hX⟩ := hX
          obtain ⟨u68, hX⟩ := hX
          obtain ⟨u69, hX⟩ := hX
          obtain ⟨u70, hX⟩ := hX
          obtain ⟨u71, hX⟩ := hX
          obtain ⟨u72, hX⟩ := hX
          obtain ⟨u73, hX⟩ := hX
          obtain ⟨u74, hX⟩ := hX
          obtain ⟨u75, hX⟩ := hX
          obtain ⟨u76, hX⟩ := hX
          obtain ⟨u77, hX⟩ := hX
          obtain ⟨u78, hX⟩ := hX
          obtain ⟨u79, hX⟩ := hX
          obtain ⟨u80, hX⟩ := hX
          obtain ⟨u81, hX⟩ := hX
          obtain ⟨u82, hX⟩ := hX
          obtain ⟨u83, hX⟩ := hX
          obtain ⟨u84, hX⟩ := hX
          obtain ⟨u85, hX⟩ := hX
          obtain ⟨u86, hX⟩ := hX
          obtain ⟨u87, hX⟩ := hX
          obtain ⟨u88, hX⟩ := hX
          obtain ⟨u89, hX⟩ := hX
          obtain ⟨u90, hX⟩ := hX
          obtain ⟨u91, hX⟩ := hX
          obtain ⟨u92, hX⟩ := hX
          obtain ⟨u93, hX⟩ := hX
          obtain ⟨u94, hX⟩ := hX
          obtain ⟨u95, hX⟩ := hX
          obtain ⟨u96, hX⟩ := hX
          obtain ⟨u97, hX⟩ := hX
          obtain ⟨u98, hX⟩ := hX
          obtain ⟨u99, hX⟩ := hX
          obtain ⟨u100, hX⟩ := hX
          obtain ⟨u101, hX⟩ := hX
          obtain ⟨u102, hX⟩ := hX
          obtain ⟨u103, hX⟩ := hX
          obtain ⟨u104, hX⟩ := hX
          obtain ⟨u105, hX⟩ := hX
          obtain ⟨u106, hX⟩ := hX
          obtain ⟨u107, hX⟩ := hX
          obtain ⟨u108, hX⟩ := hX
          obtain ⟨u109, hX⟩ := hX
          obtain ⟨u110, hX⟩ := hX
          obtain ⟨u111, hX⟩ := hX
          obtain ⟨u112, hX⟩ := hX
          obtain ⟨u113, hX⟩ := hX
          obtain ⟨u114, hX⟩ := hX
          obtain ⟨u115, hX⟩ := hX
          obtain ⟨u116, hX⟩ := hX
          obtain ⟨u117, hX⟩ := hX
          obtain ⟨u118, hX⟩ := hX
          obtain ⟨u119, hX⟩ := hX
          obtain ⟨u120, hX⟩ := hX
          obtain ⟨u121, hX⟩ := hX
          obtain ⟨u122, hX⟩ := hX
          obtain ⟨u123, hX⟩ := hX
          obtain ⟨u124, hX⟩ := hX
          obtain ⟨u125, hX⟩ := hX
          obtain ⟨u126, hX⟩ := hX
          obtain ⟨u127, hX⟩ := hX
          obtain ⟨u128, hX⟩ := hX
          obtain ⟨u129, hX⟩ := hX
          obtain ⟨u130, hX⟩ := hX
          obtain ⟨u131, hX⟩ := hX
          obtain ⟨u132, hX⟩ := hX
          obtain ⟨u133, hX⟩ := hX
          obtain ⟨u134, hX⟩ := hX
          obtain ⟨u135, hX⟩ := hX
          obtain ⟨u136, hX⟩ := hX
          obtain ⟨u137, hX⟩ := hX
          obtain ⟨u138, hX⟩ := hX
          obtain ⟨u139, hX⟩ := hX
          obtain ⟨u140, hX⟩ := hX
          obtain ⟨u141, hX⟩ := hX
          obtain ⟨u142, hX⟩ := hX
          obtain ⟨u143, hX⟩ := hX
          obtain ⟨u144, hX⟩ := hX
          obtain ⟨u145, hX⟩ := hX
          obtain ⟨u146, hX⟩ := hX
          obtain ⟨u147, hX⟩ := hX
          obtain ⟨u148, hX⟩ := hX
          obtain ⟨u149, hX⟩ := hX
          obtain ⟨u150, hX⟩ := hX
          obtain ⟨u151, hX⟩ := hX
          obtain ⟨u152, hX⟩ := hX
          obtain ⟨u153, hX⟩ := hX
          obtain ⟨u154, hX⟩ := hX
          obtain ⟨u155, hX⟩ := hX
          obtain ⟨u156, hX⟩ := hX
          obtain ⟨u157, hX⟩ := hX
          obtain ⟨u158, hX⟩ := hX
          obtain ⟨u159, hX⟩ := hX
          obtain ⟨u160, hX⟩ := hX
          obtain ⟨u161, hX⟩ := hX
          obtain ⟨u162, hX⟩ := hX
          obtain ⟨u163, hX⟩ := hX
          obtain ⟨u164, hX⟩ := hX
          obtain ⟨u165, hX⟩ := hX
          obtain ⟨u166, hX⟩ := hX
          obtain ⟨u167, hX⟩ := hX
          obtain ⟨u168, hX⟩ := hX
          obtain ⟨u169, hX⟩ := hX
          obtain ⟨u170, hX⟩ := hX
          obtain ⟨u171, hX⟩ := hX
          obtain ⟨u172, hX⟩ := hX
          obtain ⟨u173, hX⟩ := hX
          obtain ⟨u174, hX⟩ := hX
          obtain ⟨u175, hX⟩ := hX
          obtain ⟨u176, hX⟩ := hX
          obtain ⟨u177, hX⟩ := hX
          obtain ⟨u178, hX⟩ := hX
          obtain ⟨u179, hX⟩ := hX
          obtain ⟨u180, hX⟩ := hX
          obtain ⟨u181, hX⟩ := hX
          obtain ⟨u182, hX⟩ := hX
          obtain ⟨u183, hX⟩ := hX
          obtain ⟨u184, hX⟩ := hX
          obtain ⟨u185, hX⟩ := hX
          obtain ⟨u186, hX⟩ := hX
          obtain ⟨u187, hX⟩ := hX
          obtain ⟨u188, hX⟩ := hX
          obtain ⟨u189, hX⟩ := hX
          obtain ⟨u190, hX⟩ := hX
          obtain ⟨u191, hX⟩ := hX
          obtain ⟨u192, hX⟩ := hX
          obtain ⟨⟨x, hR, e2, hS2, hT2⟩, ea⟩ := hX
          subst e2
          subst ea
          subst hR
          have hE := lines_bad hlt HU.out HE.out HRf.out HL.out
          go_wp2
          refine bodyPost_ret (results_linesT rfl rfl hS2) rfl ?_
          rw [hE]
          exact ⟨rfl, (hBw.trans (hB.mono hBw.size)).trans (hT2.below' (Nat.le_trans hBw.size hB.size) (by simp))⟩
    · have i2 : ¬ (f : Int) < (BB.length : Int) := by omega
      have hE : R0 = .ok done := by
        rw [HRf.out, List.drop_of_length_le (by omega), Lx.lns]
        simp [Lx.R.map]
      have HE : Hid _ := hE
      clear hE HRf
      have hs1 : SV wl w.heap.size 0 0 := (hB.block w.heap.size hlt1).trans hS1
      obtain ⟨y0, y1⟩ := hs1.cells
      have y2 := hs1.free 0
      have y3 := hs1.free 1
      have HSV : Hid _ := hs1.set 0 0
      have HT : Hid (Turn [w.heap.size] wl ((wl.setCell ⟨w.heap.size, 0, none⟩ (.int .i64 0)).setCell ⟨w.heap.size, 1, none⟩ (.int .i64 0))) := (((Turn.refl [w.heap.size] wl).set (p := ⟨w.heap.size, 0, none⟩) (fun _ => by simp) _).set (p := ⟨w.heap.size, 1, none⟩) (fun _ => by simp) _)
      clear hs1
      go_wp2
      refine bodyPost_ret (results_linesT rfl rfl HSV.out) rfl ?_
      rw [HE.out]
      exact ⟨⟨_, rfl, (hO.turn1 HT.out hlt1).low hBw.size⟩, (hBw.trans (hB.mono hBw.size)).trans (HT.out.below' (Nat.le_trans hBw.size hB.size) (by simp))⟩

end Go.Proofs.Ythpipbkbldlfjaa
