/-
  WHAT THE PROGRAM's Print DOES.
-/
import Derived.Test.YthpipbkbldlfjaaDConc
import Derived.Test.YthpipbkbldlfjaaDMay
import Derived.Test.YthpipbkbldlfjaaZWrite
namespace Go.Proofs.Ythpipbkbldlfjaa
open Go.RowKit

set_option maxRecDepth 100000 in
set_option maxHeartbeats 4000000 in
theorem Print_any (va : Value) (A : List Rl.It) (w : World) (B : Nat) (ha : ItsS w B va A) (hBw : B ≤ w.heap.size) (hAl : A.length ≤ 1099511627) (hf : ∀ x ∈ A, Rl.Few x)
    (hh : ∀ x ∈ A, (Rl.head x).length ≤ 1099511000) (hL : (Rl.lines A).length ≤ 1099511627) (htot : (Rl.print A).length ≤ 1099511627) :
    Calls Try.prog 19 #[va] w fun e w' => e = .returned (if Rl.may A = true then .tuple #[.string (str (Rl.print A)), .int .i64 0] else .tuple #[.string .empty, .int .i64 2]) ∧ Below w.heap.size w w' := by
  obtain ⟨ad, c, rfl, hle⟩ := ha.shape
  have HFW : Hid _ := hf
  have HHH : Hid _ := hh
  have hmay := May_any _ A w B ha hBw hAl hf
  clear hf hh
  cases hm : Rl.may A with
  | false =>
    rw [hm] at hmay
    rw [if_neg (by simp)]
    go_enter Try.func19, Try.ntmps19
    go_wp2_with fail
    refine hmay.mono ?_
    rintro e w1 ⟨rfl, hB1⟩
    clear hmay hm
    go_wp2
    go_ret2
    exact ⟨rfl, hB1⟩
  | true =>
    rw [hm] at hmay
    rw [if_pos rfl]
    go_enter Try.func19, Try.ntmps19
    go_wp2_with fail
    refine hmay.mono ?_
    rintro e w1 ⟨rfl, hB1⟩
    clear hmay hm
    go_wp2
    go_loopw [4, 12] (fun s k wr => ∃ i : Nat, i ≤ A.length ∧ k = .int .i64 (i : Int) ∧ OutP w B wr w.heap.size s (Rl.lines (A.take i)) ∧ Below w.heap.size w wr) (fun _ k _ => A.length - (intOf k).toNat)
    case atStart => exact ⟨0, Nat.zero_le _, rfl, OutP.nil _ _ _ _, hB1⟩
    case round =>
      obtain ⟨i, hi, rfl, hO, hD⟩ := hrel
      by_cases hlt : i < A.length
      · have i1 : (i : Int) < (A.length : Int) := by omega
        obtain ⟨b, o, c1, ta, tc, wa, wc_, ca, cc, e, hb1, hc, hX1, hX2, hX3⟩ := ha.at i hlt
        simp only [Value.slice.injEq] at e
        obtain ⟨rfl, -, rfl⟩ := e
        obtain ⟨x, hx⟩ : ∃ x, A.getD i Rl.noI = x := ⟨_, rfl⟩
        rw [hx] at hc hX1 hX2 hX3
        rw [getD_mem _ hlt] at hx
        have hxm : x ∈ A := by rw [← hx]; exact List.getElem_mem hlt
        have hhd := HHH.out x hxm
        have HLT : Hid (Rl.lines (A.take (i + 1)) = Rl.lines (A.take i) ++ (⟨0, false, Rl.head x⟩ :: x.code)) := by rw [Hid, Rl.lines_take hlt, hx]
        have hll := Rl.lines_le A (i + 1)
        rw [HLT.out, List.length_append, List.length_cons] at hll
        have HLL : Hid _ := hll
        clear hx hll
        have p0 : wr.cell? ⟨b, o + i * 6, none⟩ = some (.int .i64 x.kind) := (cell_below hD (Nat.lt_of_lt_of_le hb1 hBw) _).trans (hc 0 _ rfl)
        have p1 : wr.cell? ⟨b, o + i * 6 + 1, none⟩ = some (.int .i64 x.line) := (cell_below hD (Nat.lt_of_lt_of_le hb1 hBw) _).trans (hc 1 _ rfl)
        have p2 : wr.cell? ⟨b, o + i * 6 + 2, none⟩ = some (.string (str x.name)) := (cell_below hD (Nat.lt_of_lt_of_le hb1 hBw) _).trans (hc 2 _ rfl)
        have p3 : wr.cell? ⟨b, o + i * 6 + 3, none⟩ = some (.slice ta x.targets.length tc) := (cell_below hD (Nat.lt_of_lt_of_le hb1 hBw) _).trans (hc 3 _ rfl)
        have p4 : wr.cell? ⟨b, o + i * 6 + 4, none⟩ = some (.slice wa x.words.length wc_) := (cell_below hD (Nat.lt_of_lt_of_le hb1 hBw) _).trans (hc 4 _ rfl)
        have p5 : wr.cell? ⟨b, o + i * 6 + 5, none⟩ = some (.slice ca x.code.length cc) := (cell_below hD (Nat.lt_of_lt_of_le hb1 hBw) _).trans (hc 5 _ rfl)
        clear hc
        have hnew := heap_alloc_new wr (.cells #[.int .i64 x.kind, .int .i64 x.line, .string (str x.name), .slice ta x.targets.length tc, .slice wa x.words.length wc_, .slice ca x.code.length cc] 33)
        have hbb := below_box wr (.cells #[.int .i64 x.kind, .int .i64 x.line, .string (str x.name), .slice ta x.targets.length tc, .slice wa x.words.length wc_, .slice ca x.code.length cc] 33)
        go_upto_region 7 with fail
        clear p0 p1 p2 p3 p4 p5
        generalize wr.alloc (.cells #[.int .i64 x.kind, .int .i64 x.line, .string (str x.name), .slice ta x.targets.length tc, .slice wa x.words.length wc_, .slice ca x.code.length cc] 33) = W1 at *
        have hg1 : wr.heap.size < W1.heap.size := (Array.getElem?_eq_some_iff.1 hnew).1
        have hO1 := hO.below hbb (Nat.le_refl _)
        have hD1 : Below w.heap.size w W1 := hD.trans (hbb.mono hD.size)
        clear hO hD hbb
        generalize wr.heap.size = g at *
        have r0 : W1.cell? ⟨g, 0, none⟩ = some (.int .i64 x.kind) := by rw [cell_of_row W1 _ 0 _ _ _ hnew]; rfl
        have r1 : W1.cell? ⟨g, 1, none⟩ = some (.int .i64 x.line) := by rw [cell_of_row W1 _ 1 _ _ _ hnew]; rfl
        have r2 : W1.cell? ⟨g, 2, none⟩ = some (.string (str x.name)) := by rw [cell_of_row W1 _ 2 _ _ _ hnew]; rfl
        have r3 : W1.cell? ⟨g, 3, none⟩ = some (.slice ta x.targets.length tc) := by rw [cell_of_row W1 _ 3 _ _ _ hnew]; rfl
        have r4 : W1.cell? ⟨g, 4, none⟩ = some (.slice wa x.words.length wc_) := by rw [cell_of_row W1 _ 4 _ _ _ hnew]; rfl
        have r5 : W1.cell? ⟨g, 5, none⟩ = some (.slice ca x.code.length cc) := by rw [cell_of_row W1 _ 5 _ _ _ hnew]; rfl
        have hBW : B ≤ W1.heap.size := Nat.le_trans hBw hD1.size
        have how := ownWords_any x ta tc wa wc_ ca cc W1 B (hX1.below hD1 hBw) (hX2.below hD1 hBw) hBW hhd
        obtain ⟨ado, no, co, rfl⟩ : ∃ ad n c, u4 = .slice ad n c := by
          obtain ⟨ps, h1, -, -⟩ := hO1
          exact h1.isSl
        clear hX1 hX2 hhd
        go_wp2_with fail
        refine how.mono ?_
        rintro e w3 ⟨v3, rfl, hO3, hB3⟩
        have hO3' : WdR.Own w3 w.heap.size v3 (Rl.head x) := hO3.low hD1.size
        obtain ⟨ad3, n3, c3, rfl⟩ := hO3'.isSl
        obtain ⟨ps, hp1, hp2, hp3⟩ := hO1.below hB3 (Nat.le_refl _)
        clear hO3 hO1 how r0 r1 r2 r3 r4
        have hD3 : Below w.heap.size w w3 := hD1.trans (hB3.mono hD1.size)
        have hlen : (ps.map Prod.fst).length = (Rl.lines (A.take i)).length := by rw [hp2, List.length_map, List.length_map]
        have hL4 := LnR.lit w3 ⟨0, false, ad3, n3, c3⟩ #[.int .i64 0, .bool false, .slice ad3 n3 c3] rfl
        have hO4 := hp1.alloc (.cells #[.int .i64 0, .bool false, .slice ad3 n3 c3] 48)
        have hB4 := hD3.alloc hD3.size (.cells #[.int .i64 0, .bool false, .slice ad3 n3 c3] 48)
        have HQ4 : Hid (∀ p ∈ ps, LineM w B (w3.alloc (.cells #[.int .i64 0, .bool false, .slice ad3 n3 c3] 48)) w.heap.size p.1 p.2) := fun p hp => (hp3 p hp).below (below_box w3 _) (Nat.le_refl _)
        have HX4 : Hid (∀ p ∈ [((⟨0, false, ad3, n3, c3⟩ : RawL), (⟨0, false, Rl.head x⟩ : Lx.L))], LineM w B (w3.alloc (.cells #[.int .i64 0, .bool false, .slice ad3 n3 c3] 48)) w.heap.size p.1 p.2) := by
          intro p hp
          rw [List.mem_singleton] at hp
          subst hp
          exact ⟨rfl, rfl, .inr (hO3'.alloc _)⟩
        have HLn : Hid ((ps.map Prod.fst).length + ([⟨0, false, ad3, n3, c3⟩] : List RawL).length ≤ 1099511627) := by show _ ≤ _; have := HLL.out; rw [hlen, List.length_singleton]; omega
        have HP2 : Hid _ := hp2
        clear hp1 hp2 hp3 hlen hO3'
        go_wp2_with (at_builtin; go_must (refine LnR.append rfl _ _ rfl w.heap.size (w3.heap.size + 1) _ _ (ps.map Prod.fst) [⟨0, false, ad3, n3, c3⟩] rfl hO4 rfl hL4 HLn hB4.size ?_))
        intro v5 w5 hO5 hG5
        have hO6 : OutP w B w5 w.heap.size v5 (Rl.lines (A.take i) ++ [⟨0, false, Rl.head x⟩]) := OutP.grown (qs := [(⟨0, false, ad3, n3, c3⟩, ⟨0, false, Rl.head x⟩)]) hO4 HP2.out HQ4.out rfl HX4.out hO5 hG5
        have hD5 := hB4.grown hG5 hB4.size fun k e => (hO4.lt k e).1
        have hgw : g < w3.heap.size := Nat.lt_of_lt_of_le hg1 hB3.size
        have k4 := ((below_box w3 (.cells #[.int .i64 0, .bool false, .slice ad3 n3 c3] 48)).block g hgw).trans ((hB3.block g hg1).trans hnew)
        have k5 := (hG5.block g (Nat.lt_of_lt_of_le hgw (below_box w3 _).size) (own_ne hO4 k4 (by decide))).trans k4
        have r6 : w5.cell? ⟨g, 5, none⟩ = some (.slice ca x.code.length cc) := by rw [cell_of_row w5 _ 5 _ _ _ k5]; rfl
        clear hO5 hG5 hO4 hL4 HLn HQ4 HX4 HP2 k4 k5 hB4 hgw r5 hnew
        obtain ⟨ps', hp1, hp2, hp3⟩ := hO6
        obtain ⟨qs, hq1, hq2, hq3⟩ := hX3
        have hq5 := hq1.below hD5 hBw
        obtain ⟨ad5, n5, c5, rfl⟩ := hp1.isSl
        have HLn5 : Hid ((ps'.map Prod.fst).length + (qs.map Prod.fst).length ≤ 1099511627) := by
          show _ ≤ _
          have e1 := congrArg List.length hp2
          have e2 := congrArg List.length hq2
          rw [List.length_append, List.length_singleton, List.length_map] at e1
          rw [List.length_map] at e2
          have := HLL.out
          rw [List.length_map, List.length_map, ← e1, ← e2]
          omega
        have HP5 : Hid _ := hp2
        have HP6 : Hid _ := hp3
        have HQ5 : Hid _ := hq2
        have HQ6 : Hid (∀ p ∈ qs, LineM w B w5 w.heap.size p.1 p.2) := fun p hp => ⟨(hq3 p hp).1, (hq3 p hp).2.1, .inl (hq3 p hp).2.2⟩
        clear hp2 hp3 hq2 hq3 hq1
        go_wp2_with (at_builtin; go_must (refine LnR.append rfl _ _ rfl w.heap.size B _ _ (ps'.map Prod.fst) (qs.map Prod.fst) rfl hp1 rfl hq5 HLn5 hD5.size ?_))
        intro v7 w7 hO7 hG7
        have hO8 := OutP.grown hp1 HP5.out HP6.out HQ5.out HQ6.out hO7 hG7
        have hD7 := hD5.grown hG7 hD5.size fun k e => (hp1.lt k e).1
        have HO8 : Hid (OutP w B w7 w.heap.size v7 (Rl.lines (A.take (i + 1)))) := by
          rw [Hid, HLT.out]
          rw [List.append_assoc, List.singleton_append] at hO8
          exact hO8
        clear hO8 hO7 hG7 hp1 hq5 HLn5 HP5 HP6 HQ5 HQ6
        go_wp2
        exact ⟨⟨i + 1, by omega, by go_num, HO8.out, hD7⟩, by simp [intOf]; omega⟩
      · obtain rfl : i = A.length := by omega
        have i1 : ¬ (A.length : Int) < (A.length : Int) := by omega
        rw [List.take_length] at hO
        have hwl : ∀ x ∈ Rl.lines A, x.words.length ≤ 1099511627 ∧ ∀ u ∈ x.words, u.text.length ≤ 1099511 := by
          intro l hl
          simp only [Rl.lines, List.mem_flatMap, Rl.linesI, List.mem_cons] at hl
          obtain ⟨x, hx, rfl | hl⟩ := hl
          · refine ⟨(Nat.le_trans (HHH.out x hx) (by decide)), fun u hu => ?_⟩
            have hfx := HFW.out x hx
            rcases Rl.head_mem hu with h | h | h | h
            · exact hfx.tt u h
            · exact hfx.wt u h
            · rw [h]; exact hfx.name
            · omega
          · exact ⟨(HFW.out x hx).lines l hl, (HFW.out x hx).ct l hl⟩
        obtain ⟨ado, no, co, rfl⟩ : ∃ ad n c, u4 = .slice ad n c := by
          obtain ⟨ps, h1, -, -⟩ := hO
          exact h1.isSl
        have hwr := Write_any _ (Rl.lines A) wr wr.heap.size (hO.s hD hBw) (Nat.le_refl _) htot hL (fun x hx => (hwl x hx).1) (fun x hx => (hwl x hx).2)
        clear hwl
        go_wp2_with fail
        refine hwr.mono ?_
        rintro e w2 ⟨rfl, hB2⟩
        clear hwr
        go_wp2
        go_ret2
        exact ⟨rfl, hD.trans (hB2.mono hD.size)⟩

end Go.Proofs.Ythpipbkbldlfjaa
