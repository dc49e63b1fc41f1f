/-
  RulesStands ANSWERS true, of texts of at most 2^20 bytes.
-/
import Derived.Test.YthpipbkbldlfjaaLrSt17
import Derived.Test.YthpipbkbldlfjaaLrSt3
import Derived.Test.YthpipbkbldlfjaaZRd
namespace Go.Proofs.Ythpipbkbldlfjaa
open Go.RowKit

/-- how the code of an item stands from its j-th line on -/
def StR (s : ByteArray) (W4 : World) (g7 a m : Nat) (c : List (Lx.Ln Nat)) (j : Nat) (W : World) : Prop :=
  ∃ (p' : Nat) (lb : Int), Lst W g7 lb ∧ Rl.Lns (bs s) p' (c.drop j) m ∧ a < p' ∧ -1 ≤ lb ∧ lb < (p' : Int) ∧ lb < (s.size : Int) ∧ Turn [g7] W4 W
theorem st_rnd (s : ByteArray) (ST : List Nat) (W4 : World) (g1 g5 g7 b4 o4 c5 G b o i pn a m cn cc : Nat) (ca : Option Addr) (c : List (Lx.Ln Nat)) (hC : StW s ST W4 g1 g5 g7 b4 o4 c5) (hX3 : LnsS W4 G (.slice ca cn cc) (c.map (Lx.toldL (bs s)))) (hGg : G ≤ g7) (hb1 : b < G) (hcn : c.length = cn)
    (hP1 : ∀ W, Turn [g7] W4 W → W.cell? ⟨b, o + i * 6 + 1, none⟩ = some (.int .i64 (pn : Int))) (hea : (Lx.place (bs s) a).1 = pn) (hlt : ∀ l ∈ c, l.words.length ≤ 1099511627) (j : Nat) (wr : World) (hjlt : j < cn) (hR : StR s W4 g7 a m c j wr) : StRnd (StR s W4 g7 a m c) b o i pn g1 g5 g7 ca j wr := by
  obtain ⟨p', lb, hLj, hlj, g0, g1', g2, g3, hTj⟩ := hR
  have hjc : j < c.length := by omega
  obtain ⟨b6, o6, c6, ad7, c7, e, hb6, z0, z1, z2, hZ⟩ := LnsS.at (hX3.below (hC.turn hTj) hGg) j (by rw [List.length_map]; exact hjc)
  simp only [Value.slice.injEq] at e
  obtain ⟨rfl, -, rfl⟩ := e
  rw [List.drop_eq_getElem_cons hjc] at hlj
  have hgl : (c.map (Lx.toldL (bs s))).getD j Lx.noL = Lx.toldL (bs s) c[j] := by rw [getD_mem _ (by rw [List.length_map]; exact hjc), List.getElem_map]
  rw [hgl] at z0 z1 z2 hZ
  have hwl := hlt c[j] (List.getElem_mem hjc)
  generalize c[j] = l at *
  obtain ⟨m', ⟨t1, t2, t3, t4, t5, t6, t7, t8⟩, hln⟩ := hlj
  rw [bs_length] at t3
  have hwl1 : (Lx.toldL (bs s) l).words.length = l.words.length := by simp [Lx.toldL]
  rw [hwl1] at z2 hZ
  have hwp : 0 < l.words.length := List.length_pos_iff.2 t5
  have hpm := place_more s t2 (a := a) (by omega) (by omega)
  rw [hea] at hpm
  replace z1 : wr.cell? ⟨b6, o6 + j * 3 + 1, none⟩ = some (.bool true) := by rw [← t4]; exact z1
  replace hZ : WdR.Sl wr G (.slice ad7 l.words.length c7) (l.words.map (Lx.told (bs s))) := hZ
  have hp1 := hP1 wr hTj
  obtain ⟨nl, hnl⟩ : ∃ n, (Lx.place (bs s) l.at_).1 = n := ⟨_, rfl⟩
  rw [hnl] at hpm
  replace z0 : wr.cell? ⟨b6, o6 + j * 3, none⟩ = some (.int .i64 (nl : Int)) := by rw [← hnl]; exact z0
  have hbX := below_box wr (.cells #[.int .i64 (nl : Int), .bool true, .slice ad7 l.words.length c7] 48)
  have hXn := heap_alloc_new wr (.cells #[.int .i64 (nl : Int), .bool true, .slice ad7 l.words.length c7] 48)
  refine ⟨nl, l.words.length, b6, o6, c7, ad7, fun W' => Turn [g7] (wr.alloc (.cells #[.int .i64 (nl : Int), .bool true, .slice ad7 l.words.length c7] 48)) W', rfl, z0, z1, z2, hpm, hwp, fun W' hW => ?_, (Turn.refl _ _).drew, ?_⟩
  · have hxz : wr.heap.size < (wr.alloc (.cells #[.int .i64 (nl : Int), .bool true, .slice ad7 l.words.length c7] 48)).heap.size := (Array.getElem?_eq_some_iff.1 hXn).1
    have hg := (hW.block wr.heap.size hxz (by rw [List.mem_singleton]; have := hLj.lt; omega)).trans hXn
    refine ⟨by rw [cell_of_row W' _ 0 _ _ _ hg]; rfl, by rw [cell_of_row W' _ 1 _ _ _ hg]; rfl, by rw [cell_of_row W' _ 2 _ _ _ hg]; rfl, ?_⟩
    have hbz : b < wr.heap.size := by have := hLj.lt; omega
    exact (hW.cell (p := ⟨b, o + i * 6 + 1, none⟩) (by show b < _; omega) (by rw [List.mem_singleton]; show b ≠ g7; omega)).trans ((cell_below hbX hbz _).trans hp1)
  · have hTX : Turn [g7] wr (wr.alloc (.cells #[.int .i64 (nl : Int), .bool true, .slice ad7 l.words.length c7] 48)).drew := ((Turn.refl _ _).belowTrans hbX).drew
    have hTW := hTj.trans hTX (fun x hx _ => hx)
    have hbW := (hC.below (hC.turn hTj)).turn hTX
    have hlX : Lst (wr.alloc (.cells #[.int .i64 (nl : Int), .bool true, .slice ad7 l.words.length c7] 48)).drew g7 lb := by
      have h8 := hLj.below hbX
      exact h8
    refine (stand_any s ST _ l.words l.at_ lb _ g1 g5 g7 b4 o4 c5 (hC.below (hC.turn hTW)) ((hZ.below hbW hGg).mono hGg) hlX t6 g1' (by omega) g3 (by omega)).mono ?_
    rintro r w8 ⟨rfl, la3, hL8, d3, d4, d5, hT8⟩
    have hLM : Lx.lp l.at_ l.words ≤ m' := Lx.lp_le (Nat.le_of_lt t7) t8
    refine ⟨rfl, ((Turn.refl [g7] _).drew).trans hT8 (fun x hx _ => hx), m', la3, hL8, hln, by omega, d3, by omega, d5, hTW.trans hT8 (fun x hx _ => hx)⟩

set_option maxRecDepth 1000000 in
set_option maxHeartbeats 8000000 in
theorem stands_walk (hps : ParseC) (s : ByteArray) (w : World) (hs : s.size ≤ 1048576) : Calls Try.prog 10 #[.string s] w fun e w' => e = .returned (.bool true) ∧ Below w.heap.size w w' := by
  have h0 := works12 hps (w.alloc (.cells #[.string s] 9))
  have hp := fun W : World => hps s W (by omega)
  have hb0 := below_box w (.cells #[.string s] 9)
  have hx0 : (w.alloc (.cells #[.string s] 9)).cell? ⟨w.heap.size, 0, none⟩ = some (.string s) := by
    rw [cell_of_row _ _ 0 _ _ _ (heap_alloc_new w (.cells #[.string s] 9))]; rfl
  have hz0 : w.heap.size < (w.alloc (.cells #[.string s] 9)).heap.size := by show _ < (w.heap.push _).size; rw [Array.size_push]; omega
  go_enter Try.func10, Try.ntmps10
  go_wp2_with fail
  generalize w.alloc (.cells #[.string s] 9) = W0 at *
  refine h0.mono ?_
  rintro e w1 ⟨rfl, hB1⟩
  have hx1 := (cell_below hB1 hz0 0).trans hx0
  have hz1 : w.heap.size < w1.heap.size := Nat.lt_of_lt_of_le hz0 hB1.size
  have hb1 := hb0.trans (hB1.mono hb0.size)
  clear h0 hx0 hb0 hB1 hz0
  go_wp2_with fail
  refine (hp w1).mono ?_
  rintro e w2 ⟨hE, hB2⟩
  obtain ⟨ad2, n2, c2, er, l2, k2, rfl, hR2⟩ := st_res hE
  have hb2 := hb1.trans (hB2.mono hb1.size)
  have hx2 := (cell_below hB2 hz1 0).trans hx1
  have hz2 : w.heap.size < w2.heap.size := Nat.lt_of_lt_of_le hz1 hB2.size
  clear hE hp hx1 hb1 hz1 hB2
  go_upto_region 5 with fail
  have hst := st_begin w2 er l2 k2
  generalize ((w2.alloc (.cells #[.int .i64 er, .string .empty, .int .i64 l2, .int .i64 k2] 26)).alloc (.cells #[.int .i64 0] 3)).alloc (.cells #[.slice (some ⟨w2.heap.size + 1, 0, none⟩) 1 1] 50) = Y at hst ⊢
  have hRY := hR2.below hst.below (Nat.le_refl _)
  have hbY := hb2.trans (hst.below.mono hb2.size)
  have hxY := (cell_below hst.below hz2 0).trans hx2
  have hwY := hst.wh
  have hoY := hst.row
  have hsY := hst.box
  clear hst hR2 hb2 hx2
  generalize w2.heap.size = G at *
  go_wp2
  go_loopw [6] (fun i wr => ∃ (k : Nat) (v : Value), k ≤ s.size ∧ i = .int .i64 (k : Int) ∧ SBox wr (G + 1 + 1) v ∧ IntR.Own wr (G + 1) v (starts s k) ∧ Below (G + 1) Y wr) (fun i _ => s.size - (intOf i).toNat)
  case atStart => exact ⟨0, _, Nat.zero_le _, rfl, hsY, hoY, Below.refl _ _⟩
  case round =>
  clear hoY hsY
  obtain ⟨k, v, hk, rfl, hS, hI, hB⟩ := hrel
  have hsl := (starts_len s k).2
  obtain ⟨a5, n5, c5, rfl⟩ := hI.isSl
  have q1 := (cell_below hB (b := w.heap.size) (by omega) 0).trans hxY
  have q5 := hS.cell
  have qf : wr.frozen? ⟨G + 1 + 1, 0, none⟩ = false := frozen_of_row wr _ 0 _ _ hS
  by_cases hlt : k < s.size
  · have i1 : (k : Int) < (s.size : Int) := by omega
    have hbt := byte_some s k hlt
    by_cases hx : s[k] = 10
    · have e10 : ((s[k].toNat : Int) == 10) = true := byte_eq hx
      have HS : Hid (starts s k ++ [k + 1] = starts s (k + 1)) := by
        show _ = _
        rw [starts, hbt, hx, if_pos rfl]
      clear hx hbt
      have hL4 := IntR.lit wr (k + 1) #[.int .i64 ((k + 1 : Nat) : Int)] rfl
      have hO4 := hI.alloc (.cells #[.int .i64 ((k + 1 : Nat) : Int)] 3)
      have hS4 := hS.below (below_box wr (.cells #[.int .i64 ((k + 1 : Nat) : Int)] 3))
      have hB4 := hB.alloc (by have := hS.lt; omega) (.cells #[.int .i64 ((k + 1 : Nat) : Int)] 3)
      rw [show ((k + 1 : Nat) : Int) = (k : Int) + 1 by omega] at hL4 hO4 hB4 hS4
      have HLn : Hid ((starts s k).length + [k + 1].length ≤ 1099511627) := by show _ ≤ _; simp only [List.length_cons, List.length_nil]; omega
      have hz4 : G + 1 ≤ (wr.alloc (.cells #[.int .i64 ((k : Int) + 1)] 3)).heap.size := by have := hS4.lt; omega
      go_wp2_with (at_builtin; go_must (refine IntR.append rfl _ _ rfl (G + 1) (wr.heap.size + 1) _ _ (starts s k) [k + 1] rfl hO4 rfl hL4 HLn hz4 ?_))
      intro v5 w5 hO5 hg5
      have hB5 := hB4.grown hg5 hz4 fun j e => (hO4.lt j e).1
      obtain ⟨hS5, hS6, hO6⟩ := hS4.grown hO4 hg5 hO5
      obtain ⟨a6, n6, c6, rfl⟩ := hO5.isSl
      have f5 : w5.frozen? ⟨G + 1 + 1, 0, none⟩ = false := frozen_of_row w5 _ 0 _ _ hS5
      have q6 := hS5.cell
      have hB6 := hB5.setCell (p := ⟨G + 1 + 1, 0, none⟩) (by show G + 1 ≤ G + 1 + 1; omega) (.slice a6 n6 c6)
      rw [HS.out] at hO6
      clear hL4 hO4 hB4 HLn hg5 hI hS4 hS5 hO5 hB5 hS hB q1 q5 qf
      go_wp2
      exact ⟨⟨k + 1, _, by omega, by go_num, hS6, hO6, hB6⟩, by simp [intOf]; omega⟩
    · have e10 : ((s[k].toNat : Int) == 10) = false := byte_ne hx
      have HS : Hid (starts s k = starts s (k + 1)) := by
        show _ = _
        rw [starts, hbt, if_neg (by simpa using hx), List.append_nil]
      clear hx hbt
      rw [HS.out] at hI
      go_wp2
      exact ⟨⟨k + 1, _, by omega, by go_num, hS, hI, hB⟩, by simp [intOf]; omega⟩
  obtain rfl : k = s.size := by omega
  have i1 : ¬ (s.size : Int) < (s.size : Int) := by omega
  have hR3 := hRY.below hB (by omega)
  have hb3 : Below w.heap.size w wr := hbY.trans (hB.mono (by omega))
  have hw3 := (hB.block G (by omega)).trans hwY
  have hsa := starts_at s
  have hl1 := (starts_len s s.size).1
  generalize starts s s.size = ST at *
  clear hRY hbY hxY hwY hlt hk
  generalize wr = W3 at *
  have hSl := hI.sl
  obtain ⟨b4, o4, c5', e, hb4, -⟩ := IntR.at hSl 0 (by omega)
  simp only [Value.slice.injEq] at e
  obtain ⟨rfl, rfl, rfl⟩ := e
  clear hI
  have hgd := fun (W : World) (a b : Operand) => guard_where W .neq a b
  cases hA : Rl.answer (bs s) with
  | bad x =>
    rw [hA] at hR3
    obtain ⟨rfl, rfl⟩ := hR3
    obtain ⟨hn0, a, ha, hl, hc⟩ := Rl.bad_at hA
    simp only at hn0 hl hc
    rw [bs_length] at ha
    obtain ⟨pl, pc, st, e1, e2, e3, e4, y5⟩ := starts_cell hsa hSl a (by omega)
    rw [e1] at hl
    rw [e2] at hc
    obtain ⟨pn, hpn⟩ : ∃ pn, pl + 1 = pn := ⟨_, rfl⟩
    rw [hpn] at hl
    subst hl hc
    have hne := fun W : World => neq_where W er (pn : Int) (pc : Int) 0 0 0
    rw [decide_eq_false (fun h => hn0 h.1)] at hne
    unfold whA at hne
    have y0 : W3.cell? ⟨G, 0, none⟩ = some (.int .i64 er) := by simp [World.cell?, hw3]
    have y1 : W3.cell? ⟨G, 1, none⟩ = some (.string .empty) := by simp [World.cell?, hw3]
    have y2 : W3.cell? ⟨G, 2, none⟩ = some (.int .i64 (pn : Int)) := by simp [World.cell?, hw3]
    have y3 : W3.cell? ⟨G, 3, none⟩ = some (.int .i64 (pc : Int)) := by simp [World.cell?, hw3]
    have m1 : decide ((1 : Int) ≤ (pn : Int)) = true := decide_eq_true (by omega)
    have m2 : decide (pn ≤ ST.length) = true := decide_eq_true (by omega)
    have m3 : decide ((0 : Int) ≤ (pc : Int)) = true := decide_eq_true (by omega)
    have m4 : decide (a < s.size) = true := decide_eq_true (by omega)
    have n4 : (pn : Int) - 1 = (pl : Int) := by omega
    have n5 : (st : Int) + (pc : Int) = (a : Int) := by omega
    have n6 : (pl : Int) < (ST.length : Int) := by omega
    have n7 : (a : Int) ≤ 1048576 := by omega
    have n8 : (pn : Int) ≤ 1048578 := by omega
    clear hA hn0 hw3 hpn e1 e2 e3 hsa hSl hS hB
    go_wp2_with fail
    go_quiet (fail)
    go_wp2
    go_ret
    exact ⟨rfl, ⟨hb3.os, hb3.tape, hb3.output, hb3.size, hb3.block⟩⟩
  | ok A =>
    rw [hA] at hR3
    obtain ⟨rfl, rfl, rfl, rfl, hIt⟩ := hR3
    obtain ⟨Q0, hIts⟩ := Rl.ok_its hA
    have hsm := Rl.small (Rl.answer_bulk hA)
    have hAl := hsm.len
    have HFW : Hid _ := hsm.few
    have hne := fun W : World => neq_where W 0 0 0 0 0 0
    rw [decide_eq_true ⟨rfl, rfl, rfl⟩] at hne
    unfold whA at hne
    have y0 : W3.cell? ⟨G, 0, none⟩ = some (.int .i64 0) := by simp [World.cell?, hw3]
    have y1 : W3.cell? ⟨G, 1, none⟩ = some (.string .empty) := by simp [World.cell?, hw3]
    have y2 : W3.cell? ⟨G, 2, none⟩ = some (.int .i64 0) := by simp [World.cell?, hw3]
    have y3 : W3.cell? ⟨G, 3, none⟩ = some (.int .i64 0) := by simp [World.cell?, hw3]
    have hmf : ∀ (fn : Fn) (first cap : Array Value) (w : World), (Instr.makeFunc fn first cap).run Try.prog w = .ok (.func fn first cap) w := fun _ _ _ _ => rfl
    have bb7 := below_box W3 (.cells #[.int .i64 (-1)] 3)
    have hL7 : Lst (W3.alloc (.cells #[.int .i64 (-1)] 3)) W3.heap.size (-1) := heap_alloc_new W3 _
    have hG3 : G + 1 + 1 < W3.heap.size := hS.lt
    have hC : StW s ST (W3.alloc (.cells #[.int .i64 (-1)] 3)) w.heap.size (G + 1 + 1) W3.heap.size b4 o4 c5 :=
      ⟨hs, hsl, hsa, hSl.below bb7 (Nat.le_refl _), hG3, by omega, hL7.lt, (cell_below bb7 hG3 0).trans q5, (cell_below bb7 (by omega) 0).trans q1⟩
    have hI4 := (hIt.below bb7 (by omega))
    have hb4' := hb3.trans (bb7.mono hb3.size)
    have hg7 : w.heap.size ≤ W3.heap.size := hb3.size
    clear hA hw3 hsm hsa hSl hS hIt hB bb7 hb3 hsl q5 qf
    go_upto_region 14 with fail
    clear y0 y1 y2 y3 hne hgd hmf q1
    generalize W3.alloc (.cells #[.int .i64 (-1)] 3) = W4 at *
    generalize W3.heap.size = g7 at *
    go_wp2
    go_loopw [9] (fun k wr => ∃ (i p : Nat) (la : Int), i ≤ A.length ∧ k = .int .i64 (i : Int) ∧ Lst wr g7 la ∧ Hid (Rl.Its (bs s) p (A.drop i) Q0) ∧ -1 ≤ la ∧ la < (p : Int) ∧ la < (s.size : Int) ∧ Turn [g7] W4 wr) (fun k _ => A.length - (intOf k).toNat)
    case atStart => exact ⟨0, 0, -1, Nat.zero_le _, rfl, hL7, by show Rl.Its _ _ _ _; simpa using hIts, by omega, by omega, by omega, Turn.refl _ _⟩
    case round =>
    clear hL7 hIts
    obtain ⟨i, p, la, hi, rfl, hL, HIT, a0, a1, a2, hT⟩ := hrel
    by_cases hlt : i < A.length
    rotate_left
    · obtain rfl : i = A.length := by omega
      have i1 : ¬ (A.length : Int) < (A.length : Int) := by omega
      have hbT := hT.below' (B := w.heap.size) (by have := hC.l7; omega) (fun x hx => by rw [List.mem_singleton] at hx; omega)
      have hfin := hb4'.trans hbT
      clear hC hI4 hT hL HIT
      go_wp2
      go_ret
      exact ⟨rfl, hfin⟩
    have i1 : (i : Int) < (A.length : Int) := by omega
    have hbT := hC.turn hT
    have hCw := hC.below hbT
    obtain ⟨b, o, c1, ta, tc, wa, wc_, ca, cc, e, hb1, hcs, hX1, hX2, hX3⟩ := hI4.at i hlt
    simp only [Value.slice.injEq] at e
    obtain ⟨rfl, -, rfl⟩ := e
    have hfx := HFW.out (A.getD i Rl.noI) (by rw [getD_mem _ hlt]; exact List.getElem_mem hlt)
    have hits := HIT.out
    rw [List.drop_eq_getElem_cons hlt, ← getD_mem Rl.noI hlt] at hits
    generalize A.getD i Rl.noI = x at *
    obtain ⟨m, ⟨a, T, U, c, kk, hto⟩, hrest⟩ := hits
    have hax := hto.lt
    rw [bs_length] at hax
    obtain ⟨pl, pc, st, e1, e2, e3, e4, e5, y5⟩ := hC.at a (by omega)
    have e6 := place_begin s hto.begins (by omega)
    obtain ⟨pn, hpn⟩ : ∃ pn, pl + 1 = pn := ⟨_, rfl⟩
    rw [hpn] at e1
    obtain rfl : a = st := by omega
    have hln := hto.line
    rw [e1] at hln
    have p1 : W4.cell? ⟨b, o + i * 6 + 1, none⟩ = some (.int .i64 (pn : Int)) := by rw [← hln]; exact hcs 1 _ rfl
    have p3 : W4.cell? ⟨b, o + i * 6 + 3, none⟩ = some (.slice ta x.targets.length tc) := hcs 3 _ rfl
    have p4 : W4.cell? ⟨b, o + i * 6 + 4, none⟩ = some (.slice wa x.words.length wc_) := hcs 4 _ rfl
    have p5 : W4.cell? ⟨b, o + i * 6 + 5, none⟩ = some (.slice ca x.code.length cc) := hcs 5 _ rfl
    obtain ⟨tn, htn⟩ : ∃ tn, x.targets.length = tn := ⟨_, rfl⟩
    obtain ⟨wn, hwn⟩ : ∃ wn, x.words.length = wn := ⟨_, rfl⟩
    obtain ⟨cn, hcn⟩ : ∃ cn, x.code.length = cn := ⟨_, rfl⟩
    rw [htn] at hX1 p3
    rw [hwn] at hX2 p4
    rw [hcn] at hX3 p5
    rw [hto.targets] at hX1
    rw [hto.words] at hX2
    rw [hto.code] at hX3 hcn
    rw [List.length_map] at hcn
    have HT1 : Hid (T.length ≤ 1099511627) := by have := hfx.targets; rw [hto.targets, List.length_map] at this; exact this
    have HU1 : Hid (U.length ≤ 1099511627) := by have := hfx.words; rw [hto.words, List.length_map] at this; exact this
    have HC1 : Hid (c.length ≤ 1099511627) := by have := hfx.code; rw [hto.code, List.length_map] at this; exact this
    obtain ⟨row1, row2⟩ := Lx.row_app hto.row
    have hGg : G ≤ g7 := by have := hC.l5; omega
    have hLP : Lx.lp (Lx.lp a T) U ≤ kk := by
      refine Lx.lp_le (Lx.lp_le (Nat.le_of_lt hto.end_) fun w hw => hto.below w (List.mem_append_left _ hw)) fun w hw => hto.below w (List.mem_append_right _ hw)
    have HK1 : Hid (Calls Try.prog 27 #[.slice ta tn tc, .pointer (some ⟨G + 1 + 1, 0, none⟩), .pointer (some ⟨g7, 0, none⟩), .pointer (some ⟨w.heap.size, 0, none⟩)] wr.drew fun e w' => e = .returned (.bool true) ∧ Turn [g7] W4 w' ∧ ∃ la1 : Int, Lst w' g7 la1 ∧ -1 ≤ la1 ∧ la1 < (Lx.lp a T : Int) ∧ la1 < (s.size : Int)) := by
      refine (stand_any s ST _ T a la wr.drew w.heap.size (G + 1 + 1) g7 b4 o4 c5 (hC.below (hC.turn hT.drew)) ((hX1.below (hC.turn hT.drew) hGg).mono hGg) hL row1 a0 (by have := hto.from_; omega) a2 HT1.out).mono ?_
      rintro r w8 ⟨rfl, la3, hL8, d3, d4, d5, hT8⟩
      exact ⟨rfl, hT.drew.trans hT8 (fun x hx _ => hx), la3, hL8, d3, d4, d5⟩
    have HK2 : Hid (∀ W, Turn [g7] W4 W → (∃ la1 : Int, Lst W g7 la1 ∧ -1 ≤ la1 ∧ la1 < (Lx.lp a T : Int) ∧ la1 < (s.size : Int)) → Calls Try.prog 27 #[.slice wa wn wc_, .pointer (some ⟨G + 1 + 1, 0, none⟩), .pointer (some ⟨g7, 0, none⟩), .pointer (some ⟨w.heap.size, 0, none⟩)] W fun e w' => e = .returned (.bool true) ∧ Turn [g7] W4 w' ∧ ∃ la2 : Int, Lst w' g7 la2 ∧ -1 ≤ la2 ∧ la2 < (kk : Int) ∧ la2 < (s.size : Int)) := by
      rintro W hW ⟨la1, hl, h1, h2, h3⟩
      refine (stand_any s ST _ U (Lx.lp a T) la1 W w.heap.size (G + 1 + 1) g7 b4 o4 c5 (hC.below (hC.turn hW)) ((hX2.below (hC.turn hW) hGg).mono hGg) hl row2 h1 h2 h3 HU1.out).mono ?_
      rintro r w8 ⟨rfl, la3, hL8, d3, d4, d5, hT8⟩
      exact ⟨rfl, hW.trans hT8 (fun x hx _ => hx), la3, hL8, d3, by omega, d5⟩
    have HSS : Hid (∀ W, Turn [g7] W4 W → W.cell? ⟨b, o + i * 6 + 1, none⟩ = some (.int .i64 (pn : Int)) ∧ W.cell? ⟨b, o + i * 6 + 3, none⟩ = some (.slice ta tn tc) ∧ W.cell? ⟨b, o + i * 6 + 4, none⟩ = some (.slice wa wn wc_) ∧ W.cell? ⟨G + 1 + 1, 0, none⟩ = some (.slice (some ⟨b4, o4, none⟩) ST.length c5) ∧ W.cell? ⟨b4, o4 + pl, none⟩ = some (.int .i64 (a : Int))) := fun W hW =>
      have hb := hC.turn hW
      ⟨(cell_below hb (by omega) _).trans p1, (cell_below hb (by omega) _).trans p3, (cell_below hb (by omega) _).trans p4, (cell_below hb hC.l5 _).trans hC.h5, (cell_below hb e5 _).trans y5⟩
    have hP1 : ∀ W, Turn [g7] W4 W → W.cell? ⟨b, o + i * 6 + 1, none⟩ = some (.int .i64 (pn : Int)) := fun W hW => (cell_below (hC.turn hW) (by omega) _).trans p1
    have HP5 : Hid (∀ W, Turn [g7] W4 W → W.cell? ⟨b, o + i * 6 + 5, none⟩ = some (.slice ca cn cc)) := fun W hW => (cell_below (hC.turn hW) (by omega) _).trans p5
    have HRN : Hid (∀ j W, j < cn → StR s W4 g7 a m c j W → StRnd (StR s W4 g7 a m c) b o i pn w.heap.size (G + 1 + 1) g7 ca j W) := fun j W hj hR =>
      st_rnd s ST W4 w.heap.size (G + 1 + 1) g7 b4 o4 c5 G b o i pn a m cn cc ca c hC hX3 hGg hb1 hcn hP1 e1 (fun l hl => by
        have := hfx.lines (Lx.toldL (bs s) l) (by rw [hto.code]; exact List.mem_map.2 ⟨l, hl, rfl⟩)
        simpa [Lx.toldL] using this) j W hj hR
    have HST : Hid (∀ W (la2 : Int), Lst W g7 la2 → -1 ≤ la2 → la2 < (kk : Int) → la2 < (s.size : Int) → Turn [g7] W4 W → StR s W4 g7 a m c 0 W) := fun W la2 h1 h2 h3 h4 h5 =>
      ⟨kk, la2, h1, by simpa using hto.lns, hto.end_, h2, h3, h4, h5⟩
    have HRS : Hid _ := hrest
    have HCL : Hid (c.length = cn) := hcn
    have n1 : decide ((pn : Int) < 1) = false := decide_eq_false (by omega)
    have n2 : decide (ST.length < pn) = false := decide_eq_false (by omega)
    have n3 : decide ((a : Int) ≤ la) = false := decide_eq_false (by have := hto.from_; omega)
    have n4 : (pn : Int) - 1 = (pl : Int) := by omega
    have n6 : (pl : Int) < (ST.length : Int) := by omega
    have n8 : (pn : Int) ≤ 1048578 := by have := hC.sl; omega
    have q2 := hL.cell
    have hcb : (cn : Int) ≤ 1099511627 := by have := HC1.out; omega
    clear hto hcs p1 p3 p4 p5 y5 hX1 hX2 hX3 row1 row2 hrest hfx hln e1 e2 e3 e6 hpn htn hwn hCw hbT HIT hP1 hcn HT1 HU1 HC1 hLP
    go_upto_region 17 with fail
    refine st_r17 A.length i b o c2 w.heap.size (G + 1 + 1) g7 b4 o4 c5 ST.length pn pl a tn tc wn wc_ ta wa la wr _ _ _ HSS hT.drew q2 n1 n2 n3 n4 n6 n8 i1 HK1 HK2 _ _ _ _ _ _ _ _ _ _ _ _ _ _ _ _ _ _ _ _ _ _ _ _ _ _ _ _ _ _ _ _ _ _ _ _ _ _ _ _ _ _ _ _ _ _ _ _ _ _ _ _ _ _ _ _ _ _ _ _ _ _ _ _ _ _ _ _ _ _ _ _ _ _ _ _ _ _ _ _ _ _ _ _ _ _ _ _ _ _ _ _ _ _ _ _ _ _ _ _ _ _ _ _ _ _ _ _ _ _ _ _ _ _ _ _ _ _ _ _ _ _ _ _ _ _ _ _ _ _ _ _ _ _ _ _ _ _ _ _ _ _ _ _ _ _ _ _ _ _ _ _ _ _ _ _ _ _ _ _ _ _ _ _ _ (fun _ _ _ _ _ h => h) ?_
    intro v79 v80 v81 v82 v83 v84 v85 v86 v87 v88 v89 v90 v91 v92 v93 v94 v95 v96 v97 v98 v99 v100 v101 v102 v103 v104 v105 v106 v107 v108 v109 v110 v111 v112 v113 v114 v115 v116 v117 v118 v119 v120 v121 v122 v123 v124 v125 v126 v127 v128 v129 v130 w6 hT16 hP2
    obtain ⟨la2, hL6, d3, d4, d5⟩ := hP2
    have p5 := HP5.out w6 hT16
    have hR0 := HST.out w6 la2 hL6 d3 d4 d5 hT16
    clear hL hT HK1 HK2 HSS q2 HP5 n1 n2 n3 n4 n6 n8 d3 d4 d5 hL6 hT16 HST
    go_wp2
    refine st_l3 A.length i b o c2 w.heap.size (G + 1 + 1) g7 pn cn cc ca w6 (StR s W4 g7 a m c) hcb i1 hR0 HRN _ _ _ _ _ _ _ _ _ _ _ _ _ _ _ _ _ _ _ _ _ _ _ _ _ _ _ _ _ _ _ _ _ _ _ _ _ _ _ _ _ _ _ _ _ _ _ _ _ _ _ _ _ _ _ _ _ _ _ _ _ _ _ _ _ _ _ _ _ _ _ _ _ _ _ _ _ _ _ _ _ _ _ _ _ _ _ _ _ _ _ _ _ _ _ _ _ _ _ _ _ _ _ _ _ _ _ _ _ _ _ _ _ _ _ _ _ _ _ _ _ _ _ _ _ _ _ _ _ _ _ _ _ _ _ _ _ _ _ _ _ _ _ _ _ _ _ _ _ _ _ _ _ _ _ _ _ _ _ _ _ _ _ _ (fun _ _ _ _ _ h => h) ?_
    intro x2 x11 x138 x139 x140 x141 x142 x143 x144 x145 x146 x147 x148 x149 x150 x151 x152 x153 x154 x155 x156 x157 x158 x159 x160 x161 x162 x163 x164 x165 x166 x167 x168 w7 hR7
    obtain ⟨p', lb, hLj, hlj, -, g1', g2, g3, hTj⟩ := hR7
    rw [List.drop_of_length_le (by have := HCL.out; omega)] at hlj
    have HPM : Hid (p' ≤ m) := hlj
    clear hlj HRN hR0 p5
    go_wp2
    go_roundw
    case rel =>
      refine ⟨_, _, _, _, _, _, _, _, _, _, _, _, _, _, _, _, _, _, _, _, _, _, _, _, _, _, _, _, _, _, _, _, _, _, _, _, _, _, _, _, _, _, _, _, _, _, _, _, _, _, _, _, _, _, _, _, _, _, _, _, _, _, _, _, _, _, _, _, _, _, _, _, _, _, _, _, _, _, _, _, _, _, _, _, _, _, _, _, _, _, _, _, _, _, _, _, _, _, _, ⟨i + 1, m, lb, ?_, ?_, hLj, HRS.out, g1', ?_, g3, hTj⟩, rfl⟩
      · omega
      · go_num
      · have := HPM.out; omega
    case measure => simp [intOf]; omega

end Go.Proofs.Ythpipbkbldlfjaa
