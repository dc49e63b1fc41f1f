/-
  WHAT THE DOCUMENT's Parse DOES.
-/
import Derived.Test.YthpipbkbldlfjaaRPm
import Derived.Test.YthpipbkbldlfjaaRItK
import Derived.Test.YthpipbkbldlfjaaYLines
namespace Go.Proofs.Ythpipbkbldlfjaa
open Go.RowKit

/-- what the document's Item answers -/
def ItemC : Prop := ∀ (num : Int) (ind : Bool) (ad : Option Addr) (c n : Nat) (ws : List Lx.V) (w : World) (B : Nat), WdR.Sl w B (.slice ad n c) ws → B ≤ w.heap.size → ws ≠ [] → ws.length = n → n ≤ 98304 → (∀ u ∈ ws, u.text.length ≤ 1099511627) →
  Calls Try.prog 33 #[lnV num ind (.slice ad n c)] w fun e w' => ItEnd w.heap.size e w' (Rl.item ⟨num, ind, ws⟩) ∧ Below w.heap.size w w'
/-- how the document's Parse ends -/
def PsR (base : Nat) (e : Ending) (w' : World) : Lx.R (Int × Int × Int) (List Rl.It) → Prop
  | .bad x => ∃ ad c', e = .returned (.tuple #[.slice ad 0 c', whV x.1 x.2.1 x.2.2])
  | .ok A => ∃ ad c' M M1 out, e = .returned (.tuple #[.slice ad A.length c', whV 0 0 0]) ∧ base < M ∧ RpL w' (base + 1) M (.slice ad A.length c') out M1 ∧ A = out.map Prod.snd
set_option maxRecDepth 1000000 in
theorem LinesT_long (s : ByteArray) (w : World) (hs : 32768 < s.size) :
    Calls Try.prog 31 #[.string s] w fun e w' => e = .returned (.tuple #[.slice none 0 0, .agg #[.int .i64 3, .int .i64 32768]]) ∧ Below w.heap.size w w' := by
  have i0 : (32768 : Int) < (s.size : Int) := by omega
  go_enter Try.func31, Try.ntmps31
  go_wp2
  refine bodyPost_ret (results_linesT rfl rfl (show SV _ w.heap.size 3 32768 from heap_alloc_new w _)) rfl ?_
  exact ⟨rfl, (Below.refl _ _).alloc (Nat.le_refl _) _⟩
set_option maxRecDepth 100000 in
set_option maxHeartbeats 8000000 in
theorem refp_long (s : ByteArray) (w : World) (hlen : 32768 < s.size) (hs : s.size ≤ 1099511627) :
    Calls Try.prog 14 #[.string s] w fun e w' => PsR w.heap.size e w' (Rl.answer (bs s)) ∧ Below w.heap.size w w' := by
  have HA : Hid _ := Rl.answer_long (t := bs s) (by rw [bs_length]; exact hlen)
  generalize Rl.answer (bs s) = R at *
  have hz1 : (w.alloc (.cells #[.int .i64 0, .string ⟨#[]⟩, .int .i64 0, .int .i64 0] 26)).heap.size = w.heap.size + 1 := Array.size_push ..
  have hw1 : Wh0 (w.alloc (.cells #[.int .i64 0, .string ⟨#[]⟩, .int .i64 0, .int .i64 0] 26)) w.heap.size := heap_alloc_new w _
  have hb1 := below_box w (.cells #[.int .i64 0, .string ⟨#[]⟩, .int .i64 0, .int .i64 0] 26)
  have hLn := fun W : World => LinesT_long s W hlen
  have hPl := fun W : World => PlaceT_any s 32768 W hs
  unfold placeI at hPl
  rw [show (32768 : Int).toNat = 32768 from rfl] at hPl
  obtain ⟨l0, hl0⟩ : ∃ l0 : Int, ((Lx.place (bs s) 32768).1 : Int) = l0 := ⟨_, rfl⟩
  obtain ⟨c0, hc0⟩ : ∃ c0 : Int, ((Lx.place (bs s) 32768).2 : Int) = c0 := ⟨_, rfl⟩
  rw [hl0, hc0] at hPl HA
  clear hl0 hc0
  go_enter Try.func14, Try.ntmps14
  go_wp2_with fail
  refine (hLn _).mono ?_
  rintro e w2 ⟨rfl, hB2⟩
  have hw2 := Wh0.below hw1 hB2 (by omega)
  have hb2 := hb1.trans (hB2.mono (by omega))
  have hB3 := below_box w2 (.cells #[.int .i64 3, .int .i64 32768] 42)
  have hnew := heap_alloc_new w2 (.cells #[.int .i64 3, .int .i64 32768] 42)
  have hsl : w.heap.size < w2.heap.size := by have := hB2.size; omega
  have hw3 := Wh0.below hw2 hB3 hsl
  have hb3 := hb2.trans (hB3.mono hb2.size)
  go_upto_region 2 with fail
  generalize w2.alloc (.cells #[.int .i64 3, .int .i64 32768] 42) = Z at *
  generalize w2.heap.size = g5 at *
  have s0 : Z.cell? ⟨g5, 0, none⟩ = some (.int .i64 3) := by rw [cell_of_row Z _ 0 _ _ _ hnew]; rfl
  have s1 : Z.cell? ⟨g5, 1, none⟩ = some (.int .i64 32768) := by rw [cell_of_row Z _ 1 _ _ _ hnew]; rfl
  obtain ⟨q0, q1, q2, q3, qf⟩ := hw3.cells
  clear hnew
  go_wp2_with fail
  refine (hPl _).mono ?_
  rintro e w3 ⟨rfl, hw⟩
  have hw5 := hw.symm
  clear hw
  subst hw5
  have hfin := hw3.put 3 l0 c0
  have hbf := (((((hb3.setCell (p := ⟨w.heap.size, 0, none⟩) (Nat.le_refl _) (.int .i64 3)).setCell (p := ⟨w.heap.size, 1, none⟩) (Nat.le_refl _) (.string ⟨#[]⟩)).setCell (p := ⟨w.heap.size, 2, none⟩) (Nat.le_refl _) (.int .i64 l0)).setCell (p := ⟨w.heap.size, 3, none⟩) (Nat.le_refl _) (.int .i64 c0))).drew
  go_wp2_with fail
  go_region
  go_wp2
  refine bodyPost_ret (results_sw (tz := 26) rfl _ _ w.heap.size _ (whCs 3 l0 c0) _ _ _ rfl rfl hfin Try.underlying26 rfl (by kernel_rfl)) rfl ?_
  rw [HA.out]
  exact ⟨⟨none, 0, rfl⟩, hbf⟩
set_option maxRecDepth 100000 in
set_option maxHeartbeats 8000000 in
theorem refp_lexbad (s : ByteArray) (w : World) (hlen : s.size ≤ 32768) (a : Nat) (hlex : Lx.lex (bs s) = .bad a) :
    Calls Try.prog 14 #[.string s] w fun e w' => PsR w.heap.size e w' (Rl.answer (bs s)) ∧ Below w.heap.size w w' := by
  have HA : Hid (Rl.answer (bs s) = .bad (6, ((Lx.place (bs s) a).1 : Nat), ((Lx.place (bs s) a).2 : Nat))) := by
    show _ = _
    unfold Rl.answer
    rw [if_neg (by rw [bs_length]; omega), hlex]
  have hLn := fun W : World => LinesT_any s W hlen
  rw [hlex] at hLn
  have hPl := fun W : World => PlaceT_any s a W (by omega)
  unfold placeI at hPl
  rw [Int.toNat_natCast] at hPl
  generalize Rl.answer (bs s) = R at *
  have hz1 : (w.alloc (.cells #[.int .i64 0, .string ⟨#[]⟩, .int .i64 0, .int .i64 0] 26)).heap.size = w.heap.size + 1 := Array.size_push ..
  have hw1 : Wh0 (w.alloc (.cells #[.int .i64 0, .string ⟨#[]⟩, .int .i64 0, .int .i64 0] 26)) w.heap.size := heap_alloc_new w _
  have hb1 := below_box w (.cells #[.int .i64 0, .string ⟨#[]⟩, .int .i64 0, .int .i64 0] 26)
  obtain ⟨l0, hl0⟩ : ∃ l0 : Int, ((Lx.place (bs s) a).1 : Int) = l0 := ⟨_, rfl⟩
  obtain ⟨c0, hc0⟩ : ∃ c0 : Int, ((Lx.place (bs s) a).2 : Int) = c0 := ⟨_, rfl⟩
  rw [hl0, hc0] at hPl HA
  clear hl0 hc0
  clear hlex
  go_enter Try.func14, Try.ntmps14
  go_wp2_with fail
  refine (hLn _).mono ?_
  rintro e w2 ⟨hE, hB2⟩
  simp only [LsEnd] at hE
  subst hE
  have hw2 := Wh0.below hw1 hB2 (by omega)
  have hb2 := hb1.trans (hB2.mono (by omega))
  have hB3 := below_box w2 (.cells #[.int .i64 6, .int .i64 (a : Int)] 42)
  have hnew := heap_alloc_new w2 (.cells #[.int .i64 6, .int .i64 (a : Int)] 42)
  have hsl : w.heap.size < w2.heap.size := by have := hB2.size; omega
  have hw3 := Wh0.below hw2 hB3 hsl
  have hb3 := hb2.trans (hB3.mono hb2.size)
  go_upto_region 2 with fail
  generalize w2.alloc (.cells #[.int .i64 6, .int .i64 (a : Int)] 42) = Z at *
  generalize w2.heap.size = g5 at *
  have s0 : Z.cell? ⟨g5, 0, none⟩ = some (.int .i64 6) := by rw [cell_of_row Z _ 0 _ _ _ hnew]; rfl
  have s1 : Z.cell? ⟨g5, 1, none⟩ = some (.int .i64 (a : Int)) := by rw [cell_of_row Z _ 1 _ _ _ hnew]; rfl
  obtain ⟨q0, q1, q2, q3, qf⟩ := hw3.cells
  clear hnew
  go_wp2_with fail
  refine (hPl _).mono ?_
  rintro e w3 ⟨rfl, hw⟩
  have hw5 := hw.symm
  clear hw
  subst hw5
  have hfin := hw3.put 6 l0 c0
  have hbf := (((((hb3.setCell (p := ⟨w.heap.size, 0, none⟩) (Nat.le_refl _) (.int .i64 6)).setCell (p := ⟨w.heap.size, 1, none⟩) (Nat.le_refl _) (.string ⟨#[]⟩)).setCell (p := ⟨w.heap.size, 2, none⟩) (Nat.le_refl _) (.int .i64 l0)).setCell (p := ⟨w.heap.size, 3, none⟩) (Nat.le_refl _) (.int .i64 c0))).drew
  go_wp2_with fail
  go_region
  go_wp2
  refine bodyPost_ret (results_sw (tz := 26) rfl _ _ w.heap.size _ (whCs 6 l0 c0) _ _ _ rfl rfl hfin Try.underlying26 rfl (by kernel_rfl)) rfl ?_
  rw [HA.out]
  exact ⟨⟨none, 0, rfl⟩, hbf⟩
set_option maxRecDepth 100000 in
set_option maxHeartbeats 8000000 in
theorem refp_lexok (hit : ItemC) (s : ByteArray) (w : World) (hlen : s.size ≤ 32768) (ls : List (Lx.Ln Nat)) (hlex : Lx.lex (bs s) = .ok ls) :
    Calls Try.prog 14 #[.string s] w fun e w' => PsR w.heap.size e w' (Rl.answer (bs s)) ∧ Below w.heap.size w w' := by
  have HA : Hid (Rl.answer (bs s) = Rl.parse [] (ls.map (Lx.toldL (bs s)))) := by
    show _ = _
    unfold Rl.answer
    rw [if_neg (by rw [bs_length]; omega), hlex]
  have HNB : Hid (∀ x, Rl.answer (bs s) = .bad x → x.1 ≠ 0) := fun x hx => Rl.answer_bad hx
  have hLn := fun W : World => LinesT_any s W hlen
  rw [hlex] at hLn
  have hok := Rl.told_ok hlex
  have hfew := lex_few hlex (by rw [bs_length]; exact hlen)
  have HFEW : Hid ((ls.map (Lx.toldL (bs s))).length ≤ 98304 ∧ ∀ x ∈ ls.map (Lx.toldL (bs s)), x.words.length ≤ 98304) := by
    refine ⟨by rw [List.length_map]; exact hfew.1, fun x hx => ?_⟩
    obtain ⟨y, hy, rfl⟩ := List.mem_map.1 hx
    simp only [Lx.toldL, List.length_map]
    exact hfew.2 y hy
  have HOK : Hid (∀ x ∈ ls.map (Lx.toldL (bs s)), x.words ≠ [] ∧ ∀ u ∈ x.words, u.text.length ≤ 1099511627) := fun x hx => ⟨(hok x hx).1, fun u hu => by
    obtain ⟨y, hy, rfl⟩ := List.mem_map.1 hx
    simp only [Lx.toldL] at hu
    obtain ⟨z, hz, rfl⟩ := List.mem_map.1 hu
    have h1 := Lx.wsum_mem hz
    have h2 := Lx.tot_mem hy
    have h3 := Lx.lex_size hlex
    rw [bs_length] at h3
    show z.text.length ≤ _
    omega⟩
  clear hok hfew
  generalize Rl.answer (bs s) = R at *
  have hz1 : (w.alloc (.cells #[.int .i64 0, .string ⟨#[]⟩, .int .i64 0, .int .i64 0] 26)).heap.size = w.heap.size + 1 := Array.size_push ..
  have hw1 : Wh0 (w.alloc (.cells #[.int .i64 0, .string ⟨#[]⟩, .int .i64 0, .int .i64 0] 26)) w.heap.size := heap_alloc_new w _
  have hb1 := below_box w (.cells #[.int .i64 0, .string ⟨#[]⟩, .int .i64 0, .int .i64 0] 26)
  clear hlex
  go_enter Try.func14, Try.ntmps14
  go_wp2_with fail
  refine (hLn _).mono ?_
  rintro e w2 ⟨hE, hB2⟩
  obtain ⟨v, rfl, hLO⟩ := hE
  generalize ls.map (Lx.toldL (bs s)) = L at *
  have hw2 := Wh0.below hw1 hB2 (by omega)
  have hb2 := hb1.trans (hB2.mono (by omega))
  have hB3 := below_box w2 (.cells #[.int .i64 0, .int .i64 0] 42)
  have hnew := heap_alloc_new w2 (.cells #[.int .i64 0, .int .i64 0] 42)
  have hsl : w.heap.size < w2.heap.size := by have := hB2.size; omega
  have hw3 := Wh0.below hw2 hB3 hsl
  have hb3 := hb2.trans (hB3.mono hb2.size)
  have hsZ0 := Nat.lt_of_lt_of_le hsl hB3.size
  obtain ⟨ps, hP1, hP2, hP3, -⟩ := hLO
  rw [hz1] at hP1 hP3
  have hP1' := hP1.alloc (.cells #[.int .i64 0, .int .i64 0] 42)
  have hLn3 : ∀ p ∈ ps, LineOf (w2.alloc (.cells #[.int .i64 0, .int .i64 0] 42)) (w.heap.size + 1) p.1 p.2 ∧ ∀ g, p.1.words.ownBlock = some g → g < (w2.alloc (.cells #[.int .i64 0, .int .i64 0] 42)).heap.size := fun p hp => ⟨(hP3 p hp).alloc _, fun g hg => Nat.lt_of_lt_of_le ((hP3 p hp).2.2.lt g hg).2 hB3.size⟩
  have hv3 := hP1'.sl
  obtain ⟨ad, n, c, rfl⟩ := hP1.isSl
  clear hP1 hP1' hP3
  subst hP2
  go_upto_region 2 with fail
  generalize w2.alloc (.cells #[.int .i64 0, .int .i64 0] 42) = Z at *
  generalize w2.heap.size = g5 at *
  have s0 : Z.cell? ⟨g5, 0, none⟩ = some (.int .i64 0) := by rw [cell_of_row Z _ 0 _ _ _ hnew]; rfl
  have s1 : Z.cell? ⟨g5, 1, none⟩ = some (.int .i64 0) := by rw [cell_of_row Z _ 1 _ _ _ hnew]; rfl
  obtain ⟨q0, q1, q2, q3, qf⟩ := hw3.cells
  clear hnew
  have HLN : Hid _ := hLn3
  clear hLn3 hLn
  have hsZ : w.heap.size < Z.heap.size := hsZ0
  clear hsZ0
  have HW3 : Hid _ := hw3
  clear hw3 q0 q1 q2 q3 qf hw2 hb2 hB2 hB3 hw1 hb1 hz1
  go_wp2
  go_loopw [8, 9] (fun v8 v9 X => ∃ (k M1 : Nat) (out : List (RawI × Rl.It)), k ≤ ps.length ∧ v9 = .int .i64 (k : Int) ∧ RpL X (w.heap.size + 1) Z.heap.size v8 out M1 ∧ Hid (out.length ≤ k ∧ ∀ q ∈ out, q.2.code.length ≤ k) ∧ Hid (R = Rl.parse (out.map Prod.snd) ((ps.map Prod.snd).drop k)) ∧ Below Z.heap.size Z X) (fun _ v9 _ => ps.length - (intOf v9).toNat)
  case atStart => exact ⟨0, _, [], Nat.zero_le _, rfl, RpL.nil _ _ _ (Nat.le_refl _), ⟨Nat.le_refl _, fun _ h => by cases h⟩, HA.out, Below.refl _ _⟩
  case round =>
    obtain ⟨k, M1, out, hk, rfl, hL, HOL, HPQ, hBX⟩ := hrel
    have hnp : n = ps.length := by
      obtain ⟨a0, c0, e, -⟩ := hv3.shape
      simp only [Value.slice.injEq, List.length_map] at e
      exact e.2.1
    have hnb : (n : Int) ≤ 98304 := by have := HFEW.out.1; rw [List.length_map] at this; omega
    have HNP : Hid _ := hnp
    clear hnp
    obtain ⟨a8, n8, c8, rfl⟩ := hL.row.isSl
    have hn8 : n8 = out.length := by
      obtain ⟨a0, c0, e, -⟩ := hL.row.sl.shape
      simp only [Value.slice.injEq, List.length_map] at e
      exact e.2.1
    have hwX := Wh0.below HW3.out hBX hsZ
    have hbX : Below w.heap.size w wr := hb3.trans (hBX.mono hb3.size)
    have hsX : w.heap.size < wr.heap.size := Nat.lt_of_lt_of_le hsZ hBX.size
    by_cases hlt : k < ps.length
    rotate_left
    · obtain rfl : k = ps.length := by omega
      have i1 : ¬ ((ps.length : Nat) : Int) < (n : Int) := by have := HNP.out; omega
      have HFN : Hid (R = .ok (out.map Prod.snd)) := by
        have := HPQ.out
        rwa [List.drop_of_length_le (by rw [List.length_map]; exact Nat.le_refl _), Rl.parse] at this
      obtain ⟨q0, q1, q2, q3, qf⟩ := hwX.cells
      have hfin := hwX.put 0 0 0
      have hbf := (((((hbX.setCell (p := ⟨w.heap.size, 0, none⟩) (Nat.le_refl _) (.int .i64 0)).setCell (p := ⟨w.heap.size, 1, none⟩) (Nat.le_refl _) (.string ⟨#[]⟩)).setCell (p := ⟨w.heap.size, 2, none⟩) (Nat.le_refl _) (.int .i64 0)).setCell (p := ⟨w.heap.size, 3, none⟩) (Nat.le_refl _) (.int .i64 0)))
      have HLF : Hid (∀ W, Turn [w.heap.size] wr W → RpL W (w.heap.size + 1) Z.heap.size (.slice a8 n8 c8) out M1) := fun W hW =>
        ⟨hL.row.turn1 hW (by omega), fun q hq => (hL.its q hq).turn1 hW (Nat.lt_succ_self _) hsZ, hL.lo, Nat.le_trans hL.hi hW.size, hL.old, hL.new⟩
      have hLF := HLF.out _ (Wh0.turn wr w.heap.size (.int .i64 0) (.int .i64 0) (.int .i64 0) (.string ⟨#[]⟩))
      have HN8 : Hid _ := hn8
      clear hL HLF hn8
      go_wp2
      refine bodyPost_ret (results_sw (tz := 26) rfl _ _ w.heap.size _ (whCs 0 0 0) _ _ _ rfl rfl hfin Try.underlying26 rfl (by kernel_rfl)) rfl ?_
      rw [HFN.out]
      refine ⟨⟨a8, c8, Z.heap.size, M1, out, ?_, hsZ, ?_, rfl⟩, hbf⟩
      · rw [List.length_map, ← HN8.out]; rfl
      · rw [List.length_map, ← HN8.out]; exact hLF
    have i1 : (k : Int) < (n : Int) := by have := HNP.out; omega
    have HLT : Hid (k + 1 ≤ ps.length) := hlt
    obtain ⟨p, hp⟩ : ∃ p, ps[k] = p := ⟨_, rfl⟩
    have hmem : p ∈ ps := by rw [← hp]; exact List.getElem_mem hlt
    have hdS : (ps.map Prod.snd).drop k = p.2 :: (ps.map Prod.snd).drop (k + 1) := by
      rw [List.drop_eq_getElem_cons (by rw [List.length_map]; exact hlt), List.getElem_map]
      exact congrArg (fun z => Prod.snd z :: (ps.map Prod.snd).drop (k + 1)) hp
    obtain ⟨b, o, c', e, hb, r0, r1, r2⟩ := LnR.at (hv3.below hBX (Nat.le_refl _)) k (by rw [List.length_map]; exact hlt)
    simp only [Value.slice.injEq] at e
    obtain ⟨rfl, -, rfl⟩ := e
    have h0 : (ps.map Prod.fst)[k]'(by rw [List.length_map]; exact hlt) = p.1 := (List.getElem_map ..).trans (congrArg Prod.fst hp)
    rw [h0] at r0 r1 r2
    clear h0 hp
    have hline := HLN.out p hmem
    obtain ⟨hne, htx⟩ := HOK.out p.2 (List.mem_map_of_mem hmem)
    have hwl := HFEW.out.2 p.2 (List.mem_map_of_mem hmem)
    rw [hdS] at HPQ
    clear hdS hmem
    obtain ⟨⟨rn, ri, ra, rl, rc⟩, ⟨num, ind, ws⟩⟩ := p
    simp only at hne htx hwl hline
    obtain ⟨⟨hnum, hind, hOw⟩, hbl⟩ := hline
    simp only at hnum hind
    subst hnum hind
    replace r0 : wr.cell? ⟨b, o + k * 3, none⟩ = some (.int .i64 rn) := r0
    replace r1 : wr.cell? ⟨b, o + k * 3 + 1, none⟩ = some (.bool ri) := r1
    replace r2 : wr.cell? ⟨b, o + k * 3 + 2, none⟩ = some (.slice ra rl rc) := r2
    have hOr := hOw.below hBX (Nat.le_refl _)
    have hSw0 := hOr.sl
    replace hSw0 : WdR.Sl wr wr.heap.size (.slice ra rl rc) ws := hSw0
    have hw0 : 0 < ws.length := List.length_pos_iff.2 hne
    have hbX' : b < wr.heap.size := Nat.lt_of_lt_of_le hb hBX.size
    have HTX : Hid _ := htx
    have HNE : Hid _ := hne
    have hrl : ws.length = rl := by
      obtain ⟨a0, c0, e, -⟩ := hSw0.shape
      simp only [Value.slice.injEq] at e
      exact e.2.1.symm
    have HRL : Hid _ := hrl
    have HLI : Hid (LineOf wr (w.heap.size + 1) ⟨rn, ri, ra, rl, rc⟩ ⟨rn, ri, ws⟩ ∧ ∀ g, (⟨rn, ri, ra, rl, rc⟩ : RawL).words.ownBlock = some g → g < Z.heap.size) := ⟨⟨rfl, rfl, hOr⟩, hbl⟩
    clear htx hne hrl hOw hOr hbl
    cases ri with
    | true =>
      have HPT := HPQ.out
      rw [Rl.parse, if_pos rfl] at HPT
      rcases List.eq_nil_or_concat out with rfl | ⟨ps0, ⟨r, x⟩, rfl⟩
      · have HE : Hid (R = .bad (120, (ws.getD 0 Lx.noV).line, (ws.getD 0 Lx.noV).col)) := HPT
        have hn0 : n8 = 0 := hn8
        subst hn0
        clear HPT HPQ HLI hL hn8
        have hbb0 := below_box wr (.cells #[.int .i64 0, .int .i64 0, .string ⟨#[]⟩, .slice none 0 0, .slice none 0 0, .slice none 0 0] 33)
        have hbY := hbX.trans (hbb0.mono hbX.size)
        have hwY := Wh0.below hwX hbb0 hsX
        have hsY : w.heap.size < (wr.alloc (.cells #[.int .i64 0, .int .i64 0, .string ⟨#[]⟩, .slice none 0 0, .slice none 0 0, .slice none 0 0] 33)).heap.size := Nat.lt_of_lt_of_le hsX hbb0.size
        have hSw := hSw0.below hbb0 (Nat.le_refl _)
        have y1 := (cell_below hbb0 hbX' (o + k * 3 + 1)).trans r1
        have y2 := (cell_below hbb0 hbX' (o + k * 3 + 2)).trans r2
        go_upto_region 13 with fail
        generalize wr.alloc (.cells #[.int .i64 0, .int .i64 0, .string ⟨#[]⟩, .slice none 0 0, .slice none 0 0, .slice none 0 0] 33) = Y at *
        clear hbb0 r0 r1 r2 hwX hbX hsX hSw0
        obtain ⟨b7, o7, c7, e, hb7, t0, t1, t2, t3, t4⟩ := WdR.at hSw 0 (hw0)
        simp only [Value.slice.injEq] at e
        obtain ⟨rfl, e7, rfl⟩ := e
        have j1 : ((0 : Nat) : Int) < (rl : Int) := by rw [e7]; have := hw0; omega
        have HE9 : Hid _ := HE
        replace t0 : Y.cell? ⟨b7, o7, none⟩ = some (.string (str (ws.getD 0 Lx.noV).text)) := by simpa using t0
        replace t1 : Y.cell? ⟨b7, o7 + 1, none⟩ = some (.int .i64 (ws.getD 0 Lx.noV).line) := by simpa using t1
        replace t2 : Y.cell? ⟨b7, o7 + 2, none⟩ = some (.int .i64 (ws.getD 0 Lx.noV).col) := by simpa using t2
        replace t3 : Y.cell? ⟨b7, o7 + 3, none⟩ = some (.bool (ws.getD 0 Lx.noV).quoted) := by simpa using t3
        replace t4 : Y.cell? ⟨b7, o7 + 4, none⟩ = some (.bool (ws.getD 0 Lx.noV).mark) := by simpa using t4
        clear e7 HE
        generalize ws.getD 0 Lx.noV = u at *
        go_upto_region 17 with fail
        have hnew := heap_alloc_new Y (.cells #[.string (str u.text), .int .i64 u.line, .int .i64 u.col, .bool u.quoted, .bool u.mark] 36)
        have hbb := below_box Y (.cells #[.string (str u.text), .int .i64 u.line, .int .i64 u.col, .bool u.quoted, .bool u.mark] 36)
        have hw9 := Wh0.below hwY hbb hsY
        have hb9 := hbY.trans (hbb.mono hbY.size)
        generalize Y.alloc (.cells #[.string (str u.text), .int .i64 u.line, .int .i64 u.col, .bool u.quoted, .bool u.mark] 36) = Y9 at *
        generalize Y.heap.size = g9 at *
        have z1 : Y9.cell? ⟨g9, 1, none⟩ = some (.int .i64 u.line) := by rw [cell_of_row Y9 _ 1 _ _ _ hnew]; rfl
        have z2 : Y9.cell? ⟨g9, 2, none⟩ = some (.int .i64 u.col) := by rw [cell_of_row Y9 _ 2 _ _ _ hnew]; rfl
        obtain ⟨q0, q1, q2, q3, qf⟩ := hw9.cells
        have hfin := hw9.put 120 u.line u.col
        have hbf := (((((hb9.setCell (p := ⟨w.heap.size, 0, none⟩) (Nat.le_refl _) (.int .i64 120)).setCell (p := ⟨w.heap.size, 1, none⟩) (Nat.le_refl _) (.string ⟨#[]⟩)).setCell (p := ⟨w.heap.size, 2, none⟩) (Nat.le_refl _) (.int .i64 u.line)).setCell (p := ⟨w.heap.size, 3, none⟩) (Nat.le_refl _) (.int .i64 u.col))).drew
        clear hnew t0 t1 t2 t3 t4 hSw hwY hbY
        go_region
        go_wp2
        refine bodyPost_ret (results_sw (tz := 26) rfl _ _ w.heap.size _ (whCs 120 u.line u.col) _ _ _ rfl rfl hfin Try.underlying26 rfl (by kernel_rfl)) rfl ?_
        rw [HE9.out]
        exact ⟨⟨none, 0, rfl⟩, hbf⟩
      · simp only [List.concat_eq_append] at hL hn8 HPT HOL
        rw [List.length_append, List.length_singleton] at hn8
        obtain ⟨gO, cO, e, x0, x5, hgO⟩ := hL.last rfl
        simp only [Value.slice.injEq] at e
        obtain ⟨rfl, -, rfl⟩ := e
        obtain ⟨q, hq⟩ : ∃ q, ps0.length = q := ⟨_, rfl⟩
        have HQ : Hid _ := hq
        have HOL2 : Hid (q + 1 ≤ k) := by
          have := HOL.out.1
          rw [List.length_append, List.length_singleton, hq] at this
          exact this
        have HCK : Hid (x.code.length ≤ k ∧ ∀ q ∈ ps0, q.2.code.length ≤ k) := ⟨HOL.out.2 (r, x) (by simp), fun q hq => HOL.out.2 q (by simp [hq])⟩
        rw [hq] at hn8 x0 x5
        have j4 : (n8 : Int) - 1 = (q : Int) := by omega
        have j5 : (q : Int) < (n8 : Int) := by omega
        have j6 : (0 : Int) < (n8 : Int) := by omega
        have j7 : (n8 : Int) ≤ 98304 := by have := HOL2.out; omega
        have j8 : (0 : Int) ≤ (q : Int) := by omega
        have HN8 : Hid _ := hn8
        simp only [List.map_append, List.map_cons, List.map_nil, List.getLast?_append, List.getLast?_singleton, Option.some_or, List.dropLast_concat] at HPT
        clear hq hn8 HPQ HOL
        by_cases hk3 : x.kind = 3
        · rw [if_pos hk3] at HPT
          rw [hk3] at x0
          have HPN : Hid _ := HPT
          clear HPT hk3
          obtain ⟨qs, hc1, hc2, hc3⟩ := (hL.its (r, x) (by simp)).code
          have hcl : qs.length = r.cn := by
            obtain ⟨a0, c0, e, -⟩ := hc1.sl.shape
            simp only [RawI.code, Value.slice.injEq, List.length_map] at e
            exact e.2.1.symm
          have hcb : qs.length ≤ 98304 := by
            have := HCK.out.1
            rw [hc2, List.length_map] at this
            omega
          have HC2 : Hid _ := hc2
          have bb := below_box wr (.cells #[.int .i64 rn, .bool true, .slice ra rl rc] 48)
          have hX1 := (hL.below bb).below ((Below.refl (wr.alloc (.cells #[.int .i64 rn, .bool true, .slice ra rl rc] 48)).heap.size _).drew)
          have hO7 := Rc.Own.high (((hc1.alloc (.cells #[.int .i64 rn, .bool true, .slice ra rl rc] 48)).below ((Below.refl (wr.alloc (.cells #[.int .i64 rn, .bool true, .slice ra rl rc] 48)).heap.size _).drew) (Nat.le_refl _))) (hL.new (r, x) (by simp))
          have hq7 : ∀ p ∈ qs, LineOf (wr.alloc (.cells #[.int .i64 rn, .bool true, .slice ra rl rc] 48)).drew (w.heap.size + 1) p.1 p.2 ∧ ∀ g, p.1.words.ownBlock = some g → g < Z.heap.size := fun p hp => ⟨((hc3 p hp).1.alloc _).below ((Below.refl (wr.alloc (.cells #[.int .i64 rn, .bool true, .slice ra rl rc] 48)).heap.size _).drew) (Nat.le_refl _), (hc3 p hp).2⟩
          have hl7 : LineOf (wr.alloc (.cells #[.int .i64 rn, .bool true, .slice ra rl rc] 48)).drew (w.heap.size + 1) ⟨rn, true, ra, rl, rc⟩ ⟨rn, true, ws⟩ ∧ ∀ g, (⟨rn, true, ra, rl, rc⟩ : RawL).words.ownBlock = some g → g < Z.heap.size := ⟨(HLI.out.1.alloc _).below ((Below.refl (wr.alloc (.cells #[.int .i64 rn, .bool true, .slice ra rl rc] 48)).heap.size _).drew) (Nat.le_refl _), HLI.out.2⟩
          have hL7 := (LnR.lit wr ⟨rn, true, ra, rl, rc⟩ #[.int .i64 rn, .bool true, .slice ra rl rc] rfl).below ((Below.refl (wr.heap.size + 1) _).drew) (Nat.le_refl _)
          have HLn : Hid ((qs.map Prod.fst).length + [(⟨rn, true, ra, rl, rc⟩ : RawL)].length ≤ 1099511627) := by show _ ≤ _; rw [List.length_map, List.length_singleton]; omega
          have hz7 := hX1.hi
          have hb7 := ((hBX.alloc hBX.size (.cells #[.int .i64 rn, .bool true, .slice ra rl rc] 48)).drew)
          have hlo := hL.lo
          have x5a := (cell_below bb hgO (q * 6 + 5)).trans x5
          have HMM : Hid (∀ {w7 : World} {g2 cap : Nat}, (wr.alloc (.cells #[.int .i64 rn, .bool true, .slice ra rl rc] 48)).drew.grownBy w7 r.code.ownBlock → LnR.Own w7 M1 (.slice (some ⟨g2, 0, none⟩) ((qs.map Prod.fst).length + [(⟨rn, true, ra, rl, rc⟩ : RawL)].length) cap) (qs.map Prod.fst ++ [⟨rn, true, ra, rl, rc⟩]) →
              w7.cell? ⟨gO, q * 6 + 5, none⟩ = some (.slice r.ca r.cn r.cc) ∧ w7.frozen? ⟨gO, q * 6 + 5, none⟩ = false ∧ Below Z.heap.size Z (w7.setCell ⟨gO, q * 6 + 5, none⟩ (.slice (some ⟨g2, 0, none⟩) (qs.length + 1) cap)) ∧
              RpL (w7.setCell ⟨gO, q * 6 + 5, none⟩ (.slice (some ⟨g2, 0, none⟩) (qs.length + 1) cap)) (w.heap.size + 1) Z.heap.size (.slice (some ⟨gO, 0, none⟩) n8 c8) (ps0 ++ [(⟨r.kind, r.line, r.name, r.ta, r.tn, r.tc, r.wa, r.wn, r.wc, some ⟨g2, 0, none⟩, qs.length + 1, cap⟩, x.with ⟨rn, true, ws⟩)]) M1) := by
            intro w7 g2 cap hgr hown
            obtain ⟨gO', cO', e', c1, c2, c3, c4⟩ := hX1.more hO7 hc2 hq7 hl7 hgr hown
            simp only [Value.slice.injEq, Option.some.injEq, Addr.mk.injEq, and_true] at e'
            obtain ⟨rfl, -, rfl⟩ := e'
            rw [HQ.out] at c1 c2 c4
            refine ⟨c1, c2, ?_, c4⟩
            exact (hb7.grown hgr (by have := hX1.hi; omega) (fun g e => by have := (hO7.lt g e).1; omega)).setCell (p := ⟨gO, q * 6 + 5, none⟩) (by exact c3) _
          have HK3 : Hid (ps0.length + 1 ≤ k + 1 ∧ x.code.length + 1 ≤ k + 1) := by
            refine ⟨?_, by have := HCK.out.1; omega⟩
            rw [HQ.out]
            have := HOL2.out
            omega
          clear hX1 hq7 hl7 bb hb7 hL hc1 hc3 HLI hcl hc2
          have hql : (qs.map Prod.fst).length = qs.length := List.length_map ..
          have HQL : Hid _ := hql
          have hn8w : IntKind.i64.wrap (q : Int) = (q : Int) := by rw [IntKind.wrap_i64]; omega
          clear hql
          go_wp2_with fail
          go_region_law (refine Rc.step_append LnR (by rfl) (.tmp 69) (.tmp 74) (by rfl) M1 (wr.heap.size + 1) _ _ (qs.map Prod.fst) [⟨rn, true, ra, rl, rc⟩] (by rfl) hO7 (by rfl) hL7 (by simp) HLn hz7 ?_; intro g2 cap w7 hown7 hgrow7; obtain ⟨x58, xf8, hB8, hR8⟩ := HMM.out hgrow7 hown7; rw [HQL.out])
          all_goals clear hown7 hgrow7
          all_goals go_wp2
          all_goals exact ⟨⟨k + 1, M1, _, HLT.out, by go_num, hR8, ⟨by rw [List.length_append, List.length_singleton]; exact HK3.out.1, fun q hq => by
            rcases List.mem_append.1 hq with hq | hq
            · have := HCK.out.2 q hq; omega
            · rw [List.mem_singleton] at hq
              subst hq
              show (x.code ++ [_]).length ≤ _
              rw [List.length_append, List.length_singleton]
              exact HK3.out.2⟩, by show _ = _; simpa using HPN.out, hB8⟩, by have := HLT.out; simp [intOf]; omega⟩
        · rw [if_neg hk3] at HPT
          have HE : Hid (R = .bad (120, (ws.getD 0 Lx.noV).line, (ws.getD 0 Lx.noV).col)) := HPT
          have j9 : (x.kind == 3) = false := by rw [beq_eq_false_iff_ne]; exact hk3
          clear HPT HLI hL hk3
          have hbb0 := below_box wr (.cells #[.int .i64 0, .int .i64 0, .string ⟨#[]⟩, .slice none 0 0, .slice none 0 0, .slice none 0 0] 33)
          have hbY := hbX.trans (hbb0.mono hbX.size)
          have hwY := Wh0.below hwX hbb0 hsX
          have hsY : w.heap.size < (wr.alloc (.cells #[.int .i64 0, .int .i64 0, .string ⟨#[]⟩, .slice none 0 0, .slice none 0 0, .slice none 0 0] 33)).heap.size := Nat.lt_of_lt_of_le hsX hbb0.size
          have hSw := hSw0.below hbb0 (Nat.le_refl _)
          have y1 := (cell_below hbb0 hbX' (o + k * 3 + 1)).trans r1
          have y2 := (cell_below hbb0 hbX' (o + k * 3 + 2)).trans r2
          go_upto_region 13 with fail
          generalize wr.alloc (.cells #[.int .i64 0, .int .i64 0, .string ⟨#[]⟩, .slice none 0 0, .slice none 0 0, .slice none 0 0] 33) = Y at *
          clear hbb0 r0 r1 r2 hwX hbX hsX hSw0
          obtain ⟨b7, o7, c7, e, hb7, t0, t1, t2, t3, t4⟩ := WdR.at hSw 0 (hw0)
          simp only [Value.slice.injEq] at e
          obtain ⟨rfl, e7, rfl⟩ := e
          have j1 : ((0 : Nat) : Int) < (rl : Int) := by rw [e7]; have := hw0; omega
          have HE9 : Hid _ := HE
          replace t0 : Y.cell? ⟨b7, o7, none⟩ = some (.string (str (ws.getD 0 Lx.noV).text)) := by simpa using t0
          replace t1 : Y.cell? ⟨b7, o7 + 1, none⟩ = some (.int .i64 (ws.getD 0 Lx.noV).line) := by simpa using t1
          replace t2 : Y.cell? ⟨b7, o7 + 2, none⟩ = some (.int .i64 (ws.getD 0 Lx.noV).col) := by simpa using t2
          replace t3 : Y.cell? ⟨b7, o7 + 3, none⟩ = some (.bool (ws.getD 0 Lx.noV).quoted) := by simpa using t3
          replace t4 : Y.cell? ⟨b7, o7 + 4, none⟩ = some (.bool (ws.getD 0 Lx.noV).mark) := by simpa using t4
          clear e7 HE
          generalize ws.getD 0 Lx.noV = u at *
          go_upto_region 17 with fail
          have hnew := heap_alloc_new Y (.cells #[.string (str u.text), .int .i64 u.line, .int .i64 u.col, .bool u.quoted, .bool u.mark] 36)
          have hbb := below_box Y (.cells #[.string (str u.text), .int .i64 u.line, .int .i64 u.col, .bool u.quoted, .bool u.mark] 36)
          have hw9 := Wh0.below hwY hbb hsY
          have hb9 := hbY.trans (hbb.mono hbY.size)
          generalize Y.alloc (.cells #[.string (str u.text), .int .i64 u.line, .int .i64 u.col, .bool u.quoted, .bool u.mark] 36) = Y9 at *
          generalize Y.heap.size = g9 at *
          have z1 : Y9.cell? ⟨g9, 1, none⟩ = some (.int .i64 u.line) := by rw [cell_of_row Y9 _ 1 _ _ _ hnew]; rfl
          have z2 : Y9.cell? ⟨g9, 2, none⟩ = some (.int .i64 u.col) := by rw [cell_of_row Y9 _ 2 _ _ _ hnew]; rfl
          obtain ⟨q0, q1, q2, q3, qf⟩ := hw9.cells
          have hfin := hw9.put 120 u.line u.col
          have hbf := (((((hb9.setCell (p := ⟨w.heap.size, 0, none⟩) (Nat.le_refl _) (.int .i64 120)).setCell (p := ⟨w.heap.size, 1, none⟩) (Nat.le_refl _) (.string ⟨#[]⟩)).setCell (p := ⟨w.heap.size, 2, none⟩) (Nat.le_refl _) (.int .i64 u.line)).setCell (p := ⟨w.heap.size, 3, none⟩) (Nat.le_refl _) (.int .i64 u.col))).drew
          clear hnew t0 t1 t2 t3 t4 hSw hwY hbY
          go_region
          go_wp2
          refine bodyPost_ret (results_sw (tz := 26) rfl _ _ w.heap.size _ (whCs 120 u.line u.col) _ _ _ rfl rfl hfin Try.underlying26 rfl (by kernel_rfl)) rfl ?_
          rw [HE9.out]
          exact ⟨⟨none, 0, rfl⟩, hbf⟩
    | false =>
      have HPT := HPQ.out
      rw [Rl.parse, if_neg (by simp)] at HPT
      have HN8 : Hid _ := hn8
      clear hn8
      have hbb0 := below_box wr (.cells #[.int .i64 0, .int .i64 0, .string ⟨#[]⟩, .slice none 0 0, .slice none 0 0, .slice none 0 0] 33)
      have hnw0 := heap_alloc_new wr (.cells #[.int .i64 0, .int .i64 0, .string ⟨#[]⟩, .slice none 0 0, .slice none 0 0, .slice none 0 0] 33)
      have hI := hit rn false ra rc rl ws (wr.alloc (.cells #[.int .i64 0, .int .i64 0, .string ⟨#[]⟩, .slice none 0 0, .slice none 0 0, .slice none 0 0] 33)) (wr.alloc (.cells #[.int .i64 0, .int .i64 0, .string ⟨#[]⟩, .slice none 0 0, .slice none 0 0, .slice none 0 0] 33)).heap.size ((hSw0.below hbb0 (Nat.le_refl _)).mono hbb0.size) (Nat.le_refl _) HNE.out HRL.out (by have := HRL.out; omega) HTX.out
      have h0s : wr.heap.size < (wr.alloc (.cells #[.int .i64 0, .int .i64 0, .string ⟨#[]⟩, .slice none 0 0, .slice none 0 0, .slice none 0 0] 33)).heap.size := by show _ < (wr.heap.push _).size; rw [Array.size_push]; omega
      have y0 := (cell_below hbb0 hbX' (o + k * 3)).trans r0
      have y1 := (cell_below hbb0 hbX' (o + k * 3 + 1)).trans r1
      have y2 := (cell_below hbb0 hbX' (o + k * 3 + 2)).trans r2
      have HIE : Hid (∀ a, Rl.item ⟨rn, false, ws⟩ = .bad a → a.1 = 120 ∨ a.1 = 121) := fun a h => Rl.item_err h
      have HIA : Hid (∀ e i, Rl.item ⟨rn, false, ws⟩ = .bad (e, i) → i < ws.length) := fun e i h => Rl.item_at HNE.out h
      unfold lnV at hI
      go_wp2_with fail
      refine hI.mono ?_
      rintro e w5 ⟨hE, hB5⟩
      clear hI
      have hB05 : Below wr.heap.size wr w5 := hbb0.trans (hB5.mono hbb0.size)
      have hbx : w5.heap[wr.heap.size]? = _ := (hB5.block _ h0s).trans hnw0
      have m0 : w5.cell? ⟨wr.heap.size, 0, none⟩ = some (.int .i64 0) := by rw [cell_of_row w5 _ 0 _ _ _ hbx]; rfl
      have m1 : w5.cell? ⟨wr.heap.size, 1, none⟩ = some (.int .i64 0) := by rw [cell_of_row w5 _ 1 _ _ _ hbx]; rfl
      have m2 : w5.cell? ⟨wr.heap.size, 2, none⟩ = some (.string ⟨#[]⟩) := by rw [cell_of_row w5 _ 2 _ _ _ hbx]; rfl
      have m3 : w5.cell? ⟨wr.heap.size, 3, none⟩ = some (.slice none 0 0) := by rw [cell_of_row w5 _ 3 _ _ _ hbx]; rfl
      have m4 : w5.cell? ⟨wr.heap.size, 4, none⟩ = some (.slice none 0 0) := by rw [cell_of_row w5 _ 4 _ _ _ hbx]; rfl
      have m5 : w5.cell? ⟨wr.heap.size, 5, none⟩ = some (.slice none 0 0) := by rw [cell_of_row w5 _ 5 _ _ _ hbx]; rfl
      have mf : ∀ j, w5.frozen? ⟨wr.heap.size, j, none⟩ = false := fun j => frozen_of_row w5 _ j _ _ hbx
      clear y0 y1 y2
      cases hitm : Rl.item ⟨rn, false, ws⟩ with
      | bad a =>
        obtain ⟨er, ix⟩ := a
        rw [hitm] at hE HPT
        obtain ⟨r, rfl⟩ := hE
        unfold itV itCells
        have her : (er != 0) = true := by
          rw [bne_iff_ne]
          rcases HIE.out _ hitm with h | h <;> (simp only at h; rw [h]; decide)
        have hix := HIA.out er ix hitm
        have HE : Hid (R = .bad (er, (ws.getD ix Lx.noV).line, (ws.getD ix Lx.noV).col)) := HPT
        have hT6 := turn6 w5 wr.heap.size (.int .i64 r.kind) (.int .i64 r.line) (.string (str r.name)) (.slice r.ta r.tn r.tc) (.slice r.wa r.wn r.wc) (.slice r.ca r.cn r.cc)
        have hB6 : Below wr.heap.size wr ((((((w5.setCell ⟨wr.heap.size, 0, none⟩ (.int .i64 r.kind)).setCell ⟨wr.heap.size, 1, none⟩ (.int .i64 r.line)).setCell ⟨wr.heap.size, 2, none⟩ (.string (str r.name))).setCell ⟨wr.heap.size, 3, none⟩ (.slice r.ta r.tn r.tc)).setCell ⟨wr.heap.size, 4, none⟩ (.slice r.wa r.wn r.wc)).setCell ⟨wr.heap.size, 5, none⟩ (.slice r.ca r.cn r.cc)) := hB05.trans (hT6.below' hB05.size (by intro x hx; rw [List.mem_singleton] at hx; omega))
        clear hitm HPT HLI hL
        go_upto_region 15 with fail
        generalize (((((w5.setCell ⟨wr.heap.size, 0, none⟩ (.int .i64 r.kind)).setCell ⟨wr.heap.size, 1, none⟩ (.int .i64 r.line)).setCell ⟨wr.heap.size, 2, none⟩ (.string (str r.name))).setCell ⟨wr.heap.size, 3, none⟩ (.slice r.ta r.tn r.tc)).setCell ⟨wr.heap.size, 4, none⟩ (.slice r.wa r.wn r.wc)).setCell ⟨wr.heap.size, 5, none⟩ (.slice r.ca r.cn r.cc) = Y at *
        have hbY := hbX.trans (hB6.mono hbX.size)
        have hwY := Wh0.below hwX hB6 hsX
        have hsY : w.heap.size < Y.heap.size := Nat.lt_of_lt_of_le hsX hB6.size
        have hSw := (hSw0.below hB6 (Nat.le_refl _)).mono hB6.size
        have y2 := (cell_below hB6 hbX' (o + k * 3 + 2)).trans r2
        clear m0 m1 m2 m3 m4 m5 mf hbx hT6 hB05 hB5 hnw0 r0 r1 r2 hwX hbX hsX hSw0 hbb0 h0s
        generalize wr.heap.size = g11 at *
        obtain ⟨b7, o7, c7, e, hb7, t0, t1, t2, t3, t4⟩ := WdR.at hSw ix (hix)
        simp only [Value.slice.injEq] at e
        obtain ⟨rfl, e7, rfl⟩ := e
        have j1 : ((ix : Nat) : Int) < (rl : Int) := by rw [e7]; have := hix; omega
        have HE9 : Hid _ := HE
        clear e7 HE
        generalize ws.getD ix Lx.noV = u at *
        go_upto_region 17 with fail
        have hnew := heap_alloc_new Y (.cells #[.string (str u.text), .int .i64 u.line, .int .i64 u.col, .bool u.quoted, .bool u.mark] 36)
        have hbb := below_box Y (.cells #[.string (str u.text), .int .i64 u.line, .int .i64 u.col, .bool u.quoted, .bool u.mark] 36)
        have hw9 := Wh0.below hwY hbb hsY
        have hb9 := hbY.trans (hbb.mono hbY.size)
        generalize Y.alloc (.cells #[.string (str u.text), .int .i64 u.line, .int .i64 u.col, .bool u.quoted, .bool u.mark] 36) = Y9 at *
        generalize Y.heap.size = g9 at *
        have z1 : Y9.cell? ⟨g9, 1, none⟩ = some (.int .i64 u.line) := by rw [cell_of_row Y9 _ 1 _ _ _ hnew]; rfl
        have z2 : Y9.cell? ⟨g9, 2, none⟩ = some (.int .i64 u.col) := by rw [cell_of_row Y9 _ 2 _ _ _ hnew]; rfl
        obtain ⟨q0, q1, q2, q3, qf⟩ := hw9.cells
        have hfin := hw9.put er u.line u.col
        have hbf := (((((hb9.setCell (p := ⟨w.heap.size, 0, none⟩) (Nat.le_refl _) (.int .i64 er)).setCell (p := ⟨w.heap.size, 1, none⟩) (Nat.le_refl _) (.string ⟨#[]⟩)).setCell (p := ⟨w.heap.size, 2, none⟩) (Nat.le_refl _) (.int .i64 u.line)).setCell (p := ⟨w.heap.size, 3, none⟩) (Nat.le_refl _) (.int .i64 u.col))).drew
        clear hnew t0 t1 t2 t3 t4 hSw hwY hbY
        go_region
        go_wp2
        refine bodyPost_ret (results_sw (tz := 26) rfl _ _ w.heap.size _ (whCs er u.line u.col) _ _ _ rfl rfl hfin Try.underlying26 rfl (by kernel_rfl)) rfl ?_
        rw [HE9.out]
        exact ⟨⟨none, 0, rfl⟩, hbf⟩
      | ok x =>
        rw [hitm] at hE HPT
        obtain ⟨r, rfl, hNw⟩ := hE
        unfold itV itCells
        have HPN : Hid _ := HPT
        have HCE : Hid (x.code = []) := hNw.code.2.2.2
        have hT6 := turn6 w5 wr.heap.size (.int .i64 r.kind) (.int .i64 r.line) (.string (str r.name)) (.slice r.ta r.tn r.tc) (.slice r.wa r.wn r.wc) (.slice r.ca r.cn r.cc)
        have hB6 : Below wr.heap.size wr ((((((w5.setCell ⟨wr.heap.size, 0, none⟩ (.int .i64 r.kind)).setCell ⟨wr.heap.size, 1, none⟩ (.int .i64 r.line)).setCell ⟨wr.heap.size, 2, none⟩ (.string (str r.name))).setCell ⟨wr.heap.size, 3, none⟩ (.slice r.ta r.tn r.tc)).setCell ⟨wr.heap.size, 4, none⟩ (.slice r.wa r.wn r.wc)).setCell ⟨wr.heap.size, 5, none⟩ (.slice r.ca r.cn r.cc)) := hB05.trans (hT6.below' hB05.size (by intro x hx; rw [List.mem_singleton] at hx; omega))
        have hin : ((((((w5.setCell ⟨wr.heap.size, 0, none⟩ (.int .i64 r.kind)).setCell ⟨wr.heap.size, 1, none⟩ (.int .i64 r.line)).setCell ⟨wr.heap.size, 2, none⟩ (.string (str r.name))).setCell ⟨wr.heap.size, 3, none⟩ (.slice r.ta r.tn r.tc)).setCell ⟨wr.heap.size, 4, none⟩ (.slice r.wa r.wn r.wc)).setCell ⟨wr.heap.size, 5, none⟩ (.slice r.ca r.cn r.cc)).heap[wr.heap.size]? = some (.cells #[.int .i64 r.kind, .int .i64 r.line, .string (str r.name), .slice r.ta r.tn r.tc, .slice r.wa r.wn r.wc, .slice r.ca r.cn r.cc] 33 (0, 0)) := set6 hbx
        have hNw6 : ItNew ((((((w5.setCell ⟨wr.heap.size, 0, none⟩ (.int .i64 r.kind)).setCell ⟨wr.heap.size, 1, none⟩ (.int .i64 r.line)).setCell ⟨wr.heap.size, 2, none⟩ (.string (str r.name))).setCell ⟨wr.heap.size, 3, none⟩ (.slice r.ta r.tn r.tc)).setCell ⟨wr.heap.size, 4, none⟩ (.slice r.wa r.wn r.wc)).setCell ⟨wr.heap.size, 5, none⟩ (.slice r.ca r.cn r.cc)) (wr.alloc (.cells #[.int .i64 0, .int .i64 0, .string ⟨#[]⟩, .slice none 0 0, .slice none 0 0, .slice none 0 0] 33)).heap.size r x := ⟨hNw.kind, hNw.line, hNw.name, hNw.targets.turn1 hT6 h0s, hNw.words.turn1 hT6 h0s, hNw.code⟩
        clear hitm HPT HLI hNw
        go_upto_region 15 with fail
        generalize (((((w5.setCell ⟨wr.heap.size, 0, none⟩ (.int .i64 r.kind)).setCell ⟨wr.heap.size, 1, none⟩ (.int .i64 r.line)).setCell ⟨wr.heap.size, 2, none⟩ (.string (str r.name))).setCell ⟨wr.heap.size, 3, none⟩ (.slice r.ta r.tn r.tc)).setCell ⟨wr.heap.size, 4, none⟩ (.slice r.wa r.wn r.wc)).setCell ⟨wr.heap.size, 5, none⟩ (.slice r.ca r.cn r.cc) = Y at *
        have hL6 := hL.below hB6
        have hlitB := below_box Y (.cells #[.int .i64 r.kind, .int .i64 r.line, .string (str r.name), .slice r.ta r.tn r.tc, .slice r.wa r.wn r.wc, .slice r.ca r.cn r.cc] 33)
        have hL7 := hL6.below hlitB
        have hN7 := hNw6.below hlitB (Nat.le_refl _)
        have hlit := ItR.lit Y r #[.int .i64 r.kind, .int .i64 r.line, .string (str r.name), .slice r.ta r.tn r.tc, .slice r.wa r.wn r.wc, .slice r.ca r.cn r.cc] rfl
        have z0 : Y.cell? ⟨wr.heap.size, 0, none⟩ = some (.int .i64 r.kind) := by rw [cell_of_row Y _ 0 _ _ _ hin]; rfl
        have z1 : Y.cell? ⟨wr.heap.size, 1, none⟩ = some (.int .i64 r.line) := by rw [cell_of_row Y _ 1 _ _ _ hin]; rfl
        have z2 : Y.cell? ⟨wr.heap.size, 2, none⟩ = some (.string (str r.name)) := by rw [cell_of_row Y _ 2 _ _ _ hin]; rfl
        have z3 : Y.cell? ⟨wr.heap.size, 3, none⟩ = some (.slice r.ta r.tn r.tc) := by rw [cell_of_row Y _ 3 _ _ _ hin]; rfl
        have z4 : Y.cell? ⟨wr.heap.size, 4, none⟩ = some (.slice r.wa r.wn r.wc) := by rw [cell_of_row Y _ 4 _ _ _ hin]; rfl
        have z5 : Y.cell? ⟨wr.heap.size, 5, none⟩ = some (.slice r.ca r.cn r.cc) := by rw [cell_of_row Y _ 5 _ _ _ hin]; rfl
        have HLn : Hid ((out.map Prod.fst).length + [r].length ≤ 1099511627) := by
          show _ ≤ _
          rw [List.length_map, List.length_singleton]
          have := HOL.out.1
          omega
        have hzz : Z.heap.size ≤ (Y.alloc (.cells #[.int .i64 r.kind, .int .i64 r.line, .string (str r.name), .slice r.ta r.tn r.tc, .slice r.wa r.wn r.wc, .slice r.ca r.cn r.cc] 33)).heap.size := Nat.le_trans hL7.lo hL7.hi
        have hMB : Z.heap.size ≤ (wr.alloc (.cells #[.int .i64 0, .int .i64 0, .string ⟨#[]⟩, .slice none 0 0, .slice none 0 0, .slice none 0 0] 33)).heap.size := Nat.le_trans hBX.size hbb0.size
        have hBY := hBX.trans (hB6.mono hBX.size)
        have hBl := hBY.trans (hlitB.mono hBY.size)
        have hrow := hL7.row
        clear m0 m1 m2 m3 m4 m5 mf hbx hT6 hB05 hB5 hnw0 r0 r1 r2 hwX hbX hsX hSw0 h0s hin hL hL6 hB6 hNw6
        go_wp2_with (at_builtin; go_must (refine ItR.append rfl _ _ rfl Z.heap.size (Y.heap.size + 1) _ _ (out.map Prod.fst) [r] rfl hrow rfl hlit HLn hzz ?_))
        intro v5 w7 hO7 hg7
        have hR8 := hL7.push hN7 hMB hg7 hO7
        have hB8 := hBl.grown hg7 hBl.size (fun g e => (hrow.lt g e).1)
        obtain ⟨a9, n9, c9, rfl⟩ := hO7.isSl
        clear hL7 hN7 hlit hrow hg7 hO7 z0 z1 z2 z3 z4 z5 hlitB
        go_wp2
        exact ⟨⟨k + 1, _, _, HLT.out, by go_num, hR8, ⟨by rw [List.length_append, List.length_singleton]; have := HOL.out.1; omega, fun q hq => by
          rcases List.mem_append.1 hq with hq | hq
          · have := HOL.out.2 q hq; omega
          · rw [List.mem_singleton] at hq
            subst hq
            have : x.code = [] := HCE.out
            rw [this]
            exact Nat.zero_le _⟩, by show _ = _; simpa using HPN.out, hB8⟩, by have := HLT.out; simp [intOf]; omega⟩

end Go.Proofs.Ythpipbkbldlfjaa
