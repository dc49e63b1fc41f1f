/-
  WHAT THE PROGRAM's Parse DOES.
-/
import Derived.Test.YthpipbkbldlfjaaRecOpen
import Derived.Test.YthpipbkbldlfjaaDIdx
namespace Go.Proofs.Ythpipbkbldlfjaa
open Go.RowKit

/-- a result and one that lies in memory -/
theorem results_sw {P : Program} {fn : Func} {p q : Tmp} {tz : TypeId} (h : fn.results = #[.tmp p, .cell q tz]) (tmps : Array Value) (w : World) (g2 : Nat) (t2 : TypeId) (ds : Array Value) (f2 : Nat × Nat) (d2 : TypeDesc) (v : Value)
    (hp : tmps.getD p undef = v) (hq : tmps.getD q undef = .pointer (some ⟨g2, 0, none⟩)) (hg2 : w.heap[g2]? = some (.cells ds t2 f2))
    (hu2 : P.underlying tz = some d2) (hd2 : (match d2 with | .struct _ | .array _ _ => true | _ => false) = true) (hi2 : (P.info? tz).map (·.size) = some ds.size) :
    (results fn tmps).run P w = .ok (.tuple #[v, .agg ds]) w := by
  have hp' : tmps[p]?.getD undef = v := by simpa using hp
  have hq' : tmps[q]?.getD undef = .pointer (some ⟨g2, 0, none⟩) := by simpa using hq
  simp [results, h, hp', hq', asAddr, run_loadVar_row w g2 t2 tz ds f2 d2 hg2 hu2 hd2 hi2]
/-- a place's block, noughts -/
def Wh0 (W : World) (s : Nat) : Prop := W.heap[s]? = some (.cells (whCs 0 0 0) 26 (0, 0))
theorem Wh0.below {W W' : World} {B s : Nat} (h : Wh0 W s) (hb : Below B W W') (hs : s < B) : Wh0 W' s := (hb.block s hs).trans h
theorem Wh0.cells {W : World} {s : Nat} (h : Wh0 W s) : W.cell? ⟨s, 0, none⟩ = some (.int .i64 0) ∧ W.cell? ⟨s, 1, none⟩ = some (.string ⟨#[]⟩) ∧ W.cell? ⟨s, 2, none⟩ = some (.int .i64 0) ∧ W.cell? ⟨s, 3, none⟩ = some (.int .i64 0) ∧ ∀ j, W.frozen? ⟨s, j, none⟩ = false := by
  have h' : W.heap[s]? = _ := h
  refine ⟨?_, ?_, ?_, ?_, fun j => frozen_of_row W s j _ _ h'⟩
  · rw [cell_of_row W s 0 _ _ _ h']; rfl
  · rw [cell_of_row W s 1 _ _ _ h']; rfl
  · rw [cell_of_row W s 2 _ _ _ h']; rfl
  · rw [cell_of_row W s 3 _ _ _ h']; rfl
def lenV : Value → Nat
  | .slice _ n _ => n
  | _ => 0
def PsOwn (base : Nat) (e : Ending) (w' : World) : Lx.R (Int × Int × Int) (List Rl.It) → Prop
  | .bad x => ∃ ad c', e = .returned (.tuple #[.slice ad 0 c', whV x.1 x.2.1 x.2.2])
  | .ok A => ∃ ad c' M, e = .returned (.tuple #[.slice ad A.length c', whV 0 0 0]) ∧ base < M ∧ ItsOwn w' (base + 1) M (.slice ad A.length c') A

theorem Wh0.put {W : World} {s : Nat} (h : Wh0 W s) (e l c : Int) : ((((W.setCell ⟨s, 0, none⟩ (.int .i64 e)).setCell ⟨s, 1, none⟩ (.string ⟨#[]⟩)).setCell ⟨s, 2, none⟩ (.int .i64 l)).setCell ⟨s, 3, none⟩ (.int .i64 c)).heap[s]? = some (.cells (whCs e l c) 26 (0, 0)) := by
  have h' : W.heap[s]? = _ := h
  unfold whCs at h'
  exact set4 h'
theorem Wh0.turn (W : World) (s : Nat) (e l c : Value) (x : Value) : Turn [s] W ((((W.setCell ⟨s, 0, none⟩ e).setCell ⟨s, 1, none⟩ x).setCell ⟨s, 2, none⟩ l).setCell ⟨s, 3, none⟩ c) :=
  ((((Turn.refl _ W).set (p := ⟨s, 0, none⟩) (by simp) e).set (p := ⟨s, 1, none⟩) (by simp) x).set (p := ⟨s, 2, none⟩) (by simp) l).set (p := ⟨s, 3, none⟩) (by simp) c
/-- how great the lines are that lex reads -/
theorem lex_few {t : List UInt8} {ls : List (Lx.Ln Nat)} (h : Lx.lex t = .ok ls) (ht : t.length ≤ 32768) : ls.length ≤ 98304 ∧ ∀ x ∈ ls, x.words.length ≤ 98304 := by
  have h1 := Lx.lex_size h
  have h2 : ∀ ms : List (Lx.Ln Nat), ms.length ≤ Lx.tot ms ∧ ∀ x ∈ ms, x.words.length ≤ Lx.tot ms := by
    intro ms
    have hw : ∀ ws : List (Lx.W Nat), ws.length ≤ Lx.wsum ws := by
      intro ws
      induction ws with
      | nil => simp
      | cons w ws ih => rw [Lx.wsum_cons, List.length_cons]; omega
    induction ms with
    | nil => exact ⟨Nat.zero_le _, fun x h => by cases h⟩
    | cons y ms ih =>
      rw [Lx.tot_cons]
      refine ⟨by rw [List.length_cons]; omega, fun x hx => ?_⟩
      rcases List.mem_cons.1 hx with rfl | hx
      · have := hw x.words; omega
      · have := ih.2 x hx; omega
  obtain ⟨h3, h4⟩ := h2 ls
  exact ⟨by omega, fun x hx => by have := h4 x hx; omega⟩

theorem alloc2_is (w : World) (cs ds : Array Value) (t1 t2 : TypeId) : ((w.alloc (.cells cs t1)).alloc (.cells ds t2)).heap[w.heap.size]? = some (.cells cs t1 (0, 0)) ∧ ((w.alloc (.cells cs t1)).alloc (.cells ds t2)).heap[w.heap.size + 1]? = some (.cells ds t2 (0, 0)) ∧ Below w.heap.size w ((w.alloc (.cells cs t1)).alloc (.cells ds t2)) ∧ ((w.alloc (.cells cs t1)).alloc (.cells ds t2)).heap.size = w.heap.size + 2 := by
  have hz1 : (w.alloc (.cells cs t1)).heap.size = w.heap.size + 1 := Array.size_push ..
  have h1 := heap_alloc_new w (.cells cs t1)
  have hb := below_box w (.cells cs t1)
  generalize w.alloc (.cells cs t1) = W at *
  have h2 := heap_alloc_new W (.cells ds t2)
  rw [hz1] at h2
  refine ⟨(Below.heap_alloc W _ w.heap.size (by omega)).trans h1, h2, hb.alloc (by omega) _, ?_⟩
  have : (W.alloc (.cells ds t2)).heap.size = W.heap.size + 1 := Array.size_push ..
  omega
/-- a rule and the lines that go on with it -/
theorem lines_next (ps : List (RawL × Lx.L)) (hi : ∀ p ∈ ps, p.1.ind = p.2.ind) (out : List Rl.It) (y : Rl.It) (hk : y.kind = 3) :
    Rl.parse (out ++ [y]) (ps.map Prod.snd) = Rl.parse (out ++ [{ y with code := y.code ++ (ps.take (inds (ps.map Prod.fst))).map Prod.snd }]) ((ps.drop (inds (ps.map Prod.fst))).map Prod.snd) ∧
    Rl.NoTail (out ++ [{ y with code := y.code ++ (ps.take (inds (ps.map Prod.fst))).map Prod.snd }]) ((ps.drop (inds (ps.map Prod.fst))).map Prod.snd) := by
  constructor
  · have h1 := Rl.parse_codes ((ps.take (inds (ps.map Prod.fst))).map Prod.snd) out y ((ps.drop (inds (ps.map Prod.fst))).map Prod.snd) hk (fun l hl => by
      obtain ⟨p, hp, rfl⟩ := List.mem_map.1 hl
      rw [← hi p (List.mem_of_mem_take hp)]
      refine inds_all (ps.map Prod.fst) p.1 ?_
      rw [← List.map_take]
      exact List.mem_map_of_mem hp)
    rw [← h1, ← List.map_append, List.take_append_drop]
  · intro l hl hind
    exfalso
    cases hd : ps.drop (inds (ps.map Prod.fst)) with
    | nil => rw [hd] at hl; simp at hl
    | cons p qs =>
      rw [hd] at hl
      simp only [List.map_cons, List.head?_cons, Option.some.injEq] at hl
      have h2 := inds_next (ps.map Prod.fst) p.1 (by rw [← List.map_drop, hd]; rfl)
      have h3 := hi p (List.mem_of_mem_drop (by rw [hd]; exact List.mem_cons_self))
      rw [← hl, ← h3, h2] at hind
      cases hind

set_option maxRecDepth 100000 in
set_option maxHeartbeats 4000000 in
theorem parse_long (s : ByteArray) (w : World) (hlen : 32768 < s.size) (hs : s.size ≤ 140737488351232) :
    Calls Try.prog 13 #[.string s] w fun e w' => PsOwn w.heap.size e w' (Rl.answer (bs s)) ∧ Below w.heap.size w w' := by
  have HA : Hid _ := Rl.answer_long (t := bs s) (by rw [bs_length]; exact hlen)
  generalize Rl.answer (bs s) = R at *
  have hz1 : (w.alloc (.cells #[.int .i64 0, .string ⟨#[]⟩, .int .i64 0, .int .i64 0] 26)).heap.size = w.heap.size + 1 := Array.size_push ..
  have hw1 : Wh0 (w.alloc (.cells #[.int .i64 0, .string ⟨#[]⟩, .int .i64 0, .int .i64 0] 26)) w.heap.size := heap_alloc_new w _
  have hb1 := below_box w (.cells #[.int .i64 0, .string ⟨#[]⟩, .int .i64 0, .int .i64 0] 26)
  have hLn := fun W : World => Lines_long s W hlen
  have hPl := fun W : World => Place_wide s 32768 W (by omega) hs
  obtain ⟨l0, hl0⟩ : ∃ l0 : Int, ((Lx.place (bs s) 32768).1 : Int) = l0 := ⟨_, rfl⟩
  obtain ⟨c0, hc0⟩ : ∃ c0 : Int, ((Lx.place (bs s) 32768).2 : Int) = c0 := ⟨_, rfl⟩
  rw [hl0, hc0] at hPl HA
  clear hl0 hc0
  go_enter Try.func13, Try.ntmps13
  go_wp2_with fail
  refine (hLn _).mono ?_
  rintro e w2 ⟨rfl, hB2⟩
  have hw2 := Wh0.below hw1 hB2 (by omega)
  have hb2 := hb1.trans (hB2.mono (by omega))
  have hB3 := below_box w2 (.cells #[.int .i64 3, .int .i64 32768] 42)
  have hnew := heap_alloc_new w2 (.cells #[.int .i64 3, .int .i64 32768] 42)
  have hsl : w.heap.size < w2.heap.size := by have := hB2.size; omega
  have hw3 := Wh0.below hw2 hB3 hsl
  have hb3 := hb2.trans (hB3.mono hb2.size)
  go_upto_region 2 with fail
  generalize w2.alloc (.cells #[.int .i64 3, .int .i64 32768] 42) = Z at *
  generalize w2.heap.size = g5 at *
  have s0 : Z.cell? ⟨g5, 0, none⟩ = some (.int .i64 3) := by rw [cell_of_row Z _ 0 _ _ _ hnew]; rfl
  have s1 : Z.cell? ⟨g5, 1, none⟩ = some (.int .i64 32768) := by rw [cell_of_row Z _ 1 _ _ _ hnew]; rfl
  obtain ⟨q0, q1, q2, q3, qf⟩ := hw3.cells
  clear hnew
  go_wp2_with fail
  refine (hPl _).mono ?_
  rintro e w3 ⟨rfl, hw⟩
  have hw5 := hw.symm
  clear hw
  subst hw5
  have hfin := hw3.put 3 l0 c0
  have hbf := (((((hb3.setCell (p := ⟨w.heap.size, 0, none⟩) (Nat.le_refl _) (.int .i64 3)).setCell (p := ⟨w.heap.size, 1, none⟩) (Nat.le_refl _) (.string ⟨#[]⟩)).setCell (p := ⟨w.heap.size, 2, none⟩) (Nat.le_refl _) (.int .i64 l0)).setCell (p := ⟨w.heap.size, 3, none⟩) (Nat.le_refl _) (.int .i64 c0))).drew
  go_wp2_with fail
  go_region
  go_wp2
  refine bodyPost_ret (results_sw (tz := 26) rfl _ _ w.heap.size _ (whCs 3 l0 c0) _ _ _ rfl rfl hfin Try.underlying26 rfl (by kernel_rfl)) rfl ?_
  rw [HA.out]
  exact ⟨⟨none, 0, rfl⟩, hbf⟩
set_option maxRecDepth 100000 in
set_option maxHeartbeats 4000000 in
theorem parse_lexbad (s : ByteArray) (w : World) (hlen : s.size ≤ 32768) (a : Nat) (hlex : Lx.lex (bs s) = .bad a) :
    Calls Try.prog 13 #[.string s] w fun e w' => PsOwn w.heap.size e w' (Rl.answer (bs s)) ∧ Below w.heap.size w w' := by
  have HA : Hid (Rl.answer (bs s) = .bad (6, ((Lx.place (bs s) a).1 : Nat), ((Lx.place (bs s) a).2 : Nat))) := by
    show _ = _
    unfold Rl.answer
    rw [if_neg (by rw [bs_length]; omega), hlex]
  have hLn := fun W : World => Lines_any s W hlen
  rw [hlex] at hLn
  have hPl := fun W : World => Place_any s a W (by omega)
  unfold placeI at hPl
  rw [Int.toNat_natCast] at hPl
  generalize Rl.answer (bs s) = R at *
  have hz1 : (w.alloc (.cells #[.int .i64 0, .string ⟨#[]⟩, .int .i64 0, .int .i64 0] 26)).heap.size = w.heap.size + 1 := Array.size_push ..
  have hw1 : Wh0 (w.alloc (.cells #[.int .i64 0, .string ⟨#[]⟩, .int .i64 0, .int .i64 0] 26)) w.heap.size := heap_alloc_new w _
  have hb1 := below_box w (.cells #[.int .i64 0, .string ⟨#[]⟩, .int .i64 0, .int .i64 0] 26)
  obtain ⟨l0, hl0⟩ : ∃ l0 : Int, ((Lx.place (bs s) a).1 : Int) = l0 := ⟨_, rfl⟩
  obtain ⟨c0, hc0⟩ : ∃ c0 : Int, ((Lx.place (bs s) a).2 : Int) = c0 := ⟨_, rfl⟩
  rw [hl0, hc0] at hPl HA
  clear hl0 hc0
  clear hlex
  go_enter Try.func13, Try.ntmps13
  go_wp2_with fail
  refine (hLn _).mono ?_
  rintro e w2 ⟨hE, hB2⟩
  simp only [LsEnd] at hE
  subst hE
  have hw2 := Wh0.below hw1 hB2 (by omega)
  have hb2 := hb1.trans (hB2.mono (by omega))
  have hB3 := below_box w2 (.cells #[.int .i64 6, .int .i64 (a : Int)] 42)
  have hnew := heap_alloc_new w2 (.cells #[.int .i64 6, .int .i64 (a : Int)] 42)
  have hsl : w.heap.size < w2.heap.size := by have := hB2.size; omega
  have hw3 := Wh0.below hw2 hB3 hsl
  have hb3 := hb2.trans (hB3.mono hb2.size)
  go_upto_region 2 with fail
  generalize w2.alloc (.cells #[.int .i64 6, .int .i64 (a : Int)] 42) = Z at *
  generalize w2.heap.size = g5 at *
  have s0 : Z.cell? ⟨g5, 0, none⟩ = some (.int .i64 6) := by rw [cell_of_row Z _ 0 _ _ _ hnew]; rfl
  have s1 : Z.cell? ⟨g5, 1, none⟩ = some (.int .i64 (a : Int)) := by rw [cell_of_row Z _ 1 _ _ _ hnew]; rfl
  obtain ⟨q0, q1, q2, q3, qf⟩ := hw3.cells
  clear hnew
  go_wp2_with fail
  refine (hPl _).mono ?_
  rintro e w3 ⟨rfl, hw⟩
  have hw5 := hw.symm
  clear hw
  subst hw5
  have hfin := hw3.put 6 l0 c0
  have hbf := (((((hb3.setCell (p := ⟨w.heap.size, 0, none⟩) (Nat.le_refl _) (.int .i64 6)).setCell (p := ⟨w.heap.size, 1, none⟩) (Nat.le_refl _) (.string ⟨#[]⟩)).setCell (p := ⟨w.heap.size, 2, none⟩) (Nat.le_refl _) (.int .i64 l0)).setCell (p := ⟨w.heap.size, 3, none⟩) (Nat.le_refl _) (.int .i64 c0))).drew
  go_wp2_with fail
  go_region
  go_wp2
  refine bodyPost_ret (results_sw (tz := 26) rfl _ _ w.heap.size _ (whCs 6 l0 c0) _ _ _ rfl rfl hfin Try.underlying26 rfl (by kernel_rfl)) rfl ?_
  rw [HA.out]
  exact ⟨⟨none, 0, rfl⟩, hbf⟩
set_option maxRecDepth 100000 in
set_option maxHeartbeats 4000000 in
theorem parse_lexok (s : ByteArray) (w : World) (hlen : s.size ≤ 32768) (ls : List (Lx.Ln Nat)) (hlex : Lx.lex (bs s) = .ok ls) :
    Calls Try.prog 13 #[.string s] w fun e w' => PsOwn w.heap.size e w' (Rl.answer (bs s)) ∧ Below w.heap.size w w' := by
  have HA : Hid (Rl.answer (bs s) = Rl.parse [] (ls.map (Lx.toldL (bs s)))) := by
    show _ = _
    unfold Rl.answer
    rw [if_neg (by rw [bs_length]; omega), hlex]
  have HNB : Hid (∀ x, Rl.answer (bs s) = .bad x → x.1 ≠ 0) := fun x hx => Rl.answer_bad hx
  have hLn := fun W : World => Lines_any s W hlen
  rw [hlex] at hLn
  have hok := Rl.told_ok hlex
  have hfew := lex_few hlex (by rw [bs_length]; exact hlen)
  have HFEW : Hid ((ls.map (Lx.toldL (bs s))).length ≤ 98304 ∧ ∀ x ∈ ls.map (Lx.toldL (bs s)), x.words.length ≤ 98304) := by
    refine ⟨by rw [List.length_map]; exact hfew.1, fun x hx => ?_⟩
    obtain ⟨y, hy, rfl⟩ := List.mem_map.1 hx
    simp only [Lx.toldL, List.length_map]
    exact hfew.2 y hy
  have HOK : Hid (∀ x ∈ ls.map (Lx.toldL (bs s)), Rl.Lexed x) := fun x hx => ⟨(hok x hx).1, fun u hu hm => by
    have := (hok x hx).2 u hu
    unfold Rl.okW at this
    rw [if_pos hm] at this
    simp only [Bool.true_and, Bool.and_eq_true, Bool.or_eq_true, decide_eq_true_eq] at this
    exact this.2⟩
  clear hok hfew
  generalize Rl.answer (bs s) = R at *
  have hz1 : (w.alloc (.cells #[.int .i64 0, .string ⟨#[]⟩, .int .i64 0, .int .i64 0] 26)).heap.size = w.heap.size + 1 := Array.size_push ..
  have hw1 : Wh0 (w.alloc (.cells #[.int .i64 0, .string ⟨#[]⟩, .int .i64 0, .int .i64 0] 26)) w.heap.size := heap_alloc_new w _
  have hb1 := below_box w (.cells #[.int .i64 0, .string ⟨#[]⟩, .int .i64 0, .int .i64 0] 26)
  clear hlex
  go_enter Try.func13, Try.ntmps13
  go_wp2_with fail
  refine (hLn _).mono ?_
  rintro e w2 ⟨hE, hB2⟩
  obtain ⟨v, rfl, hLO⟩ := hE
  generalize ls.map (Lx.toldL (bs s)) = L at *
  have hw2 := Wh0.below hw1 hB2 (by omega)
  have hb2 := hb1.trans (hB2.mono (by omega))
  have hB3 := below_box w2 (.cells #[.int .i64 0, .int .i64 0] 42)
  have hnew := heap_alloc_new w2 (.cells #[.int .i64 0, .int .i64 0] 42)
  have hsl : w.heap.size < w2.heap.size := by have := hB2.size; omega
  have hw3 := Wh0.below hw2 hB3 hsl
  have hb3 := hb2.trans (hB3.mono hb2.size)
  have hsZ0 := Nat.lt_of_lt_of_le hsl hB3.size
  obtain ⟨ps, hP1, hP2, hP3, -⟩ := hLO
  rw [hz1] at hP1 hP3
  have hP1' := hP1.alloc (.cells #[.int .i64 0, .int .i64 0] 42)
  have hLn3 : ∀ p ∈ ps, LineOf (w2.alloc (.cells #[.int .i64 0, .int .i64 0] 42)) (w.heap.size + 1) p.1 p.2 ∧ ∀ g, p.1.words.ownBlock = some g → g < (w2.alloc (.cells #[.int .i64 0, .int .i64 0] 42)).heap.size := fun p hp => ⟨(hP3 p hp).alloc _, fun g hg => Nat.lt_of_lt_of_le ((hP3 p hp).2.2.lt g hg).2 hB3.size⟩
  have hv3 := hP1'.sl
  obtain ⟨ad, n, c, rfl⟩ := hP1.isSl
  clear hP1 hP1' hP3
  subst hP2
  go_upto_region 2 with fail
  generalize w2.alloc (.cells #[.int .i64 0, .int .i64 0] 42) = Z at *
  generalize w2.heap.size = g5 at *
  have s0 : Z.cell? ⟨g5, 0, none⟩ = some (.int .i64 0) := by rw [cell_of_row Z _ 0 _ _ _ hnew]; rfl
  have s1 : Z.cell? ⟨g5, 1, none⟩ = some (.int .i64 0) := by rw [cell_of_row Z _ 1 _ _ _ hnew]; rfl
  obtain ⟨q0, q1, q2, q3, qf⟩ := hw3.cells
  clear hnew
  have HLN : Hid _ := hLn3
  clear hLn3 hLn
  have hsZ : w.heap.size < Z.heap.size := hsZ0
  clear hsZ0
  have HW3 : Hid _ := hw3
  clear hw3 q0 q1 q2 q3 qf hw2 hb2 hB2 hB3 hw1 hb1 hz1
  go_wp2
  go_loopw [4, 8] (fun v4 v8 X => ∃ (k : Nat) (out : List (RawI × Rl.It)), k ≤ ps.length ∧ LnR.Sl Z Z.heap.size v4 ((ps.map Prod.fst).drop k) ∧ ItR.Own X Z.heap.size v8 (out.map Prod.fst) ∧ (∀ q ∈ out, ItOwn X (w.heap.size + 1) Z.heap.size q.1 q.2) ∧ Hid (out.Pairwise Rise) ∧ Hid (out.length ≤ k) ∧ Hid (R = Rl.parse (out.map Prod.snd) ((ps.map Prod.snd).drop k)) ∧ Hid (Rl.NoTail (out.map Prod.snd) ((ps.map Prod.snd).drop k)) ∧ Below Z.heap.size Z X) (fun v4 _ _ => lenV v4)
  case atStart => exact ⟨0, [], Nat.zero_le _, hv3, Rc.Own.nil _ _, (fun q h => by cases h), .nil, Nat.le_refl _, HA.out, (fun l _ _ x h => by simp at h), Below.refl _ _⟩
  case round =>
    obtain ⟨k, out, hk, hv4, hO8, hIt, HPW, HOL, HPQ, HNT, hBX⟩ := hrel
    obtain ⟨a8, n8, c8, rfl⟩ := hO8.isSl
    obtain ⟨ad4, c4, rfl, hc4⟩ := hv4.shape
    obtain ⟨n4, hn4⟩ : ∃ n4, ((ps.map Prod.fst).drop k).length = n4 := ⟨_, rfl⟩
    rw [hn4] at hv4 hc4 ⊢
    have hn5 : n4 = ps.length - k := by rw [← hn4]; simp
    have HN4 : Hid _ := hn5
    clear hn4 hn5
    by_cases hlt : k < ps.length
    · have i1 : (0 : Int) < (n4 : Int) := by have := HN4.out; omega
      obtain ⟨p, hp⟩ : ∃ p, ps[k] = p := ⟨_, rfl⟩
      have hmem : p ∈ ps := by rw [← hp]; exact List.getElem_mem hlt
      have hdS : (ps.map Prod.snd).drop k = p.2 :: (ps.map Prod.snd).drop (k + 1) := by
        rw [List.drop_eq_getElem_cons (by rw [List.length_map]; exact hlt)]; simp [hp]
      obtain ⟨b, o, c', e, hb, r0, r1, r2⟩ := LnR.at (hv4.below hBX (Nat.le_refl _)) 0 (by simp; omega)
      simp only [Value.slice.injEq] at e
      obtain ⟨rfl, -, rfl⟩ := e
      have h0 : ((ps.map Prod.fst).drop k)[0]'(by simp; omega) = p.1 := by simp [hp]
      rw [h0] at r0 r1 r2
      clear h0 hp
      obtain ⟨⟨hnum, hind, hOw⟩, -⟩ := HLN.out p hmem
      have hOr := hOw.below hBX (Nat.le_refl _)
      have hlx := HOK.out p.2 (List.mem_map_of_mem hmem)
      have hwl := HFEW.out.2 p.2 (List.mem_map_of_mem hmem)
      rw [hdS] at HPQ HNT
      have HMEM : Hid _ := hmem
      clear hdS hmem
      obtain ⟨⟨rn, ri, ra, rl, rc⟩, ⟨num, ind, ws⟩⟩ := p
      simp only at hnum hind r0 r1 r2
      subst hnum hind
      replace r0 : wr.cell? ⟨b, o, none⟩ = some (.int .i64 rn) := r0
      replace r1 : wr.cell? ⟨b, o + 1, none⟩ = some (.bool ri) := r1
      replace r2 : wr.cell? ⟨b, o + 2, none⟩ = some (.slice ra rl rc) := r2
      obtain ⟨hne, hmk⟩ := hlx
      obtain ⟨u, r, rfl⟩ : ∃ u r, ws = u :: r := by
        cases ws with
        | nil => exact absurd rfl hne
        | cons u r => exact ⟨u, r, rfl⟩
      have hSw := hOr.sl
      obtain ⟨ra', rc', e, -⟩ := hSw.shape
      simp only [RawL.words, Value.slice.injEq, List.length_cons] at e
      obtain ⟨rfl, rfl, rfl⟩ := e
      have hrd := read_any rn ri ra rc u r wr wr.heap.size hSw (Nat.le_refl _) hmk (by simp only [List.length_cons] at hwl; omega)
      have HPR : Hid _ := HPQ.out.trans (Rl.parse_read HNT.out)
      unfold lnV at hrd
      clear hSw hOr hOw hne hmk hwl HPQ HNT
      have hcs : (∃ x, Rl.readR ⟨rn, ri, u :: r⟩ = .bad x) ∨ ∃ x, Rl.readR ⟨rn, ri, u :: r⟩ = .ok x := by
        cases Rl.readR ⟨rn, ri, u :: r⟩ with
        | bad x => exact .inl ⟨x, rfl⟩
        | ok x => exact .inr ⟨x, rfl⟩
      have hwX := Wh0.below HW3.out hBX hsZ
      have hbX : Below w.heap.size w wr := hb3.trans (hBX.mono hb3.size)
      have hsX : w.heap.size < wr.heap.size := Nat.lt_of_lt_of_le hsZ hBX.size
      rcases hcs with ⟨⟨er, i⟩, hRR⟩ | ⟨y, hRR⟩
      · rw [hRR] at hrd
        have HRB : Hid (R = .bad (er, ((u :: r).getD i Lx.noV).line, ((u :: r).getD i Lx.noV).col)) := by
          show _ = _
          rw [HPR.out, hRR]
          rfl
        have her : (er != 0) = true := by rw [bne_iff_ne]; exact HNB.out _ HRB.out
        obtain ⟨l0, hl0⟩ : ∃ l0, ((u :: r).getD i Lx.noV).line = l0 := ⟨_, rfl⟩
        obtain ⟨c0, hc0⟩ : ∃ c0, ((u :: r).getD i Lx.noV).col = c0 := ⟨_, rfl⟩
        simp only [RdEnd] at hrd
        rw [hl0, hc0] at hrd HRB
        clear hl0 hc0 HPR hRR hv4 hIt hO8
        unfold itV itCells whCs noRaw at hrd
        go_wp2_with fail
        refine hrd.mono ?_
        rintro e w4 ⟨rfl, hB4⟩
        have hwY := Wh0.below hwX hB4 hsX
        have hbY := hbX.trans (hB4.mono hbX.size)
        obtain ⟨d1, d2, d3, d4⟩ := alloc2_is w4 #[.int .i64 0, .int .i64 0, .string (str []), .slice none 0 0, .slice none 0 0, .slice none 0 0] #[.int .i64 er, .string .empty, .int .i64 l0, .int .i64 c0] 33 26
        have hsY : w.heap.size < w4.heap.size := Nat.lt_of_lt_of_le hsX hB4.size
        have hwV := Wh0.below hwY d3 hsY
        have hbV := hbY.trans (d3.mono hbY.size)
        go_upto_region 8 with fail
        generalize (w4.alloc (.cells #[.int .i64 0, .int .i64 0, .string (str []), .slice none 0 0, .slice none 0 0, .slice none 0 0] 33)).alloc (.cells #[.int .i64 er, .string .empty, .int .i64 l0, .int .i64 c0] 26) = V at *
        generalize w4.heap.size = g9 at *
        have t0 : V.cell? ⟨g9 + 1, 0, none⟩ = some (.int .i64 er) := by rw [cell_of_row V _ 0 _ _ _ d2]; rfl
        have t1 : V.cell? ⟨g9 + 1, 1, none⟩ = some (.string ⟨#[]⟩) := by rw [cell_of_row V _ 1 _ _ _ d2]; rfl
        have t2 : V.cell? ⟨g9 + 1, 2, none⟩ = some (.int .i64 l0) := by rw [cell_of_row V _ 2 _ _ _ d2]; rfl
        have t3 : V.cell? ⟨g9 + 1, 3, none⟩ = some (.int .i64 c0) := by rw [cell_of_row V _ 3 _ _ _ d2]; rfl
        obtain ⟨q0, q1, q2, q3, qf⟩ := hwV.cells
        have hfin := hwV.put er l0 c0
        have hbf := (((((hbV.setCell (p := ⟨w.heap.size, 0, none⟩) (Nat.le_refl _) (.int .i64 er)).setCell (p := ⟨w.heap.size, 1, none⟩) (Nat.le_refl _) (.string ⟨#[]⟩)).setCell (p := ⟨w.heap.size, 2, none⟩) (Nat.le_refl _) (.int .i64 l0)).setCell (p := ⟨w.heap.size, 3, none⟩) (Nat.le_refl _) (.int .i64 c0))).drew
        clear d1 d2 d3 d4 hrd
        go_wp2_with fail
        go_region
        go_wp2
        refine bodyPost_ret (results_sw (tz := 26) rfl _ _ w.heap.size _ (whCs er l0 c0) _ _ _ rfl rfl hfin Try.underlying26 rfl (by kernel_rfl)) rfl ?_
        rw [HRB.out]
        exact ⟨⟨none, 0, rfl⟩, hbf⟩
      · rw [hRR] at hrd
        have HPN0 : Hid (R = Rl.parse (out.map Prod.snd ++ [y]) ((ps.map Prod.snd).drop (k + 1))) := by
          show _ = _
          rw [HPR.out, hRR]
        clear HPR hRR
        simp only [RdEnd] at hrd
        obtain ⟨A1, hs1, hv5⟩ := Rc.slice_tail hv4 1 (by simp; omega)
        rw [List.drop_drop] at hv5
        obtain ⟨n5, hn5⟩ : ∃ n5, n4 - 1 = n5 := ⟨_, rfl⟩
        rw [hn5] at hs1 hv5
        have HN5 : Hid (n5 = ps.length - (k + 1)) := by show _ = _; have := HN4.out; omega
        have hs1' : ∀ W : World, (Instr.slice 31 (.slice (some ⟨b, o, none⟩) n4 c4) (some (.int .i64 1)) none none).run Try.prog W = .ok (.slice A1 n5 (c4 - 1)) W := hs1
        clear hn5 hs1
        go_wp2_with fail
        refine hrd.mono ?_
        rintro e w4 ⟨⟨r0, rfl, hN⟩, hB4⟩
        obtain ⟨kd, ln, nm, ta, tn, tc, wa, wn, wc_, ca, cn, cc⟩ := r0
        have hcd := hN.code
        simp only at hcd
        obtain ⟨rfl, rfl, rfl, hyc⟩ := hcd
        have HYC : Hid _ := hyc
        clear hyc hrd
        unfold itV itCells whCs
        obtain ⟨d1, d2, d3, d4⟩ := alloc2_is w4 #[.int .i64 kd, .int .i64 ln, .string (str nm), .slice ta tn tc, .slice wa wn wc_, .slice none 0 0] #[.int .i64 0, .string .empty, .int .i64 0, .int .i64 0] 33 26
        have HS4 : Hid (wr.heap.size ≤ w4.heap.size) := hB4.size
        have hN5 := hN.below d3 (Nat.le_refl _)
        have hBV : Below wr.heap.size wr ((w4.alloc (.cells #[.int .i64 kd, .int .i64 ln, .string (str nm), .slice ta tn tc, .slice wa wn wc_, .slice none 0 0] 33)).alloc (.cells #[.int .i64 0, .string .empty, .int .i64 0, .int .i64 0] 26)) := hB4.trans (d3.mono hB4.size)
        have HRI0 : Hid (∀ q ∈ out, ∀ (ca' : Option Addr) (cn' cc' : Nat) (x1 : Rl.It), Rise q (⟨kd, ln, nm, ta, tn, tc, wa, wn, wc_, ca', cn', cc'⟩, x1)) := fun q hq ca' cn' cc' x1 g g' hg hg' => by
          have h1 := ((hIt q hq).blk hg).2
          have h2 := (hN.blk (g := g') hg').1
          omega
        have HKD : Hid (kd = y.kind) := hN.kind
        have HN : Hid _ := hN
        have HB4 : Hid _ := d3
        go_upto_region 8 with fail
        clear hN
        generalize (w4.alloc (.cells #[.int .i64 kd, .int .i64 ln, .string (str nm), .slice ta tn tc, .slice wa wn wc_, .slice none 0 0] 33)).alloc (.cells #[.int .i64 0, .string .empty, .int .i64 0, .int .i64 0] 26) = V at *
        have t0 : V.cell? ⟨w4.heap.size + 1, 0, none⟩ = some (.int .i64 0) := by rw [cell_of_row V _ 0 _ _ _ d2]; rfl
        have u0 : V.cell? ⟨w4.heap.size, 0, none⟩ = some (.int .i64 kd) := by rw [cell_of_row V _ 0 _ _ _ d1]; rfl
        have HVZ : Hid _ := d4
        clear d2 d3 d4 hB4
        by_cases hk3 : kd = 3
        · have j1 : (kd == 3) = true := by rw [beq_iff_eq]; exact hk3
          obtain ⟨qs, hqs⟩ : ∃ qs, ps.drop (k + 1) = qs := ⟨_, rfl⟩
          have hqF : (ps.map Prod.fst).drop (k + 1) = qs.map Prod.fst := by rw [← hqs, List.map_drop]
          have hqS : (ps.map Prod.snd).drop (k + 1) = qs.map Prod.snd := by rw [← hqs, List.map_drop]
          have hqm : ∀ q ∈ qs, q ∈ ps := fun q hq => by rw [← hqs] at hq; exact List.mem_of_mem_drop hq
          rw [show k + 1 = k + 1 from rfl] at hqF
          have hql : qs.length = n5 := by rw [← hqs, List.length_drop]; have := HN5.out; omega
          obtain ⟨hnx1, hnx2⟩ := lines_next qs (fun q hq => (HLN.out q (hqm q hq)).1.2.1) (out.map Prod.snd) y (by rw [← HKD.out]; exact hk3)
          have hv6 : LnR.Sl Z Z.heap.size (.slice A1 n5 (c4 - 1)) (qs.map Prod.fst) := by
            rw [← hqF]
            exact hv5
          have hml := inds_le (qs.map Prod.fst)
          obtain ⟨m, hm⟩ : ∃ m, inds (qs.map Prod.fst) = m := ⟨_, rfl⟩
          have HPS : Hid (qs.drop m = ps.drop (k + 1 + m)) := by show _ = _; rw [← hqs, List.drop_drop]
          rw [hm] at hnx1 hnx2 hml
          rw [List.length_map, hql] at hml
          have hBZV : Below Z.heap.size Z V := hBX.trans (hBV.mono hBX.size)
          have hin := indented_any _ _ V Z.heap.size (hv6.below hBZV (Nat.le_refl _)) hBZV.size (by rw [List.length_map, hql]; have := HN5.out; have := HFEW.out.1; simp only [List.length_map] at this; omega)
          rw [hm] at hin
          have HX1 : Hid (R = Rl.parse (out.map Prod.snd ++ [{ y with code := y.code ++ (qs.take m).map Prod.snd }]) ((ps.map Prod.snd).drop (k + 1 + m))) := by
            show _ = _
            rw [HPN0.out, hqS, hnx1, HPS.out, List.map_drop]
          have HX2 : Hid (Rl.NoTail (out.map Prod.snd ++ [{ y with code := y.code ++ (qs.take m).map Prod.snd }]) ((ps.map Prod.snd).drop (k + 1 + m))) := by
            show Rl.NoTail _ _
            rw [← List.map_drop, ← HPS.out]
            exact hnx2
          obtain ⟨-, -, hcm⟩ : (∃ ad' c', Value.slice A1 n5 (c4 - 1) = .slice ad' n5 c') ∧ True ∧ n5 ≤ c4 - 1 := by
            obtain ⟨ad', c', e, h⟩ := hv6.shape
            simp only [Value.slice.injEq] at e
            obtain ⟨rfl, -, rfl⟩ := e
            rw [List.length_map, hql] at h
            exact ⟨⟨_, _, rfl⟩, trivial, h⟩
          have hsh := fun W : World => LnR.slice_head W A1 n5 (c4 - 1) m (by omega)
          have hvh := hv6.head m (by rw [List.length_map, hql]; exact hml)
          rw [← List.map_take] at hvh
          obtain ⟨A2, hs2, hv7⟩ := Rc.slice_tail hv6 m (by rw [List.length_map, hql]; exact hml)
          rw [← List.map_drop, HPS.out] at hv7
          have HV7 : Hid (LnR.Sl Z Z.heap.size (.slice A2 (n5 - m) (c4 - 1 - m)) ((ps.map Prod.fst).drop (k + 1 + m))) := by
            show LnR.Sl _ _ _ _
            rw [← List.map_drop]
            exact hv7
          have HQM : Hid _ := hqm
          have HML : Hid _ := hml
          have hml2 : (m : Int) ≤ 98304 := by have := HN5.out; have := HFEW.out.1; simp only [List.length_map] at this; omega
          have hsh' : ∀ W : World, (Instr.slice 31 (.slice A1 n5 (c4 - 1)) none (some (.int .i64 (m : Int))) none).run Try.prog W = .ok (.slice A1 m (c4 - 1)) W := hsh
          obtain ⟨n7, hn7⟩ : ∃ n7, n5 - m = n7 := ⟨_, rfl⟩
          rw [hn7] at hs2 HV7
          have HN7 : Hid _ := hn7
          have hs2' : ∀ W : World, (Instr.slice 31 (.slice A1 n5 (c4 - 1)) (some (.int .i64 (m : Int))) none none).run Try.prog W = .ok (.slice A2 n7 (c4 - 1 - m)) W := hs2
          have hcl := fun (W : World) (h : Below Z.heap.size Z W) => CloneL_any ((qs.take m).map Prod.fst) (.slice A1 m (c4 - 1)) Z.heap.size W (hvh.below h (Nat.le_refl _)) h.size (by rw [List.length_map, List.length_take]; have := HML.out; have := HN5.out; have := HFEW.out.1; simp only [List.length_map] at this; omega)
          clear hnx1 hnx2 hqF hqS hqm hql hm hqs hv6 hv7 hs2 hsh hn7 hml hk3 hv5 hv4 hvh HPN0
          go_wp2_with fail
          refine hin.mono ?_
          rintro e w6 ⟨rfl, hB6⟩
          have hBZ6 : Below Z.heap.size Z w6 := hBZV.trans (hB6.mono hBZV.size)
          go_wp2_with fail
          refine (hcl _ hBZ6).mono ?_
          rintro e w7 ⟨v7, rfl, hO7, hB7⟩
          obtain ⟨a7, n8', c7, rfl⟩ := hO7.isSl
          have hVs : w4.heap.size < V.heap.size := by have := HVZ.out; omega
          have hV6 : w4.heap.size < w6.heap.size := Nat.lt_of_lt_of_le hVs hB6.size
          have hB67 : Below V.heap.size V w7 := hB6.trans (hB7.mono hB6.size)
          have e7 := (hB67.block _ hVs).trans d1
          have e8 := heap_setCell_same w7 w4.heap.size 5 _ _ (.slice a7 n8' c7) e7
          have f7 := frozen_of_row w7 w4.heap.size 5 _ _ e7
          have k7 : w7.cell? ⟨w4.heap.size, 5, none⟩ = some (.slice none 0 0) := by rw [cell_of_row w7 _ 5 _ _ _ e7]; rfl
          have hBV7 : Below wr.heap.size wr (w7.setCell ⟨w4.heap.size, 5, none⟩ (.slice a7 n8' c7)) := (hBV.trans (hB67.mono hBV.size)).setCell (p := ⟨w4.heap.size, 5, none⟩) HS4.out _
          have hT7 : Turn [w4.heap.size] w7 (w7.setCell ⟨w4.heap.size, 5, none⟩ (.slice a7 n8' c7)) := (Turn.refl _ w7).set (p := ⟨w4.heap.size, 5, none⟩) (by simp) _
          have hO8c := hO7.turn1 hT7 hV6
          have hN7 : ItNew (w7.setCell ⟨w4.heap.size, 5, none⟩ (.slice a7 n8' c7)) wr.heap.size ⟨kd, ln, nm, ta, tn, tc, wa, wn, wc_, none, 0, 0⟩ y := HN.out.below ((HB4.out.trans (hB67.mono HB4.out.size)).setCell (p := ⟨w4.heap.size, 5, none⟩) (Nat.le_refl _) _) (Nat.le_refl _)
          go_upto_region 14 with fail
          clear k7 f7 e7 hT7
          generalize w7.setCell ⟨w4.heap.size, 5, none⟩ (.slice a7 n8' c7) = U at *
          have HBU : Hid (Below Z.heap.size Z U) := hBX.trans (hBV7.mono hBX.size)
          have u0 : U.cell? ⟨w4.heap.size, 0, none⟩ = some (.int .i64 kd) := by rw [cell_of_row U _ 0 _ _ _ e8]; rfl
          have u1 : U.cell? ⟨w4.heap.size, 1, none⟩ = some (.int .i64 ln) := by rw [cell_of_row U _ 1 _ _ _ e8]; rfl
          have u2 : U.cell? ⟨w4.heap.size, 2, none⟩ = some (.string (str nm)) := by rw [cell_of_row U _ 2 _ _ _ e8]; rfl
          have u3 : U.cell? ⟨w4.heap.size, 3, none⟩ = some (.slice ta tn tc) := by rw [cell_of_row U _ 3 _ _ _ e8]; rfl
          have u4 : U.cell? ⟨w4.heap.size, 4, none⟩ = some (.slice wa wn wc_) := by rw [cell_of_row U _ 4 _ _ _ e8]; rfl
          have u5 : U.cell? ⟨w4.heap.size, 5, none⟩ = some (.slice a7 n8' c7) := by rw [cell_of_row U _ 5 _ _ _ e8]; rfl
          have hI1 : ItOwn U (w.heap.size + 1) Z.heap.size ⟨kd, ln, nm, ta, tn, tc, wa, wn, wc_, a7, n8', c7⟩ { y with code := y.code ++ (qs.take m).map Prod.snd } :=
            hN7.own (base := w.heap.size + 1) (M := Z.heap.size) (ps := qs.take m) hBX.size (hO8c.low hBZ6.size) (fun q hq => by
              obtain ⟨h1, h2⟩ := HLN.out q (HQM.out q (List.mem_of_mem_take hq))
              exact ⟨h1.below HBU.out (Nat.le_refl _), h2⟩)
          have HRI : Hid (∀ q ∈ out, Rise q ((⟨kd, ln, nm, ta, tn, tc, wa, wn, wc_, a7, n8', c7⟩ : RawI), ({ y with code := y.code ++ (qs.take m).map Prod.snd } : Rl.It))) := fun q hq => HRI0.out q hq _ _ _ _
          have hBt := hBV7
          have HKL : Hid (k + 1 + m ≤ ps.length) := by show _ ≤ _; have := HML.out; have := HN5.out; omega
          have HPN : Hid _ := HX1.out
          have HNN : Hid _ := HX2.out
          have HME : Hid (n7 < n4) := by show _ < _; have := HN7.out; have := HN5.out; have := HN4.out; omega
          clear d1 e8 hN5 hBV HRI0 hO7 hO8c hN7 hB6 hB7 hB67 hcl hin hBV7 hBZ6 hBZV hV6 hVs hs1' hsh' t0
          have hLit := ItR.lit U ⟨kd, ln, nm, ta, tn, tc, wa, wn, wc_, a7, n8', c7⟩ #[.int .i64 kd, .int .i64 ln, .string (str nm), .slice ta tn tc, .slice wa wn wc_, .slice a7 n8' c7] rfl
          have hO8t := (hO8.below hBt (Nat.le_refl _)).alloc (.cells #[.int .i64 kd, .int .i64 ln, .string (str nm), .slice ta tn tc, .slice wa wn wc_, .slice a7 n8' c7] 33)
          have hItt : ∀ q ∈ out, ItOwn (U.alloc (.cells #[.int .i64 kd, .int .i64 ln, .string (str nm), .slice ta tn tc, .slice wa wn wc_, .slice a7 n8' c7] 33)) (w.heap.size + 1) Z.heap.size q.1 q.2 := fun q hq => ((hIt q hq).below hBt (Nat.le_refl _)).below (below_box U _) (Nat.le_refl _)
          have hI2 := hI1.below (below_box U (.cells #[.int .i64 kd, .int .i64 ln, .string (str nm), .slice ta tn tc, .slice wa wn wc_, .slice a7 n8' c7] 33)) (Nat.le_refl _)
          have hBZt : Below Z.heap.size Z U := hBX.trans (hBt.mono hBX.size)
          have hBZa := hBZt.alloc hBZt.size (.cells #[.int .i64 kd, .int .i64 ln, .string (str nm), .slice ta tn tc, .slice wa wn wc_, .slice a7 n8' c7] 33)
          have HLn : Hid ((out.map Prod.fst).length + ([⟨kd, ln, nm, ta, tn, tc, wa, wn, wc_, a7, n8', c7⟩] : List RawI).length ≤ 1099511627) := by
            show _ ≤ _
            have := HOL.out
            have := HFEW.out.1
            simp only [List.length_cons, List.length_nil, List.length_map] at *
            omega
          have HPU : Hid _ := fun (v' : Value) (w' : World) => ItsOwn.push (v' := v') (w' := w') hO8t hItt HPW.out hI2
          have HHL : Hid _ := hI1
          clear hI1 hI2 hItt hIt
          go_wp2_with (at_builtin; go_must (refine ItR.append rfl _ _ rfl Z.heap.size (U.heap.size + 1) _ _ (out.map Prod.fst) [⟨kd, ln, nm, ta, tn, tc, wa, wn, wc_, a7, n8', c7⟩] rfl hO8t rfl hLit HLn hBZa.size ?_))
          intro v9 w9 hO9 hg9
          obtain ⟨g1, g2, g3⟩ := HPU.out v9 w9 hO9 hg9 HRI.out
          have G3 : Hid _ := g3
          obtain ⟨a9, n9, c9, rfl⟩ := hO9.isSl
          have hB9 : Below Z.heap.size Z w9 := hBZa.grown hg9 hBZa.size fun q hq => (World.ownsRow.lt hO8t q hq).1
          clear hO8t hLit hO9 hg9 HPU HLn
          go_wp2
          exact ⟨⟨k + 1 + m, out ++ [(⟨kd, ln, nm, ta, tn, tc, wa, wn, wc_, a7, n8', c7⟩, { y with code := y.code ++ (qs.take m).map Prod.snd })], HKL.out, HV7.out, g1, g2, G3, by show _ ≤ _; have := HOL.out; simp only [List.length_append, List.length_cons, List.length_nil]; omega, by show _ = _; rw [List.map_append]; exact HPN.out, by show Rl.NoTail _ _; rw [List.map_append]; exact HNN.out, hB9⟩, HME.out⟩
        · have j1 : (kd == 3) = false := by rw [beq_eq_false_iff_ne]; exact hk3
          have u1 : V.cell? ⟨w4.heap.size, 1, none⟩ = some (.int .i64 ln) := by rw [cell_of_row V _ 1 _ _ _ d1]; rfl
          have u2 : V.cell? ⟨w4.heap.size, 2, none⟩ = some (.string (str nm)) := by rw [cell_of_row V _ 2 _ _ _ d1]; rfl
          have u3 : V.cell? ⟨w4.heap.size, 3, none⟩ = some (.slice ta tn tc) := by rw [cell_of_row V _ 3 _ _ _ d1]; rfl
          have u4 : V.cell? ⟨w4.heap.size, 4, none⟩ = some (.slice wa wn wc_) := by rw [cell_of_row V _ 4 _ _ _ d1]; rfl
          have u5 : V.cell? ⟨w4.heap.size, 5, none⟩ = some (.slice none 0 0) := by rw [cell_of_row V _ 5 _ _ _ d1]; rfl
          have hI1 : ItOwn V (w.heap.size + 1) Z.heap.size ⟨kd, ln, nm, ta, tn, tc, wa, wn, wc_, none, 0, 0⟩ y := by
            have := hN5.own (base := w.heap.size + 1) (M := Z.heap.size) (ps := []) hBX.size (ca := none) (cn := 0) (cc := 0) (Rc.Own.nil _ _) (fun _ h => by cases h)
            rw [List.map_nil, List.append_nil] at this
            exact this
          have HRI : Hid (∀ q ∈ out, Rise q ((⟨kd, ln, nm, ta, tn, tc, wa, wn, wc_, none, 0, 0⟩ : RawI), y)) := fun q hq => HRI0.out q hq _ _ _ _
          have hBt := hBV
          have HKL : Hid (k + 1 ≤ ps.length) := hlt
          have HPN : Hid _ := HPN0.out
          have HNN : Hid (Rl.NoTail (out.map Prod.snd ++ [y]) ((ps.map Prod.snd).drop (k + 1))) := fun l _ _ x hx => by
            simp only [List.getLast?_append, List.getLast?_singleton, Option.some_or, Option.some.injEq] at hx
            rw [← hx, ← HKD.out]
            exact hk3
          have HME : Hid (n5 < n4) := by show _ < _; have := HN5.out; have := HN4.out; omega
          have HV5 : Hid _ := hv5
          clear hk3 d1 hN5 hv4 hv5 hBV HRI0
          have hLit := ItR.lit V ⟨kd, ln, nm, ta, tn, tc, wa, wn, wc_, none, 0, 0⟩ #[.int .i64 kd, .int .i64 ln, .string (str nm), .slice ta tn tc, .slice wa wn wc_, .slice none 0 0] rfl
          have hO8t := (hO8.below hBt (Nat.le_refl _)).alloc (.cells #[.int .i64 kd, .int .i64 ln, .string (str nm), .slice ta tn tc, .slice wa wn wc_, .slice none 0 0] 33)
          have hItt : ∀ q ∈ out, ItOwn (V.alloc (.cells #[.int .i64 kd, .int .i64 ln, .string (str nm), .slice ta tn tc, .slice wa wn wc_, .slice none 0 0] 33)) (w.heap.size + 1) Z.heap.size q.1 q.2 := fun q hq => ((hIt q hq).below hBt (Nat.le_refl _)).below (below_box V _) (Nat.le_refl _)
          have hI2 := hI1.below (below_box V (.cells #[.int .i64 kd, .int .i64 ln, .string (str nm), .slice ta tn tc, .slice wa wn wc_, .slice none 0 0] 33)) (Nat.le_refl _)
          have hBZt : Below Z.heap.size Z V := hBX.trans (hBt.mono hBX.size)
          have hBZa := hBZt.alloc hBZt.size (.cells #[.int .i64 kd, .int .i64 ln, .string (str nm), .slice ta tn tc, .slice wa wn wc_, .slice none 0 0] 33)
          have HLn : Hid ((out.map Prod.fst).length + ([⟨kd, ln, nm, ta, tn, tc, wa, wn, wc_, none, 0, 0⟩] : List RawI).length ≤ 1099511627) := by
            show _ ≤ _
            have := HOL.out
            have := HFEW.out.1
            simp only [List.length_cons, List.length_nil, List.length_map] at *
            omega
          have HPU : Hid _ := fun (v' : Value) (w' : World) => ItsOwn.push (v' := v') (w' := w') hO8t hItt HPW.out hI2
          have HHL : Hid _ := hI1
          clear hI1 hI2 hItt hIt
          go_wp2_with (at_builtin; go_must (refine ItR.append rfl _ _ rfl Z.heap.size (V.heap.size + 1) _ _ (out.map Prod.fst) [⟨kd, ln, nm, ta, tn, tc, wa, wn, wc_, none, 0, 0⟩] rfl hO8t rfl hLit HLn hBZa.size ?_))
          intro v9 w9 hO9 hg9
          obtain ⟨g1, g2, g3⟩ := HPU.out v9 w9 hO9 hg9 HRI.out
          have G3 : Hid _ := g3
          obtain ⟨a9, n9, c9, rfl⟩ := hO9.isSl
          have hB9 : Below Z.heap.size Z w9 := hBZa.grown hg9 hBZa.size fun q hq => (World.ownsRow.lt hO8t q hq).1
          clear hO8t hLit hO9 hg9 HPU HLn
          go_wp2
          exact ⟨⟨k + 1, out ++ [(⟨kd, ln, nm, ta, tn, tc, wa, wn, wc_, none, 0, 0⟩, y)], HKL.out, HV5.out, g1, g2, G3, by show _ ≤ _; have := HOL.out; simp only [List.length_append, List.length_cons, List.length_nil]; omega, by show _ = _; rw [List.map_append]; exact HPN.out, by show Rl.NoTail _ _; rw [List.map_append]; exact HNN.out, hB9⟩, HME.out⟩
    · have i1 : ¬ (0 : Int) < (n4 : Int) := by have := HN4.out; omega
      have hkl : k = ps.length := by omega
      have HRE : Hid (R = .ok (out.map Prod.snd)) := by
        show _ = _
        rw [HPQ.out, List.drop_of_length_le (by rw [List.length_map]; omega), Rl.parse]
      have hwX := Wh0.below HW3.out hBX hsZ
      have hbX : Below w.heap.size w wr := hb3.trans (hBX.mono hb3.size)
      obtain ⟨q0, q1, q2, q3, qf⟩ := hwX.cells
      have hfin := hwX.put 0 0 0
      have htn := Wh0.turn wr w.heap.size (.int .i64 0) (.int .i64 0) (.int .i64 0) (.string ⟨#[]⟩)
      have hbf := (((hbX.setCell (p := ⟨w.heap.size, 0, none⟩) (Nat.le_refl _) (.int .i64 0)).setCell (p := ⟨w.heap.size, 1, none⟩) (Nat.le_refl _) (.string ⟨#[]⟩)).setCell (p := ⟨w.heap.size, 2, none⟩) (Nat.le_refl _) (.int .i64 0)).setCell (p := ⟨w.heap.size, 3, none⟩) (Nat.le_refl _) (.int .i64 0)
      have hO9 := hO8.turn1 htn hsZ
      have hI9 : ∀ q ∈ out, ItOwn ((((wr.setCell ⟨w.heap.size, 0, none⟩ (.int .i64 0)).setCell ⟨w.heap.size, 1, none⟩ (.string ⟨#[]⟩)).setCell ⟨w.heap.size, 2, none⟩ (.int .i64 0)).setCell ⟨w.heap.size, 3, none⟩ (.int .i64 0)) (w.heap.size + 1) Z.heap.size q.1 q.2 := fun q hq => (hIt q hq).turn1 htn (by omega) (by omega)
      have hn8 : n8 = (out.map Prod.snd).length := by
        obtain ⟨ad', c', e, -⟩ := hO8.sl.shape
        simp only [Value.slice.injEq, List.length_map] at e
        rw [List.length_map]
        exact e.2.1
      have HN8 : Hid _ := hn8
      clear hn8 hkl hIt hO8 hv4 hwX hbX htn
      go_wp2
      refine bodyPost_ret (results_sw (tz := 26) rfl _ _ w.heap.size _ (whCs 0 0 0) _ _ _ rfl rfl hfin Try.underlying26 rfl (by kernel_rfl)) rfl ?_
      rw [HRE.out]
      refine ⟨⟨a8, c8, Z.heap.size, ?_, hsZ, ?_⟩, hbf⟩
      · rw [← HN8.out]
        rfl
      · rw [← HN8.out]
        exact ⟨out, hO9, rfl, hI9, HPW.out⟩
set_option maxRecDepth 100000 in
theorem Parse_own (s : ByteArray) (w : World) (hs : s.size ≤ 140737488351232) : Calls Try.prog 13 #[.string s] w fun e w' => PsOwn w.heap.size e w' (Rl.answer (bs s)) ∧ Below w.heap.size w w' := by
  rcases Nat.lt_or_ge 32768 s.size with h | h
  · exact parse_long s w h hs
  · cases hl : Lx.lex (bs s) with
    | bad a => exact parse_lexbad s w h a hl
    | ok ls => exact parse_lexok s w h ls hl
theorem PsOwn.end_ {base : Nat} {e : Ending} {w' : World} {r : Lx.R (Int × Int × Int) (List Rl.It)} (h : PsOwn base e w' r) : PsEnd e w' r := by
  cases r with
  | bad x => exact h
  | ok A =>
    obtain ⟨ad, c', M, he, -, hI⟩ := h
    exact ⟨ad, c', he, hI.s⟩
theorem parseC : ParseC := fun s w hs => (Parse_own s w hs).mono fun _ _ ⟨h1, h2⟩ => ⟨h1.end_, h2⟩

end Go.Proofs.Ythpipbkbldlfjaa
