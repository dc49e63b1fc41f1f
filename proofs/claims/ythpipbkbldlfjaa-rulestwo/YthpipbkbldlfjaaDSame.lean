/-
  WHAT THE PROGRAM's placeless, sameWord, sameWords, sameCode, sameItem, Same AND slices.EqualFunc DO.
-/
import Derived.Test.YthpipbkbldlfjaaRSame
import Derived.Test.YthpipbkbldlfjaaRName
import Derived.Shelf.Abstract
import Derived.Deep.RegionHeld3
namespace Go.Proofs.Ythpipbkbldlfjaa
open Go.RowKit

def wdP (s : ByteArray) (q m : Bool) : Array Value := #[.string s, .int .i64 0, .int .i64 0, .bool q, .bool m]
theorem eqlp_word (W : World) (s s' : ByteArray) (q q' m m' : Bool) : (binOp .eql 36 (.agg (wdP s q m)) (.agg (wdP s' q' m'))).run Try.prog W = .ok (.bool (s.toList == s'.toList && (q == q' && m == m'))) W := by
  rw [run_eql_struct, show (10000 : Nat) = 9999 + 1 from rfl, run_equalIn_agg W 9999 36 _ _ (by simp [Program.fieldsOf, Try.underlying36]) stood_word]
  simp [Program.fieldsOf, Try.underlying36, go_sem, wdP]
  cases hs : (s.toList == s'.toList) <;> cases q <;> cases q' <;> cases m <;> cases m' <;> simp_all
theorem guardp_word (W : World) (op : BinOp) (x y : Operand) (xs ys : Array Value) : (eqGuard op 36 x y (.agg xs) (.agg ys)).run Try.prog W = .ok () W := run_eqGuard_agg W op 36 x y xs ys guardT_word

theorem alloc2_any (w : World) (cs ds : Array Value) (t1 t2 : TypeId) : ((w.alloc (.cells cs t1)).alloc (.cells ds t2)).heap[w.heap.size]? = some (.cells cs t1 (0, 0)) ∧ ((w.alloc (.cells cs t1)).alloc (.cells ds t2)).heap[w.heap.size + 1]? = some (.cells ds t2 (0, 0)) ∧ Below w.heap.size w ((w.alloc (.cells cs t1)).alloc (.cells ds t2)) ∧ ((w.alloc (.cells cs t1)).alloc (.cells ds t2)).heap.size = w.heap.size + 2 := by
  have hz1 : (w.alloc (.cells cs t1)).heap.size = w.heap.size + 1 := Array.size_push ..
  have h1 := heap_alloc_new w (.cells cs t1)
  have hb := below_box w (.cells cs t1)
  generalize w.alloc (.cells cs t1) = W at *
  have h2 := heap_alloc_new W (.cells ds t2)
  rw [hz1] at h2
  refine ⟨(Below.heap_alloc W _ w.heap.size (by omega)).trans h1, h2, hb.alloc (by omega) _, ?_⟩
  have : (W.alloc (.cells ds t2)).heap.size = W.heap.size + 1 := Array.size_push ..
  omega

set_option maxRecDepth 100000 in
theorem placeless_any (v : Lx.V) (w : World) : Calls Try.prog 101 #[wdV v] w fun e w' => e = .returned (.agg (wdP (str v.text) v.quoted v.mark)) ∧ Below w.heap.size w w' := by
  obtain ⟨ut, ul, uc, uq, um⟩ := v
  unfold wdV
  simp only
  go_enter Try.func101, Try.ntmps101
  go_wp2
  have hz1 : (w.alloc (.cells (wdP (str ut) uq um) 36)).heap.size = w.heap.size + 1 := Array.size_push ..
  have h1 := heap_alloc_new (w.alloc (.cells (wdP (str ut) uq um) 36)) (.cells (wdP (str ut) uq um) 36)
  rw [hz1] at h1
  have hB := (below_box w (.cells (wdP (str ut) uq um) 36)).alloc (by omega) (.cells (wdP (str ut) uq um) 36)
  refine bodyPost_ret (results_cell_row (ty := 36) rfl _ _ (w.heap.size + 1) _ (wdP (str ut) uq um) _ _ rfl h1 Try.underlying36 rfl (by kernel_rfl)) rfl ?_
  exact ⟨rfl, hB⟩

theorem Rl.bw_dec (u v : Lx.V) : decide (Rl.bw u = Rl.bw v) = ((str u.text).toList == (str v.text).toList && (u.quoted == v.quoted && u.mark == v.mark)) := by
  rw [str_list, str_list, Bool.eq_iff_iff]
  simp only [decide_eq_true_eq, Bool.and_eq_true, beq_iff_eq, Rl.bw, Prod.mk.injEq]

set_option maxRecDepth 100000 in
set_option maxHeartbeats 2000000 in
theorem sameWord_any (u v : Lx.V) (w : World) : Calls Try.prog 91 #[wdV u, wdV v] w fun e w' => e = .returned (.bool (decide (Rl.bw u = Rl.bw v))) ∧ Below w.heap.size w w' := by
  rw [Rl.bw_dec]
  have hpu := fun W => placeless_any u W
  have hpv := fun W => placeless_any v W
  have heq := fun W => eqlp_word W (str u.text) (str v.text) u.quoted v.quoted u.mark v.mark
  have hgd := fun (W : World) (a b : Operand) => guardp_word W .eql a b
  generalize ((str u.text).toList == (str v.text).toList && (u.quoted == v.quoted && u.mark == v.mark)) = K at *
  unfold wdP at hpu hpv heq
  unfold wdV at hpu hpv ⊢
  obtain ⟨d1, d2, d3, d4⟩ := alloc2_any w #[.string (str u.text), .int .i64 u.line, .int .i64 u.col, .bool u.quoted, .bool u.mark] #[.string (str v.text), .int .i64 v.line, .int .i64 v.col, .bool v.quoted, .bool v.mark] 36 36
  go_enter Try.func91, Try.ntmps91
  go_upto_region 1 with fail
  generalize (w.alloc (.cells #[.string (str u.text), .int .i64 u.line, .int .i64 u.col, .bool u.quoted, .bool u.mark] 36)).alloc (.cells #[.string (str v.text), .int .i64 v.line, .int .i64 v.col, .bool v.quoted, .bool v.mark] 36) = Y at *
  have a0 : Y.cell? ⟨w.heap.size, 0, none⟩ = some (.string (str u.text)) := by rw [cell_of_row Y _ 0 _ _ _ d1]; rfl
  have a0d : Y.drew.cell? ⟨w.heap.size, 0, none⟩ = some (.string (str u.text)) := a0
  have a1 : Y.cell? ⟨w.heap.size, 1, none⟩ = some (.int .i64 u.line) := by rw [cell_of_row Y _ 1 _ _ _ d1]; rfl
  have a1d : Y.drew.cell? ⟨w.heap.size, 1, none⟩ = some (.int .i64 u.line) := a1
  have a2 : Y.cell? ⟨w.heap.size, 2, none⟩ = some (.int .i64 u.col) := by rw [cell_of_row Y _ 2 _ _ _ d1]; rfl
  have a2d : Y.drew.cell? ⟨w.heap.size, 2, none⟩ = some (.int .i64 u.col) := a2
  have a3 : Y.cell? ⟨w.heap.size, 3, none⟩ = some (.bool u.quoted) := by rw [cell_of_row Y _ 3 _ _ _ d1]; rfl
  have a3d : Y.drew.cell? ⟨w.heap.size, 3, none⟩ = some (.bool u.quoted) := a3
  have a4 : Y.cell? ⟨w.heap.size, 4, none⟩ = some (.bool u.mark) := by rw [cell_of_row Y _ 4 _ _ _ d1]; rfl
  have a4d : Y.drew.cell? ⟨w.heap.size, 4, none⟩ = some (.bool u.mark) := a4
  have b0 : Y.cell? ⟨w.heap.size + 1, 0, none⟩ = some (.string (str v.text)) := by rw [cell_of_row Y _ 0 _ _ _ d2]; rfl
  have b0d : Y.drew.cell? ⟨w.heap.size + 1, 0, none⟩ = some (.string (str v.text)) := b0
  have b1 : Y.cell? ⟨w.heap.size + 1, 1, none⟩ = some (.int .i64 v.line) := by rw [cell_of_row Y _ 1 _ _ _ d2]; rfl
  have b1d : Y.drew.cell? ⟨w.heap.size + 1, 1, none⟩ = some (.int .i64 v.line) := b1
  have b2 : Y.cell? ⟨w.heap.size + 1, 2, none⟩ = some (.int .i64 v.col) := by rw [cell_of_row Y _ 2 _ _ _ d2]; rfl
  have b2d : Y.drew.cell? ⟨w.heap.size + 1, 2, none⟩ = some (.int .i64 v.col) := b2
  have b3 : Y.cell? ⟨w.heap.size + 1, 3, none⟩ = some (.bool v.quoted) := by rw [cell_of_row Y _ 3 _ _ _ d2]; rfl
  have b3d : Y.drew.cell? ⟨w.heap.size + 1, 3, none⟩ = some (.bool v.quoted) := b3
  have b4 : Y.cell? ⟨w.heap.size + 1, 4, none⟩ = some (.bool v.mark) := by rw [cell_of_row Y _ 4 _ _ _ d2]; rfl
  have b4d : Y.drew.cell? ⟨w.heap.size + 1, 4, none⟩ = some (.bool v.mark) := b4
  have hyd : Below Y.heap.size Y Y.drew := (Below.refl _ _).drew
  clear d1 d2
  go_region_held3 (fun X : World => X.cell? ⟨w.heap.size, 0, none⟩ = some (.string (str u.text)) ∧ X.cell? ⟨w.heap.size, 1, none⟩ = some (.int .i64 u.line) ∧ X.cell? ⟨w.heap.size, 2, none⟩ = some (.int .i64 u.col) ∧ X.cell? ⟨w.heap.size, 3, none⟩ = some (.bool u.quoted) ∧ X.cell? ⟨w.heap.size, 4, none⟩ = some (.bool u.mark) ∧ X.cell? ⟨w.heap.size + 1, 0, none⟩ = some (.string (str v.text)) ∧ X.cell? ⟨w.heap.size + 1, 1, none⟩ = some (.int .i64 v.line) ∧ X.cell? ⟨w.heap.size + 1, 2, none⟩ = some (.int .i64 v.col) ∧ X.cell? ⟨w.heap.size + 1, 3, none⟩ = some (.bool v.quoted) ∧ X.cell? ⟨w.heap.size + 1, 4, none⟩ = some (.bool v.mark)) (first | with_reducible exact ⟨a0d, a1d, a2d, a3d, a4d, b0d, b1d, b2d, b3d, b4d⟩ | with_reducible exact ⟨a0e, a1e, a2e, a3e, a4e, b0e, b1e, b2e, b3e, b4e⟩ | with_reducible exact ⟨a0f, a1f, a2f, a3f, a4f, b0f, b1f, b2f, b3f, b4f⟩ | fail)
    (first | (go_at_call 101; (with_reducible refine (hpu _).mono ?_); rintro e w1 ⟨rfl, hB1⟩; have hE1 : Below Y.heap.size Y w1 := hyd.trans (hB1.mono hyd.size); have a0e := (hE1.cell (p := ⟨w.heap.size, 0, none⟩) (by show w.heap.size < _; omega)).trans a0; have a1e := (hE1.cell (p := ⟨w.heap.size, 1, none⟩) (by show w.heap.size < _; omega)).trans a1; have a2e := (hE1.cell (p := ⟨w.heap.size, 2, none⟩) (by show w.heap.size < _; omega)).trans a2; have a3e := (hE1.cell (p := ⟨w.heap.size, 3, none⟩) (by show w.heap.size < _; omega)).trans a3; have a4e := (hE1.cell (p := ⟨w.heap.size, 4, none⟩) (by show w.heap.size < _; omega)).trans a4; have b0e := (hE1.cell (p := ⟨w.heap.size + 1, 0, none⟩) (by show w.heap.size + 1 < _; omega)).trans b0; have b1e := (hE1.cell (p := ⟨w.heap.size + 1, 1, none⟩) (by show w.heap.size + 1 < _; omega)).trans b1; have b2e := (hE1.cell (p := ⟨w.heap.size + 1, 2, none⟩) (by show w.heap.size + 1 < _; omega)).trans b2; have b3e := (hE1.cell (p := ⟨w.heap.size + 1, 3, none⟩) (by show w.heap.size + 1 < _; omega)).trans b3; have b4e := (hE1.cell (p := ⟨w.heap.size + 1, 4, none⟩) (by show w.heap.size + 1 < _; omega)).trans b4) | (go_at_call 101; (with_reducible refine (hpv _).mono ?_); rintro e w2 ⟨rfl, hB2⟩; have hE2 : Below Y.heap.size Y w2 := hE1.trans (hB2.mono hE1.size); have a0f := (hE2.cell (p := ⟨w.heap.size, 0, none⟩) (by show w.heap.size < _; omega)).trans a0; have a1f := (hE2.cell (p := ⟨w.heap.size, 1, none⟩) (by show w.heap.size < _; omega)).trans a1; have a2f := (hE2.cell (p := ⟨w.heap.size, 2, none⟩) (by show w.heap.size < _; omega)).trans a2; have a3f := (hE2.cell (p := ⟨w.heap.size, 3, none⟩) (by show w.heap.size < _; omega)).trans a3; have a4f := (hE2.cell (p := ⟨w.heap.size, 4, none⟩) (by show w.heap.size < _; omega)).trans a4; have b0f := (hE2.cell (p := ⟨w.heap.size + 1, 0, none⟩) (by show w.heap.size + 1 < _; omega)).trans b0; have b1f := (hE2.cell (p := ⟨w.heap.size + 1, 1, none⟩) (by show w.heap.size + 1 < _; omega)).trans b1; have b2f := (hE2.cell (p := ⟨w.heap.size + 1, 2, none⟩) (by show w.heap.size + 1 < _; omega)).trans b2; have b3f := (hE2.cell (p := ⟨w.heap.size + 1, 3, none⟩) (by show w.heap.size + 1 < _; omega)).trans b3; have b4f := (hE2.cell (p := ⟨w.heap.size + 1, 4, none⟩) (by show w.heap.size + 1 < _; omega)).trans b4) | fail)
  go_wp2
  go_ret
  exact ⟨rfl, d3.trans (hE2.mono d3.size)⟩

set_option maxRecDepth 100000 in
set_option maxHeartbeats 2000000 in
theorem EqualW_any (va vb : Value) (A C : List Lx.V) (w : World) (B : Nat) (ha : WdR.Sl w B va A) (hb : WdR.Sl w B vb C) (hBw : B ≤ w.heap.size) (hAl : A.length ≤ 1099511627) :
    Calls Try.prog 90 #[va, vb, .func (.func 91) #[] #[]] w fun e w' => e = .returned (.bool (decide (A.map Rl.bw = C.map Rl.bw))) ∧ Below w.heap.size w w' := by
  have eg : ∀ args w, (callFunc 91 args).run Try.prog w = .ok (.enter 91 args) w := enters_of Try.func91 (by kernel_rfl) rfl
  obtain ⟨ad, c, rfl, hle⟩ := ha.shape
  obtain ⟨ad', c', rfl, hle'⟩ := hb.shape
  obtain ⟨D, hDD⟩ : ∃ D, decide (A.map Rl.bw = C.map Rl.bw) = D := ⟨_, rfl⟩
  rw [hDD]
  have HNE : Hid (A.map Rl.bw ≠ C.map Rl.bw → D = false) := fun h => by rw [← hDD]; exact decide_eq_false h
  have HEQ : Hid (A.map Rl.bw = C.map Rl.bw → D = true) := fun h => by rw [← hDD]; exact decide_eq_true h
  clear hDD
  go_enter Try.func90, Try.ntmps90
  by_cases hlen : A.length = C.length
  · have n1 : ((A.length : Int) != (C.length : Int)) = false := by rw [bne_eq_false_iff_eq]; omega
    have HLE : Hid _ := hlen
    clear hlen
    go_wp2
    go_loopw [17] (fun k wr => ∃ i : Nat, i ≤ A.length ∧ k = .int .i64 (i : Int) ∧ Hid ((A.map Rl.bw).take i = (C.map Rl.bw).take i) ∧ Below w.heap.size w wr) (fun k _ => A.length - (intOf k).toNat)
    case atStart => exact ⟨0, Nat.zero_le _, rfl, by simp [Hid], Below.refl _ _⟩
    case round =>
      obtain ⟨i, hi, rfl, HT, hD⟩ := hrel
      by_cases hlt : i < A.length
      · have hlt' : i < C.length := by have := HLE.out; omega
        have i1 : (i : Int) < (A.length : Int) := by omega
        have i2 : (i : Int) < (C.length : Int) := by omega
        have hBr : B ≤ wr.heap.size := Nat.le_trans hBw hD.size
        obtain ⟨b2, o2, cc2, e, hb2, r0, r1, r2, r3, r4⟩ := WdR.at (ha.below hD hBw) i hlt
        simp only [Value.slice.injEq] at e
        obtain ⟨rfl, -, rfl⟩ := e
        obtain ⟨b3, o3, cc3, e, hb3, s0, s1, s2, s3, s4⟩ := WdR.at (hb.below hD hBw) i hlt'
        simp only [Value.slice.injEq] at e
        obtain ⟨rfl, -, rfl⟩ := e
        obtain ⟨x, hu⟩ : ∃ x, A.getD i Lx.noV = x := ⟨_, rfl⟩
        obtain ⟨y, hv⟩ : ∃ y, C.getD i Lx.noV = y := ⟨_, rfl⟩
        rw [hu] at r0 r1 r2 r3 r4
        rw [hv] at s0 s1 s2 s3 s4
        have hu' : A[i] = x := by rw [← hu]; simp [List.getD, List.getElem?_eq_getElem hlt]
        have hv' : C[i] = y := by rw [← hv]; simp [List.getD, List.getElem?_eq_getElem hlt']
        have HNO : Hid (Rl.bw x ≠ Rl.bw y → D = false) := fun h => HNE.out fun h2 => h (by
          have := congrArg (fun l => l[i]?) h2
          simpa only [List.getElem?_map, List.getElem?_eq_getElem hlt, List.getElem?_eq_getElem hlt', Option.map_some, Option.some.injEq, hu', hv'] using this)
        have HYES : Hid (Rl.bw x = Rl.bw y → (A.map Rl.bw).take (i + 1) = (C.map Rl.bw).take (i + 1)) := fun h => by
          refine take_more (Rl.bw Lx.noV) (by rw [List.length_map]; exact hlt) (by rw [List.length_map]; exact hlt') HT.out ?_
          simp only [List.getD, List.getElem?_map, List.getElem?_eq_getElem hlt, List.getElem?_eq_getElem hlt', Option.map_some, Option.getD_some, hu', hv', h]
        clear hu hv hu' hv'
        have hD2 := hD.alloc hD.size (.cells #[.string (str x.text), .int .i64 x.line, .int .i64 x.col, .bool x.quoted, .bool x.mark] 36)
        have hn2 := heap_alloc_new wr (.cells #[.string (str x.text), .int .i64 x.line, .int .i64 x.col, .bool x.quoted, .bool x.mark] 36)
        have hbb := below_box wr (.cells #[.string (str x.text), .int .i64 x.line, .int .i64 x.col, .bool x.quoted, .bool x.mark] 36)
        go_upto_region 6 with fail
        clear r0 r1 r2 r3 r4
        generalize wr.alloc (.cells #[.string (str x.text), .int .i64 x.line, .int .i64 x.col, .bool x.quoted, .bool x.mark] 36) = Y at *
        have hgY : wr.heap.size < Y.heap.size := (Array.getElem?_eq_some_iff.1 hn2).1
        replace s0 := (hbb.cell (p := ⟨b3, o3 + i * 5, none⟩) (Nat.lt_of_lt_of_le hb3 hBr)).trans s0
        replace s1 := (hbb.cell (p := ⟨b3, o3 + i * 5 + 1, none⟩) (Nat.lt_of_lt_of_le hb3 hBr)).trans s1
        replace s2 := (hbb.cell (p := ⟨b3, o3 + i * 5 + 2, none⟩) (Nat.lt_of_lt_of_le hb3 hBr)).trans s2
        replace s3 := (hbb.cell (p := ⟨b3, o3 + i * 5 + 3, none⟩) (Nat.lt_of_lt_of_le hb3 hBr)).trans s3
        replace s4 := (hbb.cell (p := ⟨b3, o3 + i * 5 + 4, none⟩) (Nat.lt_of_lt_of_le hb3 hBr)).trans s4
        have hE2 := hD2.alloc hD2.size (.cells #[.string (str y.text), .int .i64 y.line, .int .i64 y.col, .bool y.quoted, .bool y.mark] 36)
        have hn3 := heap_alloc_new Y (.cells #[.string (str y.text), .int .i64 y.line, .int .i64 y.col, .bool y.quoted, .bool y.mark] 36)
        have hbc := below_box Y (.cells #[.string (str y.text), .int .i64 y.line, .int .i64 y.col, .bool y.quoted, .bool y.mark] 36)
        go_upto_region 7 with fail
        clear s0 s1 s2 s3 s4
        have hn4 := (hbc.block _ hgY).trans hn2
        have hbr : Below wr.heap.size wr (Y.alloc (.cells #[.string (str y.text), .int .i64 y.line, .int .i64 y.col, .bool y.quoted, .bool y.mark] 36)) := hbb.trans (hbc.mono hbb.size)
        generalize Y.alloc (.cells #[.string (str y.text), .int .i64 y.line, .int .i64 y.col, .bool y.quoted, .bool y.mark] 36) = Z at *
        have z0 : Z.cell? ⟨wr.heap.size, 0, none⟩ = some (.string (str x.text)) := by rw [cell_of_row Z _ 0 _ _ _ hn4]; rfl
        have z1 : Z.cell? ⟨wr.heap.size, 1, none⟩ = some (.int .i64 x.line) := by rw [cell_of_row Z _ 1 _ _ _ hn4]; rfl
        have z2 : Z.cell? ⟨wr.heap.size, 2, none⟩ = some (.int .i64 x.col) := by rw [cell_of_row Z _ 2 _ _ _ hn4]; rfl
        have z3 : Z.cell? ⟨wr.heap.size, 3, none⟩ = some (.bool x.quoted) := by rw [cell_of_row Z _ 3 _ _ _ hn4]; rfl
        have z4 : Z.cell? ⟨wr.heap.size, 4, none⟩ = some (.bool x.mark) := by rw [cell_of_row Z _ 4 _ _ _ hn4]; rfl
        have t0 : Z.cell? ⟨Y.heap.size, 0, none⟩ = some (.string (str y.text)) := by rw [cell_of_row Z _ 0 _ _ _ hn3]; rfl
        have t1 : Z.cell? ⟨Y.heap.size, 1, none⟩ = some (.int .i64 y.line) := by rw [cell_of_row Z _ 1 _ _ _ hn3]; rfl
        have t2 : Z.cell? ⟨Y.heap.size, 2, none⟩ = some (.int .i64 y.col) := by rw [cell_of_row Z _ 2 _ _ _ hn3]; rfl
        have t3 : Z.cell? ⟨Y.heap.size, 3, none⟩ = some (.bool y.quoted) := by rw [cell_of_row Z _ 3 _ _ _ hn3]; rfl
        have t4 : Z.cell? ⟨Y.heap.size, 4, none⟩ = some (.bool y.mark) := by rw [cell_of_row Z _ 4 _ _ _ hn3]; rfl
        have hc := sameWord_any x y Z
        unfold wdV at hc
        clear hn2 hn3 hn4 hbb hbc
        by_cases hq : Rl.bw x = Rl.bw y
        · rw [decide_eq_true hq] at hc
          have HT3 : Hid _ := HYES.out hq
          clear hq HNO HYES
          go_wp2_with fail
          refine hc.mono ?_
          rintro e w1 ⟨rfl, hB1⟩
          go_wp2
          exact ⟨⟨i + 1, by omega, by go_num, HT3, hE2.trans (hB1.mono hE2.size)⟩, by simp [intOf]; omega⟩
        · rw [decide_eq_false hq] at hc
          have HF : Hid _ := HNO.out hq
          clear hq HNO HYES
          go_wp2_with fail
          refine hc.mono ?_
          rintro e w1 ⟨rfl, hB1⟩
          go_wp2
          go_ret
          rw [HF.out]
          exact ⟨rfl, hE2.trans (hB1.mono hE2.size)⟩
      · obtain rfl : i = A.length := by omega
        have i1 : ¬ (A.length : Int) < (A.length : Int) := by omega
        have HE : Hid (A.map Rl.bw = C.map Rl.bw) := by
          show _ = _
          have := HT.out
          rwa [List.take_of_length_le (by rw [List.length_map]; omega), List.take_of_length_le (by rw [List.length_map, ← HLE.out]; omega)] at this
        clear HT
        go_wp2
        go_ret
        rw [HEQ.out HE.out]
        exact ⟨rfl, hD⟩
  · have n1 : ((A.length : Int) != (C.length : Int)) = true := by rw [bne_iff_ne]; omega
    have HF : Hid (D = false) := HNE.out fun h => hlen (by have := congrArg List.length h; simpa using this)
    clear hlen
    go_wp2
    go_ret
    rw [HF.out]
    exact ⟨rfl, Below.refl _ _⟩

set_option maxRecDepth 100000 in
set_option maxHeartbeats 2000000 in
theorem sameWords_any (va vb : Value) (A C : List Lx.V) (w : World) (B : Nat) (ha : WdR.Sl w B va A) (hb : WdR.Sl w B vb C) (hBw : B ≤ w.heap.size) (hAl : A.length ≤ 1099511627) :
    Calls Try.prog 74 #[va, vb] w fun e w' => e = .returned (.bool (decide (A.map Rl.bw = C.map Rl.bw))) ∧ Below w.heap.size w w' := by
  have h := EqualW_any va vb A C w B ha hb hBw hAl
  generalize decide (A.map Rl.bw = C.map Rl.bw) = K at *
  go_enter Try.func74, Try.ntmps74
  go_wp2_with fail
  refine h.mono ?_
  rintro e w1 ⟨rfl, hB1⟩
  go_wp2
  go_ret
  exact ⟨rfl, hB1⟩
set_option maxRecDepth 100000 in
set_option maxHeartbeats 2000000 in
theorem sameCode_any (n1 n2 : Int) (d1 d2 : Bool) (va vb : Value) (A C : List Lx.V) (w : World) (B : Nat) (ha : WdR.Sl w B va A) (hb : WdR.Sl w B vb C) (hBw : B ≤ w.heap.size) (hAl : A.length ≤ 1099511627) :
    Calls Try.prog 76 #[.agg #[.int .i64 n1, .bool d1, va], .agg #[.int .i64 n2, .bool d2, vb]] w fun e w' => e = .returned (.bool (decide (A.map Rl.bw = C.map Rl.bw))) ∧ Below w.heap.size w w' := by
  have h := fun (W : World) (hb' : Below w.heap.size w W) => sameWords_any va vb A C W B (ha.below hb' hBw) (hb.below hb' hBw) (Nat.le_trans hBw hb'.size) hAl
  generalize decide (A.map Rl.bw = C.map Rl.bw) = K at *
  obtain ⟨ad, c, rfl, hle⟩ := ha.shape
  obtain ⟨ad', c', rfl, hle'⟩ := hb.shape
  have d3 := ((below_box w (.cells #[.int .i64 n1, .bool d1, .slice ad A.length c] 48)).alloc (below_box w _).size (.cells #[.int .i64 n2, .bool d2, .slice ad' C.length c'] 48))
  go_enter Try.func76, Try.ntmps76
  go_wp2_with fail
  refine (h _ d3).mono ?_
  rintro e w1 ⟨rfl, hB1⟩
  go_wp2
  go_ret
  exact ⟨rfl, d3.trans (hB1.mono d3.size)⟩
set_option maxRecDepth 100000 in
set_option maxHeartbeats 2000000 in
theorem EqualL_any (va vb : Value) (A C : List Lx.L) (w : World) (B : Nat) (ha : LnsS w B va A) (hb : LnsS w B vb C) (hBw : B ≤ w.heap.size) (hAl : A.length ≤ 1099511627) (hwl : ∀ x ∈ A, x.words.length ≤ 1099511627) :
    Calls Try.prog 75 #[va, vb, .func (.func 76) #[] #[]] w fun e w' => e = .returned (.bool (decide ((A.map fun l => l.words.map Rl.bw) = (C.map fun l => l.words.map Rl.bw)))) ∧ Below w.heap.size w w' := by
  have HWL : Hid _ := hwl
  clear hwl
  have eg : ∀ args w, (callFunc 76 args).run Try.prog w = .ok (.enter 76 args) w := enters_of Try.func76 (by kernel_rfl) rfl
  obtain ⟨ad, c, rfl, hle⟩ := ha.shape
  obtain ⟨ad', c', rfl, hle'⟩ := hb.shape
  obtain ⟨D, hDD⟩ : ∃ D, decide ((A.map fun l => l.words.map Rl.bw) = (C.map fun l => l.words.map Rl.bw)) = D := ⟨_, rfl⟩
  rw [hDD]
  have HNE : Hid ((A.map fun l => l.words.map Rl.bw) ≠ (C.map fun l => l.words.map Rl.bw) → D = false) := fun h => by rw [← hDD]; exact decide_eq_false h
  have HEQ : Hid ((A.map fun l => l.words.map Rl.bw) = (C.map fun l => l.words.map Rl.bw) → D = true) := fun h => by rw [← hDD]; exact decide_eq_true h
  clear hDD
  go_enter Try.func75, Try.ntmps75
  by_cases hlen : A.length = C.length
  · have n1 : ((A.length : Int) != (C.length : Int)) = false := by rw [bne_eq_false_iff_eq]; omega
    have HLE : Hid _ := hlen
    clear hlen
    go_wp2
    go_loopw [17] (fun k wr => ∃ i : Nat, i ≤ A.length ∧ k = .int .i64 (i : Int) ∧ Hid (((A.map fun l => l.words.map Rl.bw)).take i = ((C.map fun l => l.words.map Rl.bw)).take i) ∧ Below w.heap.size w wr) (fun k _ => A.length - (intOf k).toNat)
    case atStart => exact ⟨0, Nat.zero_le _, rfl, by simp [Hid], Below.refl _ _⟩
    case round =>
      obtain ⟨i, hi, rfl, HT, hD⟩ := hrel
      by_cases hlt : i < A.length
      · have hlt' : i < C.length := by have := HLE.out; omega
        have i1 : (i : Int) < (A.length : Int) := by omega
        have i2 : (i : Int) < (C.length : Int) := by omega
        have hBr : B ≤ wr.heap.size := Nat.le_trans hBw hD.size
        obtain ⟨b2, o2, cc2, ad2, c2, e, hb2, r0, r1, r2, hX1⟩ := (ha.below hD hBw).at i hlt
        simp only [Value.slice.injEq] at e
        obtain ⟨rfl, -, rfl⟩ := e
        obtain ⟨b3, o3, cc3, ad3, c3, e, hb3, s0, s1, s2, hX2⟩ := (hb.below hD hBw).at i hlt'
        simp only [Value.slice.injEq] at e
        obtain ⟨rfl, -, rfl⟩ := e
        obtain ⟨x, hu⟩ : ∃ x, A.getD i Lx.noL = x := ⟨_, rfl⟩
        obtain ⟨y, hv⟩ : ∃ y, C.getD i Lx.noL = y := ⟨_, rfl⟩
        rw [hu] at r0 r1 r2 hX1
        rw [hv] at s0 s1 s2 hX2
        have hu' : A[i] = x := by rw [← hu]; simp [List.getD, List.getElem?_eq_getElem hlt]
        have hv' : C[i] = y := by rw [← hv]; simp [List.getD, List.getElem?_eq_getElem hlt']
        have hxl := HWL.out x (by rw [← hu']; exact List.getElem_mem hlt)
        have HNO : Hid (x.words.map Rl.bw ≠ y.words.map Rl.bw → D = false) := fun h => HNE.out fun h2 => h (by
          have := congrArg (fun l => l[i]?) h2
          simpa only [List.getElem?_map, List.getElem?_eq_getElem hlt, List.getElem?_eq_getElem hlt', Option.map_some, Option.some.injEq, hu', hv'] using this)
        have HYES : Hid (x.words.map Rl.bw = y.words.map Rl.bw → ((A.map fun l => l.words.map Rl.bw)).take (i + 1) = ((C.map fun l => l.words.map Rl.bw)).take (i + 1)) := fun h => by
          refine take_more ([]) (by rw [List.length_map]; exact hlt) (by rw [List.length_map]; exact hlt') HT.out ?_
          simp only [List.getD, List.getElem?_map, List.getElem?_eq_getElem hlt, List.getElem?_eq_getElem hlt', Option.map_some, Option.getD_some, hu', hv', h]
        clear hu hv hu' hv'
        have hD2 := hD.alloc hD.size (.cells #[.int .i64 x.num, .bool x.ind, .slice ad2 x.words.length c2] 48)
        have hn2 := heap_alloc_new wr (.cells #[.int .i64 x.num, .bool x.ind, .slice ad2 x.words.length c2] 48)
        have hbb := below_box wr (.cells #[.int .i64 x.num, .bool x.ind, .slice ad2 x.words.length c2] 48)
        go_upto_region 6 with fail
        clear r0 r1 r2
        generalize wr.alloc (.cells #[.int .i64 x.num, .bool x.ind, .slice ad2 x.words.length c2] 48) = Y at *
        have hgY : wr.heap.size < Y.heap.size := (Array.getElem?_eq_some_iff.1 hn2).1
        replace s0 := (hbb.cell (p := ⟨b3, o3 + i * 3, none⟩) (Nat.lt_of_lt_of_le hb3 hBr)).trans s0
        replace s1 := (hbb.cell (p := ⟨b3, o3 + i * 3 + 1, none⟩) (Nat.lt_of_lt_of_le hb3 hBr)).trans s1
        replace s2 := (hbb.cell (p := ⟨b3, o3 + i * 3 + 2, none⟩) (Nat.lt_of_lt_of_le hb3 hBr)).trans s2
        have hE2 := hD2.alloc hD2.size (.cells #[.int .i64 y.num, .bool y.ind, .slice ad3 y.words.length c3] 48)
        have hn3 := heap_alloc_new Y (.cells #[.int .i64 y.num, .bool y.ind, .slice ad3 y.words.length c3] 48)
        have hbc := below_box Y (.cells #[.int .i64 y.num, .bool y.ind, .slice ad3 y.words.length c3] 48)
        go_upto_region 7 with fail
        clear s0 s1 s2
        have hn4 := (hbc.block _ hgY).trans hn2
        have hbr : Below wr.heap.size wr (Y.alloc (.cells #[.int .i64 y.num, .bool y.ind, .slice ad3 y.words.length c3] 48)) := hbb.trans (hbc.mono hbb.size)
        generalize Y.alloc (.cells #[.int .i64 y.num, .bool y.ind, .slice ad3 y.words.length c3] 48) = Z at *
        have z0 : Z.cell? ⟨wr.heap.size, 0, none⟩ = some (.int .i64 x.num) := by rw [cell_of_row Z _ 0 _ _ _ hn4]; rfl
        have z1 : Z.cell? ⟨wr.heap.size, 1, none⟩ = some (.bool x.ind) := by rw [cell_of_row Z _ 1 _ _ _ hn4]; rfl
        have z2 : Z.cell? ⟨wr.heap.size, 2, none⟩ = some (.slice ad2 x.words.length c2) := by rw [cell_of_row Z _ 2 _ _ _ hn4]; rfl
        have t0 : Z.cell? ⟨Y.heap.size, 0, none⟩ = some (.int .i64 y.num) := by rw [cell_of_row Z _ 0 _ _ _ hn3]; rfl
        have t1 : Z.cell? ⟨Y.heap.size, 1, none⟩ = some (.bool y.ind) := by rw [cell_of_row Z _ 1 _ _ _ hn3]; rfl
        have t2 : Z.cell? ⟨Y.heap.size, 2, none⟩ = some (.slice ad3 y.words.length c3) := by rw [cell_of_row Z _ 2 _ _ _ hn3]; rfl
        have hc := sameCode_any x.num y.num x.ind y.ind _ _ x.words y.words Z B (hX1.below hbr hBr) (hX2.below hbr hBr) (Nat.le_trans hBr hbr.size) hxl
        clear hn2 hn3 hn4 hbb hbc
        by_cases hq : x.words.map Rl.bw = y.words.map Rl.bw
        · rw [decide_eq_true hq] at hc
          have HT3 : Hid _ := HYES.out hq
          clear hq HNO HYES
          go_wp2_with fail
          refine hc.mono ?_
          rintro e w1 ⟨rfl, hB1⟩
          go_wp2
          exact ⟨⟨i + 1, by omega, by go_num, HT3, hE2.trans (hB1.mono hE2.size)⟩, by simp [intOf]; omega⟩
        · rw [decide_eq_false hq] at hc
          have HF : Hid _ := HNO.out hq
          clear hq HNO HYES
          go_wp2_with fail
          refine hc.mono ?_
          rintro e w1 ⟨rfl, hB1⟩
          go_wp2
          go_ret
          rw [HF.out]
          exact ⟨rfl, hE2.trans (hB1.mono hE2.size)⟩
      · obtain rfl : i = A.length := by omega
        have i1 : ¬ (A.length : Int) < (A.length : Int) := by omega
        have HE : Hid ((A.map fun l => l.words.map Rl.bw) = (C.map fun l => l.words.map Rl.bw)) := by
          show _ = _
          have := HT.out
          rwa [List.take_of_length_le (by rw [List.length_map]; omega), List.take_of_length_le (by rw [List.length_map, ← HLE.out]; omega)] at this
        clear HT
        go_wp2
        go_ret
        rw [HEQ.out HE.out]
        exact ⟨rfl, hD⟩
  · have n1 : ((A.length : Int) != (C.length : Int)) = true := by rw [bne_iff_ne]; omega
    have HF : Hid (D = false) := HNE.out fun h => hlen (by have := congrArg List.length h; simpa using this)
    clear hlen
    go_wp2
    go_ret
    rw [HF.out]
    exact ⟨rfl, Below.refl _ _⟩


end Go.Proofs.Ythpipbkbldlfjaa

namespace Go.Proofs.Ythpipbkbldlfjaa
open Go.RowKit

set_option maxRecDepth 100000 in
set_option maxHeartbeats 4000000 in
theorem sameItem_any (x y : Rl.It) (ta : Option Addr) (tc : Nat) (wa : Option Addr) (wc : Nat) (ca : Option Addr) (cc : Nat) (ta' : Option Addr) (tc' : Nat) (wa' : Option Addr) (wc' : Nat) (ca' : Option Addr) (cc' : Nat) (w : World) (B : Nat)
    (hx1 : WdR.Sl w B (.slice ta x.targets.length tc) x.targets) (hx2 : WdR.Sl w B (.slice wa x.words.length wc) x.words) (hx3 : LnsS w B (.slice ca x.code.length cc) x.code)
    (hy1 : WdR.Sl w B (.slice ta' y.targets.length tc') y.targets) (hy2 : WdR.Sl w B (.slice wa' y.words.length wc') y.words) (hy3 : LnsS w B (.slice ca' y.code.length cc') y.code) (hBw : B ≤ w.heap.size) (hf : Rl.Few x) :
    Calls Try.prog 46 #[.agg #[.int .i64 x.kind, .int .i64 x.line, .string (str x.name), .slice ta x.targets.length tc, .slice wa x.words.length wc, .slice ca x.code.length cc], .agg #[.int .i64 y.kind, .int .i64 y.line, .string (str y.name), .slice ta' y.targets.length tc', .slice wa' y.words.length wc', .slice ca' y.code.length cc']] w fun e w' => e = .returned (.bool (decide (Rl.bi x = Rl.bi y))) ∧ Below w.heap.size w w' := by
  obtain ⟨d1, d2, d3, d4⟩ := alloc2_any w #[.int .i64 x.kind, .int .i64 x.line, .string (str x.name), .slice ta x.targets.length tc, .slice wa x.words.length wc, .slice ca x.code.length cc] #[.int .i64 y.kind, .int .i64 y.line, .string (str y.name), .slice ta' y.targets.length tc', .slice wa' y.words.length wc', .slice ca' y.code.length cc'] 33 33
  have HD : Hid (decide (Rl.bi x = Rl.bi y) = (decide (x.kind = y.kind) && (decide (x.name = y.name) && (decide (x.targets.map Rl.bw = y.targets.map Rl.bw) && (decide (x.words.map Rl.bw = y.words.map Rl.bw) && decide ((x.code.map fun l => l.words.map Rl.bw) = (y.code.map fun l => l.words.map Rl.bw))))))) := by
    show _ = _
    rw [Bool.eq_iff_iff]
    simp only [decide_eq_true_eq, Bool.and_eq_true, Rl.bi, Prod.mk.injEq]
  have hs1 := fun (W : World) (h : Below w.heap.size w W) => sameWords_any _ _ x.targets y.targets W B (hx1.below h hBw) (hy1.below h hBw) (Nat.le_trans hBw h.size) hf.targets
  have hs2 := fun (W : World) (h : Below w.heap.size w W) => sameWords_any _ _ x.words y.words W B (hx2.below h hBw) (hy2.below h hBw) (Nat.le_trans hBw h.size) hf.words
  have hs3 := fun (W : World) (h : Below w.heap.size w W) => EqualL_any _ _ x.code y.code W B (hx3.below h hBw) (hy3.below h hBw) (Nat.le_trans hBw h.size) hf.code hf.lines
  generalize decide (Rl.bi x = Rl.bi y) = K at *
  generalize decide (x.targets.map Rl.bw = y.targets.map Rl.bw) = K1 at *
  generalize decide (x.words.map Rl.bw = y.words.map Rl.bw) = K2 at *
  generalize decide ((x.code.map fun l => l.words.map Rl.bw) = (y.code.map fun l => l.words.map Rl.bw)) = K3 at *
  have he : ((str x.name).toList == (str y.name).toList) = decide (x.name = y.name) := by rw [str_list, str_list, beq_dec]
  generalize decide (x.name = y.name) = K0 at *
  clear hx1 hx2 hx3 hy1 hy2 hy3 hf
  go_enter Try.func46, Try.ntmps46
  go_upto_region 1 with fail
  generalize (w.alloc (.cells #[.int .i64 x.kind, .int .i64 x.line, .string (str x.name), .slice ta x.targets.length tc, .slice wa x.words.length wc, .slice ca x.code.length cc] 33)).alloc (.cells #[.int .i64 y.kind, .int .i64 y.line, .string (str y.name), .slice ta' y.targets.length tc', .slice wa' y.words.length wc', .slice ca' y.code.length cc'] 33) = Y at *
  have a0 : Y.cell? ⟨w.heap.size, 0, none⟩ = some (.int .i64 x.kind) := by rw [cell_of_row Y _ 0 _ _ _ d1]; rfl
  have a1 : Y.cell? ⟨w.heap.size, 1, none⟩ = some (.int .i64 x.line) := by rw [cell_of_row Y _ 1 _ _ _ d1]; rfl
  have a2 : Y.cell? ⟨w.heap.size, 2, none⟩ = some (.string (str x.name)) := by rw [cell_of_row Y _ 2 _ _ _ d1]; rfl
  have a3 : Y.cell? ⟨w.heap.size, 3, none⟩ = some (.slice ta x.targets.length tc) := by rw [cell_of_row Y _ 3 _ _ _ d1]; rfl
  have a4 : Y.cell? ⟨w.heap.size, 4, none⟩ = some (.slice wa x.words.length wc) := by rw [cell_of_row Y _ 4 _ _ _ d1]; rfl
  have a5 : Y.cell? ⟨w.heap.size, 5, none⟩ = some (.slice ca x.code.length cc) := by rw [cell_of_row Y _ 5 _ _ _ d1]; rfl
  have b0 : Y.cell? ⟨w.heap.size + 1, 0, none⟩ = some (.int .i64 y.kind) := by rw [cell_of_row Y _ 0 _ _ _ d2]; rfl
  have b1 : Y.cell? ⟨w.heap.size + 1, 1, none⟩ = some (.int .i64 y.line) := by rw [cell_of_row Y _ 1 _ _ _ d2]; rfl
  have b2 : Y.cell? ⟨w.heap.size + 1, 2, none⟩ = some (.string (str y.name)) := by rw [cell_of_row Y _ 2 _ _ _ d2]; rfl
  have b3 : Y.cell? ⟨w.heap.size + 1, 3, none⟩ = some (.slice ta' y.targets.length tc') := by rw [cell_of_row Y _ 3 _ _ _ d2]; rfl
  have b4 : Y.cell? ⟨w.heap.size + 1, 4, none⟩ = some (.slice wa' y.words.length wc') := by rw [cell_of_row Y _ 4 _ _ _ d2]; rfl
  have b5 : Y.cell? ⟨w.heap.size + 1, 5, none⟩ = some (.slice ca' y.code.length cc') := by rw [cell_of_row Y _ 5 _ _ _ d2]; rfl
  have g1 : w.heap.size < Y.heap.size := by omega
  have g2 : w.heap.size + 1 < Y.heap.size := by omega
  clear d1 d2 d4
  by_cases hk : x.kind = y.kind
  rotate_left
  · have q0 : (x.kind == y.kind) = false := by rw [beq_eq_false_iff_ne]; exact hk
    have HE : Hid (K = false) := by show _ = _; rw [HD.out, decide_eq_false hk]; rfl
    clear hk HD
    go_wp2
    go_ret
    rw [HE.out]
    exact ⟨rfl, d3⟩
  have q0 : (x.kind == y.kind) = true := by rw [beq_iff_eq]; exact hk
  rw [decide_eq_true hk, Bool.true_and] at HD
  clear hk
  cases K0 with
  | false =>
    have HE : Hid (K = false) := HD.out
    clear HD
    go_wp2
    go_ret
    rw [HE.out]
    exact ⟨rfl, d3⟩
  | true =>
  rw [Bool.true_and] at HD
  go_wp2_with fail
  refine (hs1 _ d3).mono ?_
  rintro e w1 ⟨rfl, hB1⟩
  have hE1 := d3.trans (hB1.mono d3.size)
  clear hs1 a0 a1 a2 a3 b0 b1 b2 b3
  cases K1 with
  | false =>
    have HE : Hid (K = false) := HD.out
    clear HD
    go_wp2
    go_ret
    rw [HE.out]
    exact ⟨rfl, hE1⟩
  | true =>
  rw [Bool.true_and] at HD
  have a4' := (hB1.cell (p := ⟨w.heap.size, 4, none⟩) g1).trans a4
  have b4' := (hB1.cell (p := ⟨w.heap.size + 1, 4, none⟩) g2).trans b4
  go_wp2_with fail
  refine (hs2 _ hE1).mono ?_
  rintro e w2 ⟨rfl, hB2⟩
  have hE2 := hE1.trans (hB2.mono hE1.size)
  clear hs2 a4' b4' a4 b4
  cases K2 with
  | false =>
    have HE : Hid (K = false) := HD.out
    clear HD
    go_wp2
    go_ret
    rw [HE.out]
    exact ⟨rfl, hE2⟩
  | true =>
  rw [Bool.true_and] at HD
  have hB12 := hB1.trans (hB2.mono hB1.size)
  have a5' := (hB12.cell (p := ⟨w.heap.size, 5, none⟩) g1).trans a5
  have b5' := (hB12.cell (p := ⟨w.heap.size + 1, 5, none⟩) g2).trans b5
  go_wp2_with fail
  refine (hs3 _ hE2).mono ?_
  rintro e w3 ⟨rfl, hB3⟩
  have hE3 := hE2.trans (hB3.mono hE2.size)
  clear hs3 a5' b5' a5 b5
  have HE : Hid (K = K3) := HD.out
  clear HD
  go_wp2
  go_ret
  rw [HE.out]
  exact ⟨rfl, hE3⟩

set_option maxRecDepth 100000 in
set_option maxHeartbeats 2000000 in
theorem EqualI_any (va vb : Value) (A C : List Rl.It) (w : World) (B : Nat) (ha : ItsS w B va A) (hb : ItsS w B vb C) (hBw : B ≤ w.heap.size) (hAl : A.length ≤ 1099511627) (hf : ∀ x ∈ A, Rl.Few x) :
    Calls Try.prog 45 #[va, vb, .func (.func 46) #[] #[]] w fun e w' => e = .returned (.bool (decide (A.map Rl.bi = C.map Rl.bi))) ∧ Below w.heap.size w w' := by
  have HFW : Hid _ := hf
  clear hf
  have eg : ∀ args w, (callFunc 46 args).run Try.prog w = .ok (.enter 46 args) w := enters_of Try.func46 (by kernel_rfl) rfl
  obtain ⟨ad, c, rfl, hle⟩ := ha.shape
  obtain ⟨ad', c9, rfl, hle'⟩ := hb.shape
  obtain ⟨D, hDD⟩ : ∃ D, decide (A.map Rl.bi = C.map Rl.bi) = D := ⟨_, rfl⟩
  rw [hDD]
  have HNE : Hid (A.map Rl.bi ≠ C.map Rl.bi → D = false) := fun h => by rw [← hDD]; exact decide_eq_false h
  have HEQ : Hid (A.map Rl.bi = C.map Rl.bi → D = true) := fun h => by rw [← hDD]; exact decide_eq_true h
  clear hDD
  go_enter Try.func45, Try.ntmps45
  by_cases hlen : A.length = C.length
  · have n1 : ((A.length : Int) != (C.length : Int)) = false := by rw [bne_eq_false_iff_eq]; omega
    have HLE : Hid _ := hlen
    clear hlen
    go_wp2
    go_loopw [17] (fun k wr => ∃ i : Nat, i ≤ A.length ∧ k = .int .i64 (i : Int) ∧ Hid ((A.map Rl.bi).take i = (C.map Rl.bi).take i) ∧ Below w.heap.size w wr) (fun k _ => A.length - (intOf k).toNat)
    case atStart => exact ⟨0, Nat.zero_le _, rfl, by simp [Hid], Below.refl _ _⟩
    case round =>
      obtain ⟨i, hi, rfl, HT, hD⟩ := hrel
      by_cases hlt : i < A.length
      · have hlt' : i < C.length := by have := HLE.out; omega
        have i1 : (i : Int) < (A.length : Int) := by omega
        have i2 : (i : Int) < (C.length : Int) := by omega
        have hBr : B ≤ wr.heap.size := Nat.le_trans hBw hD.size
        obtain ⟨b2, o2, c2, ta, tc, wa, wc, ca, cc, e, hb2, hcx, hX1, hX2, hX3⟩ := (ha.below hD hBw).at i hlt
        simp only [Value.slice.injEq] at e
        obtain ⟨rfl, -, rfl⟩ := e
        obtain ⟨b3, o3, c3, ta', tc', wa', wc', ca', cc', e, hb3, hcy, hY1, hY2, hY3⟩ := (hb.below hD hBw).at i hlt'
        simp only [Value.slice.injEq] at e
        obtain ⟨rfl, -, rfl⟩ := e
        obtain ⟨x, hu⟩ : ∃ x, A.getD i Rl.noI = x := ⟨_, rfl⟩
        obtain ⟨y, hv⟩ : ∃ y, C.getD i Rl.noI = y := ⟨_, rfl⟩
        rw [hu] at hcx hX1 hX2 hX3
        rw [hv] at hcy hY1 hY2 hY3
        have hu' : A[i] = x := by rw [← hu]; simp [List.getD, List.getElem?_eq_getElem hlt]
        have hv' : C[i] = y := by rw [← hv]; simp [List.getD, List.getElem?_eq_getElem hlt']
        have hfx := HFW.out x (by rw [← hu']; exact List.getElem_mem hlt)
        have r0 : wr.cell? ⟨b2, o2 + i * 6, none⟩ = some (.int .i64 x.kind) := hcx 0 _ rfl
        have r1 : wr.cell? ⟨b2, o2 + i * 6 + 1, none⟩ = some (.int .i64 x.line) := hcx 1 _ rfl
        have r2 : wr.cell? ⟨b2, o2 + i * 6 + 2, none⟩ = some (.string (str x.name)) := hcx 2 _ rfl
        have r3 : wr.cell? ⟨b2, o2 + i * 6 + 3, none⟩ = some (.slice ta x.targets.length tc) := hcx 3 _ rfl
        have r4 : wr.cell? ⟨b2, o2 + i * 6 + 4, none⟩ = some (.slice wa x.words.length wc) := hcx 4 _ rfl
        have r5 : wr.cell? ⟨b2, o2 + i * 6 + 5, none⟩ = some (.slice ca x.code.length cc) := hcx 5 _ rfl
        have s0 : wr.cell? ⟨b3, o3 + i * 6, none⟩ = some (.int .i64 y.kind) := hcy 0 _ rfl
        have s1 : wr.cell? ⟨b3, o3 + i * 6 + 1, none⟩ = some (.int .i64 y.line) := hcy 1 _ rfl
        have s2 : wr.cell? ⟨b3, o3 + i * 6 + 2, none⟩ = some (.string (str y.name)) := hcy 2 _ rfl
        have s3 : wr.cell? ⟨b3, o3 + i * 6 + 3, none⟩ = some (.slice ta' y.targets.length tc') := hcy 3 _ rfl
        have s4 : wr.cell? ⟨b3, o3 + i * 6 + 4, none⟩ = some (.slice wa' y.words.length wc') := hcy 4 _ rfl
        have s5 : wr.cell? ⟨b3, o3 + i * 6 + 5, none⟩ = some (.slice ca' y.code.length cc') := hcy 5 _ rfl
        clear hcx hcy
        have HNO : Hid (Rl.bi x ≠ Rl.bi y → D = false) := fun h => HNE.out fun h2 => h (by
          have := congrArg (fun l => l[i]?) h2
          simpa only [List.getElem?_map, List.getElem?_eq_getElem hlt, List.getElem?_eq_getElem hlt', Option.map_some, Option.some.injEq, hu', hv'] using this)
        have HYES : Hid (Rl.bi x = Rl.bi y → (A.map Rl.bi).take (i + 1) = (C.map Rl.bi).take (i + 1)) := fun h => by
          refine take_more (Rl.bi Rl.noI) (by rw [List.length_map]; exact hlt) (by rw [List.length_map]; exact hlt') HT.out ?_
          simp only [List.getD, List.getElem?_map, List.getElem?_eq_getElem hlt, List.getElem?_eq_getElem hlt', Option.map_some, Option.getD_some, hu', hv', h]
        clear hu hv hu' hv'
        have hD2 := hD.alloc hD.size (.cells #[.int .i64 x.kind, .int .i64 x.line, .string (str x.name), .slice ta x.targets.length tc, .slice wa x.words.length wc, .slice ca x.code.length cc] 33)
        have hn2 := heap_alloc_new wr (.cells #[.int .i64 x.kind, .int .i64 x.line, .string (str x.name), .slice ta x.targets.length tc, .slice wa x.words.length wc, .slice ca x.code.length cc] 33)
        have hbb := below_box wr (.cells #[.int .i64 x.kind, .int .i64 x.line, .string (str x.name), .slice ta x.targets.length tc, .slice wa x.words.length wc, .slice ca x.code.length cc] 33)
        go_upto_region 6 with fail
        clear r0 r1 r2 r3 r4 r5
        generalize wr.alloc (.cells #[.int .i64 x.kind, .int .i64 x.line, .string (str x.name), .slice ta x.targets.length tc, .slice wa x.words.length wc, .slice ca x.code.length cc] 33) = Y at *
        have hgY : wr.heap.size < Y.heap.size := (Array.getElem?_eq_some_iff.1 hn2).1
        replace s0 := (hbb.cell (p := ⟨b3, o3 + i * 6, none⟩) (Nat.lt_of_lt_of_le hb3 hBr)).trans s0
        replace s1 := (hbb.cell (p := ⟨b3, o3 + i * 6 + 1, none⟩) (Nat.lt_of_lt_of_le hb3 hBr)).trans s1
        replace s2 := (hbb.cell (p := ⟨b3, o3 + i * 6 + 2, none⟩) (Nat.lt_of_lt_of_le hb3 hBr)).trans s2
        replace s3 := (hbb.cell (p := ⟨b3, o3 + i * 6 + 3, none⟩) (Nat.lt_of_lt_of_le hb3 hBr)).trans s3
        replace s4 := (hbb.cell (p := ⟨b3, o3 + i * 6 + 4, none⟩) (Nat.lt_of_lt_of_le hb3 hBr)).trans s4
        replace s5 := (hbb.cell (p := ⟨b3, o3 + i * 6 + 5, none⟩) (Nat.lt_of_lt_of_le hb3 hBr)).trans s5
        have hE2 := hD2.alloc hD2.size (.cells #[.int .i64 y.kind, .int .i64 y.line, .string (str y.name), .slice ta' y.targets.length tc', .slice wa' y.words.length wc', .slice ca' y.code.length cc'] 33)
        have hn3 := heap_alloc_new Y (.cells #[.int .i64 y.kind, .int .i64 y.line, .string (str y.name), .slice ta' y.targets.length tc', .slice wa' y.words.length wc', .slice ca' y.code.length cc'] 33)
        have hbc := below_box Y (.cells #[.int .i64 y.kind, .int .i64 y.line, .string (str y.name), .slice ta' y.targets.length tc', .slice wa' y.words.length wc', .slice ca' y.code.length cc'] 33)
        go_upto_region 7 with fail
        clear s0 s1 s2 s3 s4 s5
        have hn4 := (hbc.block _ hgY).trans hn2
        have hbr : Below wr.heap.size wr (Y.alloc (.cells #[.int .i64 y.kind, .int .i64 y.line, .string (str y.name), .slice ta' y.targets.length tc', .slice wa' y.words.length wc', .slice ca' y.code.length cc'] 33)) := hbb.trans (hbc.mono hbb.size)
        generalize Y.alloc (.cells #[.int .i64 y.kind, .int .i64 y.line, .string (str y.name), .slice ta' y.targets.length tc', .slice wa' y.words.length wc', .slice ca' y.code.length cc'] 33) = Z at *
        have z0 : Z.cell? ⟨wr.heap.size, 0, none⟩ = some (.int .i64 x.kind) := by rw [cell_of_row Z _ 0 _ _ _ hn4]; rfl
        have z1 : Z.cell? ⟨wr.heap.size, 1, none⟩ = some (.int .i64 x.line) := by rw [cell_of_row Z _ 1 _ _ _ hn4]; rfl
        have z2 : Z.cell? ⟨wr.heap.size, 2, none⟩ = some (.string (str x.name)) := by rw [cell_of_row Z _ 2 _ _ _ hn4]; rfl
        have z3 : Z.cell? ⟨wr.heap.size, 3, none⟩ = some (.slice ta x.targets.length tc) := by rw [cell_of_row Z _ 3 _ _ _ hn4]; rfl
        have z4 : Z.cell? ⟨wr.heap.size, 4, none⟩ = some (.slice wa x.words.length wc) := by rw [cell_of_row Z _ 4 _ _ _ hn4]; rfl
        have z5 : Z.cell? ⟨wr.heap.size, 5, none⟩ = some (.slice ca x.code.length cc) := by rw [cell_of_row Z _ 5 _ _ _ hn4]; rfl
        have t0 : Z.cell? ⟨Y.heap.size, 0, none⟩ = some (.int .i64 y.kind) := by rw [cell_of_row Z _ 0 _ _ _ hn3]; rfl
        have t1 : Z.cell? ⟨Y.heap.size, 1, none⟩ = some (.int .i64 y.line) := by rw [cell_of_row Z _ 1 _ _ _ hn3]; rfl
        have t2 : Z.cell? ⟨Y.heap.size, 2, none⟩ = some (.string (str y.name)) := by rw [cell_of_row Z _ 2 _ _ _ hn3]; rfl
        have t3 : Z.cell? ⟨Y.heap.size, 3, none⟩ = some (.slice ta' y.targets.length tc') := by rw [cell_of_row Z _ 3 _ _ _ hn3]; rfl
        have t4 : Z.cell? ⟨Y.heap.size, 4, none⟩ = some (.slice wa' y.words.length wc') := by rw [cell_of_row Z _ 4 _ _ _ hn3]; rfl
        have t5 : Z.cell? ⟨Y.heap.size, 5, none⟩ = some (.slice ca' y.code.length cc') := by rw [cell_of_row Z _ 5 _ _ _ hn3]; rfl
        have hc := sameItem_any x y ta tc wa wc ca cc ta' tc' wa' wc' ca' cc' Z B (hX1.below hbr hBr) (hX2.below hbr hBr) (hX3.below hbr hBr) (hY1.below hbr hBr) (hY2.below hbr hBr) (hY3.below hbr hBr) (Nat.le_trans hBr hbr.size) hfx
        clear hn2 hn3 hn4 hbb hbc
        by_cases hq : Rl.bi x = Rl.bi y
        · rw [decide_eq_true hq] at hc
          have HT3 : Hid _ := HYES.out hq
          clear hq HNO HYES
          go_wp2_with fail
          refine hc.mono ?_
          rintro e w1 ⟨rfl, hB1⟩
          go_wp2
          exact ⟨⟨i + 1, by omega, by go_num, HT3, hE2.trans (hB1.mono hE2.size)⟩, by simp [intOf]; omega⟩
        · rw [decide_eq_false hq] at hc
          have HF : Hid _ := HNO.out hq
          clear hq HNO HYES
          go_wp2_with fail
          refine hc.mono ?_
          rintro e w1 ⟨rfl, hB1⟩
          go_wp2
          go_ret
          rw [HF.out]
          exact ⟨rfl, hE2.trans (hB1.mono hE2.size)⟩
      · obtain rfl : i = A.length := by omega
        have i1 : ¬ (A.length : Int) < (A.length : Int) := by omega
        have HE : Hid (A.map Rl.bi = C.map Rl.bi) := by
          show _ = _
          have := HT.out
          rwa [List.take_of_length_le (by rw [List.length_map]; omega), List.take_of_length_le (by rw [List.length_map, ← HLE.out]; omega)] at this
        clear HT
        go_wp2
        go_ret
        rw [HEQ.out HE.out]
        exact ⟨rfl, hD⟩
  · have n1 : ((A.length : Int) != (C.length : Int)) = true := by rw [bne_iff_ne]; omega
    have HF : Hid (D = false) := HNE.out fun h => hlen (by have := congrArg List.length h; simpa using this)
    clear hlen
    go_wp2
    go_ret
    rw [HF.out]
    exact ⟨rfl, Below.refl _ _⟩

set_option maxRecDepth 100000 in
set_option maxHeartbeats 2000000 in
theorem Same_any (va vb : Value) (A C : List Rl.It) (w : World) (B : Nat) (ha : ItsS w B va A) (hb : ItsS w B vb C) (hBw : B ≤ w.heap.size) (hAl : A.length ≤ 1099511627) (hf : ∀ x ∈ A, Rl.Few x) :
    Calls Try.prog 23 #[va, vb] w fun e w' => e = .returned (.bool (decide (A.map Rl.bi = C.map Rl.bi))) ∧ Below w.heap.size w w' := by
  have h := EqualI_any va vb A C w B ha hb hBw hAl hf
  generalize decide (A.map Rl.bi = C.map Rl.bi) = K at *
  go_enter Try.func23, Try.ntmps23
  go_wp2_with fail
  refine h.mono ?_
  rintro e w1 ⟨rfl, hB1⟩
  go_wp2
  go_ret
  exact ⟨rfl, hB1⟩

end Go.Proofs.Ythpipbkbldlfjaa
