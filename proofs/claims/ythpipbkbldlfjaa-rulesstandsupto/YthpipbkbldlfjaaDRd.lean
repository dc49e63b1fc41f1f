/-
  WHAT THE PROGRAM's firstMark, wrong AND slices.Clone DO.
-/
import Derived.Test.YthpipbkbldlfjaaRlRead
import Derived.Test.YthpipbkbldlfjaaRName
import Derived.Test.YthpipbkbldlfjaaDName
import Derived.Deep.RegionHeld3
namespace Go.Proofs.Ythpipbkbldlfjaa
open Go.RowKit

/-- two results that lie in memory -/
theorem results_two_rows {P : Program} {fn : Func} {p q : Tmp} {ty tz : TypeId} (h : fn.results = #[.cell p ty, .cell q tz]) (tmps : Array Value) (w : World) (g1 g2 : Nat) (t1 t2 : TypeId) (cs ds : Array Value) (f1 f2 : Nat × Nat) (d1 d2 : TypeDesc)
    (hp : tmps.getD p undef = .pointer (some ⟨g1, 0, none⟩)) (hq : tmps.getD q undef = .pointer (some ⟨g2, 0, none⟩)) (hg1 : w.heap[g1]? = some (.cells cs t1 f1)) (hg2 : w.heap[g2]? = some (.cells ds t2 f2))
    (hu1 : P.underlying ty = some d1) (hd1 : (match d1 with | .struct _ | .array _ _ => true | _ => false) = true) (hi1 : (P.info? ty).map (·.size) = some cs.size)
    (hu2 : P.underlying tz = some d2) (hd2 : (match d2 with | .struct _ | .array _ _ => true | _ => false) = true) (hi2 : (P.info? tz).map (·.size) = some ds.size) :
    (results fn tmps).run P w = .ok (.tuple #[.agg cs, .agg ds]) w := by
  have hp' : tmps[p]?.getD undef = .pointer (some ⟨g1, 0, none⟩) := by simpa using hp
  have hq' : tmps[q]?.getD undef = .pointer (some ⟨g2, 0, none⟩) := by simpa using hq
  simp [results, h, hp', hq', asAddr, run_loadVar_row w g1 t1 ty cs f1 d1 hg1 hu1 hd1 hi1, run_loadVar_row w g2 t2 tz ds f2 d2 hg2 hu2 hd2 hi2]

/-- an item's cells as it lies -/
def itCells (r : RawI) : Array Value := #[.int .i64 r.kind, .int .i64 r.line, .string (str r.name), .slice r.ta r.tn r.tc, .slice r.wa r.wn r.wc, .slice r.ca r.cn r.cc]
def itV (r : RawI) : Value := .agg (itCells r)
def noRaw : RawI := ⟨0, 0, [], none, 0, 0, none, 0, 0, none, 0, 0⟩
def whCs (e l c : Int) : Array Value := #[.int .i64 e, .string .empty, .int .i64 l, .int .i64 c]
/-- an item's and a place's block -/
structure Outs (W : World) (g1 g2 : Nat) (cs ds : Array Value) : Prop where
  it : W.heap[g1]? = some (.cells cs 33 (0, 0))
  wh : W.heap[g2]? = some (.cells ds 26 (0, 0))
theorem Outs.below {W W' : World} {B g1 g2 : Nat} {cs ds : Array Value} (h : Outs W g1 g2 cs ds) (hb : Below B W W') (h1 : g1 < B) (h2 : g2 < B) : Outs W' g1 g2 cs ds :=
  ⟨(hb.block g1 h1).trans h.it, (hb.block g2 h2).trans h.wh⟩
theorem set6 {W : World} {g : Nat} {t : TypeId} {x0 x1 x2 x3 x4 x5 a0 a1 a2 a3 a4 a5 : Value} (h : W.heap[g]? = some (.cells #[x0, x1, x2, x3, x4, x5] t (0, 0))) :
    ((((((W.setCell ⟨g, 0, none⟩ a0).setCell ⟨g, 1, none⟩ a1).setCell ⟨g, 2, none⟩ a2).setCell ⟨g, 3, none⟩ a3).setCell ⟨g, 4, none⟩ a4).setCell ⟨g, 5, none⟩ a5).heap[g]? = some (.cells #[a0, a1, a2, a3, a4, a5] t (0, 0)) := by
  have h0 := heap_setCell_same W g 0 _ t a0 h
  have h1 := heap_setCell_same _ g 1 _ t a1 h0
  have h2 := heap_setCell_same _ g 2 _ t a2 h1
  have h3 := heap_setCell_same _ g 3 _ t a3 h2
  have h4 := heap_setCell_same _ g 4 _ t a4 h3
  have h5 := heap_setCell_same _ g 5 _ t a5 h4
  rw [h5]
  rfl
theorem set4 {W : World} {g : Nat} {t : TypeId} {x0 x1 x2 x3 a0 a1 a2 a3 : Value} (h : W.heap[g]? = some (.cells #[x0, x1, x2, x3] t (0, 0))) :
    ((((W.setCell ⟨g, 0, none⟩ a0).setCell ⟨g, 1, none⟩ a1).setCell ⟨g, 2, none⟩ a2).setCell ⟨g, 3, none⟩ a3).heap[g]? = some (.cells #[a0, a1, a2, a3] t (0, 0)) := by
  have h0 := heap_setCell_same W g 0 _ t a0 h
  have h1 := heap_setCell_same _ g 1 _ t a1 h0
  have h2 := heap_setCell_same _ g 2 _ t a2 h1
  have h3 := heap_setCell_same _ g 3 _ t a3 h2
  rw [h3]
  rfl

set_option maxRecDepth 100000 in
set_option maxHeartbeats 1000000 in
theorem CloneW_any (l : List Lx.V) (v : Value) (B : Nat) (w : World) (hv : WdR.Sl w B v l) (hB : B ≤ w.heap.size) (hl : l.length ≤ 1099511) :
    Calls Try.prog 83 #[v] w fun e w' => ∃ v', e = .returned v' ∧ WdR.Own w' w.heap.size v' l ∧ Below w.heap.size w w' := by
  have hv0 := hv
  obtain ⟨ad, c, rfl, _, hn, _⟩ := hv0
  cases ad with
  | none =>
    have hc0 := hn rfl
    subst hc0
    have hm : l = [] := List.eq_nil_of_length_eq_zero (by omega)
    subst hm
    have hnil := fun W : World => Lib.run_eql_slice_nil (P := Try.prog) W 30 36 none 0 0 0 0 Try.underlying30
    go_enter Try.func83, Try.ntmps83
    go_wp2
    go_ret
    exact ⟨_, rfl, Rc.Own.nil _ _, Below.refl _ _⟩
  | some x =>
    have Hl : Hid (([] : List Lx.V).length + l.length ≤ 1099511627) := by show _ ≤ _; simp; omega
    clear hl
    have h0 : WdR.Own (w.alloc (.cells #[] 36)) w.heap.size (.slice (some ⟨w.heap.size, 0, none⟩) 0 0) [] := World.ownsRow_lit (size := 5) w #[] 0 (Nat.le_refl _) (by decide) rfl
    have hnil := fun W : World => Lib.run_eql_slice_nil (P := Try.prog) W 30 36 (some x) l.length c 0 0 Try.underlying30
    go_enter Try.func83, Try.ntmps83
    go_wp2_with (at_builtin; go_must (refine WdR.append rfl (.tmp 5) (.tmp 6) rfl w.heap.size B _ _ [] l rfl h0 rfl (hv.alloc hB _) Hl (by simp) ?_))
    intro v' w' h1 h2
    go_wp2
    go_ret
    exact ⟨_, rfl, h1, ((Below.refl _ w).alloc (Nat.le_refl _) _).grown h2 (by simp) fun k hk => (World.ownsRow.lt h0 k hk).1⟩
set_option maxRecDepth 100000 in
set_option maxHeartbeats 1000000 in
theorem CloneL_any (l : List RawL) (v : Value) (B : Nat) (w : World) (hv : LnR.Sl w B v l) (hB : B ≤ w.heap.size) (hl : l.length ≤ 1099511) :
    Calls Try.prog 30 #[v] w fun e w' => ∃ v', e = .returned v' ∧ LnR.Own w' w.heap.size v' l ∧ Below w.heap.size w w' := by
  have hv0 := hv
  obtain ⟨ad, c, rfl, _, hn, _⟩ := hv0
  cases ad with
  | none =>
    have hc0 := hn rfl
    subst hc0
    have hm : l = [] := List.eq_nil_of_length_eq_zero (by omega)
    subst hm
    have hnil := fun W : World => Lib.run_eql_slice_nil (P := Try.prog) W 31 48 none 0 0 0 0 Try.underlying31
    go_enter Try.func30, Try.ntmps30
    go_wp2
    go_ret
    exact ⟨_, rfl, Rc.Own.nil _ _, Below.refl _ _⟩
  | some x =>
    have Hl : Hid (([] : List RawL).length + l.length ≤ 1099511627) := by show _ ≤ _; simp; omega
    clear hl
    have h0 : LnR.Own (w.alloc (.cells #[] 48)) w.heap.size (.slice (some ⟨w.heap.size, 0, none⟩) 0 0) [] := World.ownsRow_lit (size := 3) w #[] 0 (Nat.le_refl _) (by decide) rfl
    have hnil := fun W : World => Lib.run_eql_slice_nil (P := Try.prog) W 31 48 (some x) l.length c 0 0 Try.underlying31
    go_enter Try.func30, Try.ntmps30
    go_wp2_with (at_builtin; go_must (refine LnR.append rfl (.tmp 5) (.tmp 6) rfl w.heap.size B _ _ [] l rfl h0 rfl (hv.alloc hB _) Hl (by simp) ?_))
    intro v' w' h1 h2
    go_wp2
    go_ret
    exact ⟨_, rfl, h1, ((Below.refl _ w).alloc (Nat.le_refl _) _).grown h2 (by simp) fun k hk => (World.ownsRow.lt h0 k hk).1⟩

theorem Rl.fm_drop {ws : List Lx.V} {k : Nat} (h : k < ws.length) (hm : (ws.getD k Lx.noV).mark = false) : k + Rl.fm (ws.drop k) = k + 1 + Rl.fm (ws.drop (k + 1)) := by
  rw [List.drop_eq_getElem_cons h, Rl.fm_cons]
  have e : ws.getD k Lx.noV = ws[k] := by simp [List.getD, List.getElem?_eq_getElem h]
  rw [e] at hm
  rw [hm]
  simp only [Bool.false_eq_true, if_false]
  omega
theorem Rl.fm_here {ws : List Lx.V} {k : Nat} (h : k < ws.length) (hm : (ws.getD k Lx.noV).mark = true) : Rl.fm (ws.drop k) = 0 := by
  rw [List.drop_eq_getElem_cons h, Rl.fm_cons]
  have e : ws.getD k Lx.noV = ws[k] := by simp [List.getD, List.getElem?_eq_getElem h]
  rw [e] at hm
  rw [hm]
  rfl

set_option maxRecDepth 100000 in
set_option maxHeartbeats 1000000 in
theorem firstMark_any (v : Value) (l : List Lx.V) (w : World) (B : Nat) (h : WdR.Sl w B v l) (hBw : B ≤ w.heap.size) (hl : l.length ≤ 1099511627) : Calls Try.prog 71 #[v] w fun e w' => e = .returned (.int .i64 (Rl.fm l : Int)) ∧ Below w.heap.size w w' := by
  obtain ⟨ad, c, rfl, hle⟩ := h.shape
  have HM : Hid (Rl.fm l = 0 + Rl.fm (l.drop 0)) := by show _ = _; rw [Nat.zero_add]; rfl
  generalize Rl.fm l = K at *
  go_enter Try.func71, Try.ntmps71
  go_wp2
  go_loopw [7] (fun k wr => ∃ i : Nat, i ≤ l.length ∧ k = .int .i64 (i : Int) ∧ Hid (K = i + Rl.fm (l.drop i)) ∧ Below w.heap.size w wr) (fun k _ => l.length - (intOf k).toNat)
  case atStart => exact ⟨0, Nat.zero_le _, rfl, HM, Below.refl _ _⟩
  case round =>
    obtain ⟨i, hi, rfl, HA, hD⟩ := hrel
    by_cases hlt : i < l.length
    · have i1 : (i : Int) < (l.length : Int) := by omega
      obtain ⟨b2, o2, cc2, e, -, r0, r1, r2, r3, r4⟩ := WdR.at (h.below hD hBw) i hlt
      simp only [Value.slice.injEq] at e
      obtain ⟨rfl, -, rfl⟩ := e
      have H1 : Hid ((l.getD i Lx.noV).mark = true → K = i) := fun hm => by rw [HA.out, Rl.fm_here hlt hm, Nat.add_zero]
      have H2 : Hid ((l.getD i Lx.noV).mark = false → K = i + 1 + Rl.fm (l.drop (i + 1))) := fun hm => by rw [HA.out, Rl.fm_drop hlt hm]
      clear HA
      generalize l.getD i Lx.noV = u at *
      obtain ⟨ut, ul, uc, uq, um⟩ := u
      simp only at r0 r1 r2 r3 r4 H1 H2
      have hD2 := hD.alloc hD.size (.cells #[.string (str ut), .int .i64 ul, .int .i64 uc, .bool uq, .bool um] 36)
      cases um with
      | true =>
        go_wp2
        go_ret
        rw [H1.out trivial]
        exact ⟨rfl, hD2⟩
      | false =>
        go_wp2
        exact ⟨⟨i + 1, by omega, by go_num, H2.out rfl, hD2⟩, by simp [intOf]; omega⟩
    · obtain rfl : i = l.length := by omega
      have i1 : ¬ (l.length : Int) < (l.length : Int) := by omega
      have HE : Hid (K = l.length) := by
        show _ = _
        rw [HA.out, List.drop_length]
        rfl
      go_wp2
      go_ret
      rw [HE.out]
      exact ⟨rfl, hD⟩

set_option maxRecDepth 100000 in
set_option maxHeartbeats 1000000 in
theorem rwrong_any (er : Int) (u : Lx.V) (w : World) : Calls Try.prog 52 #[.int .i64 er, wdV u] w fun e w' => e = .returned (.tuple #[itV noRaw, .agg (whCs er u.line u.col)]) ∧ Below w.heap.size w w' := by
  obtain ⟨ut, ul, uc, uq, um⟩ := u
  unfold wdV
  simp only
  go_enter Try.func52, Try.ntmps52
  go_wp2
  go_region
  go_wp2
  have hz1 : (w.alloc (.cells #[.string (str ut), .int .i64 ul, .int .i64 uc, .bool uq, .bool um] 36)).heap.size = w.heap.size + 1 := Array.size_push ..
  have hz2 : ((w.alloc (.cells #[.string (str ut), .int .i64 ul, .int .i64 uc, .bool uq, .bool um] 36)).alloc (.cells (itCells noRaw) 33)).heap.size = w.heap.size + 1 + 1 := by
    rw [← hz1]; exact Array.size_push ..
  have h1 := heap_alloc_new (w.alloc (.cells #[.string (str ut), .int .i64 ul, .int .i64 uc, .bool uq, .bool um] 36)) (.cells (itCells noRaw) 33)
  rw [hz1] at h1
  have h2 := heap_alloc_new ((w.alloc (.cells #[.string (str ut), .int .i64 ul, .int .i64 uc, .bool uq, .bool um] 36)).alloc (.cells (itCells noRaw) 33)) (.cells (whCs er ul uc) 26)
  rw [hz2] at h2
  have h3 := (Below.heap_alloc ((w.alloc (.cells #[.string (str ut), .int .i64 ul, .int .i64 uc, .bool uq, .bool um] 36)).alloc (.cells (itCells noRaw) 33)) (.cells (whCs er ul uc) 26) (w.heap.size + 1) (by omega)).trans h1
  have hB := (((below_box w (.cells #[.string (str ut), .int .i64 ul, .int .i64 uc, .bool uq, .bool um] 36)).alloc (by omega) (.cells (itCells noRaw) 33)).alloc (by omega) (.cells (whCs er ul uc) 26)).drew
  refine bodyPost_ret (results_two_rows (ty := 33) (tz := 26) rfl _ _ (w.heap.size + 1) (w.heap.size + 1 + 1) _ _ (itCells noRaw) (whCs er ul uc) _ _ _ _ rfl rfl h3 h2 Try.underlying33 rfl (by kernel_rfl) Try.underlying26 rfl (by kernel_rfl)) rfl ?_
  exact ⟨rfl, hB⟩

end Go.Proofs.Ythpipbkbldlfjaa
