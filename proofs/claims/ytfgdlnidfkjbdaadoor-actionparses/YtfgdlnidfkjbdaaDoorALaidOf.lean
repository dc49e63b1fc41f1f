/-
  WHAT THE CARD's LIST SAYS OF THE PROGRAM's TABLES.
-/
import Derived.Test.YtfgdlnidfkjbdaaDoorANum
import Derived.Test.YtfgdlnidfkjbdaaDoorLaw
import Derived.LaidLaws
import Derived.Lib.LaidTab
import Derived.MakeChecks
namespace Go.Proofs.YtfgdlnidfkjbdaaDoor
open Go.ChangeShapes Go.WideShapes Go.ChangeAt Go.RowKit

theorem cellsK9 : Tryd.prog.cellsOf 9 = 1 := by kernel_rfl
theorem cellsK3 : Tryd.prog.cellsOf 3 = 1 := by kernel_rfl
theorem cellsK4 : Tryd.prog.cellsOf 4 = 1 := by kernel_rfl
theorem cellsKK : Tryd.prog.cellsOf 86 = 5 := by kernel_rfl
theorem cellsKs : Tryd.prog.cellsOf 87 = 65 := by kernel_rfl
set_option maxRecDepth 100000 in
/-- a kind's five cells -/
theorem kind_cells {W : World} {fuel : Nat} {cs : List Value} {s : List UInt8} {l m : Int} {n b : Bool} {p : List MemPlace} (h : DataW.trod (fun _ => ()) Tryd.prog W 0 (fun _ => true) false fuel 86 cs = some ((.agg [.lit (.string s), .lit (.int .i64 l), .lit (.int .i64 m), .lit (.bool n), .lit (.bool b)] : DataW Unit), p)) :
    cs = [.string ⟨s.toArray⟩, .int .i64 l, .int .i64 m, .bool n, .bool b] := by
  obtain ⟨xs, n', _, hx, hl', hlen', hfld⟩ := DataW.trod_struct Tryd.underlying86 h
  rw [cellsKK] at hl'
  match xs, hlen' with
  | [y0, y1, y2, y3, y4], _ =>
    match cs, hl' with
    | [c0, c1, c2, c3, c4], _ =>
      have hxx := (Prod.mk.inj hx).1
      simp only [List.map_cons, List.map_nil, DataW.agg.injEq, List.cons.injEq, and_true] at hxx
      obtain ⟨e0, e1, e2, e3, e4⟩ := hxx
      have t0 := hfld 0 _ rfl
      have t1 := hfld 1 _ rfl
      have t2 := hfld 2 _ rfl
      have t3 := hfld 3 _ rfl
      have t4 := hfld 4 _ rfl
      obtain ⟨k0, q0, x0, _⟩ := DataW.trod_string Tryd.underlying9 (by simpa using t0)
      obtain ⟨k1, q1, x1, _⟩ := DataW.trod_int Tryd.underlying3 (by simpa using t1)
      obtain ⟨k2, q2, x2, _⟩ := DataW.trod_int Tryd.underlying3 (by simpa using t2)
      obtain ⟨k3, q3, x3⟩ := DataW.trod_bool Tryd.underlying4 (by simpa using t3)
      obtain ⟨k4, q4, x4⟩ := DataW.trod_bool Tryd.underlying4 (by simpa using t4)
      simp [cellsK9, cellsK3, cellsK4] at q0 q1 q2 q3 q4
      subst q0 q1 q2 q3 q4
      rw [x0] at e0
      rw [x1] at e1
      rw [x2] at e2
      rw [x3] at e3
      rw [x4] at e4
      simp only [DataW.lit.injEq, Lit.string.injEq, Lit.int.injEq, Lit.bool.injEq, true_and] at e0 e1 e2 e3 e4
      subst e1 e2 e3 e4
      rw [e0]

/-- a kind's row as it is listed -/
def kDat (i : Nat) : DataW Unit := .agg [.lit (.string (Ac.kw i)), .lit (.int .i64 (Ac.kl i)), .lit (.int .i64 (Ac.km i)), .lit (.bool (Ac.kn i)), .lit (.bool (Ac.kb i))]
theorem kinds_listed : (Rows.laid_brickyard_action_kinds : DataW Unit) = .agg [kDat 0, kDat 1, kDat 2, kDat 3, kDat 4, kDat 5, kDat 6, kDat 7, kDat 8, kDat 9, kDat 10, kDat 11, kDat 12] := rfl
theorem kDat_at : ∀ i : Nat, i < 13 → ([kDat 0, kDat 1, kDat 2, kDat 3, kDat 4, kDat 5, kDat 6, kDat 7, kDat 8, kDat 9, kDat 10, kDat 11, kDat 12] : List (DataW Unit))[i]? = some (kDat i) := by
  intro i hi
  match i, hi with
  | 0, _ | 1, _ | 2, _ | 3, _ | 4, _ | 5, _ | 6, _ | 7, _ | 8, _ | 9, _ | 10, _ | 11, _ | 12, _ => rfl
set_option maxRecDepth 100000 in
theorem kinds_cells {W : World} {fuel : Nat} {cs : List Value} {p : List MemPlace} (h : DataW.trod (fun _ => ()) Tryd.prog W 0 (fun _ => true) false fuel 87 cs = some ((Rows.laid_brickyard_action_kinds : DataW Unit), p)) : cs = Ac.kCells := by
  rw [kinds_listed] at h
  cases fuel with
  | zero => simp [DataW.trod] at h
  | succ fuel =>
    simp only [DataW.trod, Tryd.underlying87, cellsKK, cellsKs] at h
    split at h
    · rename_i hl
      obtain ⟨xs, hm, hx⟩ := Option.map_eq_some_iff.1 h
      have hxs : xs.map (·.1) = [kDat 0, kDat 1, kDat 2, kDat 3, kDat 4, kDat 5, kDat 6, kDat 7, kDat 8, kDat 9, kDat 10, kDat 11, kDat 12] := by
        have := congrArg Prod.fst hx
        simpa using this
      have row : ∀ i, i < 13 → (cs.drop (i * 5)).take 5 = Ac.kRow i := by
        intro i hi
        obtain ⟨b, hb, hf⟩ := Lib.mapM_at hm i i (by simp [hi])
        have h2 : (xs.map (·.1))[i]? = some b.1 := by simp [hb]
        rw [hxs, kDat_at i hi] at h2
        have h3 : b.1 = kDat i := (Option.some.inj h2).symm
        have hf' : DataW.trod (fun _ => ()) Tryd.prog W 0 (fun _ => true) false fuel 86 ((cs.drop (i * 5)).take 5) = some (kDat i, b.2) := by rw [← h3]; exact hf
        exact kind_cells hf'
      apply List.ext_getElem?
      intro j
      by_cases hj : j < 65
      · have h1 := row (j / 5) (by omega)
        have h2 : ((cs.drop (j / 5 * 5)).take 5)[j % 5]? = cs[j]? := by
          rw [List.getElem?_take, if_pos (Nat.mod_lt _ (by omega)), List.getElem?_drop]
          congr 1
          omega
        rw [← h2, h1, ← Ac.kCells_at (j / 5) (by omega) (j % 5) (Nat.mod_lt _ (by omega))]
        congr 1
        omega
      · rw [List.getElem?_eq_none (by omega), List.getElem?_eq_none (by rw [Ac.kCells_length]; omega)]
    · cases h
/-- what the rows list -/
def laid6 : List (String × DataW Unit) := [("math/bits.deBruijn32tab", Rows.laid_math_bits_deBruijn32tab), ("math/bits.deBruijn64tab", Rows.laid_math_bits_deBruijn64tab), ("internal/strconv.uint64pow10", Rows.laid_internal_strconv_uint64pow10), ("strconv.ErrRange", Rows.laid_strconv_ErrRange), ("strconv.ErrSyntax", Rows.laid_strconv_ErrSyntax), ("brickyard/action.kinds", Rows.laid_brickyard_action_kinds)]
set_option maxRecDepth 100000 in
theorem laid_of {W : World} (h : laidMetH Tryd.prog laid6 W) : Laid W := by
  rw [MakeChecks.laidMetH_plain _ _ _ (by kernel_rfl)] at h
  obtain ⟨ps, h, -⟩ := h
  obtain ⟨g1, t1, c1, f1, p1, q1, -, -, -, -, h, -⟩ := h
  obtain ⟨g2, t2, c2, f2, p2, q2, hg2, -, hv2, -, h, -⟩ := h
  have e2 : Tryd.prog.globalNamed "math/bits.deBruijn64tab" = some 6 := by kernel_rfl
  have hz : 7 ≤ W.heap.size := by
    rcases Nat.lt_or_ge 6 W.heap.size with h1 | h1
    · exact h1
    · unfold World.var? at hv2
      rw [e2] at hv2
      simp only [Option.bind_some] at hv2
      rw [Array.getElem?_eq_none h1] at hv2
      cases hv2
  obtain ⟨g3, t3, c3, f3, p3, q3, hg3, ht3, hv3, hd3, h, -⟩ := h
  obtain ⟨g4, t4, c4, f4, p4, q4, hg4, ht4, hv4, hd4, h, -⟩ := h
  obtain ⟨g5, t5, c5, f5, p5, q5, hg5, ht5, hv5, hd5, h, -⟩ := h
  obtain ⟨g6, t6, c6, f6, p6, q6, hg6, ht6, hv6, hd6, h, -⟩ := h
  have e3 : Tryd.prog.globalNamed "internal/strconv.uint64pow10" = some 1 := by kernel_rfl
  have e4 : Tryd.prog.globalNamed "strconv.ErrRange" = some 4 := by kernel_rfl
  have e5 : Tryd.prog.globalNamed "strconv.ErrSyntax" = some 3 := by kernel_rfl
  have e6 : Tryd.prog.globalNamed "brickyard/action.kinds" = some 0 := by kernel_rfl
  obtain rfl := Option.some.inj (e3.symm.trans hg3)
  obtain rfl := Option.some.inj (e4.symm.trans hg4)
  obtain rfl := Option.some.inj (e5.symm.trans hg5)
  obtain rfl := Option.some.inj (e6.symm.trans hg6)
  obtain rfl : 124 = t3 := Option.some.inj ((show (Tryd.prog.globals[1]?).map (·.type) = some 124 by kernel_rfl).symm.trans ht3)
  obtain rfl : 68 = t4 := Option.some.inj ((show (Tryd.prog.globals[4]?).map (·.type) = some 68 by kernel_rfl).symm.trans ht4)
  obtain rfl : 68 = t5 := Option.some.inj ((show (Tryd.prog.globals[3]?).map (·.type) = some 68 by kernel_rfl).symm.trans ht5)
  obtain rfl : 87 = t6 := Option.some.inj ((show (Tryd.prog.globals[0]?).map (·.type) = some 87 by kernel_rfl).symm.trans ht6)
  refine ⟨fun j u hu => ?_, ?_, ?_, ?_, hz⟩
  · rw [World.var?_cell e6 hv6 j, ← Array.getElem?_toList, kinds_cells hd6]
    exact hu
  · have := Lib.cells_of_tab (k := .u64) (zs := Lib.pow10Tab) Tryd.underlying124 Tryd.underlying112 (by kernel_rfl) (by kernel_rfl) hd3
    unfold Lib.TabIs
    rw [hv3, ← this]
  · obtain ⟨_, u, v, hc, -⟩ := iface_of_trod Tryd.underlying68 hd5
    exact ⟨u, v, by rw [World.var?_cell e5 hv5 0, ← Array.getElem?_toList, hc]; rfl⟩
  · obtain ⟨_, u, v, hc, -⟩ := iface_of_trod Tryd.underlying68 hd4
    exact ⟨u, v, by rw [World.var?_cell e4 hv4 0, ← Array.getElem?_toList, hc]; rfl⟩

end Go.Proofs.YtfgdlnidfkjbdaaDoor
