/-
  InterpBegins' walk, whole.
-/
import Derived.Test.YtnobmgkdieaclaaGreatDoorIpFuelP
import Derived.Test.YtnobmgkdieaclaaGreatDoorIbOne
import Derived.Test.YtnobmgkdieaclaaGreatDoorALineR
import Derived.Test.YtnobmgkdieaclaaGreatDoorIpFiles
import Derived.Test.YtnobmgkdieaclaaGreatDoorAcLaid
import Derived.Test.YtnobmgkdieaclaaGreatDoorKit
import Derived.LaidLaws
import Derived.Lib.LaidTab
import Derived.MakeChecks
namespace Go.Proofs.YtnobmgkdieaclaaGreatDoor
open Go.RowKit

theorem begins_full (va : Option Addr) (vn vc : Nat) (ta : Option Addr) (tn tc : Nat) (F : Int) (f : Ac.Fo) (ts : List (List UInt8)) (w : World) (hL : Laid w) (hj : JobS w w.heap.size va vn vc ta tn tc f ts) (h1 : -9223372036854775808 ≤ F) (h2 : F ≤ 9223372036854775807) :
    Calls Tryz.prog 3 #[jobV va vn vc ta tn tc F] w fun e w' => e = .returned (.bool true) ∧ Below w.heap.size w w' :=
  begins_walk OneT_any va vn vc ta tn tc F f ts w hL hj h1 h2
end Go.Proofs.YtnobmgkdieaclaaGreatDoor

namespace Go.Proofs.YtnobmgkdieaclaaGreatDoor
open Go.ChangeShapes Go.WideShapes Go.ChangeAt Go.RowKit

instance : Inhabited (Ip.B × Ip.B) := ⟨([], [])⟩
theorem cellsAJ : Tryz.prog.cellsOf 25 = 3 := by kernel_rfl
theorem cellsAF : Tryz.prog.cellsOf 100 = 2 := by kernel_rfl
set_option maxRecDepth 100000 in
theorem open_job {H : Type} {enc : TypeId × Value → H} {W : World} {base : Nat} {v : Value} {d : DataW H} {p : List MemPlace} (hok : Value.okWide Tryz.prog W .any base 25 v) (h : DataW.Trod enc Tryz.prog W 0 (fun _ => true) true 25 v d p) (hsz : ∀ n ∈ d.weights Tryz.prog 25, n ≤ reachBytes) :
    ∃ va vn vc ta tn tc fuel f ts, v = jobV va vn vc ta tn tc fuel ∧ JobS W W.heap.size va vn vc ta tn tc f ts ∧ (-9223372036854775808 ≤ fuel ∧ fuel ≤ 9223372036854775807) := by
  obtain ⟨cs, rfl, hcs⟩ := okWide_struct Tryz.underlying25 hok
  rw [cellsAJ] at hcs
  obtain ⟨fuel, hf⟩ := h
  obtain ⟨l⟩ := cs
  match l, hcs with
  | [c0, c1, c2], _ =>
    obtain ⟨xs, n', _, hDx, hl', hlen', hfld⟩ := DataW.trod_struct Tryz.underlying25 hf
    match xs, hlen' with
    | [y0, y1, y2], _ =>
      have t0 : DataW.trod enc Tryz.prog W 0 (fun _ => true) true n' 22 [c0] = some y0 := by
        have t : DataW.trod enc Tryz.prog W 0 (fun _ => true) true n' 22 (([c0, c1, c2].drop 0).take (Tryz.prog.cellsOf 22)) = some y0 := hfld 0 _ rfl
        rw [cellsAL] at t
        exact t
      have t1 : DataW.trod enc Tryz.prog W 0 (fun _ => true) true n' 23 [c1] = some y1 := by
        have t : DataW.trod enc Tryz.prog W 0 (fun _ => true) true n' 23 (([c0, c1, c2].drop 1).take (Tryz.prog.cellsOf 23)) = some y1 := hfld 1 _ rfl
        rw [cellsAT] at t
        exact t
      have t2 : DataW.trod enc Tryz.prog W 0 (fun _ => true) true n' 3 [c2] = some y2 := by
        have t : DataW.trod enc Tryz.prog W 0 (fun _ => true) true n' 3 (([c0, c1, c2].drop 2).take (Tryz.prog.cellsOf 3)) = some y2 := hfld 2 _ rfl
        rw [cellsA3] at t
        exact t
      have hD : d = .agg [y0.1, y1.1, y2.1] := (Prod.mk.inj hDx).1
      obtain ⟨k2, e2, hk2, hw2⟩ := DataW.trod_int Tryz.underlying3 t2
      simp only [List.cons.injEq, and_true] at e2
      subst e2
      have g : ∀ n ∈ DataW.weightsEach Tryz.prog [22, 23, 3] [y0.1, y1.1, y2.1], n ≤ reachBytes := fun n hn => hsz n (by
        rw [hD]
        simp only [DataW.weights, Tryz.underlying25]
        exact hn)
      obtain ⟨f, f1, f2, f3⟩ := open_fo _ n' c0 y0.1 y0.2 (Nat.lt_succ_self _) t0 (fun n hn => g n (DataW.weights_mem_each (j := 0) rfl rfl n hn))
      obtain ⟨ts, s1, s2⟩ := open_texts (d := y1.1) (p := y1.2) t1
      obtain ⟨s2, s3⟩ := s2 (fun n hn => g n (DataW.weights_mem_each (j := 1) rfl rfl n hn))
      obtain ⟨va, vc, rfl, _⟩ := f1.shape
      obtain ⟨ta, tc, rfl, _⟩ := s1.shape
      refine ⟨va, _, vc, ta, _, tc, k2, f, ts, rfl, ⟨f1, s1, Nat.le_refl _, f2, f3, by omega, s3⟩, ?_⟩
      simpa [Lit.wf, IntKind.min, IntKind.max, IntKind.signed, IntKind.bits] using hw2
set_option maxRecDepth 100000 in
theorem open_files {H : Type} {enc : TypeId × Value → H} {W : World} {v : Value} {d : DataW H} {p : List MemPlace} {base : Nat} (hok : Value.okWide Tryz.prog W .any base 54 v) (h : DataW.Trod enc Tryz.prog W 0 (fun _ => true) true 54 v d p) (hsz : ∀ n ∈ d.weights Tryz.prog 54, n ≤ reachBytes) :
    ∃ l, FiR.Sl W W.heap.size v l ∧ l.length ≤ 140737488351232 ∧ ∀ a ∈ l, a.2.length ≤ 140737488351232 := by
  obtain ⟨a0, len, cap, rfl⟩ := okWide_slice Tryz.underlying54 hok
  obtain ⟨fuel, hf⟩ := h
  obtain ⟨l, h1, h2, h3⟩ := Rc.openSized FiR cellsAF hf (fun a d' => (∀ n ∈ d'.weights Tryz.prog 100, n ≤ reachBytes) → a.2.length ≤ reachBytes) (by
    intro fuel cs x hlen htr hsx
    obtain ⟨xs, n', _, hDx, hl', hlen', hfld⟩ := DataW.trod_struct Tryz.underlying100 htr
    match xs, hlen' with
    | [y0, y1], _ =>
      match cs, hlen with
      | [c0, c1], _ =>
        have t0 : DataW.trod enc Tryz.prog W 0 (fun _ => true) true n' 9 [c0] = some y0 := by
          have t : DataW.trod enc Tryz.prog W 0 (fun _ => true) true n' 9 (([c0, c1].drop 0).take (Tryz.prog.cellsOf 9)) = some y0 := hfld 0 _ rfl
          rw [cellsA9] at t
          exact t
        have t1 : DataW.trod enc Tryz.prog W 0 (fun _ => true) true n' 9 [c1] = some y1 := by
          have t : DataW.trod enc Tryz.prog W 0 (fun _ => true) true n' 9 (([c0, c1].drop 1).take (Tryz.prog.cellsOf 9)) = some y1 := hfld 1 _ rfl
          rw [cellsA9] at t
          exact t
        have hD : x.1 = .agg [y0.1, y1.1] := by rw [hDx]; rfl
        obtain ⟨k0, e0, x0, _⟩ := DataW.trod_string Tryz.underlying9 t0
        obtain ⟨k1, e1, x1, _⟩ := DataW.trod_string Tryz.underlying9 t1
        simp only [List.cons.injEq, and_true] at e0 e1
        subst e0 e1
        refine ⟨(bs k0, bs k1), by show [Value.string k0, .string k1] = [Value.string (str (bs k0)), .string (str (bs k1))]; rw [str_bs, str_bs], fun hw => ?_⟩
        have g : ∀ n ∈ DataW.weightsEach Tryz.prog [9, 9] [y0.1, y1.1], n ≤ reachBytes := fun n hn => hw n (by
          rw [hD]
          simp only [DataW.weights, Tryz.underlying100]
          exact hn)
        have := g k1.data.toList.length (DataW.weights_mem_each (j := 1) rfl rfl _ (by rw [x1]; simp [DataW.weights]))
        exact this)
  refine ⟨l, h1, ?_, fun a ha => ?_⟩
  · rcases h3 with rfl | ⟨n, hn, hl⟩
    · exact Nat.zero_le _
    · have := hsz n hn
      have e32 : Tryz.prog.bytesOf 100 = 32 := by kernel_rfl
      have hl' : l.length * 32 ≤ n := by rw [← e32]; exact hl
      have := reach_is
      omega
  · obtain ⟨d', q1, q2⟩ := h2 a ha
    have := q1 fun n hn => hsz n (q2 n hn)
    have := reach_is
    omega
end Go.Proofs.YtnobmgkdieaclaaGreatDoor

namespace Go.Proofs.YtnobmgkdieaclaaGreatDoor
open Go.ChangeShapes Go.WideShapes Go.ChangeAt Go.RowKit

theorem cellsK9 : Tryz.prog.cellsOf 9 = 1 := by kernel_rfl
theorem cellsK3 : Tryz.prog.cellsOf 3 = 1 := by kernel_rfl
theorem cellsK4 : Tryz.prog.cellsOf 4 = 1 := by kernel_rfl
theorem cellsKK : Tryz.prog.cellsOf 120 = 5 := by kernel_rfl
theorem cellsKs : Tryz.prog.cellsOf 121 = 65 := by kernel_rfl
set_option maxRecDepth 100000 in
/-- a kind's five cells -/
theorem kind_cells {W : World} {fuel : Nat} {cs : List Value} {s : List UInt8} {l m : Int} {n b : Bool} {p : List MemPlace} (h : DataW.trod (fun _ => ()) Tryz.prog W 0 (fun _ => true) false fuel 120 cs = some ((.agg [.lit (.string s), .lit (.int .i64 l), .lit (.int .i64 m), .lit (.bool n), .lit (.bool b)] : DataW Unit), p)) :
    cs = [.string ⟨s.toArray⟩, .int .i64 l, .int .i64 m, .bool n, .bool b] := by
  obtain ⟨xs, n', _, hx, hl', hlen', hfld⟩ := DataW.trod_struct Tryz.underlying120 h
  rw [cellsKK] at hl'
  match xs, hlen' with
  | [y0, y1, y2, y3, y4], _ =>
    match cs, hl' with
    | [c0, c1, c2, c3, c4], _ =>
      have hxx := (Prod.mk.inj hx).1
      simp only [List.map_cons, List.map_nil, DataW.agg.injEq, List.cons.injEq, and_true] at hxx
      obtain ⟨e0, e1, e2, e3, e4⟩ := hxx
      have t0 := hfld 0 _ rfl
      have t1 := hfld 1 _ rfl
      have t2 := hfld 2 _ rfl
      have t3 := hfld 3 _ rfl
      have t4 := hfld 4 _ rfl
      obtain ⟨k0, q0, x0, _⟩ := DataW.trod_string Tryz.underlying9 (by simpa using t0)
      obtain ⟨k1, q1, x1, _⟩ := DataW.trod_int Tryz.underlying3 (by simpa using t1)
      obtain ⟨k2, q2, x2, _⟩ := DataW.trod_int Tryz.underlying3 (by simpa using t2)
      obtain ⟨k3, q3, x3⟩ := DataW.trod_bool Tryz.underlying4 (by simpa using t3)
      obtain ⟨k4, q4, x4⟩ := DataW.trod_bool Tryz.underlying4 (by simpa using t4)
      simp [cellsK9, cellsK3, cellsK4] at q0 q1 q2 q3 q4
      subst q0 q1 q2 q3 q4
      rw [x0] at e0
      rw [x1] at e1
      rw [x2] at e2
      rw [x3] at e3
      rw [x4] at e4
      simp only [DataW.lit.injEq, Lit.string.injEq, Lit.int.injEq, Lit.bool.injEq, true_and] at e0 e1 e2 e3 e4
      subst e1 e2 e3 e4
      rw [e0]

/-- a kind's row as it is listed -/
def kDat (i : Nat) : DataW Unit := .agg [.lit (.string (Ac.kw i)), .lit (.int .i64 (Ac.kl i)), .lit (.int .i64 (Ac.km i)), .lit (.bool (Ac.kn i)), .lit (.bool (Ac.kb i))]
theorem kinds_listed : (Rows.laid_brickyard_action_kinds : DataW Unit) = .agg [kDat 0, kDat 1, kDat 2, kDat 3, kDat 4, kDat 5, kDat 6, kDat 7, kDat 8, kDat 9, kDat 10, kDat 11, kDat 12] := rfl
theorem kDat_at : ∀ i : Nat, i < 13 → ([kDat 0, kDat 1, kDat 2, kDat 3, kDat 4, kDat 5, kDat 6, kDat 7, kDat 8, kDat 9, kDat 10, kDat 11, kDat 12] : List (DataW Unit))[i]? = some (kDat i) := by
  intro i hi
  match i, hi with
  | 0, _ | 1, _ | 2, _ | 3, _ | 4, _ | 5, _ | 6, _ | 7, _ | 8, _ | 9, _ | 10, _ | 11, _ | 12, _ => rfl
set_option maxRecDepth 100000 in
theorem kinds_cells {W : World} {fuel : Nat} {cs : List Value} {p : List MemPlace} (h : DataW.trod (fun _ => ()) Tryz.prog W 0 (fun _ => true) false fuel 121 cs = some ((Rows.laid_brickyard_action_kinds : DataW Unit), p)) : cs = Ac.kCells := by
  rw [kinds_listed] at h
  cases fuel with
  | zero => simp [DataW.trod] at h
  | succ fuel =>
    simp only [DataW.trod, Tryz.underlying121, cellsKK, cellsKs] at h
    split at h
    · rename_i hl
      obtain ⟨xs, hm, hx⟩ := Option.map_eq_some_iff.1 h
      have hxs : xs.map (·.1) = [kDat 0, kDat 1, kDat 2, kDat 3, kDat 4, kDat 5, kDat 6, kDat 7, kDat 8, kDat 9, kDat 10, kDat 11, kDat 12] := by
        have := congrArg Prod.fst hx
        simpa using this
      have row : ∀ i, i < 13 → (cs.drop (i * 5)).take 5 = Ac.kRow i := by
        intro i hi
        obtain ⟨b, hb, hf⟩ := Lib.mapM_at hm i i (by simp [hi])
        have h2 : (xs.map (·.1))[i]? = some b.1 := by simp [hb]
        rw [hxs, kDat_at i hi] at h2
        have h3 : b.1 = kDat i := (Option.some.inj h2).symm
        have hf' : DataW.trod (fun _ => ()) Tryz.prog W 0 (fun _ => true) false fuel 120 ((cs.drop (i * 5)).take 5) = some (kDat i, b.2) := by rw [← h3]; exact hf
        exact kind_cells hf'
      apply List.ext_getElem?
      intro j
      by_cases hj : j < 65
      · have h1 := row (j / 5) (by omega)
        have h2 : ((cs.drop (j / 5 * 5)).take 5)[j % 5]? = cs[j]? := by
          rw [List.getElem?_take, if_pos (Nat.mod_lt _ (by omega)), List.getElem?_drop]
          congr 1
          omega
        rw [← h2, h1, ← Ac.kCells_at (j / 5) (by omega) (j % 5) (Nat.mod_lt _ (by omega))]
        congr 1
        omega
      · rw [List.getElem?_eq_none (by omega), List.getElem?_eq_none (by rw [Ac.kCells_length]; omega)]
    · cases h
/-- what the rows list -/
def laidI : List (String × DataW Unit) := [("math/bits.deBruijn32tab", Rows.laid_math_bits_deBruijn32tab), ("math/bits.deBruijn64tab", Rows.laid_math_bits_deBruijn64tab), ("internal/strconv.uint64pow10", Rows.laid_internal_strconv_uint64pow10), ("unicode/utf8.acceptRanges", Rows.laid_unicode_utf8_acceptRanges), ("brickyard/action.kinds", Rows.laid_brickyard_action_kinds), ("unicode/utf8.first", Rows.laid_unicode_utf8_first)]
set_option maxRecDepth 100000 in
theorem laid_of {W : World} (h : laidMetH Tryz.prog laidI W) : Laid W := by
  rw [MakeChecks.laidMetH_plain _ _ _ (by kernel_rfl)] at h
  obtain ⟨ps, h, -⟩ := h
  obtain ⟨g1, t1, c1, f1, p1, q1, hg1, -, hv1, -, h, -⟩ := h
  obtain ⟨g2, t2, c2, f2, p2, q2, hg2, -, hv2, -, h, -⟩ := h
  obtain ⟨g3, t3, c3, f3, p3, q3, hg3, ht3, hv3, hd3, h, -⟩ := h
  obtain ⟨g4, t4, c4, f4, p4, q4, hg4, -, hv4, -, h, -⟩ := h
  obtain ⟨g5, t5, c5, f5, p5, q5, hg5, ht5, hv5, hd5, h, -⟩ := h
  have e9 : Tryz.prog.globalNamed "math/bits.deBruijn64tab" = some 6 := by kernel_rfl
  have hz : 7 ≤ W.heap.size := by
    rcases Nat.lt_or_ge 6 W.heap.size with h1 | h1
    · exact h1
    · unfold World.var? at hv2
      rw [e9] at hv2
      simp only [Option.bind_some] at hv2
      rw [Array.getElem?_eq_none h1] at hv2
      cases hv2
  have e3 : Tryz.prog.globalNamed "internal/strconv.uint64pow10" = some 4 := by kernel_rfl
  have e6 : Tryz.prog.globalNamed "brickyard/action.kinds" = some 0 := by kernel_rfl
  obtain rfl := Option.some.inj (e3.symm.trans hg3)
  obtain rfl := Option.some.inj (e6.symm.trans hg5)
  obtain rfl : 208 = t3 := Option.some.inj ((show (Tryz.prog.globals[4]?).map (·.type) = some 208 by kernel_rfl).symm.trans ht3)
  obtain rfl : 121 = t5 := Option.some.inj ((show (Tryz.prog.globals[0]?).map (·.type) = some 121 by kernel_rfl).symm.trans ht5)
  refine ⟨fun j u hu => ?_, ?_, hz⟩
  · rw [World.var?_cell e6 hv5 j, ← Array.getElem?_toList, kinds_cells hd5]
    exact hu
  · have := Lib.cells_of_tab (k := .u64) (zs := Lib.pow10Tab) Tryz.underlying208 Tryz.underlying168 (by kernel_rfl) (by kernel_rfl) hd3
    unfold Lib.TabIs
    rw [hv3, ← this]
end Go.Proofs.YtnobmgkdieaclaaGreatDoor
