/-
  A ROW OF RECORDS THAT COMES IN, opened.
-/
import Derived.Test.YthpipbkbldlfjaaKit
import Derived.Test.YthpipbkbldlfjaaLaw
import Derived.Deep.Slices
import Derived.Deep.Strs
import Derived.SizedLaws
import Derived.Test.YthpipbkbldlfjaaYWrite
import Derived.Test.YthpipbkbldlfjaaRName
import Derived.Test.YthpipbkbldlfjaaRSame
import Derived.Test.YthpipbkbldlfjaaRPrint
import Derived.Test.YthpipbkbldlfjaaRlMath
import Derived.Test.YthpipbkbldlfjaaXSize
import Derived.Test.YthpipbkbldlfjaaYSame
namespace Go.Proofs.Ythpipbkbldlfjaa
open Go.ChangeShapes Go.WideShapes Go.ChangeAt Go.RowKit

theorem weights_mem_all {H : Type} {P : Program} {e : TypeId} : ∀ {ds : List (DataW H)} {d : DataW H}, d ∈ ds → ∀ n ∈ d.weights P e, n ∈ DataW.weightsAll P e ds
  | d0 :: ds, d, hd, n, hn => by
    simp only [DataW.weightsAll, List.mem_append]
    rcases List.mem_cons.1 hd with rfl | hd
    · exact .inl hn
    · exact .inr (weights_mem_all hd n hn)
set_option maxRecDepth 100000 in
theorem Rc.openRows {α : Type} (R : Rc α) [Inhabited α] {H : Type} {enc : TypeId × Value → H} {W : World} {base : Nat} {v : Value} {d : DataW H} {p : List MemPlace} (hce : Try.prog.cellsOf R.e = R.k)
    (hok : Value.okWide Try.prog W .any base R.st v) (h : DataW.Trod enc Try.prog W 0 (fun _ => true) true R.st v d p) (Q : α → DataW H → Prop)
    (one : ∀ fuel cs x, cs.length = R.k → DataW.trod enc Try.prog W 0 (fun _ => true) true fuel R.e cs = some x → ∃ a, R.enc a = cs ∧ Q a x.1) :
    ∃ l : List α, R.Sl W W.heap.size v l ∧ (∀ a ∈ l, ∃ d', Q a d' ∧ ∀ n ∈ d'.weights Try.prog R.e, n ∈ d.weights Try.prog R.st) ∧ (l = [] ∨ ∃ n ∈ d.weights Try.prog R.st, l.length * Try.prog.bytesOf R.e ≤ n) := by
  obtain ⟨a0, len, cap, rfl⟩ := okWide_slice R.under hok
  obtain ⟨fuel, hf⟩ := h
  rcases Deep.open_slice R.under hf with ⟨hcs, _⟩ | ⟨x, l, c, m, n, D, Pl, hcs, _, hl, hm, hz, hx, hel⟩
  · simp [Value.cells] at hcs
    obtain ⟨rfl, rfl, rfl⟩ := hcs
    exact ⟨[], Rc.Sl.nil W _, by simp, .inl rfl⟩
  · simp [Value.cells] at hcs
    obtain ⟨rfl, rfl, rfl⟩ := hcs
    simp only [if_true] at hz
    subst hz
    simp only [Prod.mk.injEq] at hx
    obtain ⟨hxd, -⟩ := hx
    have each : ∀ i, i < m → ∃ t : α, (∀ s u, (R.enc t)[s]? = some u → W.cell? ((x.add (i * R.k)).add s) = some u) ∧ Q t (D i) := by
      intro i hi
      obtain ⟨cs', hcs', htr⟩ := hel i hi
      rw [hce] at hcs'
      obtain ⟨_, hlen, hcell⟩ := World.cells?_some hcs'
      obtain ⟨a, ha, hq⟩ := one _ cs' _ hlen htr
      refine ⟨a, fun s u hu => ?_, hq⟩
      rw [ha] at hu
      have hs : s < R.k := by rw [← hlen]; exact (List.getElem?_eq_some_iff.1 hu).1
      rw [hcell s hs]
      exact hu
    obtain ⟨f, hf'⟩ := Deep.choose_lt each
    have hql : ((List.range len).map f).length = len := by simp
    refine ⟨(List.range len).map f, ⟨some x, m, by rw [hql], by rw [hql]; omega, (fun h => by cases h), fun hne => ?_⟩, fun a ha => ?_, .inr ⟨(len + (m - len)) * Try.prog.bytesOf R.e, ?_, ?_⟩⟩
    · have hpos : 0 < len := by
        rcases Nat.eq_zero_or_pos len with h0 | h0
        · subst h0; exact absurd (by simp) hne
        · exact h0
      have hk0 : 0 < R.k := R.pos
      have hel0 : 0 < (R.enc (f 0)).length := by rw [R.len]; exact hk0
      have hz : (x.add (0 * R.k)).add 0 = x.add 0 := by
        rw [Nat.zero_mul]
        unfold Addr.add
        split <;> simp_all
      have h00 := (hf' 0 (by omega)).1 0 _ (List.getElem?_eq_getElem hel0)
      rw [hz] at h00
      have hs := spot_none (x := x) h00
      obtain ⟨b, o, sp⟩ := x
      simp only at hs
      subst hs
      refine ⟨b, o, rfl, World.block_lt_of_cell? W _ (by simpa [Addr.add] using h00), fun q u hu => ?_⟩
      have hqlt : q < len * R.k := by
        have := (List.getElem?_eq_some_iff.1 hu).1
        rw [R.vals_length, hql] at this
        exact this
      have hj : q / R.k < len := (Nat.div_lt_iff_lt_mul hk0).2 hqlt
      have hfm : q % R.k < R.k := Nat.mod_lt _ hk0
      have hq : q / R.k * R.k + q % R.k = q := by rw [Nat.mul_comm]; exact Nat.div_add_mod q R.k
      have hv := R.vals_get ((List.range len).map f) (q / R.k) (q % R.k) (by rw [hql]; exact hj) hfm
      rw [hq, hu] at hv
      have e : ((List.range len).map f)[q / R.k]'(by rw [hql]; exact hj) = f (q / R.k) := by simp
      rw [e] at hv
      have g0 := (hf' (q / R.k) (by omega)).1 _ _ hv.symm
      rw [addr_at, addr_at, Nat.add_assoc, hq] at g0
      exact g0
    · obtain ⟨j, hj, rfl⟩ := List.mem_map.1 ha
      rw [List.mem_range] at hj
      refine ⟨D j, (hf' j (by omega)).2, fun n hn => ?_⟩
      rw [hxd]
      simp only [DataW.weights, R.under, List.mem_cons, List.mem_append]
      exact .inr (.inl (weights_mem_all (List.mem_map.2 ⟨j, List.mem_range.2 hj, rfl⟩) n hn))
    · rw [hxd]
      simp only [DataW.weights, R.under, List.mem_cons, List.length_map, List.length_range]
      exact .inl (by simp)
    · rw [hql]
      exact Nat.mul_le_mul_right _ (by omega)

end Go.Proofs.Ythpipbkbldlfjaa

namespace Go.Proofs.Ythpipbkbldlfjaa
open Go.ChangeShapes Go.WideShapes Go.ChangeAt Go.RowKit

set_option maxRecDepth 100000 in
theorem Rc.openCells {α : Type} (R : Rc α) [Inhabited α] {H : Type} {enc : TypeId × Value → H} {W : World} {fuel0 : Nat} {v : Value} {d : DataW H} {p : List MemPlace} (hce : Try.prog.cellsOf R.e = R.k)
    (hf : DataW.trod enc Try.prog W 0 (fun _ => true) true fuel0 R.st [v] = some (d, p)) (Q : α → DataW H → Prop)
    (one : ∀ fuel cs x, cs.length = R.k → DataW.trod enc Try.prog W 0 (fun _ => true) true fuel R.e cs = some x → ∃ a, R.enc a = cs ∧ Q a x.1) :
    ∃ l : List α, R.Sl W W.heap.size v l ∧ (∀ a ∈ l, ∃ d', Q a d' ∧ ∀ n ∈ d'.weights Try.prog R.e, n ∈ d.weights Try.prog R.st) ∧ (l = [] ∨ ∃ n ∈ d.weights Try.prog R.st, l.length * Try.prog.bytesOf R.e ≤ n) := by
  rcases Deep.open_slice R.under hf with ⟨hcs, _⟩ | ⟨x, len, cap, m, n, D, Pl, hcs, _, hl, hm, hz, hx, hel⟩
  · simp only [List.cons.injEq, and_true] at hcs
    subst hcs
    exact ⟨[], Rc.Sl.nil W _, by simp, .inl rfl⟩
  · simp only [List.cons.injEq, and_true] at hcs
    subst hcs
    simp only [if_true] at hz
    subst hz
    simp only [Prod.mk.injEq] at hx
    obtain ⟨hxd, -⟩ := hx
    have each : ∀ i, i < m → ∃ t : α, (∀ s u, (R.enc t)[s]? = some u → W.cell? ((x.add (i * R.k)).add s) = some u) ∧ Q t (D i) := by
      intro i hi
      obtain ⟨cs', hcs', htr⟩ := hel i hi
      rw [hce] at hcs'
      obtain ⟨_, hlen, hcell⟩ := World.cells?_some hcs'
      obtain ⟨a, ha, hq⟩ := one _ cs' _ hlen htr
      refine ⟨a, fun s u hu => ?_, hq⟩
      rw [ha] at hu
      have hs : s < R.k := by rw [← hlen]; exact (List.getElem?_eq_some_iff.1 hu).1
      rw [hcell s hs]
      exact hu
    obtain ⟨f, hf'⟩ := Deep.choose_lt each
    have hql : ((List.range len).map f).length = len := by simp
    refine ⟨(List.range len).map f, ⟨some x, m, by rw [hql], by rw [hql]; omega, (fun h => by cases h), fun hne => ?_⟩, fun a ha => ?_, .inr ⟨(len + (m - len)) * Try.prog.bytesOf R.e, ?_, ?_⟩⟩
    · have hpos : 0 < len := by
        rcases Nat.eq_zero_or_pos len with h0 | h0
        · subst h0; exact absurd (by simp) hne
        · exact h0
      have hk0 : 0 < R.k := R.pos
      have hel0 : 0 < (R.enc (f 0)).length := by rw [R.len]; exact hk0
      have hz : (x.add (0 * R.k)).add 0 = x.add 0 := by
        rw [Nat.zero_mul]
        unfold Addr.add
        split <;> simp_all
      have h00 := (hf' 0 (by omega)).1 0 _ (List.getElem?_eq_getElem hel0)
      rw [hz] at h00
      have hs := spot_none (x := x) h00
      obtain ⟨b, o, sp⟩ := x
      simp only at hs
      subst hs
      refine ⟨b, o, rfl, World.block_lt_of_cell? W _ (by simpa [Addr.add] using h00), fun q u hu => ?_⟩
      have hqlt : q < len * R.k := by
        have := (List.getElem?_eq_some_iff.1 hu).1
        rw [R.vals_length, hql] at this
        exact this
      have hj : q / R.k < len := (Nat.div_lt_iff_lt_mul hk0).2 hqlt
      have hfm : q % R.k < R.k := Nat.mod_lt _ hk0
      have hq : q / R.k * R.k + q % R.k = q := by rw [Nat.mul_comm]; exact Nat.div_add_mod q R.k
      have hv := R.vals_get ((List.range len).map f) (q / R.k) (q % R.k) (by rw [hql]; exact hj) hfm
      rw [hq, hu] at hv
      have e : ((List.range len).map f)[q / R.k]'(by rw [hql]; exact hj) = f (q / R.k) := by simp
      rw [e] at hv
      have g0 := (hf' (q / R.k) (by omega)).1 _ _ hv.symm
      rw [addr_at, addr_at, Nat.add_assoc, hq] at g0
      exact g0
    · obtain ⟨j, hj, rfl⟩ := List.mem_map.1 ha
      rw [List.mem_range] at hj
      refine ⟨D j, (hf' j (by omega)).2, fun n hn => ?_⟩
      rw [hxd]
      simp only [DataW.weights, R.under, List.mem_cons, List.mem_append]
      exact .inr (.inl (weights_mem_all (List.mem_map.2 ⟨j, List.mem_range.2 hj, rfl⟩) n hn))
    · rw [hxd]
      simp only [DataW.weights, R.under, List.mem_cons, List.length_map, List.length_range]
      exact .inl (by simp)
    · rw [hql]
      exact Nat.mul_le_mul_right _ (by omega)


instance : Inhabited Lx.V := ⟨Lx.noV⟩
instance : Inhabited RawL := ⟨⟨0, false, none, 0, 0⟩⟩
theorem cellsWd : Try.prog.cellsOf 36 = 5 := by kernel_rfl
theorem cellsLn : Try.prog.cellsOf 48 = 3 := by kernel_rfl
theorem cells3 : Try.prog.cellsOf 3 = 1 := by kernel_rfl
theorem cells4 : Try.prog.cellsOf 4 = 1 := by kernel_rfl
theorem cells9 : Try.prog.cellsOf 9 = 1 := by kernel_rfl
theorem cellsWs : Try.prog.cellsOf 30 = 1 := by kernel_rfl
theorem bytesWd : 1 ≤ Try.prog.bytesOf 36 := by
  rw [show Try.prog.bytesOf 36 = 40 by kernel_rfl]; decide
theorem bytesLn : 1 ≤ Try.prog.bytesOf 48 := by
  rw [show Try.prog.bytesOf 48 = 40 by kernel_rfl]; decide

/-- how great lines that come in can be -/
structure Lx.Sized (L : List Lx.L) : Prop where
  len : L.length ≤ reachBytes
  words : ∀ x ∈ L, x.words.length ≤ reachBytes
  text : ∀ x ∈ L, ∀ u ∈ x.words, u.text.length ≤ reachBytes

set_option maxRecDepth 100000 in
theorem open_words {H : Type} {enc : TypeId × Value → H} {W : World} {fuel0 : Nat} {v : Value} {d : DataW H} {p : List MemPlace} (hf : DataW.trod enc Try.prog W 0 (fun _ => true) true fuel0 30 [v] = some (d, p)) :
    ∃ l : List Lx.V, WdR.Sl W W.heap.size v l ∧ ((∀ n ∈ d.weights Try.prog 30, n ≤ reachBytes) → l.length ≤ reachBytes ∧ ∀ u ∈ l, u.text.length ≤ reachBytes) := by
  obtain ⟨l, h1, h2, h3⟩ := Rc.openCells WdR cellsWd hf (fun a d' => (∀ n ∈ d'.weights Try.prog 36, n ≤ reachBytes) → a.text.length ≤ reachBytes) (by
    intro fuel cs x hlen htr
    obtain ⟨xs, n', _, hDx, hl', hlen', hfld⟩ := DataW.trod_struct Try.underlying36 htr
    match xs, hlen' with
    | [y0, y1, y2, y3, y4], _ =>
      match cs, hlen with
      | [c0, c1, c2, c3, c4], _ =>
        have t0 : DataW.trod enc Try.prog W 0 (fun _ => true) true n' 9 [c0] = some y0 := by
          have t : DataW.trod enc Try.prog W 0 (fun _ => true) true n' 9 (([c0, c1, c2, c3, c4].drop 0).take (Try.prog.cellsOf 9)) = some y0 := hfld 0 _ rfl
          rw [cells9] at t
          exact t
        have t1 : DataW.trod enc Try.prog W 0 (fun _ => true) true n' 3 [c1] = some y1 := by
          have t : DataW.trod enc Try.prog W 0 (fun _ => true) true n' 3 (([c0, c1, c2, c3, c4].drop 1).take (Try.prog.cellsOf 3)) = some y1 := hfld 1 _ rfl
          rw [cells3] at t
          exact t
        have t2 : DataW.trod enc Try.prog W 0 (fun _ => true) true n' 3 [c2] = some y2 := by
          have t : DataW.trod enc Try.prog W 0 (fun _ => true) true n' 3 (([c0, c1, c2, c3, c4].drop 2).take (Try.prog.cellsOf 3)) = some y2 := hfld 2 _ rfl
          rw [cells3] at t
          exact t
        have t3 : DataW.trod enc Try.prog W 0 (fun _ => true) true n' 4 [c3] = some y3 := by
          have t : DataW.trod enc Try.prog W 0 (fun _ => true) true n' 4 (([c0, c1, c2, c3, c4].drop 3).take (Try.prog.cellsOf 4)) = some y3 := hfld 3 _ rfl
          rw [cells4] at t
          exact t
        have t4 : DataW.trod enc Try.prog W 0 (fun _ => true) true n' 4 [c4] = some y4 := by
          have t : DataW.trod enc Try.prog W 0 (fun _ => true) true n' 4 (([c0, c1, c2, c3, c4].drop 4).take (Try.prog.cellsOf 4)) = some y4 := hfld 4 _ rfl
          rw [cells4] at t
          exact t
        obtain ⟨k0, e0, x0, _⟩ := DataW.trod_string Try.underlying9 t0
        obtain ⟨k1, e1, _, _⟩ := DataW.trod_int Try.underlying3 t1
        obtain ⟨k2, e2, _, _⟩ := DataW.trod_int Try.underlying3 t2
        obtain ⟨k3, e3, _⟩ := DataW.trod_bool Try.underlying4 t3
        obtain ⟨k4, e4, _⟩ := DataW.trod_bool Try.underlying4 t4
        simp only [List.cons.injEq, and_true] at e0 e1 e2 e3 e4
        subst e0 e1 e2 e3 e4
        refine ⟨⟨bs k0, k1, k2, k3, k4⟩, by show [Value.string (str (bs k0)), _, _, _, _] = _; rw [show str (bs k0) = k0 from str_of k0], fun hw => ?_⟩
        have hD : x.1 = .agg [y0.1, y1.1, y2.1, y3.1, y4.1] := by rw [hDx]; rfl
        have g : ∀ n ∈ DataW.weightsEach Try.prog [9, 3, 3, 4, 4] [y0.1, y1.1, y2.1, y3.1, y4.1], n ≤ reachBytes := fun n hn => hw n (by
          rw [hD]
          simp only [DataW.weights, Try.underlying36]
          exact hn)
        exact g _ (DataW.weights_mem_each (j := 0) rfl rfl _ (by rw [x0]; simp [DataW.weights, bs])))
  refine ⟨l, h1, fun hsz => ⟨?_, fun u hu => ?_⟩⟩
  · rcases h3 with rfl | ⟨n, hn, hl⟩
    · exact Nat.zero_le _
    · have := hsz n hn
      have := Nat.mul_le_mul_left l.length bytesWd
      have e : l.length * Try.prog.bytesOf WdR.e = l.length * Try.prog.bytesOf 36 := rfl
      omega
  · obtain ⟨d', hq, hw⟩ := h2 u hu
    exact hq fun n hn => hsz n (hw n hn)
theorem pairs_of {α β : Type} {P : α → β → Prop} : ∀ (l : List α), (∀ a ∈ l, ∃ b, P a b) → ∃ ps : List (α × β), ps.map Prod.fst = l ∧ ∀ p ∈ ps, P p.1 p.2
  | [], _ => ⟨[], rfl, fun _ h => by cases h⟩
  | a :: r, h => by
    obtain ⟨b, hb⟩ := h a (List.mem_cons_self ..)
    obtain ⟨ps, h1, h2⟩ := pairs_of r fun x hx => h x (List.mem_cons_of_mem _ hx)
    refine ⟨(a, b) :: ps, by rw [List.map_cons, h1], fun p hp => ?_⟩
    rcases List.mem_cons.1 hp with rfl | hp
    · exact hb
    · exact h2 p hp
set_option maxRecDepth 100000 in
theorem open_lines {H : Type} {enc : TypeId × Value → H} {W : World} {base : Nat} {v : Value} {d : DataW H} {p : List MemPlace} (hok : Value.okWide Try.prog W .any base 31 v) (h : DataW.Trod enc Try.prog W 0 (fun _ => true) true 31 v d p) (hsz : ∀ n ∈ d.weights Try.prog 31, n ≤ reachBytes) :
    ∃ L : List Lx.L, LnsS W W.heap.size v L ∧ Lx.Sized L := by
  obtain ⟨l, h1, h2, h3⟩ := Rc.openRows LnR cellsLn hok h (fun a d' => ∃ ws, WdR.Sl W W.heap.size a.words ws ∧ ((∀ n ∈ d'.weights Try.prog 48, n ≤ reachBytes) → ws.length ≤ reachBytes ∧ ∀ u ∈ ws, u.text.length ≤ reachBytes)) (by
    intro fuel cs x hlen htr
    obtain ⟨xs, n', _, hDx, hl', hlen', hfld⟩ := DataW.trod_struct Try.underlying48 htr
    match xs, hlen' with
    | [y0, y1, y2], _ =>
      match cs, hlen with
      | [c0, c1, c2], _ =>
        have t0 : DataW.trod enc Try.prog W 0 (fun _ => true) true n' 3 [c0] = some y0 := by
          have t : DataW.trod enc Try.prog W 0 (fun _ => true) true n' 3 (([c0, c1, c2].drop 0).take (Try.prog.cellsOf 3)) = some y0 := hfld 0 _ rfl
          rw [cells3] at t
          exact t
        have t1 : DataW.trod enc Try.prog W 0 (fun _ => true) true n' 4 [c1] = some y1 := by
          have t : DataW.trod enc Try.prog W 0 (fun _ => true) true n' 4 (([c0, c1, c2].drop 1).take (Try.prog.cellsOf 4)) = some y1 := hfld 1 _ rfl
          rw [cells4] at t
          exact t
        have t2 : DataW.trod enc Try.prog W 0 (fun _ => true) true n' 30 [c2] = some y2 := by
          have t : DataW.trod enc Try.prog W 0 (fun _ => true) true n' 30 (([c0, c1, c2].drop 2).take (Try.prog.cellsOf 30)) = some y2 := hfld 2 _ rfl
          rw [cellsWs] at t
          exact t
        obtain ⟨k0, e0, _, _⟩ := DataW.trod_int Try.underlying3 t0
        obtain ⟨k1, e1, _⟩ := DataW.trod_bool Try.underlying4 t1
        obtain ⟨ws, hws, hb⟩ := open_words (d := y2.1) (p := y2.2) t2
        obtain ⟨ad, c, rfl, hc⟩ := hws.shape
        simp only [List.cons.injEq, and_true] at e0 e1
        subst e0 e1
        refine ⟨⟨k0, k1, ad, ws.length, c⟩, rfl, ws, hws, fun hw => hb fun n hn => ?_⟩
        have hD : x.1 = .agg [y0.1, y1.1, y2.1] := by rw [hDx]; rfl
        refine hw n ?_
        rw [hD]
        simp only [DataW.weights, Try.underlying48]
        exact DataW.weights_mem_each (P := Try.prog) (ts := [3, 4, 30]) (ds := [y0.1, y1.1, y2.1]) (j := 2) rfl rfl n hn)
  obtain ⟨ps, e1, e2⟩ := pairs_of (P := fun (a : RawL) (x : Lx.L) => a.num = x.num ∧ a.ind = x.ind ∧ WdR.Sl W W.heap.size a.words x.words ∧ x.words.length ≤ reachBytes ∧ ∀ u ∈ x.words, u.text.length ≤ reachBytes) l fun a ha => by
    obtain ⟨d', ⟨ws, k1, k2⟩, k3⟩ := h2 a ha
    obtain ⟨k4, k5⟩ := k2 fun n hn => hsz n (k3 n hn)
    exact ⟨⟨a.num, a.ind, ws⟩, rfl, rfl, k1, k4, k5⟩
  refine ⟨ps.map Prod.snd, ⟨ps, by rw [e1]; exact h1, rfl, fun p hp => ⟨(e2 p hp).1, (e2 p hp).2.1, (e2 p hp).2.2.1⟩⟩, ?_, fun x hx => ?_, fun x hx => ?_⟩
  · rw [List.length_map]
    have hl : ps.length = l.length := by rw [← e1, List.length_map]
    rw [hl]
    rcases h3 with rfl | ⟨n, hn, hl⟩
    · exact Nat.zero_le _
    · have := hsz n hn
      have := Nat.mul_le_mul_left l.length bytesLn
      have e : l.length * Try.prog.bytesOf LnR.e = l.length * Try.prog.bytesOf 48 := rfl
      omega
  · obtain ⟨p, hp, rfl⟩ := List.mem_map.1 hx
    exact (e2 p hp).2.2.2.1
  · obtain ⟨p, hp, rfl⟩ := List.mem_map.1 hx
    exact (e2 p hp).2.2.2.2

end Go.Proofs.Ythpipbkbldlfjaa

namespace Go.Proofs.Ythpipbkbldlfjaa
open Go.ChangeShapes Go.WideShapes Go.ChangeAt Go.RowKit

set_option maxRecDepth 100000 in
theorem open_linesC {H : Type} {enc : TypeId × Value → H} {W : World} {fuel0 : Nat} {v : Value} {d : DataW H} {p : List MemPlace} (hf : DataW.trod enc Try.prog W 0 (fun _ => true) true fuel0 31 [v] = some (d, p)) :
    ∃ L : List Lx.L, LnsS W W.heap.size v L ∧ ((∀ n ∈ d.weights Try.prog 31, n ≤ reachBytes) → Lx.Sized L) := by
  obtain ⟨l, h1, h2, h3⟩ := Rc.openCells LnR cellsLn hf (fun a d' => ∃ ws, WdR.Sl W W.heap.size a.words ws ∧ ((∀ n ∈ d'.weights Try.prog 48, n ≤ reachBytes) → ws.length ≤ reachBytes ∧ ∀ u ∈ ws, u.text.length ≤ reachBytes)) (by
    intro fuel cs x hlen htr
    obtain ⟨xs, n', _, hDx, hl', hlen', hfld⟩ := DataW.trod_struct Try.underlying48 htr
    match xs, hlen' with
    | [y0, y1, y2], _ =>
      match cs, hlen with
      | [c0, c1, c2], _ =>
        have t0 : DataW.trod enc Try.prog W 0 (fun _ => true) true n' 3 [c0] = some y0 := by
          have t : DataW.trod enc Try.prog W 0 (fun _ => true) true n' 3 (([c0, c1, c2].drop 0).take (Try.prog.cellsOf 3)) = some y0 := hfld 0 _ rfl
          rw [cells3] at t
          exact t
        have t1 : DataW.trod enc Try.prog W 0 (fun _ => true) true n' 4 [c1] = some y1 := by
          have t : DataW.trod enc Try.prog W 0 (fun _ => true) true n' 4 (([c0, c1, c2].drop 1).take (Try.prog.cellsOf 4)) = some y1 := hfld 1 _ rfl
          rw [cells4] at t
          exact t
        have t2 : DataW.trod enc Try.prog W 0 (fun _ => true) true n' 30 [c2] = some y2 := by
          have t : DataW.trod enc Try.prog W 0 (fun _ => true) true n' 30 (([c0, c1, c2].drop 2).take (Try.prog.cellsOf 30)) = some y2 := hfld 2 _ rfl
          rw [cellsWs] at t
          exact t
        obtain ⟨k0, e0, _, _⟩ := DataW.trod_int Try.underlying3 t0
        obtain ⟨k1, e1, _⟩ := DataW.trod_bool Try.underlying4 t1
        obtain ⟨ws, hws, hb⟩ := open_words (d := y2.1) (p := y2.2) t2
        obtain ⟨ad, c, rfl, hc⟩ := hws.shape
        simp only [List.cons.injEq, and_true] at e0 e1
        subst e0 e1
        refine ⟨⟨k0, k1, ad, ws.length, c⟩, rfl, ws, hws, fun hw => hb fun n hn => ?_⟩
        have hD : x.1 = .agg [y0.1, y1.1, y2.1] := by rw [hDx]; rfl
        refine hw n ?_
        rw [hD]
        simp only [DataW.weights, Try.underlying48]
        exact DataW.weights_mem_each (P := Try.prog) (ts := [3, 4, 30]) (ds := [y0.1, y1.1, y2.1]) (j := 2) rfl rfl n hn)
  obtain ⟨ps, e1, e2⟩ := pairs_of (P := fun (a : RawL) (x : Lx.L) => a.num = x.num ∧ a.ind = x.ind ∧ WdR.Sl W W.heap.size a.words x.words ∧ ((∀ n ∈ d.weights Try.prog 31, n ≤ reachBytes) → x.words.length ≤ reachBytes ∧ ∀ u ∈ x.words, u.text.length ≤ reachBytes)) l fun a ha => by
    obtain ⟨d', ⟨ws, k1, k2⟩, k3⟩ := h2 a ha
    exact ⟨⟨a.num, a.ind, ws⟩, rfl, rfl, k1, fun hsz => k2 fun n hn => hsz n (k3 n hn)⟩
  refine ⟨ps.map Prod.snd, ⟨ps, by rw [e1]; exact h1, rfl, fun p hp => ⟨(e2 p hp).1, (e2 p hp).2.1, (e2 p hp).2.2.1⟩⟩, fun hsz => ⟨?_, fun x hx => ?_, fun x hx => ?_⟩⟩
  · rw [List.length_map]
    have hl : ps.length = l.length := by rw [← e1, List.length_map]
    rw [hl]
    rcases h3 with rfl | ⟨n, hn, hl⟩
    · exact Nat.zero_le _
    · have := hsz n hn
      have := Nat.mul_le_mul_left l.length bytesLn
      have e : l.length * Try.prog.bytesOf LnR.e = l.length * Try.prog.bytesOf 48 := rfl
      omega
  · obtain ⟨p, hp, rfl⟩ := List.mem_map.1 hx
    exact ((e2 p hp).2.2.2 hsz).1
  · obtain ⟨p, hp, rfl⟩ := List.mem_map.1 hx
    exact ((e2 p hp).2.2.2 hsz).2

instance : Inhabited RawI := ⟨⟨0, 0, [], none, 0, 0, none, 0, 0, none, 0, 0⟩⟩
theorem cellsIt : Try.prog.cellsOf 33 = 6 := by kernel_rfl
theorem cellsLs : Try.prog.cellsOf 31 = 1 := by kernel_rfl
theorem bytesIt : 1 ≤ Try.prog.bytesOf 33 := by
  rw [show Try.prog.bytesOf 33 = 104 by kernel_rfl]; decide
/-- how great an item that comes in can be -/
structure Rl.SizedI (x : Rl.It) : Prop where
  name : x.name.length ≤ reachBytes
  targets : x.targets.length ≤ reachBytes
  tt : ∀ u ∈ x.targets, u.text.length ≤ reachBytes
  words : x.words.length ≤ reachBytes
  wt : ∀ u ∈ x.words, u.text.length ≤ reachBytes
  code : Lx.Sized x.code

set_option maxRecDepth 100000 in
theorem open_items {H : Type} {enc : TypeId × Value → H} {W : World} {base : Nat} {v : Value} {d : DataW H} {p : List MemPlace} (hok : Value.okWide Try.prog W .any base 23 v) (h : DataW.Trod enc Try.prog W 0 (fun _ => true) true 23 v d p) (hsz : ∀ n ∈ d.weights Try.prog 23, n ≤ reachBytes) :
    ∃ A : List Rl.It, ItsS W W.heap.size v A ∧ A.length ≤ reachBytes ∧ ∀ x ∈ A, Rl.SizedI x := by
  obtain ⟨l, h1, h2, h3⟩ := Rc.openRows ItR cellsIt hok h (fun a d' => ∃ x, ItOf W W.heap.size a x ∧ ((∀ n ∈ d'.weights Try.prog 33, n ≤ reachBytes) → Rl.SizedI x)) (by
    intro fuel cs x hlen htr
    obtain ⟨xs, n', _, hDx, hl', hlen', hfld⟩ := DataW.trod_struct Try.underlying33 htr
    match xs, hlen' with
    | [y0, y1, y2, y3, y4, y5], _ =>
      match cs, hlen with
      | [c0, c1, c2, c3, c4, c5], _ =>
        have t0 : DataW.trod enc Try.prog W 0 (fun _ => true) true n' 3 [c0] = some y0 := by
          have t : DataW.trod enc Try.prog W 0 (fun _ => true) true n' 3 (([c0, c1, c2, c3, c4, c5].drop 0).take (Try.prog.cellsOf 3)) = some y0 := hfld 0 _ rfl
          rw [cells3] at t
          exact t
        have t1 : DataW.trod enc Try.prog W 0 (fun _ => true) true n' 3 [c1] = some y1 := by
          have t : DataW.trod enc Try.prog W 0 (fun _ => true) true n' 3 (([c0, c1, c2, c3, c4, c5].drop 1).take (Try.prog.cellsOf 3)) = some y1 := hfld 1 _ rfl
          rw [cells3] at t
          exact t
        have t2 : DataW.trod enc Try.prog W 0 (fun _ => true) true n' 9 [c2] = some y2 := by
          have t : DataW.trod enc Try.prog W 0 (fun _ => true) true n' 9 (([c0, c1, c2, c3, c4, c5].drop 2).take (Try.prog.cellsOf 9)) = some y2 := hfld 2 _ rfl
          rw [cells9] at t
          exact t
        have t3 : DataW.trod enc Try.prog W 0 (fun _ => true) true n' 30 [c3] = some y3 := by
          have t : DataW.trod enc Try.prog W 0 (fun _ => true) true n' 30 (([c0, c1, c2, c3, c4, c5].drop 3).take (Try.prog.cellsOf 30)) = some y3 := hfld 3 _ rfl
          rw [cellsWs] at t
          exact t
        have t4 : DataW.trod enc Try.prog W 0 (fun _ => true) true n' 30 [c4] = some y4 := by
          have t : DataW.trod enc Try.prog W 0 (fun _ => true) true n' 30 (([c0, c1, c2, c3, c4, c5].drop 4).take (Try.prog.cellsOf 30)) = some y4 := hfld 4 _ rfl
          rw [cellsWs] at t
          exact t
        have t5 : DataW.trod enc Try.prog W 0 (fun _ => true) true n' 31 [c5] = some y5 := by
          have t : DataW.trod enc Try.prog W 0 (fun _ => true) true n' 31 (([c0, c1, c2, c3, c4, c5].drop 5).take (Try.prog.cellsOf 31)) = some y5 := hfld 5 _ rfl
          rw [cellsLs] at t
          exact t
        obtain ⟨k0, e0, _, _⟩ := DataW.trod_int Try.underlying3 t0
        obtain ⟨k1, e1, _, _⟩ := DataW.trod_int Try.underlying3 t1
        obtain ⟨k2, e2, x2, _⟩ := DataW.trod_string Try.underlying9 t2
        obtain ⟨ts, hts, hbt⟩ := open_words (d := y3.1) (p := y3.2) t3
        obtain ⟨ta, tc, rfl, _⟩ := hts.shape
        obtain ⟨ws, hws, hbw⟩ := open_words (d := y4.1) (p := y4.2) t4
        obtain ⟨wa, wc, rfl, _⟩ := hws.shape
        obtain ⟨ls, hls, hbl⟩ := open_linesC (d := y5.1) (p := y5.2) t5
        obtain ⟨ca, cc, rfl, _⟩ := hls.shape
        simp only [List.cons.injEq, and_true] at e0 e1 e2
        subst e0 e1 e2
        refine ⟨⟨k0, k1, bs k2, ta, ts.length, tc, wa, ws.length, wc, ca, ls.length, cc⟩, by show [_, _, Value.string (str (bs k2)), _, _, _] = _; rw [show str (bs k2) = k2 from str_of k2], ⟨k0, k1, bs k2, ts, ws, ls⟩, ⟨rfl, rfl, rfl, hts, hws, hls⟩, fun hw => ?_⟩
        have hD : x.1 = .agg [y0.1, y1.1, y2.1, y3.1, y4.1, y5.1] := by rw [hDx]; rfl
        have g : ∀ n ∈ DataW.weightsEach Try.prog [3, 3, 9, 30, 30, 31] [y0.1, y1.1, y2.1, y3.1, y4.1, y5.1], n ≤ reachBytes := fun n hn => hw n (by
          rw [hD]
          simp only [DataW.weights, Try.underlying33]
          exact hn)
        obtain ⟨a1, a2⟩ := hbt fun n hn => g n (DataW.weights_mem_each (j := 3) rfl rfl n hn)
        obtain ⟨b1, b2⟩ := hbw fun n hn => g n (DataW.weights_mem_each (j := 4) rfl rfl n hn)
        have c1 := hbl fun n hn => g n (DataW.weights_mem_each (j := 5) rfl rfl n hn)
        exact ⟨g _ (DataW.weights_mem_each (j := 2) rfl rfl _ (by rw [x2]; simp [DataW.weights, bs])), a1, a2, b1, b2, c1⟩)
  obtain ⟨ps, e1, e2⟩ := pairs_of (P := fun (a : RawI) (x : Rl.It) => ItOf W W.heap.size a x ∧ Rl.SizedI x) l fun a ha => by
    obtain ⟨d', ⟨x, k1, k2⟩, k3⟩ := h2 a ha
    exact ⟨x, k1, k2 fun n hn => hsz n (k3 n hn)⟩
  refine ⟨ps.map Prod.snd, ⟨ps, by rw [e1]; exact h1, rfl, fun p hp => (e2 p hp).1⟩, ?_, fun x hx => ?_⟩
  · rw [List.length_map]
    have hl : ps.length = l.length := by rw [← e1, List.length_map]
    rw [hl]
    rcases h3 with rfl | ⟨n, hn, hl⟩
    · exact Nat.zero_le _
    · have := hsz n hn
      have := Nat.mul_le_mul_left l.length bytesIt
      have e : l.length * Try.prog.bytesOf ItR.e = l.length * Try.prog.bytesOf 33 := rfl
      omega
  · obtain ⟨p, hp, rfl⟩ := List.mem_map.1 hx
    exact (e2 p hp).2

end Go.Proofs.Ythpipbkbldlfjaa

namespace Go.Proofs.Ythpipbkbldlfjaa
open Go.RowKit

def Rl.vs (ws : List Lx.V) : Nat := (ws.map fun v => v.text.length + 1).sum
def Rl.ls (L : List Lx.L) : Nat := (L.map fun x => Rl.vs x.words + 1).sum
def Rl.bulk (A : List Rl.It) : Nat := (A.map fun x => (x.name.length + 1) + (Rl.vs x.targets + (Rl.vs x.words + Rl.ls x.code))).sum
theorem Rl.vs_take {l : List Lx.V} {i : Nat} (h : i < l.length) : Rl.vs (l.take (i + 1)) = Rl.vs (l.take i) + ((l.getD i Lx.noV).text.length + 1) := by
  rw [List.take_succ_eq_append_getElem h, getD_mem _ h]
  simp only [Rl.vs, List.map_append, List.sum_append_nat, List.map_cons, List.map_nil, List.sum_cons, List.sum_nil, Nat.add_zero]
theorem Rl.ls_take {l : List Lx.L} {i : Nat} (h : i < l.length) : Rl.ls (l.take (i + 1)) = Rl.ls (l.take i) + (Rl.vs (l.getD i Lx.noL).words + 1) := by
  rw [List.take_succ_eq_append_getElem h, getD_mem _ h]
  simp only [Rl.ls, List.map_append, List.sum_append_nat, List.map_cons, List.map_nil, List.sum_cons, List.sum_nil, Nat.add_zero]
theorem Rl.bulk_take {l : List Rl.It} {i : Nat} (h : i < l.length) : Rl.bulk (l.take (i + 1)) = Rl.bulk (l.take i) + (((l.getD i Rl.noI).name.length + 1) + (Rl.vs (l.getD i Rl.noI).targets + (Rl.vs (l.getD i Rl.noI).words + Rl.ls (l.getD i Rl.noI).code))) := by
  rw [List.take_succ_eq_append_getElem h, getD_mem _ h]
  simp only [Rl.bulk, List.map_append, List.sum_append_nat, List.map_cons, List.map_nil, List.sum_cons, List.sum_nil, Nat.add_zero]

/-- a counter's block -/
def Cnt (w : World) (g N : Nat) : Prop := w.heap[g]? = some (.cells #[.int .i64 (N : Int)] 3 (0, 0))
theorem Cnt.cell {w : World} {g N : Nat} (h : Cnt w g N) : w.cell? ⟨g, 0, none⟩ = some (.int .i64 (N : Int)) := by
  unfold Cnt at h
  simp [World.cell?, h]
theorem Cnt.set {w : World} {g N : Nat} (h : Cnt w g N) (M : Nat) : Cnt (w.setCell ⟨g, 0, none⟩ (.int .i64 (M : Int))) g M := by
  unfold Cnt at h ⊢
  rw [heap_setCell_same w g 0 _ 3 _ h]
  rfl

set_option maxRecDepth 100000 in
set_option maxHeartbeats 2000000 in
theorem great1_any (v : Value) (l : List Lx.V) (w : World) (g N B : Nat) (h : WdR.Sl w B v l) (hBg : B ≤ g) (hc : Cnt w g N) (hN : N ≤ 200000000000000) (hl : l.length ≤ 140737488351232) (ht : ∀ u ∈ l, u.text.length ≤ 140737488351232) :
    Calls Try.prog 37 #[v, .pointer (some ⟨g, 0, none⟩)] w fun e w' => e = .returned (.tuple #[]) ∧ ∃ M : Nat, Cnt w' g M ∧ M ≤ 200000000000000 ∧ Hid (N < 262144 → M < 262144 → M = N + Rl.vs l) ∧ Hid (262144 ≤ N → M = N) ∧ Turn [g] w w' := by
  obtain ⟨ad, c, rfl, hle⟩ := h.shape
  have HTX : Hid _ := ht
  clear ht
  have hgs : g < w.heap.size := (Array.getElem?_eq_some_iff.1 hc).1
  go_enter Try.func37, Try.ntmps37
  go_wp2
  go_loopw [3] (fun k wr => ∃ i M : Nat, i ≤ l.length ∧ k = .int .i64 (i : Int) ∧ Cnt wr g M ∧ M ≤ 200000000000000 ∧ Hid (N < 262144 → M < 262144 → M = N + Rl.vs (l.take i)) ∧ Hid (262144 ≤ N → M = N) ∧ Turn [g] w wr) (fun k _ => l.length - (intOf k).toNat)
  case atStart => exact ⟨0, N, Nat.zero_le _, rfl, hc, hN, fun _ _ => by simp [Rl.vs], fun _ => rfl, Turn.refl _ _⟩
  case round =>
    obtain ⟨i, M, hi, rfl, hcM, hM, HM1, HM2, hT⟩ := hrel
    have b0 : (M : Int) ≤ 200000000000000 := by omega
    have b1 : (l.length : Int) ≤ 140737488351232 := by omega
    have m0 := hcM.cell
    by_cases hgo : i < l.length ∧ M < 262144
    · obtain ⟨hlt, hms⟩ := hgo
      have i1 : (i : Int) < (l.length : Int) := by omega
      have i2 : decide ((M : Int) < 262144) = true := decide_eq_true (by omega)
      have HVT : Hid _ := Rl.vs_take hlt
      have hSl : WdR.Sl wr B (.slice ad l.length c) l := h.below (hT.below' (B := B) (by omega) (fun x hx => by rw [List.mem_singleton] at hx; omega)) (Nat.le_refl _)
      obtain ⟨b2, o2, cc2, e, hb2, r0, -, -, -, -⟩ := WdR.at hSl i hlt
      simp only [Value.slice.injEq] at e
      obtain ⟨rfl, -, rfl⟩ := e
      have htl := HTX.out (l.getD i Lx.noV) (by rw [getD_mem _ hlt]; exact List.getElem_mem hlt)
      obtain ⟨T, hTT⟩ : ∃ T, (l.getD i Lx.noV).text = T := ⟨_, rfl⟩
      rw [hTT] at htl r0 HVT
      clear hTT
      have HSZ : Hid _ := str_size T
      have b4 : ((str T).size : Int) ≤ 140737488351232 := by rw [str_size]; omega
      obtain ⟨S1, hS1⟩ : ∃ n, (str T).size + 1 = n := ⟨_, rfl⟩
      obtain ⟨M', hM'⟩ : ∃ n, M + S1 = n := ⟨_, rfl⟩
      have HA1 : Hid (N < 262144 → M' < 262144 → M' = N + Rl.vs (l.take (i + 1))) := fun h1 _ => by
        rw [HVT.out, ← hM', ← hS1, HM1.out h1 hms, HSZ.out]; omega
      have HA2 : Hid (262144 ≤ N → M' = N) := fun h1 => by
        have := HM2.out h1; omega
      have HST : Hid _ := hcM.set M'
      have HTS : Hid (Turn [g] w (wr.setCell ⟨g, 0, none⟩ (.int .i64 (M' : Int)))) := hT.set (fun _ => List.mem_singleton_self _) _
      have HMB : Hid (M' ≤ 200000000000000) := by rw [Hid]; omega
      have HW1 : Hid (IntKind.i64.wrap (((str T).size : Int) + 1) = (S1 : Int)) := by rw [Hid, IntKind.wrap_i64]; omega
      have HW2 : Hid (IntKind.i64.wrap ((M : Int) + (S1 : Int)) = (M' : Int)) := by rw [Hid, IntKind.wrap_i64]; omega
      have f0 : wr.frozen? ⟨g, 0, none⟩ = false := frozen_of_row wr g 0 _ _ hcM
      have hne : b2 ≠ g := by omega
      have hne' : g ≠ b2 := by omega
      have HIN : Hid (i + 1 ≤ l.length) := hlt
      clear hSl HM1 HM2 hms hS1 hM' HSZ
      go_upto_region 3 with fail
      clear i2 hN hl htl HTX hM b4
      go_region_with (fail)
      all_goals rw [HW1.out, HW2.out]
      all_goals clear m0 r0 f0 hne hne' hcM
      all_goals go_wp2
      all_goals exact ⟨⟨i + 1, M', HIN.out, by go_num, HST.out, HMB.out, HA1.out, HA2.out, HTS.out.drew⟩, by simp [intOf]; omega⟩
    · have HFIN : Hid ((N < 262144 → M < 262144 → M = N + Rl.vs l) ∧ (262144 ≤ N → M = N)) := by
        refine ⟨fun h1 h2 => ?_, HM2.out⟩
        have hil : i = l.length := by
          rcases Nat.lt_or_ge i l.length with h3 | h3
          · exact absurd ⟨h3, h2⟩ hgo
          · omega
        have := HM1.out h1 h2
        rwa [hil, List.take_length] at this
      by_cases hlt : i < l.length
      · have i1 : (i : Int) < (l.length : Int) := by omega
        have i2 : decide ((M : Int) < 262144) = false := decide_eq_false (fun h3 => hgo ⟨hlt, by omega⟩)
        clear hgo HM1 HM2
        go_wp2
        go_end0
        exact ⟨rfl, M, hcM, hM, HFIN.out.1, HFIN.out.2, hT⟩
      · have i1 : ¬ (i : Int) < (l.length : Int) := by omega
        clear hgo HM1 HM2
        go_wp2
        go_end0
        exact ⟨rfl, M, hcM, hM, HFIN.out.1, HFIN.out.2, hT⟩


end Go.Proofs.Ythpipbkbldlfjaa

namespace Go.Proofs.Ythpipbkbldlfjaa.Rl
open Lx

theorem vs_mem {u : V} : ∀ {l : List V}, u ∈ l → u.text.length + 1 ≤ vs l
  | v :: l, h => by
    rw [show vs (v :: l) = v.text.length + 1 + vs l by simp [vs]]
    rcases List.mem_cons.1 h with rfl | h
    · omega
    · have := vs_mem h; omega
theorem vs_len : ∀ (l : List V), l.length ≤ vs l
  | [] => Nat.le_refl _
  | v :: l => by
    rw [show vs (v :: l) = v.text.length + 1 + vs l by simp [vs], List.length_cons]
    have := vs_len l
    omega
theorem vs_app (a b : List V) : vs (a ++ b) = vs a + vs b := by simp [vs]
theorem vs_cons (v : V) (l : List V) : vs (v :: l) = v.text.length + 1 + vs l := by simp [vs]
theorem ls_cons (x : L) (l : List L) : ls (x :: l) = vs x.words + 1 + ls l := by simp [ls]
theorem ls_mem {x : L} : ∀ {l : List L}, x ∈ l → vs x.words + 1 ≤ ls l
  | y :: l, h => by
    rw [ls_cons]
    rcases List.mem_cons.1 h with rfl | h
    · omega
    · have := ls_mem h; omega
theorem ls_len : ∀ (l : List L), l.length ≤ ls l
  | [] => Nat.le_refl _
  | x :: l => by
    rw [ls_cons, List.length_cons]
    have := ls_len l
    omega
def one_ (x : It) : Nat := (x.name.length + 1) + (vs x.targets + (vs x.words + ls x.code))
theorem bulk_cons (x : It) (A : List It) : bulk (x :: A) = one_ x + bulk A := by simp [bulk, one_]
theorem bulk_mem {x : It} : ∀ {A : List It}, x ∈ A → one_ x ≤ bulk A
  | y :: A, h => by
    rw [bulk_cons]
    rcases List.mem_cons.1 h with rfl | h
    · omega
    · have := bulk_mem h; omega
theorem bulk_len : ∀ (A : List It), A.length ≤ bulk A
  | [] => Nat.le_refl _
  | x :: A => by
    rw [bulk_cons, List.length_cons]
    have := bulk_len A
    unfold one_
    omega
theorem head_vs (x : It) : vs (head x) ≤ 9 + one_ x := by
  unfold head one_
  split
  · simp only [List.cons_append, List.nil_append, vs_cons, wd, sLet, List.length_cons, List.length_nil]
    omega
  · split
    · simp only [vs_cons, wd, sIncl, List.length_cons, List.length_nil]
      omega
    · simp only [vs_cons, vs_app, wd, sRule, List.length_cons, List.length_nil]
      omega
theorem vtext_len (v : V) : (vtext v).length ≤ 2 * v.text.length + 2 := by
  have hq : (quote v.text).length ≤ 2 * v.text.length + 2 := by
    unfold quote
    rw [List.length_cons, List.length_append, List.length_singleton]
    have : ∀ s : List UInt8, (s.flatMap qb).length ≤ 2 * s.length := by
      intro s
      induction s with
      | nil => simp
      | cons c s ih =>
        rw [List.flatMap_cons, List.length_append, List.length_cons]
        have : (qb c).length ≤ 2 := by
          unfold qb
          split
          · simp
          · split
            · simp
            · split <;> simp
        omega
    have := this v.text
    omega
  unfold vtext show_
  split
  · omega
  · split
    · exact hq
    · split
      · omega
      · exact hq
theorem wrest_len : ∀ (f : Bool) (l : List V), (wrest f l).length ≤ 3 * vs l
  | _, [] => by simp [wrest]
  | f, v :: l => by
    rw [wrest, List.length_append, List.length_append, vs_cons]
    have h1 := vtext_len v
    have h2 := wrest_len false l
    have : (if f = true then [] else ([32] : List UInt8)).length ≤ 1 := by split <;> simp
    omega
theorem vline_len (l : L) : (vline l).length ≤ 3 * vs l.words + 2 := by
  unfold vline
  rw [List.length_append, List.length_append, List.length_singleton]
  have := wrest_len true l.words
  have : (if l.ind = true then [9] else ([] : List UInt8)).length ≤ 1 := by split <;> simp
  omega
theorem vwrite_len : ∀ (l : List L), (vwrite l).length ≤ 3 * ls l
  | [] => by simp [vwrite]
  | x :: l => by
    rw [show vwrite (x :: l) = vline x ++ vwrite l by simp [vwrite], List.length_append, ls_cons]
    have := vline_len x
    have := vwrite_len l
    omega
theorem ls_app (a b : List L) : ls (a ++ b) = ls a + ls b := by simp [ls]
theorem lines_ls : ∀ (A : List It), ls (lines A) ≤ 12 * bulk A
  | [] => by simp [lines, ls]
  | x :: A => by
    rw [show lines (x :: A) = (⟨0, false, head x⟩ :: x.code) ++ lines A by simp [lines, linesI], ls_app, ls_cons, bulk_cons]
    have h1 := head_vs x
    have h2 := lines_ls A
    have h3 : ls x.code + 1 ≤ one_ x := by unfold one_; omega
    simp only
    omega
/-- what is not great is small in all its parts -/
structure Small (A : List It) : Prop where
  len : A.length ≤ 1099511627
  few : ∀ x ∈ A, Few x
  head : ∀ x ∈ A, (Rl.head x).length ≤ 1099511627
  lines : (Rl.lines A).length ≤ 1099511627
  print : (Rl.print A).length ≤ 1099511627
  head2 : ∀ x ∈ A, (Rl.head x).length ≤ 1099511000
theorem small {A : List It} (h : bulk A < 262144) : Small A := by
  refine ⟨by have := bulk_len A; omega, fun x hx => ?_, fun x hx => ?_, ?_, ?_, fun x hx => ?_⟩
  · have hm := bulk_mem hx
    unfold one_ at hm
    have h1 := vs_len x.targets
    have h2 := vs_len x.words
    have h3 := ls_len x.code
    refine ⟨by omega, by omega, by omega, by omega, fun l hl => ?_, fun v hv => ?_, fun v hv => ?_, fun l hl v hv => ?_⟩
    · have := ls_mem hl
      have := vs_len l.words
      omega
    · have := vs_mem hv; omega
    · have := vs_mem hv; omega
    · have := ls_mem hl
      have := vs_mem hv
      omega
  · have := vs_len (Rl.head x)
    have := head_vs x
    have := bulk_mem hx
    omega
  · have := ls_len (Rl.lines A)
    have := lines_ls A
    omega
  · have h1 := vwrite_len (Rl.lines A)
    have h2 := lines_ls A
    show (vwrite (Rl.lines A)).length ≤ _
    omega
  · have := vs_len (Rl.head x)
    have := head_vs x
    have := bulk_mem hx
    omega

end Go.Proofs.Ythpipbkbldlfjaa.Rl

namespace Go.Proofs.Ythpipbkbldlfjaa
open Go.RowKit

/-- the laws' own test answers true -/
def WorksC : Prop := ∀ w : World, Calls Try.prog 12 #[] w fun e w' => e = .returned (.bool true) ∧ Below w.heap.size w w'

/-- what Parse answers -/
def Rl.answer (t : List UInt8) : Lx.R (Int × Int × Int) (List Rl.It) :=
  if 32768 < t.length then .bad (3, ((Lx.place t 32768).1 : Nat), ((Lx.place t 32768).2 : Nat))
  else match Lx.lex t with
  | .bad a => .bad (6, ((Lx.place t a).1 : Nat), ((Lx.place t a).2 : Nat))
  | .ok ls => Rl.parse [] (ls.map (Lx.toldL t))
def whV (er l c : Int) : Value := .agg #[.int .i64 er, .string .empty, .int .i64 l, .int .i64 c]
def PsEnd (e : Ending) (w' : World) : Lx.R (Int × Int × Int) (List Rl.It) → Prop
  | .bad x => ∃ ad c', e = .returned (.tuple #[.slice ad 0 c', whV x.1 x.2.1 x.2.2])
  | .ok A => ∃ ad c', e = .returned (.tuple #[.slice ad A.length c', whV 0 0 0]) ∧ ItsS w' w'.heap.size (.slice ad A.length c') A
def ParseC : Prop := ∀ (s : ByteArray) (w : World), s.size ≤ 140737488351232 → Calls Try.prog 13 #[.string s] w fun e w' => PsEnd e w' (Rl.answer (bs s)) ∧ Below w.heap.size w w'

/-- an error is one -/
theorem Rl.answer_bad {t : List UInt8} {x : Int × Int × Int} (h : Rl.answer t = .bad x) : x.1 ≠ 0 := by
  unfold Rl.answer at h
  split at h
  · cases h
    show (3 : Int) ≠ 0
    decide
  · split at h
    · cases h
      show (6 : Int) ≠ 0
      decide
    · rename_i ls hl
      obtain ⟨a, -, -, -, h4⟩ := Rl.parse_bad (Lx.lex_stands hl) h
      rcases h4 with h4 | h4 <;> rw [h4] <;> decide
theorem Rl.answer_ok {t : List UInt8} {A : List Rl.It} (h : Rl.answer t = .ok A) : t.length ≤ 32768 ∧ ∃ ls, Lx.lex t = .ok ls ∧ Rl.parse [] (ls.map (Lx.toldL t)) = .ok A := by
  unfold Rl.answer at h
  split at h
  · cases h
  · split at h
    · cases h
    · rename_i hlt ls hl
      exact ⟨by omega, ls, hl, h⟩
theorem Rl.answer_may {t : List UInt8} {A : List Rl.It} (h : Rl.answer t = .ok A) : Rl.may A = true := by
  obtain ⟨-, ls, hl, hp⟩ := Rl.answer_ok h
  exact Rl.parse_may (Rl.told_ok hl) rfl hp

theorem Rl.made_one {l : Lx.L} {x : Rl.It} (h : Rl.Made l x) (hn : x.name.length ≤ Rl.vs l.words - Rl.vs (x.targets ++ x.words)) (hs : Rl.vs (x.targets ++ x.words) ≤ Rl.vs l.words) : Rl.one_ x ≤ Rl.vs l.words + 1 := by
  unfold Rl.one_
  rw [h.code]
  rw [Rl.vs_app] at hn hs
  simp only [Rl.ls, List.map_nil, List.sum_nil]
  omega
theorem Rl.item_one {l : Lx.L} {x : Rl.It} (h : Rl.item l = .ok x) : Rl.one_ x ≤ Rl.vs l.words + 1 := by
  have hm := Rl.item_made h
  have hsub : ∀ {a b : List Lx.V}, a.Sublist b → Rl.vs a ≤ Rl.vs b := by
    intro a b hs
    induction hs with
    | slnil => exact Nat.le_refl _
    | cons y _ ih => rw [Rl.vs_cons]; omega
    | cons_cons y _ ih => rw [Rl.vs_cons, Rl.vs_cons]; omega
  rcases hm.kind with ⟨hk, -, ht⟩ | ⟨-, hn, -⟩ | ⟨-, hn, -⟩
  · obtain ⟨num, ind, ws⟩ := l
    unfold Rl.item at h
    cases ws with
    | nil => cases h
    | cons w r =>
      simp only at h
      split at h
      · cases r with
        | nil => cases h
        | cons a r =>
          cases r with
          | nil =>
            rw [Rl.letOf] at h
            split at h <;> cases h
          | cons m r =>
            rw [Rl.letOf] at h
            split at h
            · cases h
            · split at h
              · cases h
              · split at h
                · cases h
                · cases h
                  have e : Rl.vs (w :: a :: m :: r) = w.text.length + 1 + (a.text.length + 1 + (m.text.length + 1 + Rl.vs r)) := by rw [Rl.vs_cons, Rl.vs_cons, Rl.vs_cons]
                  show (a.text.length + 1) + (0 + (Rl.vs r + 0)) ≤ Rl.vs (w :: a :: m :: r) + 1
                  omega
      · split at h
        · cases r with
          | nil => cases h
          | cons a r =>
            cases r with
            | nil =>
              rw [Rl.inclOf] at h
              split at h
              · cases h
              · cases h
                exact absurd (show (2 : Int) = 1 from hk) (by decide)
            | cons b r =>
              rw [Rl.inclOf] at h
              split at h <;> cases h
        · split at h
          · obtain ⟨-, -, -, -, h5, -⟩ := Rl.ruleOf_made num (T := []) (fun _ h => by cases h) h
            rw [hk] at h5
            exact absurd h5 (by decide)
          · cases h
  · exact Rl.made_one hm (by rw [hn]; simp) (hsub hm.sub)
  · exact Rl.made_one hm (by rw [hn]; simp) (hsub hm.sub)
theorem Rl.bulk_app (a b : List Rl.It) : Rl.bulk (a ++ b) = Rl.bulk a + Rl.bulk b := by simp [Rl.bulk]
theorem Rl.parse_bulk : ∀ {ls : List Lx.L} {o C : List Rl.It}, Rl.parse o ls = .ok C → Rl.bulk C ≤ Rl.bulk o + Rl.ls ls
  | [], o, C, h => by
    rw [Rl.parse] at h
    cases h
    omega
  | l :: ls, o, C, h => by
    rw [Rl.parse] at h
    rw [Rl.ls_cons]
    split at h
    · rcases List.eq_nil_or_concat o with rfl | ⟨o', x, rfl⟩
      · simp at h
      · simp only [List.concat_eq_append, List.getLast?_append, List.getLast?_singleton, Option.some_or, List.dropLast_concat] at h
        split at h
        · have := Rl.parse_bulk h
          rw [List.concat_eq_append, Rl.bulk_app]
          rw [Rl.bulk_app] at this
          have e : Rl.one_ (x.with l) = Rl.one_ x + (Rl.vs l.words + 1) := by
            unfold Rl.one_
            simp only [Rl.It.with, Rl.ls_app, Rl.ls_cons]
            have : Rl.ls ([] : List Lx.L) = 0 := rfl
            omega
          rw [Rl.bulk_cons] at this ⊢
          omega
        · cases h
    · revert h
      cases hx : Rl.item l with
      | bad a => intro h; cases h
      | ok x =>
        intro h
        have := Rl.parse_bulk h
        rw [Rl.bulk_app, Rl.bulk_cons] at this
        have h1 := Rl.item_one hx
        have h2 : Rl.bulk ([] : List Rl.It) = 0 := rfl
        omega
theorem Rl.told_ls (t : List UInt8) : ∀ (ls : List (Lx.Ln Nat)), Rl.ls (ls.map (Lx.toldL t)) = Lx.tot ls
  | [] => rfl
  | x :: ls => by
    rw [List.map_cons, Rl.ls_cons, Rl.told_ls t ls, Lx.tot_cons]
    congr 2
    simp only [Rl.vs, Lx.toldL, Lx.wsum, List.map_map]
    rfl
/-- what is read is small -/
theorem Rl.answer_bulk {t : List UInt8} {A : List Rl.It} (h : Rl.answer t = .ok A) : Rl.bulk A < 262144 := by
  obtain ⟨hl, ls, h1, h2⟩ := Rl.answer_ok h
  have h3 := Rl.parse_bulk h2
  rw [Rl.told_ls] at h3
  have h4 := Lx.lex_size h1
  have h5 : Rl.bulk ([] : List Rl.It) = 0 := rfl
  omega
/-- what is printed, read -/
theorem Rl.answer_print {A : List Rl.It} (h : Rl.may A = true) (hl : (Rl.print A).length ≤ 32768) : ∃ C, Rl.answer (Rl.print A) = .ok C ∧ A.map Rl.bi = C.map Rl.bi := by
  obtain ⟨ls, h1, C, h2, h3⟩ := Rl.back h
  refine ⟨C, ?_, h3⟩
  unfold Rl.answer
  rw [if_neg (by omega), h1]
  exact h2
theorem Rl.answer_long {t : List UInt8} (h : 32768 < t.length) : Rl.answer t = .bad (3, ((Lx.place t 32768).1 : Nat), ((Lx.place t 32768).2 : Nat)) := by
  unfold Rl.answer
  rw [if_pos h]

theorem stood_where : Try.prog.stoodInHeld 26 = false := by kernel_rfl
theorem guardT_where : Try.prog.eqGuardType Try.prog.depth 26 = false := by kernel_rfl
def whA (er l c : Int) : Array Value := #[.int .i64 er, .string .empty, .int .i64 l, .int .i64 c]
theorem eq_where (W : World) (a b c a' b' c' : Int) : (Op.equalIn 10000 26 (.agg (whA a b c)) (.agg (whA a' b' c'))).run Try.prog W = .ok (decide (a = a' ∧ b = b' ∧ c = c')) W := by
  rw [show (10000 : Nat) = 9999 + 1 from rfl, run_equalIn_agg W 9999 26 _ _ (by simp [Program.fieldsOf, Try.underlying26]) stood_where]
  simp [Program.fieldsOf, Try.underlying26, go_sem, whA]
  by_cases h1 : a = a' <;> by_cases h2 : b = b' <;> by_cases h3 : c = c' <;> simp [h1, h2, h3]
theorem neq_where (W : World) (a b c a' b' c' : Int) : (binOp .neq 26 (.agg (whA a b c)) (.agg (whA a' b' c'))).run Try.prog W = .ok (.bool (!decide (a = a' ∧ b = b' ∧ c = c'))) W := by
  rw [run_neq_struct, eq_where]; rfl
theorem eql_where (W : World) (a b c a' b' c' : Int) : (binOp .eql 26 (.agg (whA a b c)) (.agg (whA a' b' c'))).run Try.prog W = .ok (.bool (decide (a = a' ∧ b = b' ∧ c = c'))) W := by
  rw [run_eql_struct, eq_where]; rfl
theorem guard_where (W : World) (op : BinOp) (x y : Operand) (xs ys : Array Value) : (eqGuard op 26 x y (.agg xs) (.agg ys)).run Try.prog W = .ok () W := run_eqGuard_agg W op 26 x y xs ys guardT_where

end Go.Proofs.Ythpipbkbldlfjaa
