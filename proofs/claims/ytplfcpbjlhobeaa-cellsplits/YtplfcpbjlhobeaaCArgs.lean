/-
  THE ARGUMENTS, OPENED: items, numbers, a node.
-/
import Derived.Test.YtplfcpbjlhobeaaLaw
import Derived.Test.YtplfcpbjlhobeaaCKit
import Derived.Deep.Slices
import Derived.Deep.Strs
namespace Go.Proofs.Ytplfcpbjlhobeaa
open Go.ChangeShapes Go.WideShapes Go.ChangeAt Go.RowKit

section
variable {H : Type} {enc : TypeId × Value → H}

instance : Inhabited Cm.It := ⟨Cm.zero⟩
theorem cellsC : Try.prog.cellsOf 24 = 4 := by kernel_rfl
theorem cellsNd : Try.prog.cellsOf 28 = 3 := by kernel_rfl
theorem cells3 : Try.prog.cellsOf 3 = 1 := by kernel_rfl
theorem cells4 : Try.prog.cellsOf 4 = 1 := by kernel_rfl
theorem cells9 : Try.prog.cellsOf 9 = 1 := by kernel_rfl
theorem cellsCs : Try.prog.cellsOf 25 = 1 := by kernel_rfl
theorem cellsIs : Try.prog.cellsOf 26 = 1 := by kernel_rfl

set_option maxRecDepth 100000 in
theorem open_its {W : World} {fuel : Nat} {cs : List Value} {y : DataW H × List MemPlace} (hf : DataW.trod enc Try.prog W 0 (fun _ => true) true fuel 25 cs = some y) :
    ∃ v q, cs = [v] ∧ Its W W.heap.size v q := by
  rcases Deep.open_slice Try.underlying25 hf with ⟨hcs, _⟩ | ⟨x, len, cap, m, n, D, Pl, hcs, _, hl, hm, hz, hx, hel⟩
  · exact ⟨_, [], hcs, Its.nil _ _⟩
  · simp only [if_true] at hz
    subst hz
    have each : ∀ i, i < m → ∃ t : Cm.It, W.cell? (x.add (i * 4)) = some (.string t.key) ∧ W.cell? ((x.add (i * 4)).add 1) = some (.string t.val) ∧ W.cell? ((x.add (i * 4)).add 2) = some (.int .i64 t.page) ∧ W.cell? ((x.add (i * 4)).add 3) = some (.int .i64 t.len) := by
      intro i hi
      obtain ⟨cs', hcs', htr⟩ := hel i hi
      rw [cellsC] at hcs'
      obtain ⟨_, hlen, hcell⟩ := World.cells?_some hcs'
      obtain ⟨xs, n', _, _, hl', hlen', hfld⟩ := DataW.trod_struct Try.underlying24 htr
      match xs, hlen' with
      | [y0, y1, y2, y3], _ =>
        have t0 := hfld 0 _ rfl
        have t1 := hfld 1 _ rfl
        have t2 := hfld 2 _ rfl
        have t3 := hfld 3 _ rfl
        obtain ⟨k0, e0, _, _⟩ := DataW.trod_string Try.underlying9 (by simpa using t0)
        obtain ⟨k1, e1, _, _⟩ := DataW.trod_string Try.underlying9 (by simpa using t1)
        obtain ⟨k2, e2, _, _⟩ := DataW.trod_int Try.underlying3 (by simpa using t2)
        obtain ⟨k3, e3, _, _⟩ := DataW.trod_int Try.underlying3 (by simpa using t3)
        match cs', hlen with
        | [c0, c1, c2, c3], _ =>
          simp [cells9] at e0 e1
          simp [cells3] at e2 e3
          subst e0 e1 e2 e3
          exact ⟨⟨k0, k1, k2, k3⟩, by simpa [Addr.add] using hcell 0 (by omega), hcell 1 (by omega), hcell 2 (by omega), hcell 3 (by omega)⟩
    obtain ⟨f, hf'⟩ := Deep.choose_lt each
    have hql : ((List.range len).map f).length = len := by simp
    refine ⟨_, (List.range len).map f, hcs, some x, m, by rw [hql], by rw [hql]; exact hl, (fun h => by cases h), fun hne => ?_⟩
    have hpos : 0 < len := by
      rcases Nat.eq_zero_or_pos len with h0 | h0
      · subst h0; exact absurd (by simp) hne
      · exact h0
    have h00 := (hf' 0 (by omega)).1
    have hs := spot_none (x := x) (by simpa using h00)
    obtain ⟨b, o, sp⟩ := x
    simp only at hs
    subst hs
    refine ⟨b, o, rfl, ?_, fun j hj => ?_⟩
    · exact World.block_lt_of_cell? W _ (by simpa [Addr.add] using h00)
    · rw [hql] at hj
      obtain ⟨g0, g1, g2, g3⟩ := hf' j (by omega)
      have e : ((List.range len).map f).getD j Cm.zero = f j := by simp [List.getD, hj]
      rw [e]
      rw [addr_add] at g0 g1 g2 g3
      rw [addr_add] at g1 g2 g3
      exact ⟨g0, g1, g2, g3⟩

set_option maxRecDepth 100000 in
theorem open_ints {W : World} {fuel : Nat} {cs : List Value} {y : DataW H × List MemPlace} (hf : DataW.trod enc Try.prog W 0 (fun _ => true) true fuel 26 cs = some y) :
    ∃ v q, cs = [v] ∧ Ints W W.heap.size v q := by
  rcases Deep.open_slice Try.underlying26 hf with ⟨hcs, _⟩ | ⟨x, len, cap, m, n, D, Pl, hcs, _, hl, hm, hz, hx, hel⟩
  · exact ⟨_, [], hcs, Ints.nil _ _⟩
  · simp only [if_true] at hz
    subst hz
    have each : ∀ i, i < m → ∃ t : Int, W.cell? (x.add (i * 1)) = some (.int .i64 t) := by
      intro i hi
      obtain ⟨cs', hcs', htr⟩ := hel i hi
      rw [cells3] at hcs'
      obtain ⟨_, hlen, hcell⟩ := World.cells?_some hcs'
      obtain ⟨k0, e0, _, _⟩ := DataW.trod_int Try.underlying3 htr
      match cs', hlen with
      | [c0], _ =>
        simp at e0
        subst e0
        exact ⟨k0, by simpa [Addr.add] using hcell 0 (by omega)⟩
    obtain ⟨f, hf'⟩ := Deep.choose_lt each
    have hql : ((List.range len).map f).length = len := by simp
    refine ⟨_, (List.range len).map f, hcs, some x, m, by rw [hql], by rw [hql]; exact hl, (fun h => by cases h), fun hne => ?_⟩
    have hpos : 0 < len := by
      rcases Nat.eq_zero_or_pos len with h0 | h0
      · subst h0; exact absurd (by simp) hne
      · exact h0
    have h00 := hf' 0 (by omega)
    have hs := spot_none (x := x) (by simpa using h00)
    obtain ⟨b, o, sp⟩ := x
    simp only at hs
    subst hs
    refine ⟨b, o, rfl, ?_, fun j hj => ?_⟩
    · exact World.block_lt_of_cell? W _ (by simpa [Addr.add] using h00)
    · rw [hql] at hj
      have g0 := hf' j (by omega)
      have e : ((List.range len).map f).getD j 0 = f j := by simp [List.getD, hj]
      rw [e]
      rw [addr_add, Nat.mul_one] at g0
      exact g0

set_option maxRecDepth 100000 in
theorem open_node {W : World} {base : Nat} {v : Value} {d : DataW H} {p : List MemPlace} (hok : Value.okWide Try.prog W .any base 28 v) (h : DataW.Trod enc Try.prog W 0 (fun _ => true) true 28 v d p) :
    ∃ n : Cm.Nd, NdS W W.heap.size v n := by
  obtain ⟨cs, rfl, hcs⟩ := okWide_struct Try.underlying28 hok
  rw [cellsNd] at hcs
  obtain ⟨fuel, hf⟩ := h
  obtain ⟨y0, y1, y2, n, _, _, t0, t1, t2⟩ := Deep.trod_struct3 Try.underlying28 hf
  obtain ⟨b, e0, _⟩ := DataW.trod_bool Try.underlying4 t0
  obtain ⟨vi, qi, e1, hi⟩ := open_its t1
  obtain ⟨vk, qk, e2, hk⟩ := open_ints t2
  refine ⟨⟨b, qi, qk⟩, vi, vk, ?_, hi, hk⟩
  obtain ⟨l⟩ := cs
  match l, hcs with
  | [c0, c1, c2], _ =>
    simp [Value.cells, cells4] at e0
    simp [Value.cells, cellsCs] at e1
    simp [Value.cells, cellsIs] at e2
    rw [e0, e1, e2]
end
end Go.Proofs.Ytplfcpbjlhobeaa
