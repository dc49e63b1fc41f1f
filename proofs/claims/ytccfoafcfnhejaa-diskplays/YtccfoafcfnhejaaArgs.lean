/-
  THE ARGUMENTS, OPENED: puts, bools, a byte, a number, a bool.
-/
import Derived.Test.YtccfoafcfnhejaaLaw
import Derived.Test.YtccfoafcfnhejaaFails
import Derived.Deep.Slices
import Derived.Deep.Strs
namespace Go.Proofs.Ytccfoafcfnhejaa
open Go.ChangeShapes Go.WideShapes Go.ChangeAt Go.RowKit

section
variable {H : Type} {enc : TypeId × Value → H}

theorem cells61 : Try.prog.cellsOf 61 = 2 := by kernel_rfl
theorem cells3 : Try.prog.cellsOf 3 = 1 := by kernel_rfl
theorem cells4 : Try.prog.cellsOf 4 = 1 := by kernel_rfl
theorem cells5 : Try.prog.cellsOf 5 = 1 := by kernel_rfl

theorem u8_of {n : Int} (h : (Lit.int .u8 n).wf = true) : n = (((UInt8.ofNat n.toNat).toNat : Nat) : Int) := by
  have h2 := wf_u8 h
  rw [UInt8.toNat_ofNat', Nat.mod_eq_of_lt (by omega)]
  omega

set_option maxRecDepth 100000 in
theorem open_puts {W : World} {base : Nat} {v : Value} {d : DataW H} {p : List MemPlace} (hok : Value.okWide Try.prog W .any base 57 v) (h : DataW.Trod enc Try.prog W 0 (fun _ => true) true 57 v d p) :
    ∃ q : List (Int × UInt8), PutS W W.heap.size v q := by
  obtain ⟨a0, len, cap, rfl⟩ := okWide_slice Try.underlying57 hok
  obtain ⟨fuel, hf⟩ := h
  rcases Deep.open_slice Try.underlying57 hf with ⟨hcs, _⟩ | ⟨x, l, c, m, n, D, Pl, hcs, _, hl, hm, hz, hx, hel⟩
  · simp [Value.cells] at hcs
    obtain ⟨rfl, rfl, rfl⟩ := hcs
    exact ⟨[], none, 0, rfl, fun h => absurd rfl h⟩
  · simp [Value.cells] at hcs
    obtain ⟨rfl, rfl, rfl⟩ := hcs
    simp only [if_true] at hz
    subst hz
    have each : ∀ i, i < m → ∃ t : Int × UInt8, W.cell? (x.add (i * 2)) = some (.int .i64 t.1) ∧ W.cell? ((x.add (i * 2)).add 1) = some (.int .u8 (t.2.toNat : Int)) := by
      intro i hi
      obtain ⟨cs', hcs', htr⟩ := hel i hi
      rw [cells61] at hcs'
      obtain ⟨_, hlen, hcell⟩ := World.cells?_some hcs'
      obtain ⟨xs, n', _, _, hl', hlen', hfld⟩ := DataW.trod_struct Try.underlying61 htr
      match xs, hlen' with
      | [y0, y1], _ =>
        have t0 := hfld 0 _ rfl
        have t1 := hfld 1 _ rfl
        obtain ⟨k0, e0, _, _⟩ := DataW.trod_int Try.underlying3 (by simpa using t0)
        obtain ⟨k1, e1, _, w1⟩ := DataW.trod_int Try.underlying5 (by simpa using t1)
        match cs', hlen with
        | [c0, c1], _ =>
          simp [cells3] at e0
          simp [cells5] at e1
          subst e0 e1
          refine ⟨(k0, UInt8.ofNat k1.toNat), by simpa [Addr.add] using hcell 0 (by omega), ?_⟩
          have := hcell 1 (by omega)
          rw [← u8_of w1]
          exact this
    obtain ⟨f, hf'⟩ := Deep.choose_lt each
    have hql : ((List.range len).map f).length = len := by simp
    refine ⟨(List.range len).map f, some x, m, by rw [hql], fun hne => ?_⟩
    have hpos : 0 < len := by
      rcases Nat.eq_zero_or_pos len with h0 | h0
      · subst h0; exact absurd (by simp) hne
      · exact h0
    have h00 := (hf' 0 (by omega)).1
    have hs := spot_none (x := x) (by simpa using h00)
    obtain ⟨b, o, sp⟩ := x
    simp only at hs
    subst hs
    refine ⟨b, o, rfl, ?_, fun j hj => ?_⟩
    · exact World.block_lt_of_cell? W _ (by simpa [Addr.add] using h00)
    · rw [hql] at hj
      obtain ⟨g0, g1⟩ := hf' j (by omega)
      have e : ((List.range len).map f).getD j (0, 0) = f j := by simp [List.getD, hj]
      rw [e]
      rw [Addr.add_mid] at g0 g1
      rw [Addr.add_mid] at g1
      exact ⟨g0, g1⟩

set_option maxRecDepth 100000 in
theorem open_bols {W : World} {base : Nat} {v : Value} {d : DataW H} {p : List MemPlace} (hok : Value.okWide Try.prog W .any base 31 v) (h : DataW.Trod enc Try.prog W 0 (fun _ => true) true 31 v d p) :
    ∃ q : List Bool, Bols W W.heap.size v q := by
  obtain ⟨a0, len, cap, rfl⟩ := okWide_slice Try.underlying31 hok
  obtain ⟨fuel, hf⟩ := h
  rcases Deep.open_slice Try.underlying31 hf with ⟨hcs, _⟩ | ⟨x, l, c, m, n, D, Pl, hcs, _, hl, hm, hz, hx, hel⟩
  · simp [Value.cells] at hcs
    obtain ⟨rfl, rfl, rfl⟩ := hcs
    exact ⟨[], none, 0, rfl, Nat.le_refl _, fun h => absurd rfl h⟩
  · simp [Value.cells] at hcs
    obtain ⟨rfl, rfl, rfl⟩ := hcs
    simp only [if_true] at hz
    subst hz
    have each : ∀ i, i < m → ∃ t : Bool, W.cell? (x.add (i * 1)) = some (.bool t) := by
      intro i hi
      obtain ⟨cs', hcs', htr⟩ := hel i hi
      rw [cells4] at hcs'
      obtain ⟨_, hlen, hcell⟩ := World.cells?_some hcs'
      obtain ⟨k0, e0, _⟩ := DataW.trod_bool Try.underlying4 htr
      match cs', hlen with
      | [c0], _ =>
        simp at e0
        subst e0
        exact ⟨k0, by simpa [Addr.add] using hcell 0 (by omega)⟩
    obtain ⟨f, hf'⟩ := Deep.choose_lt each
    have hql : ((List.range len).map f).length = len := by simp
    refine ⟨(List.range len).map f, some x, m, by rw [hql], by rw [hql]; omega, fun hne => ?_⟩
    have hpos : 0 < len := by
      rcases Nat.eq_zero_or_pos len with h0 | h0
      · subst h0; exact absurd (by simp) hne
      · exact h0
    have h00 := hf' 0 (by omega)
    have hs := spot_none (x := x) (by simpa using h00)
    obtain ⟨b, o, sp⟩ := x
    simp only at hs
    subst hs
    refine ⟨b, o, rfl, ?_, fun j hj => ?_⟩
    · exact World.block_lt_of_cell? W _ (by simpa [Addr.add] using h00)
    · rw [hql] at hj
      have g0 := hf' j (by omega)
      have e : ((List.range len).map f).getD j false = f j := by simp [List.getD, hj]
      rw [e]
      rw [Addr.add_mid, Nat.mul_one] at g0
      exact g0
end
end Go.Proofs.Ytccfoafcfnhejaa
