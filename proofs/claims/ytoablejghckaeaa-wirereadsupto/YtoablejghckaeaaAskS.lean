/-
  A SCRIPT OF CALLS AMONG THE ARGUMENTS: a slice of structs of three numbers, opened.
-/
import Derived.Test.YtoablejghckaeaaLaw
import Derived.Deep.Slices
import Derived.Deep.Strs
namespace Go.Proofs.Ytoablejghckaeaa
open Go.ChangeShapes Go.WideShapes Go.ChangeAt Go.RowKit

/-- v is a slice of structs whose numbers, in w, are those of q; they lie below block B -/
def AskS (w : World) (B : Nat) (v : Value) (q : List (Int × Int × Int)) : Prop :=
  ∃ ad c, v = .slice ad q.length c ∧ (∀ x ∈ q, x.2.1 ≤ 9223372036854775807 ∧ x.2.2 ≤ 9223372036854775807) ∧ (q ≠ [] → ∃ b o, ad = some ⟨b, o, none⟩ ∧ b < B ∧ ∀ j, j < q.length →
    w.cell? ⟨b, o + j * 3, none⟩ = some (.int .i64 (q.getD j (0, 0, 0)).1) ∧ w.cell? ⟨b, o + j * 3 + 1, none⟩ = some (.int .i64 (q.getD j (0, 0, 0)).2.1) ∧ w.cell? ⟨b, o + j * 3 + 2, none⟩ = some (.int .i64 (q.getD j (0, 0, 0)).2.2))

theorem AskS.below {w w' : World} {B B' : Nat} {v : Value} {q : List (Int × Int × Int)} (h : AskS w B v q) (hb : Below B' w w') (hB : B ≤ B') : AskS w' B v q := by
  obtain ⟨ad, c, hv, hq, h⟩ := h
  refine ⟨ad, c, hv, hq, fun hne => ?_⟩
  obtain ⟨b, o, ha, hlt, hc⟩ := h hne
  exact ⟨b, o, ha, hlt, fun j hj => ⟨(hb.cell (p := ⟨b, o + j * 3, none⟩) (Nat.lt_of_lt_of_le hlt hB)).trans (hc j hj).1, (hb.cell (p := ⟨b, o + j * 3 + 1, none⟩) (Nat.lt_of_lt_of_le hlt hB)).trans (hc j hj).2.1, (hb.cell (p := ⟨b, o + j * 3 + 2, none⟩) (Nat.lt_of_lt_of_le hlt hB)).trans (hc j hj).2.2⟩⟩

theorem wf_i64 {n : Int} (h : (Lit.int .i64 n).wf = true) : n ≤ 9223372036854775807 := by
  have : -9223372036854775808 ≤ n ∧ n ≤ 9223372036854775807 := by simpa [Lit.wf, IntKind.min, IntKind.max, IntKind.signed, IntKind.bits] using h
  exact this.2

section
variable {H : Type} {enc : TypeId × Value → H}

theorem bulk_len (l : List (DataW H)) : l.length ≤ Rows.uptoBulkAll l := by
  induction l with
  | nil => simp [Rows.uptoBulkAll]
  | cons x r ih =>
    have h1 : 1 ≤ Rows.uptoBulk x := by
      cases x with
      | lit l => cases l <;> simp [Rows.uptoBulk]
      | nil => simp [Rows.uptoBulk]
      | ptr d => simp [Rows.uptoBulk]
      | slice elems spare => simp [Rows.uptoBulk]
      | agg parts => simp [Rows.uptoBulk]
      | iface t d => simp [Rows.uptoBulk]
      | map entries => simp [Rows.uptoBulk]
      | held h => simp [Rows.uptoBulk]
    simp only [Rows.uptoBulkAll, List.length_cons]
    omega

theorem cells49 : Try.prog.cellsOf 49 = 3 := by kernel_rfl
theorem cells3 : Try.prog.cellsOf 3 = 1 := by kernel_rfl

theorem open_asks {W : World} {base : Nat} {v : Value} {d : DataW H} {p : List MemPlace} (hok : Value.okWide Try.prog W .any base 46 v) (h : DataW.Trod enc Try.prog W 0 (fun _ => true) true 46 v d p) :
    ∃ q : List (Int × Int × Int), AskS W W.heap.size v q ∧ q.length ≤ Rows.uptoBulk d := by
  obtain ⟨a0, len, cap, rfl⟩ := okWide_slice Try.underlying46 hok
  obtain ⟨fuel, hf⟩ := h
  rcases Deep.open_slice Try.underlying46 hf with ⟨hcs, _⟩ | ⟨x, l, c, m, n, D, Pl, hcs, _, hl, hm, hz, hx, hel⟩
  · simp [Value.cells] at hcs
    obtain ⟨rfl, rfl, rfl⟩ := hcs
    exact ⟨[], ⟨none, 0, rfl, (by simp), fun h => absurd rfl h⟩, by simp⟩
  · simp [Value.cells] at hcs
    obtain ⟨rfl, rfl, rfl⟩ := hcs
    simp only [if_true] at hz
    subst hz
    have hx1 : d = .slice ((List.range len).map D) ((List.range (m - len)).map fun j => D (len + j)) := congrArg Prod.fst hx
    have each : ∀ i, i < m → ∃ t : Int × Int × Int, (W.cell? (x.add (i * 3)) = some (.int .i64 t.1) ∧ W.cell? ((x.add (i * 3)).add 1) = some (.int .i64 t.2.1) ∧ W.cell? ((x.add (i * 3)).add 2) = some (.int .i64 t.2.2)) ∧ t.2.1 ≤ 9223372036854775807 ∧ t.2.2 ≤ 9223372036854775807 := by
      intro i hi
      obtain ⟨cs', hcs', htr⟩ := hel i hi
      rw [cells49] at hcs'
      obtain ⟨_, hlen, hcell⟩ := World.cells?_some hcs'
      obtain ⟨y0, y1, y2, n', _, _, t0, t1, t2⟩ := Deep.trod_struct3 Try.underlying49 htr
      obtain ⟨k0, e0, _, _⟩ := DataW.trod_int Try.underlying3 t0
      obtain ⟨k1, e1, _, w1⟩ := DataW.trod_int Try.underlying3 t1
      obtain ⟨k2, e2, _, w2⟩ := DataW.trod_int Try.underlying3 t2
      match cs', hlen with
      | [c0, c1, c2], _ =>
        simp [cells3] at e0 e1 e2
        subst e0 e1 e2
        exact ⟨(k0, k1, k2), ⟨by simpa [Addr.add] using hcell 0 (by omega), hcell 1 (by omega), hcell 2 (by omega)⟩, wf_i64 w1, wf_i64 w2⟩
    obtain ⟨f, hf'⟩ := Deep.choose_lt each
    have hql : ((List.range len).map f).length = len := by simp
    refine ⟨(List.range len).map f, ⟨some x, m, by rw [hql], ?_, fun hne => ?_⟩, ?_⟩
    · intro y hy
      obtain ⟨i, hi, rfl⟩ := List.mem_map.1 hy
      exact (hf' i (by have := List.mem_range.1 hi; omega)).2
    · have hpos : 0 < len := by
        rcases Nat.eq_zero_or_pos len with h0 | h0
        · subst h0; exact absurd (by simp) hne
        · exact h0
      have h00 := (hf' 0 (by omega)).1.1
      have hs := spot_none (x := x) (by simpa using h00)
      obtain ⟨b, o, sp⟩ := x
      simp only at hs
      subst hs
      refine ⟨b, o, rfl, ?_, fun j hj => ?_⟩
      · exact World.block_lt_of_cell? W _ (by simpa [Addr.add] using h00)
      · rw [hql] at hj
        obtain ⟨⟨g0, g1, g2⟩, _⟩ := hf' j (by omega)
        have e : ((List.range len).map f).getD j (0, 0, 0) = f j := by simp [List.getD, hj]
        rw [e]
        have ea : ∀ (o' k : Nat), (⟨b, o', none⟩ : Addr).add k = ⟨b, o' + k, none⟩ := by
          intro o' k; unfold Addr.add; split <;> simp_all
        rw [ea] at g0 g1 g2
        rw [ea] at g1 g2
        exact ⟨g0, g1, g2⟩
    · rw [hx1, hql]
      have := bulk_len ((List.range len).map D)
      simp only [List.length_map, List.length_range] at this
      simp only [Rows.uptoBulk]
      omega
end
end Go.Proofs.Ytoablejghckaeaa
