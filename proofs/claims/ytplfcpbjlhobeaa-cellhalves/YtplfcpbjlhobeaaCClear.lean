/-
  'clear' OF A ROW OF ITEMS, AND OF ONE OF NUMBERS.
-/
import Derived.Test.YtplfcpbjlhobeaaRCopied
import Derived.Lib.SliceRun
import Derived.Laws.IdiomCopy
namespace Go.Proofs.Ytplfcpbjlhobeaa
open Go.RowKit

/-- 'clear(s)', s a slice of n > 0 elements of k cells each -/
theorem run_clear_rows (w : World) (t e ty : TypeId) (z : Value) (k : Nat) (ht : Try.prog.underlying t = some (.slice e)) (hv : ∀ w, (zeroValue e).run Try.prog w = .ok z w) (hk : z.cells.size = k) (h1 : ∀ j, j < k → (z.cells[j]!).oneCell' = true) (hk0 : 0 < k) (b o n c : Nat) (hn : 0 < n)
    (hc : ∀ j, j < n * k → (w.cell? ⟨b, o + j, none⟩).isSome = true) (hf : ∀ j, j < n * k → w.frozen? ⟨b, o + j, none⟩ = false) :
    (Builtin.clear_ #[t] ty #[.slice (some ⟨b, o, none⟩) n c]).run Try.prog w = .ok (.tuple #[]) (w.setCells b o (Builtin.zeroCells z.cells n).toList) := by
  have hl : (Builtin.zeroCells z.cells n).toList.length = n * k := by rw [Array.length_toList, size_zeroCells, hk]
  have hz1 : ∀ u ∈ (Builtin.zeroCells z.cells n).toList, u.oneCell' = true := by
    intro u hu
    simp only [Builtin.zeroCells, Array.toList_map, List.mem_map] at hu
    obtain ⟨i, -, rfl⟩ := hu
    exact h1 _ (by rw [← hk]; exact Nat.mod_lt _ (by omega))
  have hst := run_storeCells_cells (P := Try.prog) b o (Builtin.zeroCells z.cells n).toList 0 w (by intro j hj; rw [hl] at hj; simpa using hc j hj) (by intro j hj; rw [hl] at hj; simpa using hf j hj) hz1
  simp only [Nat.add_zero] at hst
  obtain ⟨m, rfl⟩ : ∃ m, n = m + 1 := ⟨n - 1, by omega⟩
  simp [Builtin.clear_, run_underlying ht, hv, hst]

theorem setCells_else (g : Nat) : ∀ (vs : List Value) (o : Nat) (w : World) (k : Nat), k ≠ g → (w.setCells g o vs).heap[k]? = w.heap[k]? ∧ (w.setCells g o vs).heap.size = w.heap.size ∧ (w.setCells g o vs).os = w.os ∧ (w.setCells g o vs).tape = w.tape ∧ (w.setCells g o vs).output = w.output
  | [], _, _, _, _ => ⟨rfl, rfl, rfl, rfl, rfl⟩
  | x :: r, o, w, k, hk => by
    have := setCells_else g r (o + 1) (w.setCell ⟨g, o, none⟩ x) k hk
    exact ⟨this.1.trans (Below.heap_setCell w ⟨g, o, none⟩ x k hk), this.2.1.trans (by simp [World.setCell]), this.2.2.1.trans rfl, this.2.2.2.1.trans rfl, this.2.2.2.2.trans rfl⟩
theorem setCells_obj (g : Nat) : ∀ (vs : List Value) (o : Nat) (w : World) (b : Nat) (cs : Array Value) (t : TypeId), w.heap[b]? = some (.cells cs t (0, 0)) → ∃ cs', (w.setCells g o vs).heap[b]? = some (.cells cs' t (0, 0)) ∧ cs'.size = cs.size
  | [], _, _, _, cs, _, h => ⟨cs, h, rfl⟩
  | x :: r, o, w, b, cs, t, h => by
    by_cases hb : b = g
    · subst hb
      obtain ⟨cs', h1, h2⟩ := setCells_obj b r (o + 1) (w.setCell ⟨b, o, none⟩ x) b _ t (heap_setCell_same w b o cs t x h)
      exact ⟨cs', h1, by rw [h2]; simp⟩
    · exact setCells_obj g r (o + 1) (w.setCell ⟨g, o, none⟩ x) b cs t ((Below.heap_setCell w ⟨g, o, none⟩ x b hb).trans h)

/-- v is a slice of elements of the type e, of k cells each, all of which are there and may be written, in a block from base on -/
def Room (w : World) (base : Nat) (e : TypeId) (k : Nat) (v : Value) : Prop :=
  ∃ ad n c, v = .slice ad n c ∧ (0 < n → ∃ b o cs, ad = some ⟨b, o, none⟩ ∧ base ≤ b ∧ w.heap[b]? = some (.cells cs e (0, 0)) ∧ o + n * k ≤ cs.size)
theorem Room.nil (w : World) (base : Nat) (e : TypeId) (k : Nat) : Room w base e k (.slice none 0 0) := ⟨none, 0, 0, rfl, fun h => absurd h (by omega)⟩
theorem Room.of {w : World} {base k m : Nat} {e : TypeId} {v : Value} {xs : List Value} (h : w.ownsRow base e k v m xs) : Room w base e k v := by
  rcases h.2 with ⟨rfl, h0⟩ | ⟨g, cap, cur, rfl, h2, h3, h4, h5, h6, -⟩
  · exact Room.nil w base e k
  · exact ⟨_, m, cap, rfl, fun _ => ⟨g, 0, cur, rfl, h2, h3, by rw [h6, Nat.zero_add]; exact Nat.mul_le_mul_right k h4⟩⟩
theorem Room.below {w w' : World} {base k : Nat} {e : TypeId} {v : Value} (h : Room w base e k v) (hb : Below w.heap.size w w') : Room w' base e k v := by
  obtain ⟨ad, n, c, rfl, h⟩ := h
  refine ⟨ad, n, c, rfl, fun hn => ?_⟩
  obtain ⟨b, o, cs, e1, h1, h2, h3⟩ := h hn
  exact ⟨b, o, cs, e1, h1, (hb.block b (lt_of_heap h2)).trans h2, h3⟩

/-- what 'clear' of a row of the type e leaves: only a block of that type from base on has changed, and rows stay rows -/
structure Cleared (w w' : World) (base : Nat) (e : TypeId) : Prop where
  be : Below base w w'
  box : ∀ (p : Nat) (cs : Array Value) (t : TypeId) (f : Nat × Nat), w.heap[p]? = some (.cells cs t f) → t ≠ e → w'.heap[p]? = some (.cells cs t f)
  room : ∀ base' e' k' v', Room w base' e' k' v' → Room w' base' e' k' v'
  size : w'.heap.size = w.heap.size
theorem clear_room {w : World} {base k : Nat} {v : Value} (t e ty : TypeId) (z : Value) (ht : Try.prog.underlying t = some (.slice e)) (hz : ∀ w, (zeroValue e).run Try.prog w = .ok z w) (hk : z.cells.size = k) (h1 : ∀ j, j < k → (z.cells[j]!).oneCell' = true) (hk0 : 0 < k)
    (h : Room w base e k v) :
    ∃ w', (Builtin.clear_ #[t] ty #[v]).run Try.prog w = .ok (.tuple #[]) w' ∧ Cleared w w' base e := by
  obtain ⟨ad, n, c, rfl, h⟩ := h
  by_cases h0 : n = 0
  · subst h0
    refine ⟨w, ?_, Below.refl _ _, fun _ _ _ _ h _ => h, fun _ _ _ _ h => h, rfl⟩
    cases ad <;> simp [Builtin.clear_, run_underlying ht]
  · obtain ⟨b, o, cs, rfl, hb, hc, hs⟩ := h (by omega)
    have hl : (Builtin.zeroCells z.cells n).toList.length = n * k := by rw [Array.length_toList, size_zeroCells, hk]
    have hx := setCells_else b (Builtin.zeroCells z.cells n).toList o w (b + 1) (by omega)
    refine ⟨_, run_clear_rows w t e ty z k ht hz hk h1 hk0 b o n c (by omega) (fun j hj => ?_) (fun j _ => frozen_of_row w b _ _ _ hc), ?_, ?_, ?_, hx.2.1⟩
    · simp only [World.cell?, hc]; rw [Array.getElem?_eq_getElem (by omega)]; rfl
    · exact ⟨hx.2.2.1, hx.2.2.2.1, hx.2.2.2.2, Nat.le_of_eq hx.2.1.symm, fun j hj => (setCells_else b _ o w j (by omega)).1⟩
    · intro p cs' t' f' hp hne
      rw [(setCells_else b _ o w p (by rintro rfl; rw [hc] at hp; simp only [Option.some.injEq, Obj.cells.injEq] at hp; exact hne hp.2.1.symm)).1]
      exact hp
    · rintro base' e' k' v' ⟨ad', n', c', rfl, h'⟩
      refine ⟨ad', n', c', rfl, fun hn' => ?_⟩
      obtain ⟨b', o', cs', e1, hb', hc', hs'⟩ := h' hn'
      obtain ⟨cs2, hc2, hs2⟩ := setCells_obj b (Builtin.zeroCells z.cells n).toList o w b' cs' e' hc'
      exact ⟨b', o', cs2, e1, hb', hc2, by rw [hs2]; exact hs'⟩
theorem clear_C {w : World} {base : Nat} {v : Value} (ty : TypeId) (h : Room w base 24 4 v) :
    ∃ w', (Builtin.clear_ #[25] ty #[v]).run Try.prog w = .ok (.tuple #[]) w' ∧ Cleared w w' base 24 := by
  obtain ⟨i0, hi, hz0, hz1, hz2⟩ := info_parts infoC
  exact clear_room (k := 4) 25 24 ty (.agg #[.string .empty, .string .empty, .int .i64 0, .int .i64 0]) Try.underlying25 (fun W => by simp [zeroValue, typeInfo, hi, hz0]) rfl (fun j hj => by match j, hj with | 0, _ => rfl | 1, _ => rfl | 2, _ => rfl | 3, _ => rfl) (by omega) h
theorem clear_N {w : World} {base : Nat} {v : Value} (ty : TypeId) (h : Room w base 3 1 v) :
    ∃ w', (Builtin.clear_ #[26] ty #[v]).run Try.prog w = .ok (.tuple #[]) w' ∧ Cleared w w' base 3 := by
  obtain ⟨i0, hi, hz0, hz1, hz2⟩ := info_parts infoN
  exact clear_room (k := 1) 26 3 ty (.int .i64 0) Try.underlying26 (fun W => by simp [zeroValue, typeInfo, hi, hz0]) rfl (fun j hj => by match j, hj with | 0, _ => rfl) (by omega) h

end Go.Proofs.Ytplfcpbjlhobeaa
