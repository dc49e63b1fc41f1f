/-
  ROWS OF TEXTS, sorted; each once: what slices.Sort and slices.Compact do to a row of the call's own.
-/
import Derived.Test.YtifolddmcibkdaaStR
import Derived.Test.YtifolddmcibkdaaTSort
import Derived.Test.YtifolddmcibkdaaLaid
import Derived.Sort.OwnSorted
import Derived.Lib.RowBridge
namespace Go.Proofs.Ytifolddmcibkdaa
open Go.RowKit Go.Sort

theorem vals_enc (L : List ByteArray) : StR.vals L = (L.map bs).map encStr := by
  induction L with
  | nil => rfl
  | cons x r ih =>
    show Value.string x :: StR.vals r = _
    rw [ih]
    simp only [List.map_cons, encStr, bs, Array.toArray_toList]
theorem vals_ba (l : List (List UInt8)) : StR.vals (l.map Ks.ba) = l.map encStr := by
  rw [vals_enc, List.map_map, List.map_map]
  exact List.map_congr_left fun x _ => congrArg encStr (Ks.bs_ba x)
theorem sortT_nil : Ks.sortT [] = [] := by simp [Ks.sortT]
theorem compT_nil : Ks.compT [] = [] := by simp [Ks.compT, Lib.compact, Lib.compactUpTo]
/-- a row's head -/
theorem row_head {w : World} {base g cap n m : Nat} {e : TypeId} {xs : List Value} (h : w.ownsRow base e 1 (.slice (some ⟨g, 0, none⟩) n cap) n xs) (hm : m ≤ n) : w.ownsRow base e 1 (.slice (some ⟨g, 0, none⟩) m cap) m (xs.take m) := by
  obtain ⟨h1, h⟩ := h
  rw [Nat.mul_one] at h1
  rcases h with ⟨h, -⟩ | ⟨g', cap', cur, e1, h2, h3, h4, h5, h6, h7⟩
  · cases h
  · simp only [Value.slice.injEq, Option.some.injEq, Addr.mk.injEq] at e1
    obtain ⟨⟨rfl, -, -⟩, -, rfl⟩ := e1
    refine ⟨by simp; omega, .inr ⟨g, cap, cur, rfl, h2, h3, by omega, h5, h6, ?_⟩⟩
    rw [Nat.mul_one] at h7 ⊢
    rw [← h7, List.take_take, Nat.min_eq_left hm]

theorem Sort_any {w : World} {base : Nat} {v : Value} {L : List ByteArray} (h : StR.Own w base v L) (hl : L.length ≤ 1099511627) :
    Calls Try.prog 40 #[v] w fun e w' => e = .returned (.tuple #[]) ∧ StR.Own w' base v (Ks.sortT L) ∧ w.grownBy w' v.ownBlock := by
  rcases h.2 with ⟨rfl, h0⟩ | ⟨g, cap, cur, rfl, hbase, hb, h1, h2, h3, h4⟩
  · have hL : L = [] := List.eq_nil_of_length_eq_zero h0
    subst hL
    refine (AnyM.slices_Sort_string_none Try.sortA none 0 w).mono ?_
    rintro e w' ⟨rfl, rfl⟩
    exact ⟨rfl, by rw [sortT_nil]; exact h, ⟨rfl, rfl, rfl, Nat.le_refl _, fun _ _ _ => rfl⟩⟩
  · have hh : Holds encStr w g 0 (L.map bs).toArray := holds_of_block hb (by
      rw [List.length_map, ← vals_enc]
      have := h4
      rwa [show StR.k = 1 from rfl, Nat.mul_one] at this)
    have hc := AnyM.slices_Sort_string Try.sortA g 0 cap (L.map bs) w hh (Array.getElem?_eq_some_iff.1 hb).1 (by rw [List.length_map]; omega)
    rw [List.length_map] at hc
    refine hc.mono ?_
    rintro e w' ⟨rfl, n, os, rfl⟩
    refine ⟨rfl, ?_, grownBy_sorted _⟩
    have hs := ownsRow_sorted (base := base) (n := n) (os := os) (ss := L.map bs) (ts := (L.map bs).mergeSort fun x y => decide (x ≤ y)) (by simp) hbase hb (by rw [List.length_map]; exact h1) h2 h3
    rw [List.length_map] at hs
    unfold Rc.Own
    rw [Ks.sortT_length]
    unfold Ks.sortT
    rw [vals_ba]
    exact hs

theorem Compact_any {w : World} {base : Nat} {v : Value} {L : List ByteArray} (h : StR.Own w base v L) (hl : L.length ≤ 1099511627) :
    Calls Try.prog 44 #[v] w fun e w' => ∃ v', e = .returned v' ∧ StR.Own w' base v' (Ks.compT L) ∧ v'.ownBlock = v.ownBlock ∧ w.grownBy w' v.ownBlock := by
  rcases h.2 with ⟨rfl, h0⟩ | ⟨g, cap, cur, rfl, hbase, hb, h1, h2, h3, h4⟩
  · have hL : L = [] := List.eq_nil_of_length_eq_zero h0
    subst hL
    refine (AnyG.slices_Compact_string_empty Try.compA none 0 w).mono ?_
    rintro e w' ⟨rfl, rfl⟩
    exact ⟨_, rfl, by rw [compT_nil]; exact h, rfl, ⟨rfl, rfl, rfl, Nat.le_refl _, fun _ _ _ => rfl⟩⟩
  · have hh : Holds encStr w g 0 (L.map bs).toArray := holds_of_block hb (by
      rw [List.length_map, ← vals_enc]
      have := h4
      rwa [show StR.k = 1 from rfl, Nat.mul_one] at this)
    have hc := AnyG.slices_Compact_string Try.compA g 0 cap (L.map bs) w hh (by rw [List.length_map]; omega) (by rw [List.length_map]; exact h1)
    rw [List.length_map] at hc
    refine hc.mono ?_
    rintro e w' ⟨rfl, q, rfl⟩
    have hle := Lib.compact_length_le (L.map bs)
    rw [List.length_map] at hle
    refine ⟨_, rfl, ?_, rfl, ?_⟩
    · have hs := ownsRow_sorted (base := base) (n := q) (os := #[]) (ss := L.map bs) (ts := Lib.compact (L.map bs) ++ List.replicate (L.length - (Lib.compact (L.map bs)).length) []) (by simp; omega) hbase hb (by rw [List.length_map]; exact h1) h2 h3
      rw [List.length_map, grow_empty] at hs
      have hd := row_head hs hle
      rw [← List.map_take, List.take_left] at hd
      unfold Rc.Own Ks.compT
      rw [vals_ba, List.length_map]
      exact hd
    · have := grownBy_sorted (w := w) (g := g) (n := q) (os := #[]) (Lib.compact (L.map bs) ++ List.replicate (L.length - (Lib.compact (L.map bs)).length) []).toArray
      rwa [grow_empty] at this

end Go.Proofs.Ytifolddmcibkdaa
