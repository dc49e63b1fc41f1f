/-
  WHAT THE WALK OF THE DOCUMENT's Glob KEEPS.
-/
import Derived.Test.YtnfdjgpephoomaaRJoinT
import Derived.Test.YtnfdjgpephoomaaPGlob
import Derived.Test.YtnfdjgpephoomaaBoolsL
namespace Go.Proofs.Ytnfdjgpephoomaa
open Go.RowKit

/-- between two parts of a glob: T is what went before i, F which beginnings of s it fits -/
structure GInv (p s : ByteArray) (wr : World) (i g : Nat) (T : List Pm.Tok) (F : List Bool) : Prop where
  le : i ≤ p.size
  tk : Pm.toks (bs p) = T ++ Pm.toks ((bs p).drop i)
  len : F.length = s.size + 1
  fits : ∀ k, k ≤ s.size → (F.getD k false = true ↔ Pm.Fits T ((bs s).take k))
  blk : BBlk wr g F
/-- within a part: X is right below k -/
structure NInv (s : ByteArray) (wr : World) (g : Nat) (T : List Pm.Tok) (k : Nat) (X : List Bool) : Prop where
  len : X.length = s.size + 1
  fits : ∀ j, j < k → (X.getD j false = true ↔ Pm.Fits T ((bs s).take j))
  blk : BBlk wr g X
theorem getD_set_self {X : List Bool} {k : Nat} {b : Bool} (hk : k < X.length) : (X.set k b).getD k false = b := by
  simp [List.getD, hk]
theorem getD_set_ne {X : List Bool} {k j : Nat} {b : Bool} (h : k ≠ j) : (X.set k b).getD j false = X.getD j false := by
  simp [List.getD, List.getElem?_set_ne h]
theorem NInv.step {s : ByteArray} {wr : World} {g : Nat} {T : List Pm.Tok} {k : Nat} {X : List Bool} (h : NInv s wr g T k X) (hk : k ≤ s.size) (b : Bool) (hb : b = true ↔ Pm.Fits T ((bs s).take k)) : NInv s (wr.setCell ⟨g, k, none⟩ (.bool b)) g T (k + 1) (X.set k b) := by
  refine ⟨by rw [List.length_set]; exact h.len, fun j hj => ?_, h.blk.set k b⟩
  by_cases e : k = j
  · subst e
    rw [getD_set_self (by rw [h.len]; omega)]
    exact hb
  · rw [getD_set_ne e]
    exact h.fits j (by omega)
theorem NInv.made (s : ByteArray) (W : World) (T : List Pm.Tok) : NInv s (W.alloc (.cells (oV (List.replicate (s.size + 1) false)).toArray 4)) W.heap.size T 0 (List.replicate (s.size + 1) false) :=
  ⟨by simp, fun j hj => absurd hj (by omega), BBlk.made _ _⟩
theorem NInv.made1 (s : ByteArray) (W : World) (T : List Pm.Tok) (h : ¬ Pm.Fits T ((bs s).take 0)) : NInv s (W.alloc (.cells (oV (List.replicate (s.size + 1) false)).toArray 4)) W.heap.size T 1 (List.replicate (s.size + 1) false) := by
  refine ⟨by simp, fun j hj => ?_, BBlk.made _ _⟩
  obtain rfl : j = 0 := by omega
  simp only [List.getD, List.getElem?_replicate, Nat.zero_lt_succ, if_true, Option.getD_some, Bool.false_eq_true, false_iff]
  exact h
/-- a part's end -/
theorem NInv.done {p s : ByteArray} {wr : World} {g i : Nat} {T : List Pm.Tok} {X : List Bool} (h : NInv s wr g T (s.size + 1) X) (hi : i ≤ p.size) (ht : Pm.toks (bs p) = T ++ Pm.toks ((bs p).drop i)) : GInv p s wr i g T X :=
  ⟨hi, ht, h.len, fun k hk => h.fits k (by omega), h.blk⟩
theorem drop_at (p : ByteArray) (i : Nat) (hi : i < p.size) : (bs p).drop i = p[i] :: (bs p).drop (i + 1) := by
  rw [List.drop_eq_getElem_cons (by rw [bs_length]; exact hi)]
  rfl
theorem GInv.star2 {p s : ByteArray} {wr : World} {i g : Nat} {T : List Pm.Tok} {F : List Bool} (h : GInv p s wr i g T F) (hi : i + 1 < p.size) (h1 : p[i] = 42) (h2 : p[i + 1] = 42) : Pm.toks (bs p) = (T ++ [.any2]) ++ Pm.toks ((bs p).drop (i + 1 + 1)) := by
  rw [h.tk, drop_at p i (by omega), drop_at p (i + 1) hi, h1, h2, Pm.toks_star2]
  simp
theorem GInv.star {p s : ByteArray} {wr : World} {i g : Nat} {T : List Pm.Tok} {F : List Bool} (h : GInv p s wr i g T F) (hi : i < p.size) (h1 : p[i] = 42) (h2 : ∀ h : i + 1 < p.size, p[i + 1] ≠ 42) : Pm.toks (bs p) = (T ++ [.any1]) ++ Pm.toks ((bs p).drop (i + 1)) := by
  rw [h.tk, drop_at p i hi, h1, Pm.toks_star _ ?_]
  · simp
  · intro r hr
    have hlt : i + 1 < p.size := by
      have := congrArg List.length hr
      rw [List.length_drop, bs_length, List.length_cons] at this
      omega
    rw [drop_at p (i + 1) hlt, List.cons.injEq] at hr
    exact h2 hlt hr.1
/-- what a byte of a glob, no star, stands for -/
def tokOf (c : UInt8) : Pm.Tok := if c = 63 then .one else .lit c
theorem tokOf_byte (c : UInt8) : tokOf c ≠ .any1 ∧ tokOf c ≠ .any2 := by
  unfold tokOf
  split <;> exact ⟨by simp, by simp⟩
theorem GInv.byte {p s : ByteArray} {wr : World} {i g : Nat} {T : List Pm.Tok} {F : List Bool} (h : GInv p s wr i g T F) (hi : i < p.size) (h1 : p[i] ≠ 42) : Pm.toks (bs p) = (T ++ [tokOf p[i]]) ++ Pm.toks ((bs p).drop (i + 1)) := by
  rw [h.tk, drop_at p i hi]
  unfold tokOf
  split
  · rename_i h2
    rw [h2, Pm.toks_one]
    simp
  · rename_i h2
    rw [Pm.toks_lit _ _ h1 h2]
    simp
theorem NInv.any2 {p s : ByteArray} {wr w' : World} {i g g' j : Nat} {T : List Pm.Tok} {F X : List Bool} (h : GInv p s wr i g T F) (hX : NInv s w' g' (T ++ [.any2]) j X) (hj : j ≤ s.size) : (F.getD j false || (decide (0 < j) && X.getD (j - 1) false)) = true ↔ Pm.Fits (T ++ [.any2]) ((bs s).take j) := by
  cases j with
  | zero =>
    rw [Pm.fits_star0 T .any2 (.inr rfl), ← h.fits 0 hj]
    simp
  | succ j =>
    rw [Pm.fits_any2 T (bs s) j (by rw [bs_length]; omega), ← h.fits (j + 1) hj, ← hX.fits j (by omega)]
    simp
theorem NInv.any1 {p s : ByteArray} {wr w' : World} {i g g' j : Nat} {T : List Pm.Tok} {F X : List Bool} (h : GInv p s wr i g T F) (hX : NInv s w' g' (T ++ [.any1]) j X) (hj : j ≤ s.size) : (F.getD j false || (decide (0 < j) && X.getD (j - 1) false && decide ((bs s)[j - 1]? ≠ some 47))) = true ↔ Pm.Fits (T ++ [.any1]) ((bs s).take j) := by
  cases j with
  | zero =>
    rw [Pm.fits_star0 T .any1 (.inl rfl), ← h.fits 0 hj]
    simp
  | succ j =>
    have hl : j < (bs s).length := by rw [bs_length]; omega
    rw [Pm.fits_any1 T (bs s) j hl, ← h.fits (j + 1) hj, ← hX.fits j (by omega)]
    simp [List.getElem?_eq_getElem hl]
theorem isB_tokOf (c x : UInt8) : Pm.isB (tokOf c) x ↔ (c = 63 ∧ x ≠ 47 ∨ c ≠ 63 ∧ c = x) := by
  unfold tokOf
  split
  · rename_i h; simp [Pm.isB, h]
  · rename_i h; simp [Pm.isB, h, eq_comm]
theorem NInv.one {p s : ByteArray} {wr : World} {i g j : Nat} {T : List Pm.Tok} {F : List Bool} (h : GInv p s wr i g T F) (c : UInt8) (hj : j < s.size) : (F.getD j false && (decide (c = 63) && decide (s[j] ≠ 47) || !decide (c = 63) && decide (c = s[j]))) = true ↔ Pm.Fits (T ++ [tokOf c]) ((bs s).take (j + 1)) := by
  have hl : j < (bs s).length := by rw [bs_length]; exact hj
  have e : (bs s)[j] = s[j] := rfl
  rw [Pm.fits_byte T (tokOf c) (tokOf_byte c) (bs s) j hl, ← h.fits j (by omega), e, isB_tokOf]
  simp

end Go.Proofs.Ytnfdjgpephoomaa
