/-
  COPIES WITHIN ROWS OF ELEMENTS OF k CELLS EACH; what slices.Insert needs.
-/
import Derived.Test.YtplfcpbjlhobeaaCRows
import Derived.Shelf.Spec.SlicesInsert
import Derived.Lib.AppendZerosOnto
import Derived.Laws.CopyRow
namespace Go.Proofs.Ytplfcpbjlhobeaa
open Go.RowKit

theorem run_copy_rows (w : World) (dT sT ty elem : TypeId) (k g o dLen dCap : Nat) (a : Addr) (sLen sCap : Nat) (cur : Array Value) (t : TypeId) (cs : List Value)
    (hu : Try.prog.underlying dT = some (.slice elem)) (hs : (Try.prog.info? elem).map (·.size) = some k)
    (hg : w.heap[g]? = some (.cells cur t (0, 0))) (hn : cs.length = Nat.min sLen dLen * k)
    (hsrc : ∀ j v, cs[j]? = some v → w.cell? (a.add j) = some v) (hfit : o + cs.length ≤ cur.size) (h1 : ∀ v ∈ cs, v.oneCell' = true) :
    (Builtin.copy_ #[dT, sT] ty #[.slice (some ⟨g, o, none⟩) dLen dCap, .slice (some a) sLen sCap]).run Try.prog w =
      .ok (goInt (Nat.min sLen dLen)) (w.setRow g (cur.toList.take o ++ cs ++ cur.toList.drop (o + cs.length)).toArray) := by
  have hl := run_loadCells_list (P := Try.prog) w a cs hsrc
  have hst := run_storeCells_at Try.prog g o t cs 0 cur w hg (by simpa using hfit) h1
  cases hq : Try.prog.info? elem with
  | none => simp [hq] at hs
  | some i =>
    have hi : i.size = k := by simpa [hq] using hs
    simp [Builtin.copy_, run_underlying hu, Builtin.lenOf, Builtin.firstCells, sizeOf, typeInfo, hq, hi, ← hn, hl, hst]

/-- the row behind both copies, there was room -/
theorem ins_shift (cur xs ys : List Value) (p q r : Nat) (hq : q = p + ys.length) (hr : r = xs.length + ys.length) (hp : p ≤ xs.length) (hx : cur.take xs.length = xs) (hc : r ≤ cur.length) :
    let cur1 := cur.take q ++ xs.drop p ++ cur.drop (q + (xs.drop p).length)
    cur1.length = cur.length ∧ (cur1.take p ++ ys ++ cur1.drop (p + ys.length)).length = cur.length ∧ (cur1.take p ++ ys ++ cur1.drop (p + ys.length)).take r = xs.take p ++ ys ++ xs.drop p := by
  subst hq hr
  intro cur1
  have hxl : xs.length ≤ cur.length := by omega
  have e1 : cur1.length = cur.length := by simp [cur1]; omega
  have ht : cur1.take p = xs.take p := by
    rw [← hx]
    simp only [cur1, List.append_assoc]
    rw [List.take_append_of_le_length (by simp; omega), List.take_take, List.take_take]
    congr 1
    omega
  have hd : cur1.drop (p + ys.length) = xs.drop p ++ cur.drop (p + ys.length + (xs.drop p).length) := by
    simp only [cur1, List.append_assoc]
    rw [List.drop_append_of_le_length (by simp; omega), List.drop_take]
    simp
  refine ⟨e1, by simp [e1]; omega, ?_⟩
  rw [ht, hd, ← List.append_assoc, List.take_append_of_le_length (by simp; omega), List.take_of_length_le (by simp; omega)]

/-- the row behind both copies, a new one -/
theorem ins_grow (row xs ys : List Value) (p q r : Nat) (hq : q = p + ys.length) (hr : r = xs.length + ys.length) (hp : p ≤ xs.length) (hx : row.take p = xs.take p) (hc : r ≤ row.length) :
    let row1 := row.take p ++ ys ++ row.drop (p + ys.length)
    row1.length = row.length ∧ (row1.take q ++ xs.drop p ++ row1.drop (q + (xs.drop p).length)).length = row.length ∧ (row1.take q ++ xs.drop p ++ row1.drop (q + (xs.drop p).length)).take r = xs.take p ++ ys ++ xs.drop p := by
  subst hq hr
  intro row1
  have e1 : row1.length = row.length := by simp [row1]; omega
  have ht : row1.take (p + ys.length) = xs.take p ++ ys := by
    simp only [row1]
    rw [List.take_append_of_le_length (by simp; omega), List.take_of_length_le (by simp; omega), hx]
  refine ⟨e1, by simp [e1]; omega, ?_⟩
  rw [ht, List.take_append_of_le_length (by simp; omega), List.take_of_length_le (by simp; omega)]

theorem setRow_grown (w : World) (g : Nat) (cs : Array Value) : w.grownBy (w.setRow g cs) (some g) := by
  refine ⟨rfl, rfl, rfl, by simp [World.setRow], fun k hk hne => ?_⟩
  have : g ≠ k := fun e => hne (by rw [e])
  simp [World.setRow, Array.getElem?_modify, this]

end Go.Proofs.Ytplfcpbjlhobeaa
