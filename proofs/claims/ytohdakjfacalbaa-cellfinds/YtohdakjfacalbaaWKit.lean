/-
  WORDS AND CLOSED FACTS FOR THE WALKS OF LAYER 1 (wire).
-/
import Derived.Test.YtohdakjfacalbaaBytes
import Derived.Test.YtohdakjfacalbaaWMath
namespace Go.Proofs.Ytohdakjfacalbaa
open Go.RowKit

theorem info9 : (Try.prog.info? 9).map (fun i => (i.zero, i.size, i.bytes)) = some (some (.string .empty), 1, 16) := by kernel_rfl

theorem digit_more (m : Nat) (hm : m < 18446744073709551616) : bits .or .u64 (bits .and .u64 (m : Int) 127) 128 % 256 = ((m % 128 + 128 : Nat) : Int) := by
  have h1 : bits .and .u64 (m : Int) 127 = ((m % 128 : Nat) : Int) := by
    have := u64_and_nat m 127 hm (by decide)
    rw [nat_mask7] at this
    exact this
  have h2 : bits .or .u64 ((m % 128 : Nat) : Int) 128 = ((m % 128 + 128 : Nat) : Int) := by
    have := u64_or_nat (m % 128) 128 (by omega) (by decide)
    rw [Nat.or_comm, nat_join 7 128 (m % 128) (by decide) (by omega)] at this
    rw [Nat.add_comm]
    exact this
  rw [h1, h2]
  omega

/-- v is a slice whose elements, in w, are the texts l; they lie below block B -/
def Strs (w : World) (B : Nat) (v : Value) (l : List ByteArray) : Prop :=
  ∃ ad c, v = .slice ad l.length c ∧ l.length ≤ c ∧ (ad = none → c = 0) ∧ (l ≠ [] → ∃ b o, ad = some ⟨b, o, none⟩ ∧ b < B ∧ ∀ j, j < l.length → w.cell? ⟨b, o + j, none⟩ = some (.string (l.getD j .empty)))

theorem Strs.below {w w' : World} {B B' : Nat} {v : Value} {l : List ByteArray} (h : Strs w B v l) (hb : Below B' w w') (hB : B ≤ B') : Strs w' B v l := by
  obtain ⟨ad, c, hv, hle, hn, h⟩ := h
  refine ⟨ad, c, hv, hle, hn, fun hne => ?_⟩
  obtain ⟨b, o, ha, hlt, hc⟩ := h hne
  exact ⟨b, o, ha, hlt, fun j hj => (hb.cell (p := ⟨b, o + j, none⟩) (Nat.lt_of_lt_of_le hlt hB)).trans (hc j hj)⟩
theorem Strs.mono {w : World} {B B' : Nat} {v : Value} {l : List ByteArray} (h : Strs w B v l) (hB : B ≤ B') : Strs w B' v l := by
  obtain ⟨ad, c, hv, hle, hn, h⟩ := h
  refine ⟨ad, c, hv, hle, hn, fun hne => ?_⟩
  obtain ⟨b, o, ha, hlt, hc⟩ := h hne
  exact ⟨b, o, ha, Nat.lt_of_lt_of_le hlt hB, hc⟩
/-- the texts as lists of bytes -/
def toL (l : List ByteArray) : List (List UInt8) := l.map fun s => s.data.toList

theorem toL_length (l : List ByteArray) : (toL l).length = l.length := by simp [toL]
theorem toL_take_succ (l : List ByteArray) (k : Nat) (h : k < l.length) : toL (l.take (k + 1)) = toL (l.take k) ++ [(l.getD k .empty).data.toList] := by
  unfold toL
  rw [List.take_succ_eq_append_getElem h, List.map_append]
  simp only [List.map_cons, List.map_nil, List.getD, List.getElem?_eq_getElem h, Option.getD_some]
theorem putTs_take_le (l : List ByteArray) (k : Nat) : (Wm.putTs (toL (l.take k))).length ≤ (Wm.putTs (toL l)).length := by
  conv => rhs; rw [← List.take_append_drop k l]
  unfold toL
  rw [List.map_append]
  generalize (l.take k).map (fun s => s.data.toList) = a
  generalize (l.drop k).map (fun s => s.data.toList) = b
  induction a with
  | nil => simp [Wm.putTs]
  | cons x r ih => simp only [List.cons_append, Wm.putTs, List.length_append]; omega
theorem size_le_put (l : List ByteArray) (k : Nat) (h : k < l.length) : (l.getD k .empty).size ≤ (Wm.putTs (toL l)).length := by
  have h1 := putTs_take_le l (k + 1)
  rw [toL_take_succ l k h, Wm.putTs_snoc, List.length_append] at h1
  unfold Wm.putT at h1
  rw [List.length_append] at h1
  have : (l.getD k .empty).data.toList.length = (l.getD k .empty).size := by rw [Array.length_toList]; rfl
  omega
theorem length_le_put (l : List ByteArray) : l.length ≤ (Wm.putTs (toL l)).length := by
  induction l with
  | nil => simp
  | cons x r ih =>
    have h1 : toL (x :: r) = x.data.toList :: toL r := rfl
    rw [h1]
    simp only [Wm.putTs, Wm.putT, List.length_append, List.length_cons]
    have := (Wm.putU_length x.data.toList.length).1
    omega

end Go.Proofs.Ytohdakjfacalbaa
