/-
  WORDS AND CLOSED FACTS FOR THE WALKS OF LAYER 1 (wire).
-/
import Derived.Test.YtoablejghckaeaaProg
import Derived.Test.YtoablejghckaeaaMath
import Derived.WalkKit
import Derived.WalkSpells
import Derived.WalkLawsBesides
import Derived.Lib.AppendStr
import Derived.BigQuiet
import Derived.Deep.QuietTactic
namespace Go.Proofs.Ytoablejghckaeaa
open Go.RowKit

/-- bytes as cells -/
def bV (l : List UInt8) : List Value := l.map fun b => Value.int .u8 b.toNat

theorem info5 : (Try.prog.info? 5).map (fun i => (i.zero, i.size, i.bytes)) = some (some (.int .u8 0), 1, 1) := by kernel_rfl
theorem info9 : (Try.prog.info? 9).map (fun i => (i.zero, i.size, i.bytes)) = some (some (.string .empty), 1, 16) := by kernel_rfl

theorem bV_length (l : List UInt8) : (bV l).length = l.length := by simp [bV]
theorem bV_append (a b : List UInt8) : bV (a ++ b) = bV a ++ bV b := by simp [bV]

/-- w's row v, among the blocks from base on, holds just the bytes l -/
def Own (w : World) (base : Nat) (v : Value) (l : List UInt8) : Prop := w.ownsRow base 5 1 v l.length (bV l)

theorem Own.alloc {w : World} {base : Nat} {v : Value} {l : List UInt8} (h : Own w base v l) (o : Obj) : Own (w.alloc o) base v l := World.ownsRow.alloc h o

theorem Own.nil (w : World) (base : Nat) : Own w base (.slice none 0 0) [] := World.ownsRow_nil w base 5 1

/-- one byte more: 'append(out, b)' on a row of the call's own -/
theorem wpList_append_byte {ops : Array Oper} {rest : List Oper} {o : Oper} {a : Act} {Q : Exit → Act → World → Prop} (w0 : World) (hgd : o.guard = none) (s x : Operand)
    (ho : o.op = .call { callee := .builtin .append, args := #[s, x], argTypes := #[24, 24] }) (base : Nat) (v : Value) (l : List UInt8) (c : Int) (b : UInt8) (hc : c = (b.toNat : Int))
    (hs : a.eval s = v) (hown : Own w0 base v l) (hx : a.eval x = .slice (some ⟨w0.heap.size, 0, none⟩) 1 1) (hlen : Hid (l.length ≤ 1099511627800)) (hbase : base ≤ w0.heap.size)
    (h : ∀ v' w', Own w' base v' (l ++ [b]) → Below base w0 w' → wpList Try.prog ops Q rest (a.put o.dst v') w') :
    wpList Try.prog ops Q (o :: rest) a (w0.alloc (.cells #[.int .u8 c] 5)) := by
  obtain ⟨i0, hi, hz0, hz1, hz2⟩ := info_parts info5
  have hl := hlen.out
  subst hc
  refine wpList_append_own _ hgd s x 24 ho base 5 i0 (.int .u8 0) 1 1 Try.underlying24 hi hz0 hz1 hz2 rfl (by decide) v l.length (bV l) hs (hown.alloc _) ⟨w0.heap.size, 0, none⟩ 1 1 [.int .u8 (b.toNat : Int)] hx rfl
    (cell_one_new _ _ _) ?_ ?_ ?_ ?_ ?_
  · intro u hu; simp at hu; subst hu; rfl
  · unfold maxLen; omega
  · omega
  · simp; omega
  · intro v' w' h1 h2 _
    refine h v' w' ?_ ?_
    · unfold Own; rw [bV_append, List.length_append]; exact h1
    · refine ((Below.refl base w0).alloc hbase _).grown h2 (by simp; omega) fun k hk => ?_
      exact (World.ownsRow.lt hown k hk).1

theorem digit_more (m : Nat) (hm : m < 18446744073709551616) : bits .or .u64 (bits .and .u64 (m : Int) 127) 128 % 256 = ((m % 128 + 128 : Nat) : Int) := by
  have h1 : bits .and .u64 (m : Int) 127 = ((m % 128 : Nat) : Int) := by
    have := u64_and_nat m 127 hm (by decide)
    rw [nat_mask7] at this
    exact this
  have h2 : bits .or .u64 ((m % 128 : Nat) : Int) 128 = ((m % 128 + 128 : Nat) : Int) := by
    have := u64_or_nat (m % 128) 128 (by omega) (by decide)
    rw [Nat.or_comm, nat_join 7 128 (m % 128) (by decide) (by omega)] at this
    rw [Nat.add_comm]
    exact this
  rw [h1, h2]
  omega

/-- v is a slice whose elements, in w, are the texts l; they lie below block B -/
def Strs (w : World) (B : Nat) (v : Value) (l : List ByteArray) : Prop :=
  ∃ ad c, v = .slice ad l.length c ∧ l.length ≤ c ∧ (ad = none → c = 0) ∧ (l ≠ [] → ∃ b o, ad = some ⟨b, o, none⟩ ∧ b < B ∧ ∀ j, j < l.length → w.cell? ⟨b, o + j, none⟩ = some (.string (l.getD j .empty)))

/-- v is a slice whose elements, in w, are the bytes l; they lie below block B -/
def Byts (w : World) (B : Nat) (v : Value) (l : List UInt8) : Prop :=
  ∃ ad c, v = .slice ad l.length c ∧ l.length ≤ c ∧ (ad = none → c = 0) ∧ (l ≠ [] → ∃ b o, ad = some ⟨b, o, none⟩ ∧ b < B ∧ ∀ j, j < l.length → w.cell? ⟨b, o + j, none⟩ = some (.int .u8 ((l.getD j 0).toNat : Int)))

theorem Strs.below {w w' : World} {B B' : Nat} {v : Value} {l : List ByteArray} (h : Strs w B v l) (hb : Below B' w w') (hB : B ≤ B') : Strs w' B v l := by
  obtain ⟨ad, c, hv, hle, hn, h⟩ := h
  refine ⟨ad, c, hv, hle, hn, fun hne => ?_⟩
  obtain ⟨b, o, ha, hlt, hc⟩ := h hne
  exact ⟨b, o, ha, hlt, fun j hj => (hb.cell (p := ⟨b, o + j, none⟩) (Nat.lt_of_lt_of_le hlt hB)).trans (hc j hj)⟩
theorem Byts.below {w w' : World} {B B' : Nat} {v : Value} {l : List UInt8} (h : Byts w B v l) (hb : Below B' w w') (hB : B ≤ B') : Byts w' B v l := by
  obtain ⟨ad, c, hv, hle, hn, h⟩ := h
  refine ⟨ad, c, hv, hle, hn, fun hne => ?_⟩
  obtain ⟨b, o, ha, hlt, hc⟩ := h hne
  exact ⟨b, o, ha, hlt, fun j hj => (hb.cell (p := ⟨b, o + j, none⟩) (Nat.lt_of_lt_of_le hlt hB)).trans (hc j hj)⟩
theorem Strs.mono {w : World} {B B' : Nat} {v : Value} {l : List ByteArray} (h : Strs w B v l) (hB : B ≤ B') : Strs w B' v l := by
  obtain ⟨ad, c, hv, hle, hn, h⟩ := h
  refine ⟨ad, c, hv, hle, hn, fun hne => ?_⟩
  obtain ⟨b, o, ha, hlt, hc⟩ := h hne
  exact ⟨b, o, ha, Nat.lt_of_lt_of_le hlt hB, hc⟩
theorem Byts.mono {w : World} {B B' : Nat} {v : Value} {l : List UInt8} (h : Byts w B v l) (hB : B ≤ B') : Byts w B' v l := by
  obtain ⟨ad, c, hv, hle, hn, h⟩ := h
  refine ⟨ad, c, hv, hle, hn, fun hne => ?_⟩
  obtain ⟨b, o, ha, hlt, hc⟩ := h hne
  exact ⟨b, o, ha, Nat.lt_of_lt_of_le hlt hB, hc⟩

/-- a row of the call's own, read -/
theorem Own.byts {w : World} {base : Nat} {v : Value} {l : List UInt8} (h : Own w base v l) : Byts w w.heap.size v l := by
  have hlt := World.ownsRow.lt h
  have hcs := fun g hg => World.ownsRow.cells (g := g) h hg
  rcases h.2 with ⟨rfl, h0⟩ | ⟨g, cap, cur, rfl, _, _, hle, _⟩
  · refine ⟨none, 0, by rw [h0], by omega, fun _ => rfl, fun hne => ?_⟩
    exact absurd (List.eq_nil_of_length_eq_zero h0) hne
  · refine ⟨_, _, rfl, hle, (fun h => by cases h), fun _ => ⟨g, 0, rfl, (hlt g rfl).2, fun j hj => ?_⟩⟩
    have := hcs g rfl j (.int .u8 ((l.getD j 0).toNat : Int)) (by simp [bV, List.getD, List.getElem?_eq_getElem hj])
    have e : (⟨g, 0, none⟩ : Addr).add j = ⟨g, 0 + j, none⟩ := by unfold Addr.add; split <;> simp_all
    rwa [e] at this

/-- the texts as lists of bytes -/
def toL (l : List ByteArray) : List (List UInt8) := l.map fun s => s.data.toList

theorem toL_length (l : List ByteArray) : (toL l).length = l.length := by simp [toL]
theorem toL_take_succ (l : List ByteArray) (k : Nat) (h : k < l.length) : toL (l.take (k + 1)) = toL (l.take k) ++ [(l.getD k .empty).data.toList] := by
  unfold toL
  rw [List.take_succ_eq_append_getElem h, List.map_append]
  simp only [List.map_cons, List.map_nil, List.getD, List.getElem?_eq_getElem h, Option.getD_some]
theorem putTs_take_le (l : List ByteArray) (k : Nat) : (Wm.putTs (toL (l.take k))).length ≤ (Wm.putTs (toL l)).length := by
  conv => rhs; rw [← List.take_append_drop k l]
  unfold toL
  rw [List.map_append]
  generalize (l.take k).map (fun s => s.data.toList) = a
  generalize (l.drop k).map (fun s => s.data.toList) = b
  induction a with
  | nil => simp [Wm.putTs]
  | cons x r ih => simp only [List.cons_append, Wm.putTs, List.length_append]; omega
theorem size_le_put (l : List ByteArray) (k : Nat) (h : k < l.length) : (l.getD k .empty).size ≤ (Wm.putTs (toL l)).length := by
  have h1 := putTs_take_le l (k + 1)
  rw [toL_take_succ l k h, Wm.putTs_snoc, List.length_append] at h1
  unfold Wm.putT at h1
  rw [List.length_append] at h1
  have : (l.getD k .empty).data.toList.length = (l.getD k .empty).size := by rw [Array.length_toList]; rfl
  omega
theorem length_le_put (l : List ByteArray) : l.length ≤ (Wm.putTs (toL l)).length := by
  induction l with
  | nil => simp
  | cons x r ih =>
    have h1 : toL (x :: r) = x.data.toList :: toL r := rfl
    rw [h1]
    simp only [Wm.putTs, Wm.putT, List.length_append, List.length_cons]
    have := (Wm.putU_length x.data.toList.length).1
    omega

end Go.Proofs.Ytoablejghckaeaa
