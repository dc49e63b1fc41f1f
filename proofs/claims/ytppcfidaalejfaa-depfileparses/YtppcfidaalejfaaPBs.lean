/-
  TEXTS AND THEIR BYTES; segments by their bytes; a text behind a row of bytes.
-/
import Derived.Test.YtppcfidaalejfaaBytesL
import Derived.Test.YtppcfidaalejfaaPStem
namespace Go.Proofs.Ytppcfidaalejfaa
open Go.RowKit

/-- a text's bytes -/
abbrev bs (s : ByteArray) : List UInt8 := s.data.toList
theorem bs_length (s : ByteArray) : (bs s).length = s.size := by rw [Array.length_toList]; rfl

theorem okB_iff (c : UInt8) : Pm.okB c = decide ((97 ≤ c.toNat ∧ c.toNat ≤ 122) ∨ (48 ≤ c.toNat ∧ c.toNat ≤ 57) ∨ c.toNat = 95 ∨ c.toNat = 46 ∨ c.toNat = 45) := by
  have h : ∀ n : Fin 256, Pm.okB (UInt8.ofNat n.1) = decide ((97 ≤ n.1 ∧ n.1 ≤ 122) ∨ (48 ≤ n.1 ∧ n.1 ≤ 57) ∨ n.1 = 95 ∨ n.1 = 46 ∨ n.1 = 45) := by decide +kernel
  have := h ⟨c.toNat, c.toNat_lt⟩
  simpa using this
theorem seg_no {s : List UInt8} (h : s.length < 1 ∨ 32 < s.length ∨ s = [46] ∨ s = [46, 46]) : Pm.seg s = false := by
  unfold Pm.seg
  rcases h with h | h | rfl | rfl
  · rw [show decide (1 ≤ s.length) = false from decide_eq_false (by omega)]; rfl
  · rw [show decide (s.length ≤ 32) = false from decide_eq_false (by omega)]; simp
  · rfl
  · rfl
theorem seg_all {s : List UInt8} (h1 : ¬ s.length < 1) (h2 : ¬ 32 < s.length) (h3 : s ≠ [46]) (h4 : s ≠ [46, 46]) : Pm.seg s = s.all Pm.okB := by
  unfold Pm.seg
  rw [show decide (1 ≤ s.length) = true from decide_eq_true (by omega), show decide (s.length ≤ 32) = true from decide_eq_true (by omega), show decide (s = [46]) = false from decide_eq_false h3, show decide (s = [46, 46]) = false from decide_eq_false h4]
  rfl
theorem bs_extract (s : ByteArray) (a b : Nat) : bs (s.extract a b) = ((bs s).drop a).take (b - a) := by
  simp [bs, ByteArray.data_extract, Array.toList_extract, List.extract_eq_take_drop]
theorem bs_inj {s t : ByteArray} (h : bs s = bs t) : s = t := ByteArray.ext (Array.toList_inj.1 h)
/-- a text's size -/
def szOf : Value → Nat
  | .string s => s.size
  | _ => 0
theorem bs_bV (s : ByteArray) : Lib.strCells s = bV (bs s) := rfl
/-- 'append(out, x...)' on a row of the call's own, x a text -/
theorem wpList_append_text {ops : Array Oper} {rest : List Oper} {o : Oper} {a : Act} {Q : Exit → Act → World → Prop} {w : World} (hgd : o.guard = none) (s x : Operand)
    (ho : o.op = .call { callee := .builtin .append, args := #[s, x], argTypes := #[54, 9] }) (base : Nat) (v : Value) (l : List UInt8) (t : ByteArray)
    (hs : a.eval s = v) (hown : Own w base v l) (hx : a.eval x = .string t) (hlen : Hid (l.length + t.size ≤ 1099511627800)) (hbase : base ≤ w.heap.size)
    (h : ∀ v' w', Own w' base v' (l ++ bs t) → Below base w w' → wpList Try.prog ops Q rest (a.put o.dst v') w') :
    wpList Try.prog ops Q (o :: rest) a w := by
  obtain ⟨i0, hi, hz0, hz1, hz2⟩ := info_parts info5
  have hl := hlen.out
  refine Lib.wpList_append_own_string _ hgd s x 54 9 ho base 5 i0 Try.underlying54 Try.underlying9 hi hz0 hz1 hz2 v _ _ hs hown t hx ?_ ?_ hbase ?_
  · unfold maxLen; omega
  · omega
  · intro v' w' h1 h2 _
    refine h v' w' ?_ ((Below.refl base w).grown h2 hbase fun k hk => (World.ownsRow.lt hown k hk).1)
    unfold Own
    rw [bV_append, List.length_append, bs_length]
    exact h1
theorem beq_lit (x n : UInt8) : ((x.toNat : Int) == (n.toNat : Int)) = decide (x = n) := by
  by_cases h : x = n
  · subst h; simp
  · rw [decide_eq_false h, beq_eq_false_iff_ne]
    intro e
    exact h (UInt8.toNat_inj.1 (by omega))

end Go.Proofs.Ytppcfidaalejfaa
