/-
  NODES IN MEMORY: a slice of items, a slice of numbers, a node's value.
-/
import Derived.Test.YtplfcpbjlhobeaaBytes
import Derived.Test.YtplfcpbjlhobeaaCMath
namespace Go.Proofs.Ytplfcpbjlhobeaa
open Go.RowKit

/-- v is a slice whose elements, in w, are the items l; they lie below block B -/
def Its (w : World) (B : Nat) (v : Value) (l : List Cm.It) : Prop :=
  ∃ ad c, v = .slice ad l.length c ∧ l.length ≤ c ∧ (ad = none → c = 0) ∧ (l ≠ [] → ∃ b o, ad = some ⟨b, o, none⟩ ∧ b < B ∧ ∀ j, j < l.length →
    w.cell? ⟨b, o + j * 4, none⟩ = some (.string (l.getD j Cm.zero).key) ∧ w.cell? ⟨b, o + j * 4 + 1, none⟩ = some (.string (l.getD j Cm.zero).val) ∧
    w.cell? ⟨b, o + j * 4 + 2, none⟩ = some (.int .i64 (l.getD j Cm.zero).page) ∧ w.cell? ⟨b, o + j * 4 + 3, none⟩ = some (.int .i64 (l.getD j Cm.zero).len))
/-- v is a slice whose elements, in w, are the numbers l; they lie below block B -/
def Ints (w : World) (B : Nat) (v : Value) (l : List Int) : Prop :=
  ∃ ad c, v = .slice ad l.length c ∧ l.length ≤ c ∧ (ad = none → c = 0) ∧ (l ≠ [] → ∃ b o, ad = some ⟨b, o, none⟩ ∧ b < B ∧ ∀ j, j < l.length → w.cell? ⟨b, o + j, none⟩ = some (.int .i64 (l.getD j 0)))
/-- v is a node's value -/
def NdS (w : World) (B : Nat) (v : Value) (n : Cm.Nd) : Prop := ∃ vi vk, v = .agg #[.bool n.leaf, vi, vk] ∧ Its w B vi n.items ∧ Ints w B vk n.kids

theorem Its.below {w w' : World} {B B' : Nat} {v : Value} {l : List Cm.It} (h : Its w B v l) (hb : Below B' w w') (hB : B ≤ B') : Its w' B v l := by
  obtain ⟨ad, c, hv, hle, hn, h⟩ := h
  refine ⟨ad, c, hv, hle, hn, fun hne => ?_⟩
  obtain ⟨b, o, ha, hlt, hc⟩ := h hne
  have hbk := hb.block b (Nat.lt_of_lt_of_le hlt hB)
  refine ⟨b, o, ha, hlt, fun j hj => ?_⟩
  obtain ⟨c0, c1, c2, c3⟩ := hc j hj
  exact ⟨(World.cell?_of_block (a := ⟨b, o + j * 4, none⟩) hbk).trans c0, (World.cell?_of_block (a := ⟨b, o + j * 4 + 1, none⟩) hbk).trans c1, (World.cell?_of_block (a := ⟨b, o + j * 4 + 2, none⟩) hbk).trans c2, (World.cell?_of_block (a := ⟨b, o + j * 4 + 3, none⟩) hbk).trans c3⟩
theorem Ints.below {w w' : World} {B B' : Nat} {v : Value} {l : List Int} (h : Ints w B v l) (hb : Below B' w w') (hB : B ≤ B') : Ints w' B v l := by
  obtain ⟨ad, c, hv, hle, hn, h⟩ := h
  refine ⟨ad, c, hv, hle, hn, fun hne => ?_⟩
  obtain ⟨b, o, ha, hlt, hc⟩ := h hne
  exact ⟨b, o, ha, hlt, fun j hj => (hb.cell (p := ⟨b, o + j, none⟩) (Nat.lt_of_lt_of_le hlt hB)).trans (hc j hj)⟩
theorem NdS.below {w w' : World} {B B' : Nat} {v : Value} {n : Cm.Nd} (h : NdS w B v n) (hb : Below B' w w') (hB : B ≤ B') : NdS w' B v n := by
  obtain ⟨vi, vk, hv, h1, h2⟩ := h
  exact ⟨vi, vk, hv, h1.below hb hB, h2.below hb hB⟩
theorem Its.mono {w : World} {B B' : Nat} {v : Value} {l : List Cm.It} (h : Its w B v l) (hB : B ≤ B') : Its w B' v l := by
  obtain ⟨ad, c, hv, hle, hn, h⟩ := h
  refine ⟨ad, c, hv, hle, hn, fun hne => ?_⟩
  obtain ⟨b, o, ha, hlt, hc⟩ := h hne
  exact ⟨b, o, ha, Nat.lt_of_lt_of_le hlt hB, hc⟩
theorem Ints.mono {w : World} {B B' : Nat} {v : Value} {l : List Int} (h : Ints w B v l) (hB : B ≤ B') : Ints w B' v l := by
  obtain ⟨ad, c, hv, hle, hn, h⟩ := h
  refine ⟨ad, c, hv, hle, hn, fun hne => ?_⟩
  obtain ⟨b, o, ha, hlt, hc⟩ := h hne
  exact ⟨b, o, ha, Nat.lt_of_lt_of_le hlt hB, hc⟩
theorem NdS.mono {w : World} {B B' : Nat} {v : Value} {n : Cm.Nd} (h : NdS w B v n) (hB : B ≤ B') : NdS w B' v n := by
  obtain ⟨vi, vk, hv, h1, h2⟩ := h
  exact ⟨vi, vk, hv, h1.mono hB, h2.mono hB⟩
theorem Its.alloc {w : World} {B : Nat} {v : Value} {l : List Cm.It} (h : Its w B v l) (hB : B ≤ w.heap.size) (o : Obj) : Its (w.alloc o) B v l := h.below ((Below.refl w.heap.size w).alloc (Nat.le_refl _) o) hB
theorem Ints.alloc {w : World} {B : Nat} {v : Value} {l : List Int} (h : Ints w B v l) (hB : B ≤ w.heap.size) (o : Obj) : Ints (w.alloc o) B v l := h.below ((Below.refl w.heap.size w).alloc (Nat.le_refl _) o) hB
theorem NdS.alloc {w : World} {B : Nat} {v : Value} {n : Cm.Nd} (h : NdS w B v n) (hB : B ≤ w.heap.size) (o : Obj) : NdS (w.alloc o) B v n := h.below ((Below.refl w.heap.size w).alloc (Nat.le_refl _) o) hB
theorem Its.nil (w : World) (B : Nat) : Its w B (.slice none 0 0) [] := ⟨none, 0, rfl, Nat.le_refl _, fun _ => rfl, fun h => absurd rfl h⟩
theorem Ints.nil (w : World) (B : Nat) : Ints w B (.slice none 0 0) [] := ⟨none, 0, rfl, Nat.le_refl _, fun _ => rfl, fun h => absurd rfl h⟩

theorem str_eq (s t : ByteArray) : (s.toList == t.toList) = decide (s = t) := by
  by_cases h : s = t
  · subst h; simp
  · rw [decide_eq_false h, beq_eq_false_iff_ne, ByteArray.toList_eq, ByteArray.toList_eq]
    intro e
    exact h (ByteArray.ext (Array.toList_inj.1 e))
theorem str_nil (s : ByteArray) : (s.toList == (ByteArray.empty).toList) = decide (s.size = 0) := by
  rw [str_eq]
  by_cases h : s.size = 0
  · have : s = .empty := by
      apply ByteArray.ext
      apply Array.toList_inj.1
      have : s.data.toList.length = 0 := by rw [Array.length_toList]; exact h
      rw [List.eq_nil_of_length_eq_zero this]
      rfl
    rw [decide_eq_true h, decide_eq_true this]
  · rw [decide_eq_false h, decide_eq_false]
    intro e; subst e; exact h rfl
theorem str_none (s : ByteArray) : s.toList = [] ↔ s.size = 0 := by
  have h : s.toList.length = s.size := by rw [ByteArray.toList_eq, Array.length_toList]; rfl
  constructor
  · intro e; rw [e] at h; simpa using h.symm
  · intro e; exact List.eq_nil_of_length_eq_zero (h.trans e)

end Go.Proofs.Ytplfcpbjlhobeaa
