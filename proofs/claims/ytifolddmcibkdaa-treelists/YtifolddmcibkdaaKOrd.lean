/-
  TEXTS IN THEIR ORDER, byte by byte.
-/
import Derived.Test.YtifolddmcibkdaaKit
namespace Go.Proofs.Ytifolddmcibkdaa.Ks

/-- the one is below the other -/
def kl (a b : ByteArray) : Bool := Op.bytesLess a.toList b.toList
theorem bl_irrefl : ∀ x : List UInt8, Op.bytesLess x x = false := by
  intro x
  induction x with
  | nil => rfl
  | cons a r ih => simp [Op.bytesLess, ih]
theorem bl_trans : ∀ x y z : List UInt8, Op.bytesLess x y = true → Op.bytesLess y z = true → Op.bytesLess x z = true := by
  intro x
  induction x with
  | nil =>
    intro y z h1 h2
    cases y with
    | nil => simp [Op.bytesLess] at h1
    | cons b s =>
      cases z with
      | nil => simp [Op.bytesLess] at h2
      | cons c t => rfl
  | cons a r ih =>
    intro y z h1 h2
    cases y with
    | nil => simp [Op.bytesLess] at h1
    | cons b s =>
      cases z with
      | nil => simp [Op.bytesLess] at h2
      | cons c t =>
        simp only [Op.bytesLess, Bool.or_eq_true, decide_eq_true_eq, Bool.and_eq_true, beq_iff_eq, UInt8.lt_iff_toNat_lt] at h1 h2 ⊢
        rcases h1 with h1 | ⟨rfl, h1⟩
        · rcases h2 with h2 | ⟨rfl, h2⟩
          · exact .inl (by omega)
          · exact .inl h1
        · rcases h2 with h2 | ⟨rfl, h2⟩
          · exact .inl h2
          · exact .inr ⟨rfl, ih s t h1 h2⟩
theorem kl_trans {a b c : ByteArray} (h1 : kl a b = true) (h2 : kl b c = true) : kl a c = true := bl_trans _ _ _ h1 h2
theorem kl_irrefl (a : ByteArray) : kl a a = false := bl_irrefl _
theorem kl_asymm {a b : ByteArray} (h : kl a b = true) : kl b a = false := by
  cases h2 : kl b a with
  | false => rfl
  | true =>
    have := kl_trans h h2
    rw [kl_irrefl] at this
    cases this
theorem bl_total : ∀ x y : List UInt8, Op.bytesLess x y = false → x ≠ y → Op.bytesLess y x = true := by
  intro x
  induction x with
  | nil =>
    intro y h1 h2
    cases y with
    | nil => exact absurd rfl h2
    | cons b s => simp [Op.bytesLess] at h1
  | cons a r ih =>
    intro y h1 h2
    cases y with
    | nil => rfl
    | cons b s =>
      simp only [Op.bytesLess, Bool.or_eq_true, decide_eq_true_eq, Bool.and_eq_true, beq_iff_eq, Bool.or_eq_false_iff, decide_eq_false_iff_not, UInt8.lt_iff_toNat_lt] at h1 ⊢
      by_cases e : a = b
      · subst e
        refine .inr ⟨rfl, ih s ?_ fun h => h2 (by rw [h])⟩
        simpa using h1.2
      · have : a.toNat ≠ b.toNat := fun h => e (UInt8.toNat_inj.1 h)
        exact .inl (by omega)
theorem kl_total {a b : ByteArray} (h1 : kl a b = false) (h2 : a ≠ b) : kl b a = true :=
  bl_total _ _ h1 fun h => h2 (by rw [ByteArray.toList_eq, ByteArray.toList_eq] at h; exact ByteArray.ext (Array.toList_inj.1 h))

end Go.Proofs.Ytifolddmcibkdaa.Ks
