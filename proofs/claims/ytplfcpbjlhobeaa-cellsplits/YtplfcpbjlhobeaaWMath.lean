/-
  THE PLAIN MATHEMATICS OF LAYER 1 (wire): a number's, a text's, a list's bytes; what bytes begin with; that both fit. No program here.
-/
import Derived.Below
namespace Go.Proofs.Ytplfcpbjlhobeaa.Wm

/-- a number's bytes, at most f + 1 of them -/
def putF : Nat → Nat → List UInt8
  | 0, n => [UInt8.ofNat n]
  | f + 1, n => if n < 128 then [UInt8.ofNat n] else UInt8.ofNat (n % 128 + 128) :: putF f (n / 128)
/-- a number's bytes -/
def putU (n : Nat) : List UInt8 := putF 9 n
/-- a text's bytes -/
def putT (s : List UInt8) : List UInt8 := putU s.length ++ s
/-- the bytes of texts, one behind the other -/
def putTs : List (List UInt8) → List UInt8
  | [] => []
  | s :: r => putT s ++ putTs r
/-- a list's bytes -/
def putL (l : List (List UInt8)) : List UInt8 := putU l.length ++ putTs l

/-- the number with which bytes begin (k digits ahead of them), and how many bytes it has -/
def getU : Nat → List UInt8 → Option (Nat × Nat)
  | _, [] => none
  | k, b :: r =>
    if k = 9 ∧ 1 < b.toNat then none
    else if b.toNat = 0 ∧ 0 < k then none
    else if b.toNat < 128 then some (b.toNat, 1)
    else match getU (k + 1) r with
      | none => none
      | some (v, c) => some (b.toNat - 128 + 128 * v, c + 1)

theorem ofNat_toNat {n : Nat} (h : n < 256) : (UInt8.ofNat n).toNat = n := by
  simp only [UInt8.toNat_ofNat', Nat.reducePow]; omega

theorem pow9 : 128 ^ 9 * 2 = 18446744073709551616 := by decide

theorem get_putF (r : List UInt8) : ∀ f k n, f + k = 9 → n < 128 ^ f * 2 → (0 < k → 0 < n) → getU k (putF f n ++ r) = some (n, (putF f n).length) := by
  intro f
  induction f with
  | zero =>
    intro k n hk hn h0
    have hk9 : k = 9 := by omega
    subst hk9
    have hn1 : n = 1 := by have := h0 (by omega); simp at hn; omega
    subst hn1
    rfl
  | succ f ih =>
    intro k n hk hn h0
    simp only [putF]
    by_cases h : n < 128
    · rw [if_pos h]
      simp only [List.cons_append, List.nil_append, getU]
      have e := ofNat_toNat (n := n) (by omega)
      rw [e, if_neg (by omega), if_neg (by omega), if_pos h]
      rfl
    · rw [if_neg h]
      simp only [List.cons_append, getU, List.length_cons]
      have e := ofNat_toNat (n := n % 128 + 128) (by omega)
      have hlt : n / 128 < 128 ^ f * 2 := by
        have : 128 ^ (f + 1) = 128 ^ f * 128 := Nat.pow_succ ..
        rw [this] at hn
        omega
      rw [e, if_neg (by omega), if_neg (by omega), if_neg (by omega), ih (k + 1) (n / 128) (by omega) hlt (by omega)]
      simp only [Option.some.injEq, Prod.mk.injEq, and_true]
      omega

/-- what was put is read, whatever stands behind it -/
theorem get_put (n : Nat) (r : List UInt8) (h : n < 18446744073709551616) : getU 0 (putU n ++ r) = some (n, (putU n).length) :=
  get_putF r 9 0 n rfl (by rw [pow9]; exact h) (by omega)

theorem put_getF : ∀ (bs : List UInt8) (k n c : Nat), k ≤ 9 → getU k bs = some (n, c) → n < 128 ^ (9 - k) * 2 ∧ c ≤ bs.length ∧ 0 < c ∧ bs.take c = putF (9 - k) n ∧ (0 < k → 0 < n) := by
  intro bs
  induction bs with
  | nil => intro k n c _ h; simp [getU] at h
  | cons b r ih =>
    intro k n c hk h
    have hb := b.toNat_lt
    simp only [getU] at h
    by_cases h1 : k = 9 ∧ 1 < b.toNat
    · rw [if_pos h1] at h; cases h
    rw [if_neg h1] at h
    by_cases h2 : b.toNat = 0 ∧ 0 < k
    · rw [if_pos h2] at h; cases h
    rw [if_neg h2] at h
    by_cases h3 : b.toNat < 128
    · rw [if_pos h3] at h
      simp only [Option.some.injEq, Prod.mk.injEq] at h
      obtain ⟨rfl, rfl⟩ := h
      refine ⟨?_, by simp, by omega, ?_, by omega⟩
      · by_cases hk9 : k = 9
        · subst hk9; simp; omega
        · have : 128 ^ (9 - k) = 128 ^ (8 - k) * 128 := by rw [← Nat.pow_succ]; congr 1; omega
          have hp : 0 < 128 ^ (8 - k) := Nat.pow_pos (by omega)
          rw [this]; omega
      · simp only [List.take_succ_cons, List.take_zero]
        have e : b = UInt8.ofNat b.toNat := by simp
        cases hf : 9 - k with
        | zero => simp only [putF]; rw [← e]
        | succ f => simp only [putF]; rw [if_pos h3, ← e]
    · rw [if_neg h3] at h
      cases hg : getU (k + 1) r with
      | none => rw [hg] at h; cases h
      | some q =>
        obtain ⟨v, d⟩ := q
        rw [hg] at h
        simp only [Option.some.injEq, Prod.mk.injEq] at h
        obtain ⟨rfl, rfl⟩ := h
        have hk9 : k ≤ 8 := by omega
        obtain ⟨i1, i2, i3, i4, i5⟩ := ih (k + 1) v d (by omega) hg
        have hv := i5 (by omega)
        have e9 : 9 - k = (9 - (k + 1)) + 1 := by omega
        have hp : 128 ^ (9 - k) = 128 ^ (9 - (k + 1)) * 128 := by rw [← Nat.pow_succ]; congr 1
        refine ⟨by rw [hp]; omega, by simp; omega, by omega, ?_, by omega⟩
        rw [List.take_succ_cons, i4, e9]
        generalize 9 - (k + 1) = f
        simp only [putF]
        rw [if_neg (by omega)]
        have q1 : (b.toNat - 128 + 128 * v) / 128 = v := by omega
        have q2 : (b.toNat - 128 + 128 * v) % 128 + 128 = b.toNat := by omega
        rw [q1, q2]
        simp

/-- what is read, put again, are the bytes that were gone over -/
theorem put_get {bs : List UInt8} {n c : Nat} (h : getU 0 bs = some (n, c)) : n < 18446744073709551616 ∧ c ≤ bs.length ∧ 0 < c ∧ bs.take c = putU n := by
  obtain ⟨a, b, d, e, _⟩ := put_getF bs 0 n c (by omega) h
  exact ⟨by rw [← pow9]; exact a, b, d, e⟩

theorem putF_length : ∀ f n, 1 ≤ (putF f n).length ∧ (putF f n).length ≤ f + 1 := by
  intro f
  induction f with
  | zero => intro n; simp [putF]
  | succ f ih =>
    intro n
    simp only [putF]
    by_cases h : n < 128
    · rw [if_pos h]; simp
    · rw [if_neg h]; have := ih (n / 128); simp only [List.length_cons]; omega
theorem putU_length (n : Nat) : 1 ≤ (putU n).length ∧ (putU n).length ≤ 10 := putF_length 9 n

theorem putF_mono : ∀ f n m, n ≤ m → (putF f n).length ≤ (putF f m).length := by
  intro f
  induction f with
  | zero => intro n m _; simp [putF]
  | succ f ih =>
    intro n m h
    simp only [putF]
    by_cases h1 : n < 128
    · rw [if_pos h1]
      by_cases h2 : m < 128
      · rw [if_pos h2]; simp
      · rw [if_neg h2]; simp
    · rw [if_neg h1, if_neg (by omega)]
      have := ih (n / 128) (m / 128) (by omega)
      simp only [List.length_cons]; omega
theorem putU_mono {n m : Nat} (h : n ≤ m) : (putU n).length ≤ (putU m).length := putF_mono 9 n m h

/-- unlike numbers have unlike bytes, whatever stands behind them -/
theorem putU_inj {n m : Nat} {a b : List UInt8} (hn : n < 18446744073709551616) (hm : m < 18446744073709551616) (h : putU n ++ a = putU m ++ b) : n = m ∧ a = b := by
  have h1 := get_put n a hn
  rw [h, get_put m b hm] at h1
  simp only [Option.some.injEq, Prod.mk.injEq] at h1
  obtain ⟨rfl, _⟩ := h1
  exact ⟨rfl, List.append_cancel_left h⟩

theorem putT_inj {s t a b : List UInt8} (hs : s.length < 18446744073709551616) (ht : t.length < 18446744073709551616) (h : putT s ++ a = putT t ++ b) : s = t ∧ a = b := by
  simp only [putT, List.append_assoc] at h
  obtain ⟨h1, h2⟩ := putU_inj hs ht h
  exact List.append_inj h2 h1

theorem putTs_inj : ∀ (l k : List (List UInt8)) (a b : List UInt8), (∀ s ∈ l, s.length < 18446744073709551616) → (∀ s ∈ k, s.length < 18446744073709551616) → l.length = k.length → putTs l ++ a = putTs k ++ b → l = k ∧ a = b := by
  intro l
  induction l with
  | nil => intro k a b _ _ hl h; cases k with
    | nil => exact ⟨rfl, h⟩
    | cons _ _ => simp at hl
  | cons s r ih =>
    intro k a b h1 h2 hl h
    cases k with
    | nil => simp at hl
    | cons t q =>
      simp only [putTs, List.append_assoc] at h
      obtain ⟨rfl, h'⟩ := putT_inj (h1 s (by simp)) (h2 t (by simp)) h
      obtain ⟨rfl, h''⟩ := ih q a b (fun x hx => h1 x (by simp [hx])) (fun x hx => h2 x (by simp [hx])) (by simpa using hl) h'
      exact ⟨rfl, h''⟩

/-- unlike lists have unlike bytes, whatever stands behind them -/
theorem putL_inj {l k : List (List UInt8)} {a b : List UInt8} (h1 : ∀ s ∈ l, s.length < 18446744073709551616) (h2 : ∀ s ∈ k, s.length < 18446744073709551616) (h3 : l.length < 18446744073709551616) (h4 : k.length < 18446744073709551616)
    (h : putL l ++ a = putL k ++ b) : l = k ∧ a = b := by
  simp only [putL, List.append_assoc] at h
  obtain ⟨e, h'⟩ := putU_inj h3 h4 h
  exact putTs_inj l k a b h1 h2 e h'

/-- how long a list's bytes are -/
theorem putTs_length (l : List (List UInt8)) : (putTs l).length ≤ 11 * l.length + (l.map List.length).sum + 0 := by
  induction l with
  | nil => simp [putTs]
  | cons s r ih =>
    have := (putU_length s.length).2
    simp only [putTs, putT, List.length_append, List.length_cons, List.map_cons, List.sum_cons]
    omega

theorem putTs_snoc (l : List (List UInt8)) (s : List UInt8) : putTs (l ++ [s]) = putTs l ++ putT s := by
  induction l with
  | nil => simp [putTs]
  | cons x r ih => simp only [List.cons_append, putTs, ih, List.append_assoc]

theorem pow_le {f m : Nat} (hf : f ≤ 9) (hm : m < 128 ^ f * 2) : m < 18446744073709551616 := by
  have : 128 ^ f ≤ 128 ^ 9 := Nat.pow_le_pow_right (by decide) hf
  have h9 := pow9
  omega

theorem putF_step {f m : Nat} (h : ¬ m < 128) (hm : m < 128 ^ f * 2) : ∃ g, f = g + 1 ∧ putF f m = UInt8.ofNat (m % 128 + 128) :: putF g (m / 128) ∧ m / 128 < 128 ^ g * 2 := by
  cases f with
  | zero => simp at hm; omega
  | succ g =>
    refine ⟨g, rfl, by simp only [putF]; rw [if_neg h], ?_⟩
    have : 128 ^ (g + 1) = 128 ^ g * 128 := Nat.pow_succ ..
    rw [this] at hm
    omega

end Go.Proofs.Ytplfcpbjlhobeaa.Wm
