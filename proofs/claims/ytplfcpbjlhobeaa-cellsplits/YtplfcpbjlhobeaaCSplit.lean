/-
  THE MATHEMATICS OF HALVES: of a node that fits and one item more both halves fit; joined they are the node. No program here.
-/
import Derived.Test.YtplfcpbjlhobeaaCInj
namespace Go.Proofs.Ytplfcpbjlhobeaa.Cm

/-- how many bytes stand for an item; for items -/
def plen (leaf : Bool) (x : It) : Nat := (part leaf 0 x).length
theorem part_len (leaf : Bool) (k : Int) (x : It) : (part leaf k x).length = plen leaf x := by
  unfold plen part
  cases leaf <;> simp [two_length]
def psz (leaf : Bool) (l : List It) : Nat := (l.map (plen leaf)).sum
theorem psz_append (leaf : Bool) (a b : List It) : psz leaf (a ++ b) = psz leaf a + psz leaf b := by simp [psz]
theorem psz_cons (leaf : Bool) (x : It) (b : List It) : psz leaf (x :: b) = plen leaf x + psz leaf b := by simp [psz]
theorem psz_split (leaf : Bool) (l : List It) (i : Nat) : psz leaf (l.take i) + psz leaf (l.drop i) = psz leaf l := by
  rw [← psz_append, List.take_append_drop]
theorem psz_succ (leaf : Bool) (l : List It) (i : Nat) (h : i < l.length) : psz leaf (l.take (i + 1)) = psz leaf (l.take i) + plen leaf (l.getD i zero) := by
  rw [List.take_succ_eq_append_getElem h, psz_append, psz_cons]
  simp [psz, List.getD, List.getElem?_eq_getElem h]
theorem parts_len (n : Nd) : ∀ k, k ≤ n.items.length → (parts n k).length = psz n.leaf (n.items.take k) := by
  intro k
  induction k with
  | zero => intro _; simp [parts, psz]
  | succ k ih =>
    intro h
    rw [parts_succ, List.length_append, ih (by omega), part_len, psz_succ _ _ _ (by omega)]
theorem putU_small {k : Nat} (h : k < 128) : (Wm.putU k).length = 1 := by
  unfold Wm.putU Wm.putF; rw [if_pos h]; rfl
theorem putU_two {k : Nat} (h : k < 16384) : (Wm.putU k).length ≤ 2 := by
  by_cases h1 : k < 128
  · rw [putU_small h1]; omega
  · unfold Wm.putU Wm.putF
    rw [if_neg h1]
    unfold Wm.putF
    rw [if_pos (by omega)]
    simp
def hd (leaf : Bool) : Nat := if leaf = true then 1 else 3
theorem form_len (n : Nd) : (form n).length = hd n.leaf + (Wm.putU n.items.length).length + psz n.leaf n.items := by
  unfold form
  rw [List.length_append, parts_len n _ (Nat.le_refl _), List.take_length]
  congr 1
  unfold head hd
  cases n.leaf <;> simp [two_length] <;> omega

theorem plen_leaf {x : It} (hk : OkK x.key) (hi : OkI true x) : 3 ≤ plen true x ∧ plen true x ≤ 98 := by
  unfold OkK at hk
  unfold OkI at hi
  rw [if_pos rfl] at hi
  have h1 := putU_small (k := x.key.size) (by omega)
  unfold plen part Wm.putT
  rw [if_neg (show ¬ (true = false) by simp), bytes_len]
  by_cases hp : 0 < x.page
  · rw [if_pos hp]
    have hc : Chain x := by
      rcases hi with hi | hi
      · unfold Inline at hi; omega
      · exact hi
    unfold Chain at hc
    have h2 := putU_two (k := 2 * x.len.toNat + 1) (by omega)
    have h3 := (Wm.putU_length (2 * x.len.toNat + 1)).1
    simp only [List.length_append, bytes_len, two_length, h1]
    omega
  · rw [if_neg hp]
    have hv : x.val.size ≤ 32 := by
      rcases hi with hi | hi
      · exact hi.2.2
      · unfold Chain at hi; omega
    have h2 := putU_small (k := 2 * x.val.size) (by omega)
    simp only [List.length_append, bytes_len, h1, h2]
    omega
theorem plen_inner {x : It} (hk : OkK x.key) : 4 ≤ plen false x ∧ plen false x ≤ 67 := by
  unfold OkK at hk
  have h1 := putU_small (k := x.key.size) (by omega)
  unfold plen part Wm.putT
  rw [if_pos rfl, bytes_len]
  simp only [List.length_append, bytes_len, two_length, h1]
  omega

theorem psz_ge (leaf : Bool) (c : Nat) : ∀ (l : List It), (∀ x ∈ l, c ≤ plen leaf x) → c * l.length ≤ psz leaf l := by
  intro l
  induction l with
  | nil => intro _; simp [psz]
  | cons x r ih =>
    intro h
    have h1 := h x (by simp)
    have h2 := ih fun y hy => h y (by simp [hy])
    rw [psz_cons, List.length_cons, Nat.mul_add]
    omega

/-- the least place behind which a bound is reached -/
theorem least (f : Nat → Nat) (b : Nat) : ∀ n, b ≤ f n → ∃ i, i ≤ n ∧ b ≤ f i ∧ ∀ j, j < i → f j < b := by
  intro n
  induction n with
  | zero => intro h; exact ⟨0, Nat.le_refl _, h, fun j hj => absurd hj (Nat.not_lt_zero _)⟩
  | succ n ih =>
    intro h
    by_cases hn : b ≤ f n
    · obtain ⟨i, h1, h2, h3⟩ := ih hn
      exact ⟨i, by omega, h2, h3⟩
    · by_cases hex : ∃ i, i ≤ n ∧ b ≤ f i
      · obtain ⟨i, hi, hb⟩ := hex
        clear ih
        induction i using Nat.strongRecOn with
        | ind i ih =>
          by_cases hj : ∃ j, j < i ∧ b ≤ f j
          · obtain ⟨j, hj, hbj⟩ := hj
            exact ih j hj (by omega) hbj
          · exact ⟨i, by omega, hb, fun j hji => Nat.lt_of_not_le fun hc => hj ⟨j, hji, hc⟩⟩
      · exact ⟨n + 1, Nat.le_refl _, h, fun j hj => Nat.lt_of_not_le fun hc => hex ⟨j, by omega, hc⟩⟩

theorem best_spec (f : Nat → Nat) : ∀ k, 1 ≤ k → 1 ≤ (best f k).1 ∧ (best f k).1 ≤ k ∧ (best f k).2 = f (best f k).1 ∧ ∀ i, 1 ≤ i → i ≤ k → (best f k).2 ≤ f i := by
  intro k
  induction k with
  | zero => intro h; omega
  | succ k ih =>
    intro _
    simp only [best]
    by_cases hk : 1 ≤ k
    · obtain ⟨h1, h2, h3, h4⟩ := ih hk
      by_cases hc : (best f k).1 = 0 ∨ f (k + 1) < (best f k).2
      · rw [if_pos hc]
        refine ⟨by simp, Nat.le_refl _, rfl, fun i hi hik => ?_⟩
        show f (k + 1) ≤ f i
        by_cases e : i = k + 1
        · rw [e]; exact Nat.le_refl _
        · have := h4 i hi (by omega)
          rcases hc with hc | hc
          · omega
          · omega
      · rw [if_neg hc]
        refine ⟨h1, by omega, h3, fun i hi hik => ?_⟩
        by_cases e : i = k + 1
        · rw [e]; omega
        · exact h4 i hi (by omega)
    · have e : k = 0 := by omega
      subst e
      rw [if_pos (.inl rfl)]
      refine ⟨by simp, by simp, rfl, fun i hi hik => ?_⟩
      have : i = 1 := by omega
      rw [this]
      exact Nat.le_refl _

theorem cutL_leaf (n : Nd) (i : Nat) : (cutL n i).leaf = n.leaf := by unfold cutL; cases h : n.leaf <;> simp
theorem cutR_leaf (n : Nd) (i : Nat) : (cutR n i).leaf = n.leaf := by unfold cutR; cases h : n.leaf <;> simp
theorem cutL_items (n : Nd) (i : Nat) : (cutL n i).items = n.items.take i := by unfold cutL; split <;> rfl
theorem cutR_items_leaf (n : Nd) (i : Nat) (h : n.leaf = true) : (cutR n i).items = n.items.drop i := by unfold cutR; rw [if_pos h]
theorem cutR_items_inner (n : Nd) (i : Nat) (h : n.leaf = false) : (cutR n i).items = n.items.drop (i + 1) := by unfold cutR; rw [if_neg (by rw [h]; simp)]

/-- of a leaf whose parts are at most 336 bytes there is a place at which both halves fit -/
theorem good_leaf {m : Nd} (hl : m.leaf = true) (hi : ∀ x ∈ m.items, OkK x.key ∧ OkI true x) (h2 : 2 ≤ m.items.length) (h128 : m.items.length ≤ 128) (hT : psz true m.items ≤ 336) :
    ∃ i, 1 ≤ i ∧ i ≤ places m ∧ cost m i ≤ 240 := by
  have hc : ∀ i, 1 ≤ i → i < m.items.length → cost m i = max (2 + psz true (m.items.take i)) (2 + psz true (m.items.drop i)) := by
    intro i h1 h3
    unfold cost
    rw [form_len, form_len, cutL_leaf, cutR_leaf, cutL_items, cutR_items_leaf m i hl, hl, putU_small (by rw [List.length_take]; omega), putU_small (by rw [List.length_drop]; omega)]
    simp [hd]
  have hq : ∀ i, i < m.items.length → plen true (m.items.getD i zero) ≤ 98 := by
    intro i h
    have := hi (m.items.getD i zero) (by simp [List.getD, List.getElem?_eq_getElem h])
    exact (plen_leaf this.1 this.2).2
  have hpl : places m = m.items.length - 1 := by unfold places; rw [if_pos hl]
  by_cases hs : psz true m.items ≤ 238
  · refine ⟨1, Nat.le_refl _, by omega, ?_⟩
    rw [hc 1 (Nat.le_refl _) (by omega)]
    have := psz_split true m.items 1
    omega
  · obtain ⟨i, h1, h3, h4⟩ := least (fun i => psz true (m.items.take i)) (psz true m.items - 238) m.items.length (by simp)
    have hi0 : i ≠ 0 := by
      intro e; subst e
      simp [psz] at h3
      have : psz true m.items = (m.items.map (plen true)).sum := rfl
      omega
    obtain ⟨j, rfl⟩ : ∃ j, i = j + 1 := ⟨i - 1, by omega⟩
    have hj := h4 j (by omega)
    have hsu := psz_succ true m.items j (by omega)
    have hqj := hq j (by omega)
    have hlt : j + 1 < m.items.length := by
      rcases Nat.lt_or_ge (j + 1) m.items.length with h | h
      · exact h
      · rw [List.take_of_length_le (by omega)] at hsu; omega
    refine ⟨j + 1, by omega, by omega, ?_⟩
    rw [hc (j + 1) (by omega) hlt]
    have := psz_split true m.items (j + 1)
    omega
/-- of an inner node whose parts are at most 303 bytes there is a place at which both halves fit -/
theorem good_inner {m : Nd} (hl : m.leaf = false) (hi : ∀ x ∈ m.items, OkK x.key) (h2 : 3 ≤ m.items.length) (h128 : m.items.length ≤ 128) (hT : psz false m.items ≤ 303) :
    ∃ i, 1 ≤ i ∧ i ≤ places m ∧ cost m i ≤ 240 := by
  have hc : ∀ i, 1 ≤ i → i + 1 < m.items.length → cost m i = max (4 + psz false (m.items.take i)) (4 + psz false (m.items.drop (i + 1))) := by
    intro i h1 h3
    unfold cost
    rw [form_len, form_len, cutL_leaf, cutR_leaf, cutL_items, cutR_items_inner m i hl, hl, putU_small (by rw [List.length_take]; omega), putU_small (by rw [List.length_drop]; omega)]
    simp [hd]
  have hq : ∀ i, i < m.items.length → plen false (m.items.getD i zero) ≤ 67 := by
    intro i h
    exact (plen_inner (hi (m.items.getD i zero) (by simp [List.getD, List.getElem?_eq_getElem h]))).2
  have hpl : places m = m.items.length - 2 := by unfold places; rw [if_neg (by rw [hl]; simp)]
  by_cases hs : psz false m.items ≤ 236
  · refine ⟨1, Nat.le_refl _, by omega, ?_⟩
    rw [hc 1 (Nat.le_refl _) (by omega)]
    have := psz_split false m.items 1
    have := psz_split false m.items (1 + 1)
    omega
  · obtain ⟨i, h1, h3, h4⟩ := least (fun i => psz false (m.items.take i)) (psz false m.items - 236) m.items.length (by simp)
    have hi0 : i ≠ 0 := by
      intro e; subst e
      simp [psz] at h3
      have : psz false m.items = (m.items.map (plen false)).sum := rfl
      omega
    obtain ⟨j, rfl⟩ : ∃ j, i = j + 1 := ⟨i - 1, by omega⟩
    have hj := h4 j (by omega)
    have hsu := psz_succ false m.items j (by omega)
    have hqj := hq j (by omega)
    have hlt : j + 1 < m.items.length := by
      rcases Nat.lt_or_ge (j + 1) m.items.length with h | h
      · exact h
      · rw [List.take_of_length_le (by omega)] at hsu; omega
    have hsp := psz_split false m.items (j + 1)
    by_cases hj0 : j = 0
    · subst hj0
      simp only [Nat.zero_add] at h3 hsu hsp
      have hz : psz false (m.items.take 0) = 0 := rfl
      refine ⟨1, Nat.le_refl _, by omega, ?_⟩
      rw [hc 1 (Nat.le_refl _) (by omega)]
      have h5 := psz_succ false m.items 1 (by omega)
      have h6 := psz_split false m.items (1 + 1)
      omega
    · refine ⟨j, by omega, by omega, ?_⟩
      rw [hc j (by omega) (by omega)]
      omega
end Go.Proofs.Ytplfcpbjlhobeaa.Cm
