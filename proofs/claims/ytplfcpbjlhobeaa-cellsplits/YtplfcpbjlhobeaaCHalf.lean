/-
  THE MATHEMATICS OF HALVES, continued: halves are well-formed, they fit, joined they are the node. No program here.
-/
import Derived.Test.YtplfcpbjlhobeaaCSplit
namespace Go.Proofs.Ytplfcpbjlhobeaa.Cm

theorem bl_irrefl : ∀ x : List UInt8, Op.bytesLess x x = false := by
  intro x
  induction x with
  | nil => rfl
  | cons a r ih => simp [Op.bytesLess, ih]
theorem bl_trans : ∀ x y z : List UInt8, Op.bytesLess x y = true → Op.bytesLess y z = true → Op.bytesLess x z = true := by
  intro x
  induction x with
  | nil =>
    intro y z h1 h2
    cases y with
    | nil => simp [Op.bytesLess] at h1
    | cons b s =>
      cases z with
      | nil => simp [Op.bytesLess] at h2
      | cons c t => rfl
  | cons a r ih =>
    intro y z h1 h2
    cases y with
    | nil => simp [Op.bytesLess] at h1
    | cons b s =>
      cases z with
      | nil => simp [Op.bytesLess] at h2
      | cons c t =>
        simp only [Op.bytesLess, Bool.or_eq_true, decide_eq_true_eq, Bool.and_eq_true, beq_iff_eq, UInt8.lt_iff_toNat_lt] at h1 h2 ⊢
        rcases h1 with h1 | ⟨rfl, h1⟩
        · rcases h2 with h2 | ⟨rfl, h2⟩
          · exact .inl (by omega)
          · exact .inl h1
        · rcases h2 with h2 | ⟨rfl, h2⟩
          · exact .inl h2
          · exact .inr ⟨rfl, ih s t h1 h2⟩
theorem kl_trans {a b c : ByteArray} (h1 : kl a b = true) (h2 : kl b c = true) : kl a c = true := bl_trans _ _ _ h1 h2
theorem kl_irrefl (a : ByteArray) : kl a a = false := bl_irrefl _
theorem kl_asymm {a b : ByteArray} (h : kl a b = true) : kl b a = false := by
  cases h2 : kl b a with
  | false => rfl
  | true =>
    have := kl_trans h h2
    rw [kl_irrefl] at this
    cases this

theorem getD_take (l : List It) (i j : Nat) (h : j < i) : (l.take i).getD j zero = l.getD j zero := by
  simp [List.getD, h]
theorem getD_drop (l : List It) (i j : Nat) : (l.drop i).getD j zero = l.getD (i + j) zero := by
  simp [List.getD, List.getElem?_drop]

/-- keys rise -/
theorem rise {n : Nd} (h : Right n) : ∀ j i, i < j → j < n.items.length → kl (n.items.getD i zero).key (n.items.getD j zero).key = true := by
  intro j
  induction j with
  | zero => intro i hi; omega
  | succ j ih =>
    intro i hi hj
    have h1 := (h.1 (j + 1) hj).2.1 (by omega)
    rw [Nat.add_sub_cancel] at h1
    by_cases e : i = j
    · rw [e]; exact h1
    · exact kl_trans (ih i (by omega) (by omega)) h1

theorem places_lt {m : Nd} {i : Nat} (h1 : 1 ≤ i) (h2 : i ≤ places m) : i < m.items.length ∧ (m.leaf = false → i + 1 < m.items.length) := by
  unfold places at h2
  cases h : m.leaf with
  | true => rw [h, if_pos rfl] at h2; exact ⟨by omega, fun e => by cases e⟩
  | false => rw [h, if_neg (by simp)] at h2; exact ⟨by omega, fun _ => by omega⟩

theorem right_cutL {m : Nd} (hm : Right m) {i : Nat} (h1 : 1 ≤ i) (h2 : i ≤ places m) : Right (cutL m i) := by
  obtain ⟨h3, h4⟩ := places_lt h1 h2
  have hit : ∀ j, j < i → OkAt ⟨m.leaf, m.items.take i, (cutL m i).kids⟩ j := by
    intro j hj
    have := hm.1 j (by omega)
    unfold OkAt at this ⊢
    simp only
    rw [getD_take m.items i j hj, getD_take m.items i (j - 1) (by omega)]
    exact this
  have e : cutL m i = ⟨m.leaf, m.items.take i, (cutL m i).kids⟩ := Nd.ext' (cutL_leaf m i) (cutL_items m i) rfl
  rw [e]
  refine ⟨fun j hj => hit j (by simp at hj; omega), ?_⟩
  have hk := hm.2
  cases h : m.leaf with
  | true =>
    rw [if_pos rfl]
    show (cutL m i).kids = []
    unfold cutL; rw [if_pos h]
  | false =>
    rw [h, if_neg (by simp)] at hk
    rw [if_neg (by simp)]
    have ek : (cutL m i).kids = m.kids.take (i + 1) := by unfold cutL; rw [if_neg (by rw [h]; simp)]
    simp only [ek]
    refine ⟨fun k hk' => hk.1 k (List.mem_of_mem_take hk'), by rw [List.length_take]; omega, ?_⟩
    rw [List.length_take, List.length_take]
    omega
theorem right_cutR {m : Nd} (hm : Right m) {i : Nat} (h1 : 1 ≤ i) (h2 : i ≤ places m) : Right (cutR m i) := by
  obtain ⟨h3, h4⟩ := places_lt h1 h2
  have hk := hm.2
  cases h : m.leaf with
  | true =>
    have e : cutR m i = ⟨true, m.items.drop i, []⟩ := by unfold cutR; rw [if_pos h]
    rw [e]
    refine ⟨fun j hj => ?_, rfl⟩
    simp only [List.length_drop] at hj
    have := hm.1 (i + j) (by omega)
    unfold OkAt at this ⊢
    simp only
    rw [getD_drop, getD_drop]
    rw [h] at this
    refine ⟨this.1, fun hj0 => ?_, this.2.2⟩
    have h5 := this.2.1 (by omega)
    rw [show i + j - 1 = i + (j - 1) by omega] at h5
    exact h5
  | false =>
    rw [h, if_neg (by simp)] at hk
    have h5 := h4 h
    have e : cutR m i = ⟨false, m.items.drop (i + 1), m.kids.drop (i + 1)⟩ := by unfold cutR; rw [if_neg (by rw [h]; simp)]
    rw [e]
    refine ⟨fun j hj => ?_, ?_⟩
    · simp only [List.length_drop] at hj
      have := hm.1 (i + 1 + j) (by omega)
      unfold OkAt at this ⊢
      simp only
      rw [getD_drop, getD_drop]
      rw [h] at this
      refine ⟨this.1, fun hj0 => ?_, this.2.2⟩
      have h6 := this.2.1 (by omega)
      rw [show i + 1 + j - 1 = i + 1 + (j - 1) by omega] at h6
      exact h6
    · rw [if_neg (by simp)]
      refine ⟨fun k hk' => hk.1 k (List.mem_of_mem_drop hk'), ?_, ?_⟩
      · simp only [List.length_drop]; omega
      · simp only [List.length_drop]; omega

/-- joined, both halves are the node -/
theorem joined_cut {m : Nd} (hm : Right m) {i : Nat} (h1 : 1 ≤ i) (h2 : i ≤ places m) : joined (cutL m i) (m.items.getD i zero).key (cutR m i) = m := by
  obtain ⟨h3, h4⟩ := places_lt h1 h2
  have hk := hm.2
  have hg : m.items.getD i zero = m.items[i] := by simp [List.getD, List.getElem?_eq_getElem h3]
  cases h : m.leaf with
  | true =>
    rw [h, if_pos rfl] at hk
    unfold joined cutL cutR
    rw [if_pos h, if_pos h]
    simp only [if_true, List.append_nil, List.take_append_drop]
    exact Nd.ext' h.symm rfl hk.symm
  | false =>
    rw [h, if_neg (by simp)] at hk
    have hb := (hm.1 i h3).2.2
    rw [h] at hb
    unfold OkI at hb
    rw [if_neg (by simp)] at hb
    unfold Bare at hb
    have ei : (⟨(m.items.getD i zero).key, .empty, 0, 0⟩ : It) = m.items.getD i zero := It.ext' rfl (empty_of rfl hb.1) hb.2.1.symm hb.2.2.symm
    have eL : cutL m i = ⟨false, m.items.take i, m.kids.take (i + 1)⟩ := by unfold cutL; rw [if_neg (by rw [h]; simp)]
    have eR : cutR m i = ⟨false, m.items.drop (i + 1), m.kids.drop (i + 1)⟩ := by unfold cutR; rw [if_neg (by rw [h]; simp)]
    rw [eL, eR]
    unfold joined
    simp only [Bool.false_eq_true, if_false, List.take_append_drop]
    refine Nd.ext' h.symm ?_ rfl
    show m.items.take i ++ [_] ++ m.items.drop (i + 1) = m.items
    rw [ei, hg, List.append_assoc, List.singleton_append, ← List.drop_eq_getElem_cons h3, List.take_append_drop]
theorem mayJoin_cut {m : Nd} (hm : Right m) {i : Nat} (h1 : 1 ≤ i) (h2 : i ≤ places m) : MayJoin (cutL m i) (m.items.getD i zero).key (cutR m i) := by
  obtain ⟨h3, h4⟩ := places_lt h1 h2
  have hll := cutL_leaf m i
  refine ⟨right_cutL hm h1 h2, right_cutR hm h1 h2, by rw [cutL_leaf, cutR_leaf], ?_, ?_, fun _ => (hm.1 i h3).1⟩
  · intro x hx
    rw [cutL_items] at hx
    obtain ⟨j, hj, rfl⟩ := List.mem_iff_getElem.1 hx
    rw [List.length_take] at hj
    have := rise hm i j (by omega) h3
    have e : (m.items.take i)[j] = m.items.getD j zero := by simp [List.getD, List.getElem?_eq_getElem (show j < m.items.length by omega)]
    rw [e]
    exact this
  · intro x hx
    cases h : m.leaf with
    | true =>
      rw [cutR_items_leaf m i h] at hx
      obtain ⟨j, hj, rfl⟩ := List.mem_iff_getElem.1 hx
      rw [List.length_drop] at hj
      have e : (m.items.drop i)[j] = m.items.getD (i + j) zero := by simp [List.getD, List.getElem?_eq_getElem (show i + j < m.items.length by omega)]
      rw [e]
      refine ⟨?_, fun e => by rw [hll, h] at e; cases e⟩
      by_cases hj0 : j = 0
      · rw [hj0, Nat.add_zero]; exact kl_irrefl _
      · exact kl_asymm (rise hm (i + j) i (by omega) (by omega))
    | false =>
      rw [cutR_items_inner m i h] at hx
      obtain ⟨j, hj, rfl⟩ := List.mem_iff_getElem.1 hx
      rw [List.length_drop] at hj
      have e : (m.items.drop (i + 1))[j] = m.items.getD (i + 1 + j) zero := by simp [List.getD, List.getElem?_eq_getElem (show i + 1 + j < m.items.length by omega)]
      rw [e]
      have hr := rise hm (i + 1 + j) i (by omega) (by omega)
      refine ⟨kl_asymm hr, fun _ he => ?_⟩
      rw [he, kl_irrefl] at hr
      cases hr

/-- what half answers -/
theorem half_some {m : Nd} (h : 1 ≤ places m) : ∃ i, 1 ≤ i ∧ i ≤ places m ∧ half m = some (cutL m i, (m.items.getD i zero).key, cutR m i) ∧ ∀ j, 1 ≤ j → j ≤ places m → cost m i ≤ cost m j := by
  obtain ⟨h1, h2, h3, h4⟩ := best_spec (cost m) (places m) h
  refine ⟨_, h1, h2, ?_, fun j hj hj2 => ?_⟩
  · unfold half; rw [if_neg (by omega)]
  · rw [← h3]; exact h4 j hj hj2
theorem half_none {m : Nd} (h : places m = 0) : half m = .none := by
  unfold half; rw [h]; simp [best]
theorem wrong_zero {n : Nd} (h : Right n) (hf : (form n).length ≤ 240) : wrong n = 0 := by
  unfold wrong; rw [if_pos h, if_neg (by omega)]
theorem of_wrong_zero {n : Nd} (h : wrong n = 0) : Right n ∧ (form n).length ≤ 240 := by
  unfold wrong at h
  by_cases hr : Right n
  · rw [if_pos hr] at h
    refine ⟨hr, ?_⟩
    by_cases hf : 240 < (form n).length
    · rw [if_pos hf] at h; cases h
    · omega
  · rw [if_neg hr] at h; cases h

/-- a node that fits has few items -/
theorem few {n : Nd} (h : wrong n = 0) : n.items.length ≤ 79 := by
  obtain ⟨hr, hf⟩ := of_wrong_zero h
  have hi := right_items hr
  rw [form_len] at hf
  have hu := (Wm.putU_length n.items.length).1
  have hg := psz_ge n.leaf 3 n.items (fun x hx => by
    have := hi x hx
    cases hl : n.leaf with
    | true => rw [hl] at this; exact (plen_leaf this.1 this.2).1
    | false => have := (plen_inner this.1).1; omega)
  unfold hd at hf
  split at hf <;> omega

/-- P6.6: both halves of a node that fits with one item more fit -/
theorem halves_fit {n m : Nd} {x : It} {i : Nat} (hn : wrong n = 0) (hm : Right m) (hl : m.leaf = n.leaf) (hi : m.items = n.items.take i ++ x :: n.items.drop i) (hp : 1 ≤ places m) :
    ∃ j, 1 ≤ j ∧ j ≤ places m ∧ half m = some (cutL m j, (m.items.getD j zero).key, cutR m j) ∧ wrong (cutL m j) = 0 ∧ wrong (cutR m j) = 0 := by
  obtain ⟨j, h1, h2, h3, h4⟩ := half_some hp
  refine ⟨j, h1, h2, h3, ?_⟩
  have hlen : m.items.length ≤ 80 := by
    have := few hn
    rw [hi, List.length_append, List.length_cons, List.length_take, List.length_drop]
    omega
  obtain ⟨hr, hf⟩ := of_wrong_zero hn
  rw [form_len] at hf
  have hu := (Wm.putU_length n.items.length).1
  have hmi := right_items hm
  have hx : x ∈ m.items := by rw [hi]; simp
  have hps : psz m.leaf m.items = psz m.leaf n.items + plen m.leaf x := by
    rw [hi, psz_append, psz_cons, ← psz_split m.leaf n.items i]; omega
  have hgood : ∃ k, 1 ≤ k ∧ k ≤ places m ∧ cost m k ≤ 240 := by
    cases h : m.leaf with
    | true =>
      rw [h] at hps hmi hl
      rw [← hl] at hf
      have := (plen_leaf (hmi x hx).1 (hmi x hx).2).2
      refine good_leaf h hmi ?_ (by omega) ?_
      · unfold places at hp; rw [h, if_pos rfl] at hp; omega
      · rw [hps]; simp [hd] at hf; omega
    | false =>
      rw [h] at hps hmi hl
      rw [← hl] at hf
      have := (plen_inner (hmi x hx).1).2
      refine good_inner h (fun y hy => (hmi y hy).1) ?_ (by omega) ?_
      · unfold places at hp; rw [h, if_neg (by simp)] at hp; omega
      · rw [hps]; simp [hd] at hf; omega
  obtain ⟨k, hk1, hk2, hk3⟩ := hgood
  have hc := h4 k hk1 hk2
  have hc2 : cost m j ≤ 240 := by omega
  unfold cost at hc2
  exact ⟨wrong_zero (right_cutL hm h1 h2) (by omega), wrong_zero (right_cutR hm h1 h2) (by omega)⟩
/-- P6.7: joined they are the node, where it fits -/
theorem join_cut {m : Nd} (hm : Right m) {i : Nat} (h1 : 1 ≤ i) (h2 : i ≤ places m) : join (cutL m i) (m.items.getD i zero).key (cutR m i) = if wrong m = 0 then (m, 0) else (none, wrong m) := by
  unfold join
  rw [if_pos (mayJoin_cut hm h1 h2), joined_cut hm h1 h2]
end Go.Proofs.Ytplfcpbjlhobeaa.Cm
