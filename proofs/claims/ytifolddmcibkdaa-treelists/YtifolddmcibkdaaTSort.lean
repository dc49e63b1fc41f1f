/-
  TEXTS IN THEIR ORDER: sorted, and each once. No program here.
-/
import Derived.Test.YtifolddmcibkdaaKOrd
import Derived.Test.YtifolddmcibkdaaPBs
import Derived.Sort.Walk0
import Derived.Lib.SlicesCompact
namespace Go.Proofs.Ytifolddmcibkdaa.Ks

/-- rising, none twice -/
def Rising (l : List ByteArray) : Prop := l.Pairwise fun a b => kl a b = true
def le (x y : List UInt8) : Bool := decide (x ≤ y)
/-- bytes as a text -/
def ba (l : List UInt8) : ByteArray := ⟨l.toArray⟩
theorem ba_bs (s : ByteArray) : ba (bs s) = s := ByteArray.ext (by simp [ba, bs])
theorem bs_ba (l : List UInt8) : bs (ba l) = l := by simp [ba, bs]
theorem kl_bs (a b : ByteArray) : kl a b = decide (bs a < bs b) := by
  unfold kl
  rw [Proofs.bytesLess_eq, ByteArray.toList_eq, ByteArray.toList_eq]
theorem le_trans {x y z : List UInt8} (h1 : le x y = true) (h2 : le y z = true) : le x z = true := by
  simp only [le, decide_eq_true_eq] at *; exact List.le_trans h1 h2
theorem le_total (x y : List UInt8) : (le x y || le y x) = true := by
  simp only [le, Bool.or_eq_true, decide_eq_true_eq]; exact List.le_total x y
theorem lt_of {x y : List UInt8} (h : x ≤ y) (hn : x ≠ y) : x < y := by
  rcases Decidable.em (x < y) with h1 | h1
  · exact h1
  · exact absurd (List.le_antisymm h (List.not_lt.1 h1)) hn
/-- rising lists that have the same texts are one -/
theorem rising_ext : ∀ {a b : List ByteArray}, Rising a → Rising b → (∀ x, x ∈ a ↔ x ∈ b) → a = b
  | [], [], _, _, _ => rfl
  | [], y :: _, _, _, h => absurd ((h y).2 (by simp)) (by simp)
  | x :: _, [], _, _, h => absurd ((h x).1 (by simp)) (by simp)
  | x :: a, y :: b, ha, hb, h => by
    obtain ⟨a1, a2⟩ := List.pairwise_cons.1 ha
    obtain ⟨b1, b2⟩ := List.pairwise_cons.1 hb
    have hxy : x = y := by
      rcases List.mem_cons.1 ((h x).1 (by simp)) with e | e
      · exact e
      rcases List.mem_cons.1 ((h y).2 (by simp)) with e2 | e2
      · exact e2.symm
      have := kl_trans (b1 x e) (a1 y e2)
      rw [kl_irrefl] at this; cases this
    subst hxy
    refine congrArg (x :: ·) (rising_ext a2 b2 fun z => ?_)
    have hz := h z
    simp only [List.mem_cons] at hz
    constructor
    · intro hm
      rcases hz.1 (.inr hm) with e | e
      · subst e; have := a1 z hm; rw [kl_irrefl] at this; cases this
      · exact e
    · intro hm
      rcases hz.2 (.inr hm) with e | e
      · subst e; have := b1 z hm; rw [kl_irrefl] at this; cases this
      · exact e
theorem rising_nodup {l : List ByteArray} (h : Rising l) : l.Nodup := h.imp fun {a b} hab e => by subst e; rw [kl_irrefl] at hab; cases hab

/-- texts, sorted -/
def sortT (l : List ByteArray) : List ByteArray := ((l.map bs).mergeSort le).map ba
theorem sortT_perm (l : List ByteArray) : (sortT l).Perm l := by
  have h := (List.mergeSort_perm (l.map bs) le).map ba
  rw [List.map_map] at h
  have e : (ba ∘ bs) = id := by funext s; exact ba_bs s
  rw [e, List.map_id] at h
  exact h
theorem mem_sortT {l : List ByteArray} {q : ByteArray} : q ∈ sortT l ↔ q ∈ l := (sortT_perm l).mem_iff
theorem sortT_length (l : List ByteArray) : (sortT l).length = l.length := (sortT_perm l).length_eq
theorem sortT_le (l : List ByteArray) : (sortT l).Pairwise fun a b => bs a ≤ bs b := by
  have h := List.pairwise_mergeSort (le := le) (fun a b c => le_trans) le_total (l.map bs)
  unfold sortT
  rw [List.pairwise_map]
  refine h.imp fun {a b} hab => ?_
  rw [bs_ba, bs_ba]
  simpa [le] using hab
/-- sorted, where none stands twice: rising -/
theorem sortT_rising {l : List ByteArray} (h : l.Nodup) : Rising (sortT l) := by
  have hn : (sortT l).Nodup := (sortT_perm l).nodup_iff.2 h
  refine ((sortT_le l).and hn).imp fun {a b} hab => ?_
  rw [kl_bs, decide_eq_true_eq]
  exact lt_of hab.1 fun e => hab.2 (bs_inj e)

/-- runs of equal texts, one of each -/
def compT (l : List ByteArray) : List ByteArray := (Lib.compact (l.map bs)).map ba
theorem compact_facts (d : Array (List UInt8)) (hd : ∀ i j, i < j → j < d.size → d[i]! ≤ d[j]!) : ∀ m, m ≤ d.size → (Lib.compactUpTo d m).Pairwise (· < ·) ∧ ∀ x, x ∈ Lib.compactUpTo d m ↔ ∃ j, j < m ∧ d[j]! = x := by
  intro m
  induction m with
  | zero => intro _; exact ⟨by simp [Lib.compactUpTo], fun x => by simp [Lib.compactUpTo]⟩
  | succ m ih =>
    intro hm
    obtain ⟨h1, h2⟩ := ih (by omega)
    rw [Lib.compactUpTo_succ]
    cases hk : Lib.keeps d m with
    | true =>
      simp only [if_true]
      refine ⟨List.pairwise_append.2 ⟨h1, List.pairwise_singleton _ _, fun x hx y hy => ?_⟩, fun x => ?_⟩
      · rw [List.mem_singleton] at hy
        subst hy
        obtain ⟨j, hj, rfl⟩ := (h2 x).1 hx
        have hk' : m = 0 ∨ d[m]! ≠ d[m - 1]! := by simpa [Lib.keeps] using hk
        have hne : d[m]! ≠ d[m - 1]! := hk'.resolve_left (by omega)
        refine lt_of (hd j m hj (by omega)) fun e => hne ?_
        rcases Nat.lt_or_ge j (m - 1) with h | h
        · have e1 := hd j (m - 1) h (by omega)
          have e2 := hd (m - 1) m (by omega) (by omega)
          rw [e] at e1
          exact List.le_antisymm e1 e2
        · have : j = m - 1 := by omega
          rw [← this, e]
      · rw [List.mem_append, List.mem_singleton, h2 x]
        constructor
        · rintro (⟨j, hj, e⟩ | e)
          · exact ⟨j, by omega, e⟩
          · exact ⟨m, by omega, e.symm⟩
        · rintro ⟨j, hj, e⟩
          rcases Nat.lt_or_ge j m with h | h
          · exact .inl ⟨j, h, e⟩
          · have : j = m := by omega
            subst this; exact .inr e.symm
    | false =>
      have hk' : ¬ (m = 0 ∨ d[m]! ≠ d[m - 1]!) := by simpa [Lib.keeps] using hk
      have hm0 : m ≠ 0 := fun e => hk' (.inl e)
      have heq : d[m]! = d[m - 1]! := Decidable.byContradiction fun e => hk' (.inr e)
      simp only [Bool.false_eq_true, if_false, List.append_nil]
      refine ⟨h1, fun x => ?_⟩
      rw [h2 x]
      constructor
      · rintro ⟨j, hj, e⟩; exact ⟨j, by omega, e⟩
      · rintro ⟨j, hj, e⟩
        rcases Nat.lt_or_ge j m with h | h
        · exact ⟨j, h, e⟩
        · have : j = m := by omega
          subst this; exact ⟨j - 1, by omega, by rw [← heq]; exact e⟩
/-- sorted, and each once: rising, the same texts -/
theorem compT_facts {l : List ByteArray} (h : l.Pairwise fun a b => bs a ≤ bs b) : Rising (compT l) ∧ ∀ q, q ∈ compT l ↔ q ∈ l := by
  have hget : ∀ i, (hi : i < l.length) → (l.map bs).toArray[i]! = bs l[i] := fun i hi => by simp [hi]
  obtain ⟨h1, h2⟩ := compact_facts (l.map bs).toArray (fun i j hij hj => by
    have hj' : j < l.length := by simpa using hj
    rw [hget i (by omega), hget j hj']
    exact List.pairwise_iff_getElem.1 h i j (by omega) hj' hij) (l.map bs).length (by simp)
  refine ⟨?_, fun q => ?_⟩
  · unfold Rising compT Lib.compact
    rw [List.pairwise_map]
    refine h1.imp fun {a b} hab => ?_
    rw [kl_bs, bs_ba, bs_ba]
    exact decide_eq_true hab
  · unfold compT Lib.compact
    rw [List.mem_map]
    constructor
    · rintro ⟨x, hx, rfl⟩
      obtain ⟨j, hj, rfl⟩ := (h2 x).1 hx
      have hj' : j < l.length := by simpa using hj
      rw [hget j hj', ba_bs]
      exact List.getElem_mem hj'
    · intro hq
      obtain ⟨j, hj, rfl⟩ := List.getElem_of_mem hq
      exact ⟨bs l[j], (h2 _).2 ⟨j, by simpa using hj, hget j hj⟩, ba_bs _⟩
theorem once_facts (l : List ByteArray) : Rising (compT (sortT l)) ∧ ∀ q, q ∈ compT (sortT l) ↔ q ∈ l := by
  obtain ⟨h1, h2⟩ := compT_facts (sortT_le l)
  exact ⟨h1, fun q => (h2 q).trans mem_sortT⟩

end Go.Proofs.Ytifolddmcibkdaa.Ks
