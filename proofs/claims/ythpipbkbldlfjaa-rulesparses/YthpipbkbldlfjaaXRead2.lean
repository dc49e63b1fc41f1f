/-
  WORDS AS A READER MEETS THEM. No program here.
-/
import Derived.Test.YthpipbkbldlfjaaZRd
namespace Go.Proofs.Ythpipbkbldlfjaa.Lx
variable {s : ByteArray} {k j : Nat}

/-- from k to j there are bare bytes alone -/
def Bares (s : ByteArray) (k j : Nat) : Prop := ∃ X, ln s k = X ++ ln s j ∧ X.map B.c = ((bs s).take j).drop k ∧ ∀ b ∈ X, bare b.c = true
theorem Bares.start (s : ByteArray) (k : Nat) : Bares s k k := ⟨[], rfl, by rw [List.drop_of_length_le (by rw [List.length_take]; omega)]; rfl, fun _ h => by cases h⟩
theorem ln_bare (h : j < s.size) (hb : bare s[j] = true) : ln s j = ⟨s[j], false, j⟩ :: ln s (j + 1) ∧ bh s j = bh s (j + 1) := by
  have := not_bare hb
  exact ln_one h (not_join (h := h) this.2.2.2.2.2.2) this.2.2.2.2.1
theorem Bares.more (h : Bares s k j) (hkj : k ≤ j) (hj : j < s.size) (hb : bare s[j] = true) : Bares s k (j + 1) := by
  obtain ⟨X, h1, h2, h3⟩ := h
  refine ⟨X ++ [⟨s[j], false, j⟩], ?_, ?_, ?_⟩
  · rw [h1, (ln_bare hj hb).1]; simp
  · rw [List.map_append, h2, take_byte s j hj, List.drop_append_of_le_length (by rw [List.length_take, bs_length]; omega)]
    rfl
  · intro b hm
    rcases List.mem_append.1 hm with h | h
    · exact h3 b h
    · rw [List.mem_singleton] at h
      rw [h]; exact hb
theorem ln_stop (h : Ends s j ∨ ∃ h : j < s.size, bare s[j] = false) : (ln s j).takeWhile (fun x => bare x.c) = [] ∧ (ln s j).dropWhile (fun x => bare x.c) = ln s j := by
  by_cases he : Ends s j
  · rw [(ln_end he).1]; exact ⟨rfl, rfl⟩
  · obtain ⟨hj, hb⟩ := h.resolve_left he
    by_cases hJ : Join s j
    · rw [(ln_join hJ).1, List.takeWhile_cons, List.dropWhile_cons]
      exact ⟨rfl, rfl⟩
    · rw [(ln_one hj hJ (fun e => he (.inr ⟨hj, e⟩))).1, List.takeWhile_cons, List.dropWhile_cons]
      simp only [hb, Bool.false_eq_true, if_false]
      exact ⟨trivial, trivial⟩
theorem Bares.ends (h : Bares s k j) (hkj : k < j) (hj : j ≤ s.size) (hb : bare (s[k]'(by omega)) = true) (hst : Ends s j ∨ ∃ h : j < s.size, bare s[j] = false) :
    rd (ln s k) = (rd (ln s j)).map id (⟨((bs s).take j).drop k, k, false, false⟩ :: ·) := by
  obtain ⟨X, h1, h2, h3⟩ := h
  obtain ⟨t1, t2⟩ := ln_stop hst
  have hk := (ln_bare (by omega) hb).1
  cases X with
  | nil =>
    have := congrArg List.length h2
    simp only [List.map_nil, List.length_nil, List.length_drop, List.length_take, bs_length] at this
    omega
  | cons b r =>
    rw [h1, List.cons_append] at hk
    have hat : b.at_ = k := by
      have := (List.cons.inj hk).1
      rw [this]
    have hbb := h3 b (List.mem_cons_self ..)
    have hr : ∀ x ∈ r, (fun x : B Nat => bare x.c) x = true := fun x hx => h3 x (List.mem_cons_of_mem _ hx)
    rw [h1, List.cons_append, rd_bare hbb, List.takeWhile_append_of_pos hr, List.dropWhile_append_of_pos hr, t1, t2, List.append_nil, hat]
    rw [← h2, List.map_cons]

theorem quo_end (h : Ends s k) (acc : List UInt8) : quo (ln s k) acc = .ok none := by rw [(ln_end h).1]; rfl
theorem quo_34 (h : k < s.size) (hx : s[k] = 34) (acc : List UInt8) : quo (ln s k) acc = .ok (some (acc, ln s (k + 1))) ∧ bh s k = bh s (k + 1) := by
  obtain ⟨e1, e2⟩ := ln_one h (not_join (h := h) (by rw [hx]; decide)) (by rw [hx]; decide)
  refine ⟨?_, e2⟩
  rw [e1, quo, if_pos hx]
theorem quo_other (h : k < s.size) (h10 : s[k] ≠ 10) (h34 : s[k] ≠ 34) (h92 : s[k] ≠ 92) (acc : List UInt8) : quo (ln s k) acc = quo (ln s (k + 1)) (acc ++ [s[k]]) ∧ bh s k = bh s (k + 1) := by
  obtain ⟨e1, e2⟩ := ln_one h (not_join (h := h) h92) h10
  refine ⟨?_, e2⟩
  rw [e1, quo, if_neg h34, if_pos h92]
theorem quo_esc (h : k < s.size) (hx : s[k] = 92) (acc : List UInt8) : match escAt s k with
    | some c => k + 2 ≤ s.size ∧ quo (ln s k) acc = quo (ln s (k + 2)) (acc ++ [c]) ∧ bh s k = bh s (k + 2)
    | none => quo (ln s k) acc = .bad k := by
  unfold escAt
  by_cases h1 : k + 1 < s.size
  · rw [dif_pos h1]
    by_cases h10 : s[k + 1] = 10
    · have hJ : Join s k := ⟨h1, hx, h10⟩
      rw [if_neg (fun ⟨_, e, _⟩ => by rw [h10] at e; exact absurd e (by decide)), if_pos h10]
      obtain ⟨e1, e2⟩ := ln_join hJ
      refine ⟨by omega, ?_, e2⟩
      rw [e1, quo, if_neg (by show ¬ (32 : UInt8) = 34; decide), if_pos (by show (32 : UInt8) ≠ 92; decide)]
    · have hJ : ¬ Join s k := fun ⟨_, _, e⟩ => h10 e
      obtain ⟨e1, e2⟩ := ln_one h hJ (by rw [hx]; decide)
      have q1 : quo (ln s k) acc = quo.qesc k (ln s (k + 1)) acc := by
        rw [e1, quo, if_neg (by show ¬ s[k] = 34; rw [hx]; decide), if_neg (by show ¬ s[k] ≠ 92; rw [hx]; decide)]
      by_cases hJ2 : Join s (k + 1)
      · rw [if_pos hJ2]
        show _ = _
        rw [q1, (ln_join hJ2).1, quo.qesc, if_pos rfl]
      · rw [if_neg hJ2, if_neg h10]
        obtain ⟨e3, e4⟩ := ln_one h1 hJ2 h10
        rw [q1, e3, quo.qesc, if_neg (by simp)]
        show match esc s[k + 1] with
          | some c => k + 2 ≤ s.size ∧ (match esc s[k + 1] with
            | some x => quo (ln s (k + 1 + 1)) (acc ++ [x])
            | none => R.bad k) = quo (ln s (k + 2)) (acc ++ [c]) ∧ bh s k = bh s (k + 2)
          | none => (match esc s[k + 1] with
            | some x => quo (ln s (k + 1 + 1)) (acc ++ [x])
            | none => R.bad k) = .bad k
        cases esc s[k + 1] with
        | none => rfl
        | some c => exact ⟨by omega, rfl, e2.trans e4⟩
  · rw [dif_neg h1]
    have hJ : ¬ Join s k := fun ⟨e, _⟩ => h1 e
    show _ = _
    rw [(ln_one h hJ (by rw [hx]; decide)).1, quo, if_neg (by show ¬ s[k] = 34; rw [hx]; decide), if_neg (by show ¬ s[k] ≠ 92; rw [hx]; decide), (ln_end (.inl (by omega))).1]
    rfl

end Go.Proofs.Ythpipbkbldlfjaa.Lx
