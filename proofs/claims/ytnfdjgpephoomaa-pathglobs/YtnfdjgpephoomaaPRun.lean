/-
  GLOBS READ IN ONE PASS, with the last star of each kind to go back to: what holds wherever such a reading stands. No program here.
-/
import Derived.Test.YtnfdjgpephoomaaPBack
namespace Go.Proofs.Ytnfdjgpephoomaa.Pm

/-- parts that stand for one byte each -/
def Plain (M : List Tok) : Prop := ∀ t ∈ M, t ≠ .any1 ∧ t ≠ .any2
theorem Plain.deep {M : List Tok} (h : Plain M) : NoDeep M := fun t ht => (h t ht).2
theorem plain_len : ∀ (M : List Tok) (a : B), Plain M → Fits M a → a.length = M.length := by
  intro M
  induction M with
  | nil => intro a _ h; simp only [Fits] at h; subst h; rfl
  | cons t r ih =>
    intro a hp h
    obtain ⟨x, y, rfl, hx, hy⟩ := h
    have hr := ih y (fun u hu => hp u (by simp [hu])) hy
    have ht := hp t (by simp)
    have hx1 : x.length = 1 := by
      cases t with
      | any2 => exact absurd rfl ht.2
      | any1 => exact absurd rfl ht.1
      | one => obtain ⟨c, rfl, -⟩ := hx; rfl
      | lit c => simp only [stands] at hx; subst hx; rfl
    simp only [List.length_append, List.length_cons]
    omega

/-- the slashes from one place to another -/
def cnt (s : B) (i j : Nat) : Nat := ((s.drop i).take (j - i)).count 47
/-- parts that fit what lies between two places -/
def Run (A : List Tok) (s : B) (i j : Nat) : Prop := i ≤ j ∧ j ≤ s.length ∧ Fits A ((s.drop i).take (j - i))
theorem mid_append (s : B) {i j k : Nat} (h1 : i ≤ j) (h2 : j ≤ k) : (s.drop i).take (k - i) = (s.drop i).take (j - i) ++ (s.drop j).take (k - j) := by
  rw [show k - i = (j - i) + (k - j) by omega, List.take_add, List.drop_drop, show i + (j - i) = j by omega]
theorem cnt_add (s : B) {i j k : Nat} (h1 : i ≤ j) (h2 : j ≤ k) : cnt s i k = cnt s i j + cnt s j k := by
  unfold cnt
  rw [mid_append s h1 h2, List.count_append]
theorem cnt_self (s : B) (i : Nat) : cnt s i i = 0 := by simp [cnt]
theorem cnt_one (s : B) (i : Nat) (h : i < s.length) : cnt s i (i + 1) = if s[i] = 47 then 1 else 0 := by
  unfold cnt
  rw [show i + 1 - i = 1 by omega, List.drop_eq_getElem_cons h, List.take_succ_cons, List.take_zero, List.count_singleton]
  by_cases h47 : s[i] = 47 <;> simp [h47]
theorem Run.count {A : List Tok} {s : B} {i j : Nat} (hn : NoDeep A) (h : Run A s i j) : cnt s i j = slashes A := fits_slashes A _ hn h.2.2
theorem Run.plain {A : List Tok} {s : B} {i j : Nat} (hn : Plain A) (h : Run A s i j) : j = i + A.length := by
  have := plain_len A _ hn h.2.2
  rw [List.length_take, List.length_drop] at this
  have h1 := h.1
  have h2 := h.2.1
  omega
theorem Run.append {A C : List Tok} {s : B} {i j k : Nat} (h1 : Run A s i j) (h2 : Run C s j k) : Run (A ++ C) s i k := by
  refine ⟨Nat.le_trans h1.1 h2.1, h2.2.1, ?_⟩
  rw [mid_append s h1.1 h2.1]
  exact (fits_append _ _ _).2 ⟨_, _, rfl, h1.2.2, h2.2.2⟩
theorem Run.nil (s : B) {i : Nat} (h : i ≤ s.length) : Run [] s i i := ⟨Nat.le_refl _, h, by simp [Fits]⟩
theorem fits_run {A C : List Tok} {s : B} {i : Nat} (hi : i ≤ s.length) : Fits (A ++ C) (s.drop i) ↔ ∃ j, Run A s i j ∧ Fits C (s.drop j) := by
  rw [fits_reach]
  constructor
  · rintro ⟨k, ⟨hk, ha⟩, hc⟩
    rw [List.length_drop] at hk
    refine ⟨i + k, ⟨by omega, by omega, by rw [show i + k - i = k by omega]; exact ha⟩, ?_⟩
    rwa [List.drop_drop] at hc
  · rintro ⟨j, ⟨h1, h2, h3⟩, hc⟩
    refine ⟨j - i, ⟨by rw [List.length_drop]; omega, h3⟩, ?_⟩
    rw [List.drop_drop, show i + (j - i) = j by omega]
    exact hc
theorem run_any1 {s : B} {i j : Nat} (h1 : i ≤ j) (h2 : j ≤ s.length) : Run [.any1] s i j ↔ cnt s i j = 0 := by
  unfold cnt
  rw [List.count_eq_zero]
  constructor
  · rintro ⟨-, -, a, b, e, ha, hb⟩
    simp only [Fits] at hb
    subst hb
    rw [List.append_nil] at e
    rw [e]
    exact ha
  · intro h
    exact ⟨h1, h2, _, [], (List.append_nil _).symm, h, rfl⟩
theorem run_any2 {s : B} {i j : Nat} (h1 : i ≤ j) (h2 : j ≤ s.length) : Run [.any2] s i j := ⟨h1, h2, _, [], (List.append_nil _).symm, trivial, rfl⟩
theorem any1_iff {T : List Tok} {s : B} {i : Nat} (hi : i ≤ s.length) : Fits (.any1 :: T) (s.drop i) ↔ ∃ y, i ≤ y ∧ y ≤ s.length ∧ cnt s i y = 0 ∧ Fits T (s.drop y) := by
  rw [show (.any1 :: T : List Tok) = [.any1] ++ T from rfl, fits_run hi]
  exact ⟨fun ⟨j, h, hf⟩ => ⟨j, h.1, h.2.1, (run_any1 h.1 h.2.1).1 h, hf⟩, fun ⟨y, h1, h2, h3, h4⟩ => ⟨y, (run_any1 h1 h2).2 h3, h4⟩⟩
theorem any2_iff {T : List Tok} {s : B} {i : Nat} (hi : i ≤ s.length) : Fits (.any2 :: T) (s.drop i) ↔ ∃ y, i ≤ y ∧ y ≤ s.length ∧ Fits T (s.drop y) := by
  rw [show (.any2 :: T : List Tok) = [.any2] ++ T from rfl, fits_run hi]
  exact ⟨fun ⟨j, h, hf⟩ => ⟨j, h.1, h.2.1, hf⟩, fun ⟨y, h1, h2, h4⟩ => ⟨y, run_any2 h1 h2, h4⟩⟩

/-- what is left of a glob fits what is left of a text -/
def FF (p s : B) (g i : Nat) : Prop := Fits (toks (p.drop g)) (s.drop i)
/-- a reading: at g in the glob p and at i in the text s; the last star og, run up to oi (none: 0), the last two stars tg, run up to ti (none: 0) -/
structure GI (p s : B) (g i og oi tg ti : Nat) : Prop where
  gl : g ≤ p.length
  il : i ≤ s.length
  ol : og ≤ g
  tl : tg ≤ g
  le : og ≠ 0 → tg ≤ og
  start : og = 0 → tg = 0 → (Fits (toks p) s ↔ FF p s g i)
  oneM : og ≠ 0 → ∃ M, Plain M ∧ toks (p.drop og) = M ++ toks (p.drop g) ∧ Run M s oi i
  oneG : og ≠ 0 → tg = 0 → (Fits (toks p) s ↔ Fits (.any1 :: toks (p.drop og)) (s.drop oi))
  twoG : tg ≠ 0 → (Fits (toks p) s ↔ Fits (.any2 :: toks (p.drop tg)) (s.drop ti))
  twoM : tg ≠ 0 → og = 0 → ∃ M, Plain M ∧ toks (p.drop tg) = M ++ toks (p.drop g) ∧ Run M s ti i
  both : tg ≠ 0 → og ≠ 0 → ∃ A, NoDeep A ∧ toks (p.drop tg) = A ++ [.any1] ++ toks (p.drop og) ∧ Run (A ++ [.any1]) s ti oi
  here : tg ≠ 0 → og ≠ 0 → ∀ t, ti ≤ t → t ≤ s.length → cnt s ti t = 0 → FF p s tg t → Fits (.any1 :: toks (p.drop og)) (s.drop oi)

variable {p s : B} {g i og oi tg ti : Nat}
theorem GI.zero (p s : B) : GI p s 0 0 0 0 0 0 where
  gl := Nat.zero_le _
  il := Nat.zero_le _
  ol := Nat.le_refl _
  tl := Nat.le_refl _
  le := fun h => absurd rfl h
  start := fun _ _ => by simp [FF]
  oneM := fun h => absurd rfl h
  oneG := fun h => absurd rfl h
  twoG := fun h => absurd rfl h
  twoM := fun h => absurd rfl h
  both := fun h => absurd rfl h
  here := fun h => absurd rfl h
theorem GI.oiL (h : GI p s g i og oi tg ti) (h1 : og ≠ 0) : oi ≤ i := by
  obtain ⟨M, -, -, hr⟩ := h.oneM h1
  exact hr.1
theorem GI.tt (h : GI p s g i og oi tg ti) (h1 : tg ≠ 0) (h2 : og ≠ 0) : ti ≤ oi := by
  obtain ⟨M, -, -, hr⟩ := h.both h1 h2
  exact hr.1
theorem GI.tiL (h : GI p s g i og oi tg ti) (h1 : tg ≠ 0) : ti ≤ i := by
  by_cases h2 : og = 0
  · obtain ⟨M, -, -, hr⟩ := h.twoM h1 h2
    exact hr.1
  · exact Nat.le_trans (h.tt h1 h2) (h.oiL h2)
theorem run_fits {A C : List Tok} {i j : Nat} (h : Run A s i j) (hc : Fits C (s.drop j)) : Fits (A ++ C) (s.drop i) := (fits_run (Nat.le_trans h.1 h.2.1)).2 ⟨j, h, hc⟩
/-- what fits from here on, fits in all -/
theorem GI.back (h : GI p s g i og oi tg ti) (hf : FF p s g i) : Fits (toks p) s := by
  by_cases h1 : og = 0
  · by_cases h2 : tg = 0
    · exact (h.start h1 h2).2 hf
    · obtain ⟨M, -, e, hr⟩ := h.twoM h2 h1
      rw [h.twoG h2, any2_iff (Nat.le_trans hr.1 h.il)]
      exact ⟨ti, Nat.le_refl _, Nat.le_trans hr.1 h.il, by rw [e]; exact run_fits hr hf⟩
  · obtain ⟨M, -, e, hr⟩ := h.oneM h1
    have hone : Fits (toks (p.drop og)) (s.drop oi) := by rw [e]; exact run_fits hr hf
    by_cases h2 : tg = 0
    · rw [h.oneG h1 h2, any1_iff (Nat.le_trans hr.1 h.il)]
      exact ⟨oi, Nat.le_refl _, Nat.le_trans hr.1 h.il, cnt_self _ _, hone⟩
    · obtain ⟨A, -, e2, hr2⟩ := h.both h2 h1
      have hti := Nat.le_trans (h.tiL h2) h.il
      rw [h.twoG h2, any2_iff hti]
      exact ⟨ti, Nat.le_refl _, hti, by rw [e2]; exact run_fits hr2 hone⟩
/-- from the last star on: behind where the reading stands, and no slash between -/
theorem GI.ahead1 (h : GI p s g i og oi tg ti) (h1 : og ≠ 0) (hf : Fits (.any1 :: toks (p.drop og)) (s.drop oi)) : ∃ z, i ≤ z ∧ z ≤ s.length ∧ cnt s i z = 0 ∧ FF p s g z := by
  obtain ⟨M, hp, e, hr⟩ := h.oneM h1
  rw [any1_iff (Nat.le_trans hr.1 h.il)] at hf
  obtain ⟨y, y1, y2, y3, hy⟩ := hf
  rw [e, fits_run y2] at hy
  obtain ⟨z, hz, hfz⟩ := hy
  have e1 := hr.plain hp
  have e2 := hz.plain hp
  refine ⟨z, by omega, hz.2.1, ?_, hfz⟩
  have c1 := hr.count hp.deep
  have c2 := hz.count hp.deep
  have c3 := cnt_add s y1 hz.1
  have c4 := cnt_add s hr.1 (show i ≤ z by omega)
  omega
theorem GI.ahead2 (h : GI p s g i og oi tg ti) (h1 : tg ≠ 0) (h2 : og = 0) {t : Nat} (t1 : ti ≤ t) (t2 : t ≤ s.length) (hf : FF p s tg t) : ∃ z, i ≤ z ∧ z ≤ s.length ∧ cnt s i z = cnt s ti t ∧ FF p s g z := by
  obtain ⟨M, hp, e, hr⟩ := h.twoM h1 h2
  unfold FF at hf
  rw [e, fits_run t2] at hf
  obtain ⟨z, hz, hfz⟩ := hf
  have e1 := hr.plain hp
  have e2 := hz.plain hp
  refine ⟨z, by omega, hz.2.1, ?_, hfz⟩
  have c1 := hr.count hp.deep
  have c2 := hz.count hp.deep
  have c3 := cnt_add s t1 hz.1
  have c4 := cnt_add s hr.1 (show i ≤ z by omega)
  omega
theorem GI.ahead3 (h : GI p s g i og oi tg ti) (h1 : tg ≠ 0) (h2 : og ≠ 0) {t : Nat} (t1 : ti ≤ t) (t2 : t ≤ s.length) (hc : cnt s ti t ≠ 0) (hf : FF p s tg t) : ∃ z, i ≤ z ∧ z ≤ s.length ∧ FF p s g z := by
  obtain ⟨M, hp, e, hr⟩ := h.oneM h2
  obtain ⟨A, hA, e2, hr2⟩ := h.both h1 h2
  have hB : NoDeep (A ++ [.any1] ++ M) := by
    intro u hu
    rcases List.mem_append.1 hu with hu | hu
    · rcases List.mem_append.1 hu with hu | hu
      · exact hA u hu
      · rw [List.mem_singleton.1 hu]; exact Tok.noConfusion
    · exact hp.deep u hu
  have hR := hr2.append hr
  unfold FF at hf
  rw [e2, e, ← List.append_assoc, fits_run t2] at hf
  obtain ⟨z, hz, hfz⟩ := hf
  refine ⟨z, ?_, hz.2.1, hfz⟩
  have c1 := hR.count hB
  have c2 := hz.count hB
  apply Decidable.byContradiction
  intro hn
  have c3 := cnt_add s t1 hz.1
  have c4 := cnt_add s (Nat.le_trans t1 hz.1) (show z ≤ i by omega)
  omega
/-- what fits in all, fits what is left of the glob here or behind -/
theorem GI.ahead (h : GI p s g i og oi tg ti) (hf : Fits (toks p) s) : ∃ z, i ≤ z ∧ z ≤ s.length ∧ FF p s g z := by
  by_cases h2 : tg = 0
  · by_cases h1 : og = 0
    · exact ⟨i, Nat.le_refl _, h.il, (h.start h1 h2).1 hf⟩
    · obtain ⟨z, a, b, -, c⟩ := h.ahead1 h1 ((h.oneG h1 h2).1 hf)
      exact ⟨z, a, b, c⟩
  · rw [h.twoG h2, any2_iff (Nat.le_trans (h.tiL h2) h.il)] at hf
    obtain ⟨t, t1, t2, hf⟩ := hf
    by_cases h1 : og = 0
    · obtain ⟨z, a, b, -, c⟩ := h.ahead2 h2 h1 t1 t2 hf
      exact ⟨z, a, b, c⟩
    · by_cases hc : cnt s ti t = 0
      · obtain ⟨z, a, b, -, c⟩ := h.ahead1 h1 (h.here h2 h1 t t1 t2 hc hf)
        exact ⟨z, a, b, c⟩
      · exact h.ahead3 h2 h1 t1 t2 hc hf

/-- two stars -/
theorem GI.star2 (h : GI p s g i og oi tg ti) (e : toks (p.drop g) = .any2 :: toks (p.drop (g + 2))) (hg : g + 2 ≤ p.length) : GI p s (g + 2) i 0 0 (g + 2) i where
  gl := hg
  il := h.il
  ol := Nat.zero_le _
  tl := Nat.le_refl _
  le := fun h => absurd rfl h
  start := fun _ h => absurd h (by omega)
  oneM := fun h => absurd rfl h
  oneG := fun h => absurd rfl h
  twoG := fun _ => by
    rw [← e]
    constructor
    · intro hf
      obtain ⟨z, z1, z2, hz⟩ := h.ahead hf
      unfold FF at hz
      rw [e] at hz ⊢
      exact any2_back z1 hz
    · exact h.back
  twoM := fun _ _ => ⟨[], fun _ h => absurd h (by simp), rfl, Run.nil s h.il⟩
  both := fun _ h => absurd rfl h
  here := fun _ h => absurd rfl h
theorem any1_back' {T : List Tok} {i z : Nat} (h1 : i ≤ z) (h2 : z ≤ s.length) (hc : cnt s i z = 0) (h : Fits (.any1 :: T) (s.drop z)) : Fits (.any1 :: T) (s.drop i) := by
  rw [any1_iff h2] at h
  obtain ⟨y, y1, y2, y3, hy⟩ := h
  rw [any1_iff (Nat.le_trans h1 h2)]
  exact ⟨y, Nat.le_trans h1 y1, y2, by rw [cnt_add s h1 y1, hc, y3], hy⟩
/-- one star -/
theorem GI.star1 (h : GI p s g i og oi tg ti) (e : toks (p.drop g) = .any1 :: toks (p.drop (g + 1))) (hg : g + 1 ≤ p.length) : GI p s (g + 1) i (g + 1) i tg ti where
  gl := hg
  il := h.il
  ol := Nat.le_refl _
  tl := Nat.le_trans h.tl (Nat.le_succ _)
  le := fun _ => Nat.le_trans h.tl (Nat.le_succ _)
  start := fun h => absurd h (by omega)
  oneM := fun _ => ⟨[], fun _ h => absurd h (by simp), rfl, Run.nil s h.il⟩
  oneG := fun _ h2 => by
    rw [← e]
    constructor
    · intro hf
      by_cases h1 : og = 0
      · exact (h.start h1 h2).1 hf
      · obtain ⟨z, z1, z2, z3, hz⟩ := h.ahead1 h1 ((h.oneG h1 h2).1 hf)
        unfold FF at hz
        rw [e] at hz ⊢
        exact any1_back' z1 z2 z3 hz
    · exact h.back
  twoG := h.twoG
  twoM := fun _ h => absurd h (by omega)
  both := fun h2 _ => by
    by_cases h1 : og = 0
    · obtain ⟨M, hp, e2, hr⟩ := h.twoM h2 h1
      refine ⟨M, hp.deep, by rw [e2, e]; simp, hr.append ((run_any1 (Nat.le_refl _) h.il).2 (cnt_self _ _))⟩
    · obtain ⟨M, hp, e2, hr⟩ := h.oneM h1
      obtain ⟨A, hA, e3, hr3⟩ := h.both h2 h1
      refine ⟨A ++ [.any1] ++ M, ?_, by rw [e3, e2, e]; simp, (hr3.append hr).append ((run_any1 (Nat.le_refl _) h.il).2 (cnt_self _ _))⟩
      intro u hu
      rcases List.mem_append.1 hu with hu | hu
      · rcases List.mem_append.1 hu with hu | hu
        · exact hA u hu
        · rw [List.mem_singleton.1 hu]; exact Tok.noConfusion
      · exact hp.deep u hu
  here := fun h2 _ t t1 t2 hc hf => by
    rw [← e]
    by_cases h1 : og = 0
    · obtain ⟨z, z1, z2, z3, hz⟩ := h.ahead2 h2 h1 t1 t2 hf
      unfold FF at hz
      rw [e] at hz ⊢
      exact any1_back' z1 z2 (by rw [z3]; exact hc) hz
    · obtain ⟨z, z1, z2, z3, hz⟩ := h.ahead1 h1 (h.here h2 h1 t t1 t2 hc hf)
      unfold FF at hz
      rw [e] at hz ⊢
      exact any1_back' z1 z2 z3 hz
/-- a byte that fits -/
theorem GI.byte (h : GI p s g i og oi tg ti) {x : Tok} (hx : x ≠ .any1 ∧ x ≠ .any2) (e : toks (p.drop g) = x :: toks (p.drop (g + 1))) (hg : g + 1 ≤ p.length) (hi : i + 1 ≤ s.length) (hr : Run [x] s i (i + 1)) : GI p s (g + 1) (i + 1) og oi tg ti where
  gl := hg
  il := hi
  ol := Nat.le_trans h.ol (Nat.le_succ _)
  tl := Nat.le_trans h.tl (Nat.le_succ _)
  le := h.le
  start := fun h1 h2 => by
    rw [h.start h1 h2]
    unfold FF
    constructor
    · intro hf
      rw [e, show (x :: toks (p.drop (g + 1)) : List Tok) = [x] ++ toks (p.drop (g + 1)) from rfl, fits_run h.il] at hf
      obtain ⟨j, hj, hf⟩ := hf
      have := hj.plain (fun u hu => by rw [List.mem_singleton.1 hu]; exact hx)
      rw [this] at hf
      exact hf
    · intro hf
      rw [e]
      exact run_fits hr hf
  oneM := fun h1 => by
    obtain ⟨M, hp, e2, hr2⟩ := h.oneM h1
    refine ⟨M ++ [x], ?_, by rw [e2, e]; simp, hr2.append hr⟩
    intro u hu
    rcases List.mem_append.1 hu with hu | hu
    · exact hp u hu
    · rw [List.mem_singleton.1 hu]; exact hx
  oneG := h.oneG
  twoG := h.twoG
  twoM := fun h1 h2 => by
    obtain ⟨M, hp, e2, hr2⟩ := h.twoM h1 h2
    refine ⟨M ++ [x], ?_, by rw [e2, e]; simp, hr2.append hr⟩
    intro u hu
    rcases List.mem_append.1 hu with hu | hu
    · exact hp u hu
    · rw [List.mem_singleton.1 hu]; exact hx
  both := h.both
  here := h.here
theorem GI.stop1 (h : GI p s g i og oi tg ti) (h1 : og ≠ 0) (hf : ¬ FF p s g i) : ¬ FF p s og oi := by
  intro hf2
  obtain ⟨M, hp, e, hr⟩ := h.oneM h1
  unfold FF at hf2
  rw [e, fits_run (Nat.le_trans hr.1 h.il)] at hf2
  obtain ⟨j, hj, hf2⟩ := hf2
  rw [hj.plain hp, ← hr.plain hp] at hf2
  exact hf hf2
theorem GI.stop2 (h : GI p s g i og oi tg ti) (h1 : tg ≠ 0) (h2 : og = 0) (hf : ¬ FF p s g i) : ¬ FF p s tg ti := by
  intro hf2
  obtain ⟨M, hp, e, hr⟩ := h.twoM h1 h2
  unfold FF at hf2
  rw [e, fits_run (Nat.le_trans hr.1 h.il)] at hf2
  obtain ⟨j, hj, hf2⟩ := hf2
  rw [hj.plain hp, ← hr.plain hp] at hf2
  exact hf hf2
theorem any1_on {T : List Tok} (hi : oi + 1 ≤ s.length) (hs : s[oi]'(by omega) ≠ 47) (hf : ¬ Fits T (s.drop oi)) : Fits (.any1 :: T) (s.drop oi) ↔ Fits (.any1 :: T) (s.drop (oi + 1)) := by
  have c1 : cnt s oi (oi + 1) = 0 := by rw [cnt_one s oi (by omega), if_neg hs]
  constructor
  · intro h
    rw [any1_iff (by omega)] at h
    obtain ⟨y, y1, y2, y3, hy⟩ := h
    have hne : y ≠ oi := fun e => hf (by rw [← e]; exact hy)
    rw [any1_iff hi]
    have := cnt_add s (show oi ≤ oi + 1 by omega) (show oi + 1 ≤ y by omega)
    exact ⟨y, by omega, y2, by omega, hy⟩
  · exact any1_back' (by omega) hi c1
/-- the last star runs on -/
theorem GI.on1 (h : GI p s g i og oi tg ti) (h1 : og ≠ 0) (hf : ¬ FF p s g i) (hi : i < s.length) (hs : s[oi]'(Nat.lt_of_le_of_lt (h.oiL h1) hi) ≠ 47) : GI p s og (oi + 1) og (oi + 1) tg ti := by
  have h0 := h.oiL h1
  have hT := any1_on (T := toks (p.drop og)) (show oi + 1 ≤ s.length by omega) hs (h.stop1 h1 hf)
  refine ⟨Nat.le_trans h.ol h.gl, by omega, Nat.le_refl _, h.le h1, h.le, fun e => absurd e h1, fun _ => ⟨[], fun _ h => absurd h (by simp), rfl, Run.nil s (by omega)⟩, fun _ h2 => by rw [h.oneG h1 h2, hT], h.twoG, fun _ e => absurd e h1, fun h2 _ => ?_, fun h2 _ t t1 t2 hc hff => hT.1 (h.here h2 h1 t t1 t2 hc hff)⟩
  · obtain ⟨A, hA, e, hr⟩ := h.both h2 h1
    refine ⟨A, hA, e, Nat.le_trans hr.1 (Nat.le_succ _), by omega, ?_⟩
    have hr2 : Run [.any1] s oi (oi + 1) := (run_any1 (by omega) (by omega)).2 (by rw [cnt_one s oi (by omega), if_neg hs])
    have := (hr.append hr2).2.2
    rw [List.append_assoc, fits_append] at this
    obtain ⟨a, b, e1, ha, c, d, e2, hc, u, v, e3, hu, hv⟩ := this
    simp only [Fits] at hv
    subst hv
    rw [e1, fits_append]
    refine ⟨a, b, rfl, ha, b, [], (List.append_nil _).symm, ?_, rfl⟩
    rw [e2, e3, List.append_nil]
    simp only [stands] at hc hu ⊢
    intro hm
    rcases List.mem_append.1 hm with hm | hm
    · exact hc hm
    · exact hu hm
theorem any1_held {T : List Tok} (hi : oi < s.length) (hs : s[oi] = 47) (hf : ¬ Fits T (s.drop oi)) : ¬ Fits (.any1 :: T) (s.drop oi) := by
  rw [any1_iff (by omega)]
  rintro ⟨y, y1, y2, y3, hy⟩
  by_cases e : y = oi
  · exact hf (by rw [← e]; exact hy)
  · have c1 := cnt_add s (show oi ≤ oi + 1 by omega) (show oi + 1 ≤ y by omega)
    rw [cnt_one s oi hi, if_pos hs] at c1
    omega
/-- no star is left to go back to -/
theorem GI.dead (h : GI p s g i og oi tg ti) (h2 : tg = 0) (hf : ¬ FF p s g i) (hi : i < s.length) (hs : ∀ h1 : og ≠ 0, s[oi]'(Nat.lt_of_le_of_lt (h.oiL h1) hi) = 47) : ¬ Fits (toks p) s := by
  by_cases h1 : og = 0
  · rw [h.start h1 h2]; exact hf
  · rw [h.oneG h1 h2]
    exact any1_held _ (hs h1) (h.stop1 h1 hf)
/-- a place of the two stars, from which on nothing is lost -/
theorem GI.anew (h : GI p s g i og oi tg ti) (h2 : tg ≠ 0) {t' : Nat} (h3 : t' ≤ s.length) (hG : Fits (toks p) s ↔ Fits (.any2 :: toks (p.drop tg)) (s.drop t')) : GI p s tg t' 0 0 tg t' where
  gl := Nat.le_trans h.tl h.gl
  il := h3
  ol := Nat.zero_le _
  tl := Nat.le_refl _
  le := fun h => absurd rfl h
  start := fun _ h => absurd h h2
  oneM := fun h => absurd rfl h
  oneG := fun h => absurd rfl h
  twoG := fun _ => hG
  twoM := fun _ _ => ⟨[], fun _ h => absurd h (by simp), rfl, Run.nil s h3⟩
  both := fun _ h => absurd rfl h
  here := fun _ h => absurd rfl h
/-- the two stars run on -/
theorem GI.on2 (h : GI p s g i og oi tg ti) (h2 : tg ≠ 0) (h1 : og = 0) (hf : ¬ FF p s g i) (hi : i < s.length) : GI p s tg (ti + 1) 0 0 tg (ti + 1) := by
  have h0 := h.tiL h2
  refine h.anew h2 (by omega) ?_
  rw [h.twoG h2]
  constructor
  · rw [any2_iff (by omega), any2_iff (by omega)]
    rintro ⟨y, y1, y2, hy⟩
    have hne : y ≠ ti := fun e => h.stop2 h2 h1 hf (by rw [← e]; exact hy)
    exact ⟨y, by omega, y2, hy⟩
  · exact any2_back (by omega)
/-- the two stars run past the next slash -/
theorem GI.skip (h : GI p s g i og oi tg ti) (h2 : tg ≠ 0) (h1 : og ≠ 0) (hf : ¬ FF p s g i) (hi : i < s.length) (hs : s[oi]'(Nat.lt_of_le_of_lt (h.oiL h1) hi) = 47) {k : Nat} (hk : ti + k + 1 ≤ s.length) (hc : cnt s ti (ti + k) = 0) : GI p s tg (ti + k + 1) 0 0 tg (ti + k + 1) := by
  have h0 := h.tiL h2
  refine h.anew h2 hk ?_
  rw [h.twoG h2]
  constructor
  · rw [any2_iff (by omega), any2_iff hk]
    rintro ⟨y, y1, y2, hy⟩
    refine ⟨y, ?_, y2, hy⟩
    apply Decidable.byContradiction
    intro hn
    have c1 := cnt_add s y1 (show y ≤ ti + k by omega)
    exact any1_held _ hs (h.stop1 h1 hf) (h.here h2 h1 y y1 y2 (by omega) hy)
  · exact any2_back (by omega)
/-- at the text's end -/
theorem GI.fin (h : GI p s g i og oi tg ti) (hi : i = s.length) : Fits (toks p) s ↔ FF p s g i := by
  constructor
  · intro hf
    obtain ⟨z, z1, z2, hz⟩ := h.ahead hf
    have : z = i := by omega
    rwa [this] at hz
  · exact h.back
end Go.Proofs.Ytnfdjgpephoomaa.Pm
