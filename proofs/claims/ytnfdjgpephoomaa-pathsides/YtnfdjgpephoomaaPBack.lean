/-
  GLOBS AND THE PLACES TO GO BACK TO: which of them may be forgotten. No program here.
-/
import Derived.Test.YtnfdjgpephoomaaPGlob
namespace Go.Proofs.Ytnfdjgpephoomaa.Pm

/-- how many slashes parts ask for -/
def slashes : List Tok → Nat
  | [] => 0
  | .lit c :: r => (if c = 47 then 1 else 0) + slashes r
  | _ :: r => slashes r
/-- none of them stands for any run of bytes -/
def NoDeep (T : List Tok) : Prop := ∀ t ∈ T, t ≠ .any2

theorem fits_slashes : ∀ (T : List Tok) (a : B), NoDeep T → Fits T a → a.count 47 = slashes T := by
  intro T
  induction T with
  | nil => intro a _ h; simp only [Fits] at h; subst h; rfl
  | cons t r ih =>
    intro a hn h
    obtain ⟨x, y, rfl, hx, hy⟩ := h
    have hr := ih y (fun u hu => hn u (by simp [hu])) hy
    rw [List.count_append, hr]
    cases t with
    | any2 => exact absurd rfl (hn .any2 (by simp))
    | any1 => simp only [stands] at hx; simp only [slashes]; rw [List.count_eq_zero.2 hx]; omega
    | one =>
      simp only [stands] at hx
      obtain ⟨c, rfl, hc⟩ := hx
      simp only [slashes]
      rw [List.count_singleton]
      simp [hc]
    | lit c =>
      simp only [stands] at hx
      subst hx
      simp only [slashes]
      rw [List.count_singleton]
      by_cases h : c = 47
      · simp [h]
      · simp [h]

theorem any2_back {T : List Tok} {u : B} {i j : Nat} (hij : i ≤ j) (h : Fits (.any2 :: T) (u.drop j)) : Fits (.any2 :: T) (u.drop i) := by
  obtain ⟨a, b, e, -, hb⟩ := h
  refine ⟨(u.drop i).take (j - i) ++ a, b, ?_, trivial, hb⟩
  rw [List.append_assoc, ← e]
  have : u.drop j = (u.drop i).drop (j - i) := by rw [List.drop_drop]; congr 1; omega
  rw [this, List.take_append_drop]
theorem any1_back {T : List Tok} {u : B} {i j : Nat} (hij : i ≤ j) (hs : (47 : UInt8) ∉ (u.drop i).take (j - i)) (h : Fits (.any1 :: T) (u.drop j)) : Fits (.any1 :: T) (u.drop i) := by
  obtain ⟨a, b, e, ha, hb⟩ := h
  refine ⟨(u.drop i).take (j - i) ++ a, b, ?_, ?_, hb⟩
  · rw [List.append_assoc, ← e]
    have : u.drop j = (u.drop i).drop (j - i) := by rw [List.drop_drop]; congr 1; omega
    rw [this, List.take_append_drop]
  · simp only [stands] at ha ⊢
    intro hm
    rcases List.mem_append.1 hm with hm | hm
    · exact hs hm
    · exact ha hm

/-- parts that fit beginnings of a text -/
def Reach (T : List Tok) (u : B) (i : Nat) : Prop := i ≤ u.length ∧ Fits T (u.take i)
theorem fits_reach (A C : List Tok) (u : B) : Fits (A ++ C) u ↔ ∃ i, Reach A u i ∧ Fits C (u.drop i) := by
  rw [fits_append]
  constructor
  · rintro ⟨a, b, rfl, ha, hb⟩
    refine ⟨a.length, ⟨by simp, by rw [List.take_left]; exact ha⟩, by rw [List.drop_left]; exact hb⟩
  · rintro ⟨i, ⟨hi, ha⟩, hb⟩
    exact ⟨u.take i, u.drop i, (List.take_append_drop i u).symm, ha, hb⟩
/-- between two beginnings that parts fit, none of them deep, there is no slash -/
theorem reach_slash {A : List Tok} {u : B} {i j : Nat} (hn : NoDeep A) (hi : Reach A u i) (hj : Reach A u j) (hij : i ≤ j) : (47 : UInt8) ∉ (u.drop i).take (j - i) := by
  have h1 := fits_slashes A _ hn hi.2
  have h2 := fits_slashes A _ hn hj.2
  have e : u.take j = u.take i ++ (u.drop i).take (j - i) := by
    rw [← List.take_add]
    congr 1
    omega
  rw [e, List.count_append] at h2
  exact List.count_eq_zero.1 (by omega)
/-- behind a star the first place alone counts: of those ahead of it none need be kept -/
theorem first_any2 {A T : List Tok} {u : B} {i : Nat} (hi : Reach A u i) (hmin : ∀ j, Reach A u j → i ≤ j) : Fits (A ++ .any2 :: T) u ↔ Fits (.any2 :: T) (u.drop i) := by
  rw [fits_reach]
  exact ⟨fun ⟨j, hj, h⟩ => any2_back (hmin j hj) h, fun h => ⟨i, hi, h⟩⟩
theorem first_any1 {A T : List Tok} {u : B} {i : Nat} (hn : NoDeep A) (hi : Reach A u i) (hmin : ∀ j, Reach A u j → i ≤ j) : Fits (A ++ .any1 :: T) u ↔ Fits (.any1 :: T) (u.drop i) := by
  rw [fits_reach]
  exact ⟨fun ⟨j, hj, h⟩ => any1_back (hmin j hj) (reach_slash hn hi hj (hmin j hj)) h, fun h => ⟨i, hi, h⟩⟩
theorem no_reach {A C : List Tok} {u : B} (h : ∀ j, ¬ Reach A u j) : ¬ Fits (A ++ C) u := by
  rw [fits_reach]
  rintro ⟨i, hi, -⟩
  exact h i hi
/-- a star: none, or one byte more -/
theorem any2_step (T : List Tok) (u : B) : Fits (.any2 :: T) u ↔ Fits T u ∨ ∃ c r, u = c :: r ∧ Fits (.any2 :: T) r := by
  constructor
  · rintro ⟨a, b, rfl, -, hb⟩
    cases a with
    | nil => exact .inl hb
    | cons c a => exact .inr ⟨c, a ++ b, rfl, a, b, rfl, trivial, hb⟩
  · rintro (h | ⟨c, r, rfl, a, b, rfl, -, hb⟩)
    · exact ⟨[], u, rfl, trivial, h⟩
    · exact ⟨c :: a, b, rfl, trivial, hb⟩
theorem any1_step (T : List Tok) (u : B) : Fits (.any1 :: T) u ↔ Fits T u ∨ ∃ c r, u = c :: r ∧ c ≠ 47 ∧ Fits (.any1 :: T) r := by
  constructor
  · rintro ⟨a, b, rfl, ha, hb⟩
    cases a with
    | nil => exact .inl hb
    | cons c a =>
      simp only [stands] at ha
      exact .inr ⟨c, a ++ b, rfl, fun e => ha (by simp [e]), a, b, rfl, fun h => ha (by simp [h]), hb⟩
  · rintro (h | ⟨c, r, rfl, hc, a, b, rfl, ha, hb⟩)
    · exact ⟨[], u, rfl, by simp [stands], h⟩
    · refine ⟨c :: a, b, rfl, ?_, hb⟩
      simp only [stands] at ha ⊢
      intro hm
      rcases List.mem_cons.1 hm with e | e
      · exact hc e.symm
      · exact ha e
theorem lit_step (x : UInt8) (T : List Tok) (u : B) : Fits (.lit x :: T) u ↔ ∃ r, u = x :: r ∧ Fits T r := by
  constructor
  · rintro ⟨a, b, rfl, ha, hb⟩
    simp only [stands] at ha
    subst ha
    exact ⟨b, rfl, hb⟩
  · rintro ⟨r, rfl, h⟩
    exact ⟨[x], r, rfl, rfl, h⟩
theorem one_step (T : List Tok) (u : B) : Fits (.one :: T) u ↔ ∃ c r, u = c :: r ∧ c ≠ 47 ∧ Fits T r := by
  constructor
  · rintro ⟨a, b, rfl, ha, hb⟩
    simp only [stands] at ha
    obtain ⟨c, rfl, hc⟩ := ha
    exact ⟨c, b, rfl, hc, hb⟩
  · rintro ⟨c, r, rfl, hc, h⟩
    exact ⟨[c], r, rfl, ⟨c, rfl, hc⟩, h⟩

end Go.Proofs.Ytnfdjgpephoomaa.Pm
