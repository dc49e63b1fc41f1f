/-
  WHERE A TEXT GOES WRONG IS IN THE TEXT. No program here.
-/
import Derived.Test.YthpipbkbldlfjaaXMath
namespace Go.Proofs.Ythpipbkbldlfjaa.Lx
variable {α : Type}

theorem quo_bad : ∀ (n : Nat) (l : List (B α)) (acc : List UInt8) (a : α), l.length ≤ n → quo l acc = .bad a → ∃ b ∈ l, b.at_ = a := by
  intro n
  induction n with
  | zero =>
    intro l acc a hl h
    have : l = [] := List.eq_nil_of_length_eq_zero (by omega)
    subst this
    simp [quo] at h
  | succ n ih =>
    intro l acc a hl h
    cases l with
    | nil => simp [quo] at h
    | cons b t =>
      rw [quo] at h
      simp only [List.length_cons] at hl
      split at h
      · cases h
      · split at h
        · obtain ⟨x, hx, e⟩ := ih t _ a (by omega) h
          exact ⟨x, List.mem_cons_of_mem _ hx, e⟩
        · cases t with
          | nil =>
            simp only [quo.qesc, R.bad.injEq] at h
            exact ⟨b, List.mem_cons_self .., h⟩
          | cons e t' =>
            rw [quo.qesc] at h
            split at h
            · simp only [R.bad.injEq] at h
              exact ⟨b, List.mem_cons_self .., h⟩
            · split at h
              · simp only [List.length_cons] at hl
                obtain ⟨x, hx, e'⟩ := ih t' _ a (by omega) h
                exact ⟨x, List.mem_cons_of_mem _ (List.mem_cons_of_mem _ hx), e'⟩
              · simp only [R.bad.injEq] at h
                exact ⟨b, List.mem_cons_self .., h⟩
theorem map_bad {β γ : Type} {r : R α β} {f : β → γ} {a : α} (h : r.map id f = .bad a) : r = .bad a := by
  cases r with
  | bad x => simpa [R.map] using h
  | ok y => cases h
theorem rd_bad_at : ∀ (n : Nat) (l : List (B Nat)) (a : Nat), l.length ≤ n → rd l = .bad a → ∃ b ∈ l, b.at_ = a := by
  intro n
  induction n with
  | zero =>
    intro l a hl h
    have : l = [] := List.eq_nil_of_length_eq_zero (by omega)
    subst this
    rw [rd] at h; cases h
  | succ n ih =>
    intro l a hl h
    cases l with
    | nil => rw [rd] at h; cases h
    | cons b r =>
      simp only [List.length_cons] at hl
      by_cases h35 : b.c = 35
      · rw [rd_hash h35] at h; cases h
      by_cases h32 : b.c = 32
      · rw [rd_blank h32] at h
        obtain ⟨x, hx, e⟩ := ih r a (by omega) h
        exact ⟨x, List.mem_cons_of_mem _ hx, e⟩
      by_cases hm : b.c = 58 ∨ b.c = 61
      · rw [rd_mark hm] at h
        obtain ⟨x, hx, e⟩ := ih r a (by omega) (map_bad h)
        exact ⟨x, List.mem_cons_of_mem _ hx, e⟩
      by_cases h34 : b.c = 34
      · rw [rd_quote h34] at h
        cases hq : quo r [] with
        | bad y =>
          rw [hq] at h
          simp only [afterQ, R.bad.injEq] at h
          obtain ⟨x, hx, e⟩ := quo_bad _ r [] y (Nat.le_refl _) hq
          exact ⟨x, List.mem_cons_of_mem _ hx, e.trans h⟩
        | ok o =>
          cases o with
          | none =>
            rw [hq] at h
            simp only [afterQ, R.bad.injEq] at h
            exact ⟨b, List.mem_cons_self .., h⟩
          | some sr =>
            obtain ⟨s, r'⟩ := sr
            rw [hq] at h
            simp only [afterQ] at h
            obtain ⟨x0, hx0⟩ := quo_rest _ r [] s r' (Nat.le_refl _) hq
            have hl' := quo_len _ r [] s r' (Nat.le_refl _) hq
            obtain ⟨x, hx, e⟩ := ih r' a (by omega) (map_bad h)
            exact ⟨x, List.mem_cons_of_mem _ (by rw [hx0]; exact List.mem_append_right _ hx), e⟩
      cases hb : bare b.c with
      | false =>
        rw [rd_bad h35 h32 hm h34 hb] at h
        simp only [R.bad.injEq] at h
        exact ⟨b, List.mem_cons_self .., h⟩
      | true =>
        rw [rd_bare hb] at h
        have hs := List.dropWhile_sublist (fun x : B Nat => bare x.c) (l := r)
        have hl' := hs.length_le
        obtain ⟨x, hx, e⟩ := ih _ a (by omega) (map_bad h)
        exact ⟨x, List.mem_cons_of_mem _ (hs.subset hx), e⟩
theorem lns_bad_at : ∀ (n : Nat) (l : List (B Nat)) (a : Nat), l.length ≤ n → lns l = .bad a → ∃ b ∈ l, b.at_ = a := by
  intro n
  induction n with
  | zero =>
    intro l a hl h
    have : l = [] := List.eq_nil_of_length_eq_zero (by omega)
    subst this
    rw [lns] at h; cases h
  | succ n ih =>
    intro l a hl h
    cases l with
    | nil => rw [lns] at h; cases h
    | cons b r =>
      rw [lns] at h
      have hs1 := List.takeWhile_sublist (fun x : B Nat => x.c != 10) (l := b :: r)
      have hs2 := (List.drop_sublist 1 ((b :: r).dropWhile fun x => x.c != 10)).trans (List.dropWhile_sublist (fun x : B Nat => x.c != 10) (l := b :: r))
      have hlen : (((b :: r).dropWhile fun x => x.c != 10).drop 1).length ≤ r.length := by
        have := (List.dropWhile_sublist (fun x : B Nat => x.c != 10) (l := b :: r)).length_le
        rw [List.length_drop]
        simp only [List.length_cons] at this
        omega
      simp only [List.length_cons] at hl
      cases hli : line ((b :: r).takeWhile fun x => x.c != 10) with
      | bad y =>
        rw [hli] at h
        simp only [R.andThen, R.bad.injEq] at h
        subst h
        have : ∃ z ∈ ((b :: r).takeWhile fun x => x.c != 10), z.at_ = y := by
          generalize (b :: r).takeWhile (fun x => x.c != 10) = L at hli
          cases L with
          | nil => cases hli
          | cons c q =>
            rw [line] at hli
            split at hli
            · obtain ⟨x, hx, e⟩ := rd_bad_at _ q y (Nat.le_refl _) (map_bad hli)
              exact ⟨x, List.mem_cons_of_mem _ hx, e⟩
            · exact rd_bad_at _ (c :: q) y (Nat.le_refl _) (map_bad hli)
        obtain ⟨z, hz, e⟩ := this
        exact ⟨z, hs1.subset hz, e⟩
      | ok iw =>
        obtain ⟨i, ws⟩ := iw
        rw [hli] at h
        simp only [R.andThen] at h
        obtain ⟨x, hx, e⟩ := ih _ a (by omega) (map_bad h)
        exact ⟨x, hs2.subset hx, e⟩
/-- where a text goes wrong is in the text -/
theorem lex_bad_lt {t : List UInt8} {a : Nat} (h : lex t = .bad a) : a < t.length := by
  obtain ⟨b, hb, e⟩ := lns_bad_at _ _ a (Nat.le_refl _) h
  have hs := seg_bytes _ [] t (Nat.le_refl _)
  rw [List.nil_append] at hs
  have := (Seg.ats _ hs b hb).2
  omega

end Go.Proofs.Ythpipbkbldlfjaa.Lx
