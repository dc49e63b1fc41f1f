/-
  TREES AS THEY MAY BE: what calls keep. No program here.
-/
import Derived.Test.YtifolddmcibkdaaTMath
namespace Go.Proofs.Ytifolddmcibkdaa.Tm
open Ks

/-- rising by path -/
def Rise (l : List Fl) : Prop := l.Pairwise fun a b => kl a.path b.path = true

theorem split_at {l : List Fl} {p : ByteArray} (hr : Rise l) : ∃ A B, l = A ++ B ∧ A.length = place l p ∧ (∀ f ∈ A, kl f.path p = true) ∧ (∀ f ∈ B, kl f.path p = false) ∧ Rise A ∧ Rise B ∧ (∀ f ∈ A, ∀ h ∈ B, kl f.path h.path = true) := by
  induction l with
  | nil => exact ⟨[], [], rfl, rfl, by simp, by simp, List.Pairwise.nil, List.Pairwise.nil, by simp⟩
  | cons x r ih =>
    obtain ⟨h1, h2⟩ := List.pairwise_cons.1 hr
    cases hx : kl x.path p with
    | true =>
      obtain ⟨A, B, e, hl, ha, hb, ra, rb, hab⟩ := ih h2
      refine ⟨x :: A, B, by rw [e]; rfl, ?_, ?_, hb, List.pairwise_cons.2 ⟨fun y hy => h1 y (by rw [e]; exact List.mem_append_left _ hy), ra⟩, rb, ?_⟩
      · unfold place at hl ⊢
        rw [List.takeWhile_cons_of_pos (by exact hx), List.length_cons, List.length_cons, hl]
      · intro f hf
        rcases List.mem_cons.1 hf with rfl | hf
        · exact hx
        · exact ha f hf
      · intro f hf h hh
        rcases List.mem_cons.1 hf with rfl | hf
        · exact h1 h (by rw [e]; exact List.mem_append_right _ hh)
        · exact hab f hf h hh
    | false =>
      refine ⟨[], x :: r, rfl, ?_, by simp, ?_, List.Pairwise.nil, hr, by simp⟩
      · unfold place
        rw [List.takeWhile_cons_of_neg (by rw [hx]; simp)]
      · intro f hf
        rcases List.mem_cons.1 hf with rfl | hf
        · exact hx
        · cases hfp : kl f.path p with
          | false => rfl
          | true => rw [kl_trans (h1 f hf) hfp] at hx; cases hx

/-- where the path is not -/
theorem split_no {l : List Fl} {p : ByteArray} (hr : Rise l) (h : isIn l p = false) : ∃ A B, l = A ++ B ∧ A.length = place l p ∧ (∀ f ∈ A, kl f.path p = true) ∧ (∀ f ∈ B, kl p f.path = true) ∧ Rise A ∧ Rise B ∧ (∀ f ∈ A, ∀ h ∈ B, kl f.path h.path = true) := by
  obtain ⟨A, B, e, hl, ha, hb, ra, rb, hab⟩ := split_at (p := p) hr
  refine ⟨A, B, e, hl, ha, ?_, ra, rb, hab⟩
  cases B with
  | nil => simp
  | cons y r =>
    have hy : y.path ≠ p := by
      intro e2
      have : isIn l p = true := by
        unfold isIn
        rw [← hl, e]
        simp [List.getD, e2]
      rw [this] at h; cases h
    have h1 := kl_total (hb y (by simp)) hy
    intro f hf
    rcases List.mem_cons.1 hf with rfl | hf
    · exact h1
    · exact kl_trans h1 ((List.pairwise_cons.1 rb).1 f hf)
/-- where it is -/
theorem split_yes {l : List Fl} {p : ByteArray} (hr : Rise l) (h : isIn l p = true) : ∃ A x B, l = A ++ x :: B ∧ A.length = place l p ∧ x.path = p ∧ (∀ f ∈ A, kl f.path p = true) ∧ (∀ f ∈ B, kl p f.path = true) ∧ Rise A ∧ Rise B ∧ (∀ f ∈ A, ∀ h ∈ B, kl f.path h.path = true) := by
  obtain ⟨A, B, e, hl, ha, hb, ra, rb, hab⟩ := split_at (p := p) hr
  unfold isIn at h
  simp only [Bool.and_eq_true, decide_eq_true_eq] at h
  obtain ⟨h1, h2⟩ := h
  cases B with
  | nil => rw [← hl, e] at h1; simp at h1
  | cons y r =>
    have hy : y.path = p := by
      rw [← hl, e] at h2
      simpa [List.getD] using h2
    refine ⟨A, y, r, e, hl, hy, ha, fun f hf => ?_, ra, (List.pairwise_cons.1 rb).2, fun f hf h hh => hab f hf h (by simp [hh])⟩
    rw [← hy]
    exact (List.pairwise_cons.1 rb).1 f hf

theorem kl_ne {a b : ByteArray} (h : kl a b = true) : a ≠ b := by
  rintro rfl
  rw [kl_irrefl] at h; cases h

/-- files with one more: what they are -/
theorem put_facts {l : List Fl} (hr : Rise l) (p s : ByteArray) : Rise (put l p s) ∧ (∀ f, f ∈ put l p s ↔ f = ⟨p, s⟩ ∨ (f ∈ l ∧ f.path ≠ p)) ∧ (put l p s).length = (if isIn l p = true then l.length else l.length + 1) := by
  cases h : isIn l p with
  | false =>
    obtain ⟨A, B, e, hl, ha, hb, ra, rb, hab⟩ := split_no hr h
    have hp : put l p s = A ++ ⟨p, s⟩ :: B := by
      unfold put
      rw [h, ← hl]
      simp [e]
    rw [hp]
    refine ⟨?_, fun f => ?_, by simp [e]; omega⟩
    · refine List.pairwise_append.2 ⟨ra, List.pairwise_cons.2 ⟨fun y hy => hb y hy, rb⟩, fun x hx y hy => ?_⟩
      rcases List.mem_cons.1 hy with rfl | hy
      · exact ha x hx
      · exact hab x hx y hy
    · rw [e, List.mem_append, List.mem_cons, List.mem_append]
      constructor
      · rintro (h | h | h)
        · exact .inr ⟨.inl h, kl_ne (ha f h)⟩
        · exact .inl h
        · exact .inr ⟨.inr h, (kl_ne (hb f h)).symm⟩
      · rintro (h | ⟨h | h, -⟩)
        · exact .inr (.inl h)
        · exact .inl h
        · exact .inr (.inr h)
  | true =>
    obtain ⟨A, x, B, e, hl, hx, ha, hb, ra, rb, hab⟩ := split_yes hr h
    have hp : put l p s = A ++ ⟨p, s⟩ :: B := by
      unfold put
      rw [h, ← hl]
      simp [e]
    rw [hp]
    refine ⟨?_, fun f => ?_, by simp [e]⟩
    · refine List.pairwise_append.2 ⟨ra, List.pairwise_cons.2 ⟨fun y hy => hb y hy, rb⟩, fun x hx y hy => ?_⟩
      rcases List.mem_cons.1 hy with rfl | hy
      · exact ha x hx
      · exact hab x hx y hy
    · rw [e, List.mem_append, List.mem_cons, List.mem_append, List.mem_cons]
      constructor
      · rintro (h | h | h)
        · exact .inr ⟨.inl h, kl_ne (ha f h)⟩
        · exact .inl h
        · exact .inr ⟨.inr (.inr h), (kl_ne (hb f h)).symm⟩
      · rintro (h | ⟨h | rfl | h, h2⟩)
        · exact .inr (.inl h)
        · exact .inl h
        · exact absurd hx h2
        · exact .inr (.inr h)
theorem cut_facts {l : List Fl} (hr : Rise l) {p : ByteArray} (h : isIn l p = true) : Rise (cut l p) ∧ (∀ f, f ∈ cut l p ↔ f ∈ l ∧ f.path ≠ p) ∧ (cut l p).length + 1 = l.length := by
  obtain ⟨A, x, B, e, hl, hx, ha, hb, ra, rb, hab⟩ := split_yes hr h
  have hp : cut l p = A ++ B := by
    unfold cut
    rw [← hl]
    simp [e]
  rw [hp]
  refine ⟨List.pairwise_append.2 ⟨ra, rb, hab⟩, fun f => ?_, by simp [e]; omega⟩
  rw [e, List.mem_append, List.mem_append, List.mem_cons]
  constructor
  · rintro (h | h)
    · exact ⟨.inl h, kl_ne (ha f h)⟩
    · exact ⟨.inr (.inr h), (kl_ne (hb f h)).symm⟩
  · rintro ⟨h | rfl | h, h2⟩
    · exact .inl h
    · exact absurd hx h2
    · exact .inr h
/-- is it there: by the files alone -/
theorem isIn_iff {l : List Fl} (hr : Rise l) (p : ByteArray) : isIn l p = true ↔ ∃ s, (⟨p, s⟩ : Fl) ∈ l := by
  constructor
  · intro h
    obtain ⟨A, x, B, e, -, hx, -⟩ := split_yes hr h
    subst hx
    exact ⟨x.text, by rw [e]; simp⟩
  · rintro ⟨s, hs⟩
    cases h : isIn l p with
    | true => rfl
    | false =>
      obtain ⟨A, B, e, -, ha, hb, -⟩ := split_no hr h
      rw [e, List.mem_append] at hs
      rcases hs with hs | hs
      · exact absurd rfl (kl_ne (ha _ hs))
      · exact absurd rfl (kl_ne (hb _ hs))
theorem text_of {l : List Fl} (hr : Rise l) {p s : ByteArray} (h : (⟨p, s⟩ : Fl) ∈ l) : (l.getD (place l p) noFl).text = s := by
  obtain ⟨A, x, B, e, hl, hx, ha, hb, -⟩ := split_yes hr ((isIn_iff hr p).2 ⟨s, h⟩)
  rw [← hl]
  rw [e, List.mem_append, List.mem_cons] at h
  have hxs : x = ⟨p, s⟩ := by
    rcases h with h | h | h
    · exact absurd rfl (kl_ne (ha _ h))
    · exact h.symm
    · exact absurd rfl (kl_ne (hb _ h))
  rw [e, hxs]
  simp [List.getD]
theorem read_yes {t : T} (hr : Rise t.files) {p s : ByteArray} (hp : isPath p = true) (h : (⟨p, s⟩ : Fl) ∈ t.files) : read t p = (s, 0) := by
  unfold read
  rw [if_neg (by rw [hp]; simp), if_pos ((isIn_iff hr p).2 ⟨s, h⟩), text_of hr h]
theorem read_no {t : T} (hr : Rise t.files) {p : ByteArray} (hp : isPath p = true) (h : ∀ s, (⟨p, s⟩ : Fl) ∉ t.files) : read t p = (.empty, 4) := by
  unfold read
  rw [if_neg (by rw [hp]; simp), if_neg]
  intro h2
  obtain ⟨s, hs⟩ := (isIn_iff hr p).1 h2
  exact h s hs

/-- a tree as it may be: rising, of paths, within the limits -/
structure Ok (t : T) : Prop where
  rise : Rise t.files
  path : ∀ f ∈ t.files, isPath f.path = true ∧ f.text.size ≤ 4096
  few : t.files.length ≤ 256
  chs : t.chs.length ≤ 10000000

theorem Ok.zero : Ok T.zero := ⟨List.Pairwise.nil, by simp [T.zero], by simp [T.zero], by simp [T.zero]⟩
/-- what a Write answers, and leaves -/
theorem write_cases (t : T) (p s : ByteArray) : (isPath p = false ∧ write t p s = (2, t)) ∨ (isPath p = true ∧ 4096 < s.size ∧ write t p s = (3, t)) ∨
    (isPath p = true ∧ s.size ≤ 4096 ∧ isIn t.files p = true ∧ (t.files.getD (place t.files p) noFl).text = s ∧ write t p s = (0, t)) ∨
    (isPath p = true ∧ s.size ≤ 4096 ∧ isIn t.files p = false ∧ t.files.length = 256 ∧ write t p s = (8, t)) ∨
    (isPath p = true ∧ s.size ≤ 4096 ∧ (isIn t.files p = true → (t.files.getD (place t.files p) noFl).text ≠ s) ∧ (isIn t.files p = false → t.files.length ≠ 256) ∧ write t p s = (0, ⟨put t.files p s, t.chs ++ [p]⟩)) := by
  unfold write
  by_cases h1 : isPath p = false
  · exact .inl ⟨h1, by rw [if_pos h1]⟩
  rw [if_neg h1]
  have h1' : isPath p = true := by simpa using h1
  by_cases h2 : 4096 < s.size
  · exact .inr (.inl ⟨h1', h2, by rw [if_pos h2]⟩)
  rw [if_neg h2]
  by_cases h3 : isIn t.files p = true ∧ (t.files.getD (place t.files p) noFl).text = s
  · exact .inr (.inr (.inl ⟨h1', by omega, h3.1, h3.2, by rw [if_pos h3]⟩))
  rw [if_neg h3]
  by_cases h4 : isIn t.files p = false ∧ t.files.length = 256
  · exact .inr (.inr (.inr (.inl ⟨h1', by omega, h4.1, h4.2, by rw [if_pos h4]⟩)))
  rw [if_neg h4]
  exact .inr (.inr (.inr (.inr ⟨h1', by omega, fun h e => h3 ⟨h, e⟩, fun h e => h4 ⟨h, e⟩, rfl⟩)))
theorem Ok.write {t : T} (h : Ok t) (hc : t.chs.length < 10000000) (p s : ByteArray) : Ok (write t p s).2 := by
  rcases write_cases t p s with ⟨-, e⟩ | ⟨-, -, e⟩ | ⟨-, -, -, -, e⟩ | ⟨-, -, -, -, e⟩ | ⟨hp, hs, h1, h2, e⟩ <;> rw [e]
  · exact h
  · exact h
  · exact h
  · exact h
  · obtain ⟨f1, f2, f3⟩ := put_facts h.rise p s
    refine ⟨f1, fun f hf => ?_, ?_, by simp; omega⟩
    · rcases (f2 f).1 hf with rfl | ⟨hf, -⟩
      · exact ⟨hp, hs⟩
      · exact h.path f hf
    · show (put t.files p s).length ≤ 256
      rw [f3]
      have := h.few
      cases hi : isIn t.files p with
      | true => simpa using this
      | false => have := h2 hi; simp; omega
theorem Ok.remove {t : T} (h : Ok t) (hc : t.chs.length < 10000000) (p : ByteArray) : Ok (remove t p).2 := by
  unfold Tm.remove
  split
  · rename_i hz
    have hi : isIn t.files p = true := by
      unfold read at hz
      split at hz
      · cases hz
      · split at hz
        · rename_i h2; exact h2
        · cases hz
    obtain ⟨f1, f2, f3⟩ := cut_facts h.rise hi
    have := h.few
    exact ⟨f1, fun f hf => h.path f ((f2 f).1 hf).1, by show (cut t.files p).length ≤ 256; omega, by simp; omega⟩
  · exact h
theorem chs_write (t : T) (p s : ByteArray) : (write t p s).2.chs.length ≤ t.chs.length + 1 := by
  rcases write_cases t p s with ⟨-, e⟩ | ⟨-, -, e⟩ | ⟨-, -, -, -, e⟩ | ⟨-, -, -, -, e⟩ | ⟨-, -, -, -, e⟩ <;> rw [e] <;> simp
theorem chs_remove (t : T) (p : ByteArray) : (remove t p).2.chs.length ≤ t.chs.length + 1 := by
  unfold remove
  split <;> simp

end Go.Proofs.Ytifolddmcibkdaa.Tm
