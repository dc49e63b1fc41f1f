/-
  TREES AS THEY MAY BE: what calls keep. No program here.
-/
import Derived.Test.YtifolddmcibkdaaTMath
namespace Go.Proofs.Ytifolddmcibkdaa.Tm
open Ks

/-- rising by path -/
def Rise (l : List Fl) : Prop := l.Pairwise fun a b => kl a.path b.path = true

theorem split_at {l : List Fl} {p : ByteArray} (hr : Rise l) : ∃ A B, l = A ++ B ∧ A.length = place l p ∧ (∀ f ∈ A, kl f.path p = true) ∧ (∀ f ∈ B, kl f.path p = false) ∧ Rise A ∧ Rise B ∧ (∀ f ∈ A, ∀ h ∈ B, kl f.path h.path = true) := by
  induction l with
  | nil => exact ⟨[], [], rfl, rfl, by simp, by simp, List.Pairwise.nil, List.Pairwise.nil, by simp⟩
  | cons x r ih =>
    obtain ⟨h1, h2⟩ := List.pairwise_cons.1 hr
    cases hx : kl x.path p with
    | true =>
      obtain ⟨A, B, e, hl, ha, hb, ra, rb, hab⟩ := ih h2
      refine ⟨x :: A, B, by rw [e]; rfl, ?_, ?_, hb, List.pairwise_cons.2 ⟨fun y hy => h1 y (by rw [e]; exact List.mem_append_left _ hy), ra⟩, rb, ?_⟩
      · unfold place at hl ⊢
        rw [List.takeWhile_cons_of_pos (by exact hx), List.length_cons, List.length_cons, hl]
      · intro f hf
        rcases List.mem_cons.1 hf with rfl | hf
        · exact hx
        · exact ha f hf
      · intro f hf h hh
        rcases List.mem_cons.1 hf with rfl | hf
        · exact h1 h (by rw [e]; exact List.mem_append_right _ hh)
        · exact hab f hf h hh
    | false =>
      refine ⟨[], x :: r, rfl, ?_, by simp, ?_, List.Pairwise.nil, hr, by simp⟩
      · unfold place
        rw [List.takeWhile_cons_of_neg (by rw [hx]; simp)]
      · intro f hf
        rcases List.mem_cons.1 hf with rfl | hf
        · exact hx
        · cases hfp : kl f.path p with
          | false => rfl
          | true => rw [kl_trans (h1 f hf) hfp] at hx; cases hx

/-- where the path is not -/
theorem split_no {l : List Fl} {p : ByteArray} (hr : Rise l) (h : isIn l p = false) : ∃ A B, l = A ++ B ∧ A.length = place l p ∧ (∀ f ∈ A, kl f.path p = true) ∧ (∀ f ∈ B, kl p f.path = true) ∧ Rise A ∧ Rise B ∧ (∀ f ∈ A, ∀ h ∈ B, kl f.path h.path = true) := by
  obtain ⟨A, B, e, hl, ha, hb, ra, rb, hab⟩ := split_at (p := p) hr
  refine ⟨A, B, e, hl, ha, ?_, ra, rb, hab⟩
  cases B with
  | nil => simp
  | cons y r =>
    have hy : y.path ≠ p := by
      intro e2
      have : isIn l p = true := by
        unfold isIn
        rw [← hl, e]
        simp [List.getD, e2]
      rw [this] at h; cases h
    have h1 := kl_total (hb y (by simp)) hy
    intro f hf
    rcases List.mem_cons.1 hf with rfl | hf
    · exact h1
    · exact kl_trans h1 ((List.pairwise_cons.1 rb).1 f hf)
/-- where it is -/
theorem split_yes {l : List Fl} {p : ByteArray} (hr : Rise l) (h : isIn l p = true) : ∃ A x B, l = A ++ x :: B ∧ A.length = place l p ∧ x.path = p ∧ (∀ f ∈ A, kl f.path p = true) ∧ (∀ f ∈ B, kl p f.path = true) ∧ Rise A ∧ Rise B ∧ (∀ f ∈ A, ∀ h ∈ B, kl f.path h.path = true) := by
  obtain ⟨A, B, e, hl, ha, hb, ra, rb, hab⟩ := split_at (p := p) hr
  unfold isIn at h
  simp only [Bool.and_eq_true, decide_eq_true_eq] at h
  obtain ⟨h1, h2⟩ := h
  cases B with
  | nil => rw [← hl, e] at h1; simp at h1
  | cons y r =>
    have hy : y.path = p := by
      rw [← hl, e] at h2
      simpa [List.getD] using h2
    refine ⟨A, y, r, e, hl, hy, ha, fun f hf => ?_, ra, (List.pairwise_cons.1 rb).2, fun f hf h hh => hab f hf h (by simp [hh])⟩
    rw [← hy]
    exact (List.pairwise_cons.1 rb).1 f hf

theorem kl_ne {a b : ByteArray} (h : kl a b = true) : a ≠ b := by
  rintro rfl
  rw [kl_irrefl] at h; cases h

/-- files with one more: what they are -/
theorem put_facts {l : List Fl} (hr : Rise l) (p s : ByteArray) : Rise (put l p s) ∧ (∀ f, f ∈ put l p s ↔ f = ⟨p, s⟩ ∨ (f ∈ l ∧ f.path ≠ p)) ∧ (put l p s).length = (if isIn l p = true then l.length else l.length + 1) := by
  cases h : isIn l p with
  | false =>
    obtain ⟨A, B, e, hl, ha, hb, ra, rb, hab⟩ := split_no hr h
    have hp : put l p s = A ++ ⟨p, s⟩ :: B := by
      unfold put
      rw [h, ← hl]
      simp [e]
    rw [hp]
    refine ⟨?_, fun f => ?_, by simp [e]; omega⟩
    · refine List.pairwise_append.2 ⟨ra, List.pairwise_cons.2 ⟨fun y hy => hb y hy, rb⟩, fun x hx y hy => ?_⟩
      rcases List.mem_cons.1 hy with rfl | hy
      · exact ha x hx
      · exact hab x hx y hy
    · rw [e, List.mem_append, List.mem_cons, List.mem_append]
      constructor
      · rintro (h | h | h)
        · exact .inr ⟨.inl h, kl_ne (ha f h)⟩
        · exact .inl h
        · exact .inr ⟨.inr h, (kl_ne (hb f h)).symm⟩
      · rintro (h | ⟨h | h, -⟩)
        · exact .inr (.inl h)
        · exact .inl h
        · exact .inr (.inr h)
  | true =>
    obtain ⟨A, x, B, e, hl, hx, ha, hb, ra, rb, hab⟩ := split_yes hr h
    have hp : put l p s = A ++ ⟨p, s⟩ :: B := by
      unfold put
      rw [h, ← hl]
      simp [e]
    rw [hp]
    refine ⟨?_, fun f => ?_, by simp [e]⟩
    · refine List.pairwise_append.2 ⟨ra, List.pairwise_cons.2 ⟨fun y hy => hb y hy, rb⟩, fun x hx y hy => ?_⟩
      rcases List.mem_cons.1 hy with rfl | hy
      · exact ha x hx
      · exact hab x hx y hy
    · rw [e, List.mem_append, List.mem_cons, List.mem_append, List.mem_cons]
      constructor
      · rintro (h | h | h)
        · exact .inr ⟨.inl h, kl_ne (ha f h)⟩
        · exact .inl h
        · exact .inr ⟨.inr (.inr h), (kl_ne (hb f h)).symm⟩
      · rintro (h | ⟨h | rfl | h, h2⟩)
        · exact .inr (.inl h)
        · exact .inl h
        · exact absurd hx h2
        · exact .inr (.inr h)
theorem cut_facts {l : List Fl} (hr : Rise l) {p : ByteArray} (h : isIn l p = true) : Rise (cut l p) ∧ (∀ f, f ∈ cut l p ↔ f ∈ l ∧ f.path ≠ p) ∧ (cut l p).length + 1 = l.length := by
  obtain ⟨A, x, B, e, hl, hx, ha, hb, ra, rb, hab⟩ := split_yes hr h
  have hp : cut l p = A ++ B := by
    unfold cut
    rw [← hl]
    simp [e]
  rw [hp]
  refine ⟨List.pairwise_append.2 ⟨ra, rb, hab⟩, fun f => ?_, by simp [e]; omega⟩
  rw [e, List.mem_append, List.mem_append, List.mem_cons]
  constructor
  · rintro (h | h)
    · exact ⟨.inl h, kl_ne (ha f h)⟩
    · exact ⟨.inr (.inr h), (kl_ne (hb f h)).symm⟩
  · rintro ⟨h | rfl | h, h2⟩
    · exact .inl h
    · exact absurd hx h2
    · exact .inr h
/-- is it there: by the files alone -/
theorem isIn_iff {l : List Fl} (hr : Rise l) (p : ByteArray) : isIn l p = true ↔ ∃ s, (⟨p, s⟩ : Fl) ∈ l := by
  constructor
  · intro h
    obtain ⟨A, x, B, e, -, hx, -⟩ := split_yes hr h
    subst hx
    exact ⟨x.text, by rw [e]; simp⟩
  · rintro ⟨s, hs⟩
    cases h : isIn l p with
    | true => rfl
    | false =>
      obtain ⟨A, B, e, -, ha, hb, -⟩ := split_no hr h
      rw [e, List.mem_append] at hs
      rcases hs with hs | hs
      · exact absurd rfl (kl_ne (ha _ hs))
      · exact absurd rfl (kl_ne (hb _ hs))
theorem text_of {l : List Fl} (hr : Rise l) {p s : ByteArray} (h : (⟨p, s⟩ : Fl) ∈ l) : (l.getD (place l p) noFl).text = s := by
  obtain ⟨A, x, B, e, hl, hx, ha, hb, -⟩ := split_yes hr ((isIn_iff hr p).2 ⟨s, h⟩)
  rw [← hl]
  rw [e, List.mem_append, List.mem_cons] at h
  have hxs : x = ⟨p, s⟩ := by
    rcases h with h | h | h
    · exact absurd rfl (kl_ne (ha _ h))
    · exact h.symm
    · exact absurd rfl (kl_ne (hb _ h))
  rw [e, hxs]
  simp [List.getD]
theorem read_yes {t : T} (hr : Rise t.files) {p s : ByteArray} (hp : isPath p = true) (h : (⟨p, s⟩ : Fl) ∈ t.files) : read t p = (s, 0) := by
  unfold read
  rw [if_neg (by rw [hp]; simp), if_pos ((isIn_iff hr p).2 ⟨s, h⟩), text_of hr h]
theorem read_no {t : T} (hr : Rise t.files) {p : ByteArray} (hp : isPath p = true) (h : ∀ s, (⟨p, s⟩ : Fl) ∉ t.files) : read t p = (.empty, 4) := by
  unfold read
  rw [if_neg (by rw [hp]; simp), if_neg]
  intro h2
  obtain ⟨s, hs⟩ := (isIn_iff hr p).1 h2
  exact h s hs

/-- a tree as it may be: rising, of paths, within the limits -/
structure Ok (t : T) : Prop where
  rise : Rise t.files
  path : ∀ f ∈ t.files, isPath f.path = true ∧ f.text.size ≤ 4096
  few : t.files.length ≤ 256
  chs : t.chs.length ≤ 10000000

theorem Ok.zero : Ok T.zero := ⟨List.Pairwise.nil, by simp [T.zero], by simp [T.zero], by simp [T.zero]⟩
/-- what a Write answers, and leaves -/
theorem write_cases (t : T) (p s : ByteArray) : (isPath p = false ∧ write t p s = (2, t)) ∨ (isPath p = true ∧ 4096 < s.size ∧ write t p s = (3, t)) ∨
    (isPath p = true ∧ s.size ≤ 4096 ∧ isIn t.files p = true ∧ (t.files.getD (place t.files p) noFl).text = s ∧ write t p s = (0, t)) ∨
    (isPath p = true ∧ s.size ≤ 4096 ∧ isIn t.files p = false ∧ t.files.length = 256 ∧ write t p s = (8, t)) ∨
    (isPath p = true ∧ s.size ≤ 4096 ∧ (isIn t.files p = true → (t.files.getD (place t.files p) noFl).text ≠ s) ∧ (isIn t.files p = false → t.files.length ≠ 256) ∧ write t p s = (0, ⟨put t.files p s, t.chs ++ [p]⟩)) := by
  unfold write
  by_cases h1 : isPath p = false
  · exact .inl ⟨h1, by rw [if_pos h1]⟩
  rw [if_neg h1]
  have h1' : isPath p = true := by simpa using h1
  by_cases h2 : 4096 < s.size
  · exact .inr (.inl ⟨h1', h2, by rw [if_pos h2]⟩)
  rw [if_neg h2]
  by_cases h3 : isIn t.files p = true ∧ (t.files.getD (place t.files p) noFl).text = s
  · exact .inr (.inr (.inl ⟨h1', by omega, h3.1, h3.2, by rw [if_pos h3]⟩))
  rw [if_neg h3]
  by_cases h4 : isIn t.files p = false ∧ t.files.length = 256
  · exact .inr (.inr (.inr (.inl ⟨h1', by omega, h4.1, h4.2, by rw [if_pos h4]⟩)))
  rw [if_neg h4]
  exact .inr (.inr (.inr (.inr ⟨h1', by omega, fun h e => h3 ⟨h, e⟩, fun h e => h4 ⟨h, e⟩, rfl⟩)))
theorem Ok.write {t : T} (h : Ok t) (hc : t.chs.length < 10000000) (p s : ByteArray) : Ok (write t p s).2 := by
  rcases write_cases t p s with ⟨-, e⟩ | ⟨-, -, e⟩ | ⟨-, -, -, -, e⟩ | ⟨-, -, -, -, e⟩ | ⟨hp, hs, h1, h2, e⟩ <;> rw [e]
  · exact h
  · exact h
  · exact h
  · exact h
  · obtain ⟨f1, f2, f3⟩ := put_facts h.rise p s
    refine ⟨f1, fun f hf => ?_, ?_, by simp; omega⟩
    · rcases (f2 f).1 hf with rfl | ⟨hf, -⟩
      · exact ⟨hp, hs⟩
      · exact h.path f hf
    · show (put t.files p s).length ≤ 256
      rw [f3]
      have := h.few
      cases hi : isIn t.files p with
      | true => simpa using this
      | false => have := h2 hi; simp; omega
theorem Ok.remove {t : T} (h : Ok t) (hc : t.chs.length < 10000000) (p : ByteArray) : Ok (remove t p).2 := by
  unfold Tm.remove
  split
  · rename_i hz
    have hi : isIn t.files p = true := by
      unfold read at hz
      split at hz
      · cases hz
      · split at hz
        · rename_i h2; exact h2
        · cases hz
    obtain ⟨f1, f2, f3⟩ := cut_facts h.rise hi
    have := h.few
    exact ⟨f1, fun f hf => h.path f ((f2 f).1 hf).1, by show (cut t.files p).length ≤ 256; omega, by simp; omega⟩
  · exact h
theorem chs_write (t : T) (p s : ByteArray) : (write t p s).2.chs.length ≤ t.chs.length + 1 := by
  rcases write_cases t p s with ⟨-, e⟩ | ⟨-, -, e⟩ | ⟨-, -, -, -, e⟩ | ⟨-, -, -, -, e⟩ | ⟨-, -, -, -, e⟩ <;> rw [e] <;> simp
theorem chs_remove (t : T) (p : ByteArray) : (remove t p).2.chs.length ≤ t.chs.length + 1 := by
  unfold remove
  split <;> simp

end Go.Proofs.Ytifolddmcibkdaa.Tm

namespace Go.Proofs.Ytifolddmcibkdaa.Tm
open Ks

theorem same_path {l : List Fl} (hr : Rise l) {p s u : ByteArray} (h1 : (⟨p, s⟩ : Fl) ∈ l) (h2 : (⟨p, u⟩ : Fl) ∈ l) : s = u := (text_of hr h1).symm.trans (text_of hr h2)
theorem isIn_no {l : List Fl} (hr : Rise l) {p : ByteArray} (h : isIn l p = false) : ∀ s, (⟨p, s⟩ : Fl) ∉ l := fun s hs => by
  have := (isIn_iff hr p).2 ⟨s, hs⟩
  rw [h] at this; cases this
/-- a Write that is not refused -/
theorem write_zero {t : T} (hk : Ok t) {p s : ByteArray} (h : (write t p s).1 = 0) : isPath p = true ∧ s.size ≤ 4096 ∧ (∀ f, f ∈ (write t p s).2.files ↔ f = ⟨p, s⟩ ∨ (f ∈ t.files ∧ f.path ≠ p)) ∧
    (((⟨p, s⟩ : Fl) ∈ t.files ∧ (write t p s).2 = t) ∨ ((⟨p, s⟩ : Fl) ∉ t.files ∧ (write t p s).2.chs = t.chs ++ [p])) := by
  rcases write_cases t p s with ⟨-, e⟩ | ⟨-, -, e⟩ | ⟨hp, hs, hi, ht, e⟩ | ⟨-, -, -, -, e⟩ | ⟨hp, hs, h1, h2, e⟩
  · rw [e] at h; cases h
  · rw [e] at h; cases h
  · obtain ⟨u, hu⟩ := (isIn_iff hk.rise p).1 hi
    rw [text_of hk.rise hu] at ht
    subst ht
    rw [e]
    refine ⟨hp, hs, fun f => ⟨fun hf => ?_, ?_⟩, .inl ⟨hu, rfl⟩⟩
    · by_cases hfp : f.path = p
      · refine .inl ?_
        obtain ⟨q, x⟩ := f
        have hfp' : q = p := hfp
        subst hfp'
        rw [same_path hk.rise hf hu]
      · exact .inr ⟨hf, hfp⟩
    · rintro (rfl | hf)
      · exact hu
      · exact hf.1
  · rw [e] at h; cases h
  · rw [e]
    obtain ⟨f1, f2, f3⟩ := put_facts hk.rise p s
    refine ⟨hp, hs, f2, .inr ⟨fun hm => ?_, rfl⟩⟩
    exact h1 ((isIn_iff hk.rise p).2 ⟨s, hm⟩) (text_of hk.rise hm)
/-- a Write that is refused -/
theorem write_not {t : T} {p s : ByteArray} (h : (write t p s).1 ≠ 0) : (write t p s).2 = t ∧ (((write t p s).1 = 2 ∧ isPath p = false) ∨ ((write t p s).1 = 3 ∧ isPath p = true ∧ 4096 < s.size) ∨ ((write t p s).1 = 8 ∧ isPath p = true ∧ t.files.length = 256)) := by
  rcases write_cases t p s with ⟨hp, e⟩ | ⟨hp, hs, e⟩ | ⟨-, -, -, -, e⟩ | ⟨hp, -, -, hl, e⟩ | ⟨-, -, -, -, e⟩
  · rw [e]; exact ⟨rfl, .inl ⟨rfl, hp⟩⟩
  · rw [e]; exact ⟨rfl, .inr (.inl ⟨rfl, hp, hs⟩)⟩
  · rw [e] at h; exact absurd rfl h
  · rw [e]; exact ⟨rfl, .inr (.inr ⟨rfl, hp, hl⟩)⟩
  · rw [e] at h; exact absurd rfl h
/-- a Write of what stands there -/
theorem write_again {t : T} (hk : Ok t) {p s : ByteArray} (hp : isPath p = true) (h : (⟨p, s⟩ : Fl) ∈ t.files) : write t p s = (0, t) := by
  have hs := (hk.path _ h).2
  unfold write
  rw [if_neg (by rw [hp]; simp), if_neg (by show ¬ 4096 < s.size; have : (⟨p, s⟩ : Fl).text.size ≤ 4096 := hs; exact Nat.not_lt.2 this), if_pos ⟨(isIn_iff hk.rise p).2 ⟨s, h⟩, text_of hk.rise h⟩]
theorem remove_yes {t : T} (hk : Ok t) {p s : ByteArray} (hp : isPath p = true) (h : (⟨p, s⟩ : Fl) ∈ t.files) : (remove t p).1 = 0 ∧ (∀ f, f ∈ (remove t p).2.files ↔ f ∈ t.files ∧ f.path ≠ p) ∧ (remove t p).2.chs = t.chs ++ [p] ∧ (remove t p).2.files.length + 1 = t.files.length := by
  unfold remove
  rw [if_pos (by rw [read_yes hk.rise hp h])]
  obtain ⟨f1, f2, f3⟩ := cut_facts hk.rise ((isIn_iff hk.rise p).2 ⟨s, h⟩)
  exact ⟨rfl, f2, rfl, f3⟩
theorem remove_no {t : T} (hk : Ok t) {p : ByteArray} (hp : isPath p = true) (h : ∀ s, (⟨p, s⟩ : Fl) ∉ t.files) : remove t p = (4, t) := by
  unfold remove
  rw [if_neg (by rw [read_no hk.rise hp h]; simp), read_no hk.rise hp h]
theorem remove_bad {t : T} {p : ByteArray} (hp : isPath p = false) : remove t p = (2, t) := by
  have : read t p = (.empty, 2) := by unfold read; rw [if_pos hp]
  unfold remove
  rw [if_neg (by rw [this]; simp), this]
/-- what a Read tells -/
theorem read_cases {t : T} (hk : Ok t) (p : ByteArray) : (isPath p = false ∧ read t p = (.empty, 2)) ∨ (isPath p = true ∧ (∀ s, (⟨p, s⟩ : Fl) ∉ t.files) ∧ read t p = (.empty, 4)) ∨ (isPath p = true ∧ ∃ s, (⟨p, s⟩ : Fl) ∈ t.files ∧ read t p = (s, 0)) := by
  by_cases hp : isPath p = true
  · by_cases h : ∃ s, (⟨p, s⟩ : Fl) ∈ t.files
    · obtain ⟨s, hs⟩ := h
      exact .inr (.inr ⟨hp, s, hs, read_yes hk.rise hp hs⟩)
    · exact .inr (.inl ⟨hp, fun s hs => h ⟨s, hs⟩, read_no hk.rise hp fun s hs => h ⟨s, hs⟩⟩)
  · have hp' : isPath p = false := by simpa using hp
    exact .inl ⟨hp', by unfold read; rw [if_pos hp']⟩
/-- all that a tree lists -/
theorem list_all (t : T) : list t .empty = t.files.map Fl.path := by
  unfold list
  rw [List.filter_eq_self.2]
  intro a _
  rfl
theorem mem_list {t : T} {q : ByteArray} (h : q ∈ list t .empty) : ∃ s, (⟨q, s⟩ : Fl) ∈ t.files := by
  rw [list_all, List.mem_map] at h
  obtain ⟨f, hf, rfl⟩ := h
  exact ⟨f.text, hf⟩

end Go.Proofs.Ytifolddmcibkdaa.Tm

namespace Go.Proofs.Ytifolddmcibkdaa.Tm
open Ks

/-- a file of that path, without text -/
def mk (q : ByteArray) : Fl := ⟨q, .empty⟩
/-- paths that rise -/
def Up (l : List ByteArray) : Prop := l.Pairwise fun a b => kl a b = true
theorem up_rise {l : List ByteArray} : Rise (l.map mk) ↔ Up l := by
  unfold Rise Up
  rw [List.pairwise_map]
  rfl
theorem put_mk (l : List ByteArray) (p : ByteArray) : put (l.map mk) p .empty = (ins l p).map mk := by
  have hp : place (l.map mk) p = (l.takeWhile fun q => kl q p).length := by
    unfold place
    rw [List.takeWhile_map, List.length_map]
    rfl
  unfold put ins isIn
  rw [hp, List.length_map]
  generalize (l.takeWhile fun q => kl q p).length = i
  by_cases h : i < l.length
  · have e1 : ((l.map mk).getD i noFl).path = l.getD i .empty := by
      simp [List.getD, h, mk]
    rw [e1]
    by_cases h2 : l.getD i .empty = p
    · rw [if_pos (by rw [decide_eq_true h, decide_eq_true h2]; rfl), if_pos ⟨h, h2⟩]
      have e2 : l = l.take i ++ p :: l.drop (i + 1) := by
        have h3 : l[i] = p := by rw [← h2, List.getD_eq_getElem?_getD, List.getElem?_eq_getElem h]; rfl
        rw [← h3, ← List.drop_eq_getElem_cons h, List.take_append_drop]
      conv => rhs; rw [e2]
      simp [mk, List.map_take, List.map_drop]
    · rw [if_neg (by simpa [h] using h2), if_neg (fun hh => h2 hh.2)]
      simp [mk, List.map_take, List.map_drop]
  · rw [if_neg (by simp [h]), if_neg (fun hh => h hh.1)]
    simp [mk, List.map_take, List.map_drop]
theorem mem_mk {l : List ByteArray} {q : ByteArray} : mk q ∈ l.map mk ↔ q ∈ l := by
  simp [mk]
theorem ins_facts {l : List ByteArray} (h : Up l) (p : ByteArray) : Up (ins l p) ∧ ∀ q, q ∈ ins l p ↔ q = p ∨ q ∈ l := by
  obtain ⟨h1, h2, -⟩ := put_facts (up_rise.2 h) p .empty
  rw [put_mk] at h1 h2
  refine ⟨up_rise.1 h1, fun q => ?_⟩
  rw [← mem_mk, h2, mem_mk]
  constructor
  · rintro (e | ⟨h, -⟩)
    · exact .inl (by simpa [mk] using e)
    · exact .inr h
  · rintro (rfl | h)
    · exact .inl rfl
    · by_cases e : q = p
      · exact .inl (by rw [e]; rfl)
      · exact .inr ⟨h, e⟩
theorem told_facts : ∀ (xs l : List ByteArray), Up l → Up (xs.foldl ins l) ∧ ∀ q, q ∈ xs.foldl ins l ↔ q ∈ xs ∨ q ∈ l
  | [], l, h => ⟨h, fun q => by simp⟩
  | x :: xs, l, h => by
    obtain ⟨h1, h2⟩ := ins_facts h x
    obtain ⟨h3, h4⟩ := told_facts xs _ h1
    refine ⟨h3, fun q => ?_⟩
    rw [List.foldl_cons, h4, h2, List.mem_cons]
    constructor
    · rintro (h | h | h)
      · exact .inl (.inr h)
      · exact .inl (.inl h)
      · exact .inr h
    · rintro ((h | h) | h)
      · exact .inr (.inl h)
      · exact .inl h
      · exact .inr (.inr h)

/-- the text under a path -/
def look (l : List Fl) (p : ByteArray) : Option ByteArray := (l.find? fun f => decide (f.path = p)).map Fl.text
theorem look_none {l : List Fl} {p : ByteArray} : look l p = none ↔ ∀ s, (⟨p, s⟩ : Fl) ∉ l := by
  unfold look
  rw [Option.map_eq_none_iff, List.find?_eq_none]
  constructor
  · intro h s hs
    exact h _ hs (by simp)
  · rintro h ⟨q, s⟩ hf e
    obtain rfl : q = p := by simpa using e
    exact h s hf
theorem look_iff {l : List Fl} (hr : Rise l) {p s : ByteArray} : look l p = some s ↔ (⟨p, s⟩ : Fl) ∈ l := by
  constructor
  · intro h
    unfold look at h
    obtain ⟨⟨q, u⟩, h1, h2⟩ := Option.map_eq_some_iff.1 h
    obtain rfl : q = p := by simpa using List.find?_some h1
    obtain rfl : u = s := h2
    exact List.mem_of_find?_eq_some h1
  · intro h
    cases hl : look l p with
    | none => exact absurd h (look_none.1 hl s)
    | some u =>
      have hu : (⟨p, u⟩ : Fl) ∈ l := by
        unfold look at hl
        obtain ⟨⟨q, v⟩, h1, h2⟩ := Option.map_eq_some_iff.1 hl
        obtain rfl : q = p := by simpa using List.find?_some h1
        obtain rfl : v = u := h2
        exact List.mem_of_find?_eq_some h1
      rw [same_path hr hu h]
theorem look_ext {l m : List Fl} (hl : Rise l) (hm : Rise m) {p : ByteArray} (h : ∀ s, (⟨p, s⟩ : Fl) ∈ l ↔ (⟨p, s⟩ : Fl) ∈ m) : look l p = look m p := by
  apply Option.ext
  intro s
  rw [look_iff hl, look_iff hm, h]
theorem look_snoc {l : List Fl} {x : Fl} (h : look l x.path = none) : look (l ++ [x]) = fun q => if q = x.path then some x.text else look l q := by
  funext q
  by_cases e : q = x.path
  · subst e
    rw [if_pos rfl]
    unfold look at h ⊢
    rw [Option.map_eq_none_iff] at h
    rw [List.find?_append, h]
    simp
  · rw [if_neg e]
    unfold look
    rw [List.find?_append]
    have : ([x].find? fun f => decide (f.path = q)) = none := by
      rw [List.find?_eq_none]
      rintro y hy e2
      simp only [List.mem_singleton] at hy
      subst hy
      exact e (of_decide_eq_true e2).symm
    rw [this, Option.or_none]

/-- how many keys a finite map has -/
def Count (f : ByteArray → Option ByteArray) (n : Nat) : Prop := ∃ ks : List ByteArray, ks.Nodup ∧ (∀ x, x ∈ ks ↔ (f x).isSome = true) ∧ ks.length = n
theorem len_le : ∀ (a b : List ByteArray), a.Nodup → (∀ x ∈ a, x ∈ b) → a.length ≤ b.length
  | [], _, _, _ => Nat.zero_le _
  | x :: r, b, hn, h => by
    obtain ⟨hx, hn⟩ := List.nodup_cons.1 hn
    obtain ⟨u, v, rfl⟩ := List.append_of_mem (h x (by simp))
    have := len_le r (u ++ v) hn fun y hy => by
      have h1 := h y (by simp [hy])
      have h2 : y ≠ x := fun e => hx (by rw [← e]; exact hy)
      simpa [h2] using h1
    simp only [List.length_cons, List.length_append] at this ⊢
    omega
theorem Count.eq {f : ByteArray → Option ByteArray} {n m : Nat} (h : Count f n) (k : Count f m) : n = m := by
  obtain ⟨a, a1, a2, rfl⟩ := h
  obtain ⟨b, b1, b2, rfl⟩ := k
  exact Nat.le_antisymm (len_le a b a1 fun x hx => (b2 x).2 ((a2 x).1 hx)) (len_le b a b1 fun x hx => (a2 x).2 ((b2 x).1 hx))
theorem Count.none : Count (fun _ => none) 0 := ⟨[], List.nodup_nil, fun x => by simp, rfl⟩
theorem Count.put {f : ByteArray → Option ByteArray} {n : Nat} (h : Count f n) (p s : ByteArray) : Count (fun q => if q = p then some s else f q) (if (f p).isSome then n else n + 1) := by
  obtain ⟨a, a1, a2, rfl⟩ := h
  by_cases hp : (f p).isSome = true
  · refine ⟨a, a1, fun x => ?_, by rw [if_pos hp]⟩
    dsimp only
    by_cases e : x = p
    · subst e; rw [if_pos rfl, a2]; simp [hp]
    · rw [if_neg e, a2]
  · refine ⟨p :: a, List.nodup_cons.2 ⟨fun h => hp ((a2 p).1 h), a1⟩, fun x => ?_, by rw [if_neg hp]; rfl⟩
    dsimp only
    by_cases e : x = p
    · subst e; simp
    · rw [if_neg e, List.mem_cons, a2]; simp [e]
theorem Count.del {f : ByteArray → Option ByteArray} {n : Nat} (h : Count f n) (p : ByteArray) : Count (fun q => if q = p then Option.none else f q) (if (f p).isSome then n - 1 else n) := by
  obtain ⟨a, a1, a2, rfl⟩ := h
  by_cases hp : (f p).isSome = true
  · obtain ⟨u, v, rfl⟩ := List.append_of_mem ((a2 p).2 hp)
    have h1 := (List.perm_middle.nodup_iff).1 a1
    obtain ⟨h2, h3⟩ := List.nodup_cons.1 h1
    refine ⟨u ++ v, h3, fun x => ?_, by rw [if_pos hp]; simp⟩
    dsimp only
    by_cases e : x = p
    · subst e; rw [if_pos rfl]; simpa using h2
    · rw [if_neg e, ← a2]; simp [e]
  · refine ⟨a, a1, fun x => ?_, by rw [if_neg hp]⟩
    dsimp only
    by_cases e : x = p
    · subst e; rw [if_pos rfl, a2]; simp [hp]
    · rw [if_neg e, a2]
theorem Count.files {l : List Fl} (hr : Rise l) : Count (look l) l.length := by
  refine ⟨l.map Fl.path, ?_, fun x => ?_, by simp⟩
  · rw [List.nodup_iff_pairwise_ne, List.pairwise_map]
    exact hr.imp fun h => kl_ne h
  · rw [List.mem_map, Option.isSome_iff_exists]
    constructor
    · rintro ⟨⟨q, s⟩, h, rfl⟩
      exact ⟨s, (look_iff hr).2 h⟩
    · rintro ⟨s, h⟩
      exact ⟨_, (look_iff hr).1 h, rfl⟩

/-- u is t, some changes later -/
def Passed (t u : T) : Prop := ∃ more, u.chs = t.chs ++ more ∧ (∀ p ∈ more, isPath p = true) ∧ ∀ p, p ∉ more → look t.files p = look u.files p
theorem Passed.refl (t : T) : Passed t t := ⟨[], by simp, by simp, fun _ _ => rfl⟩
theorem Passed.more {t u : T} (h : Passed t u) {F : List Fl} {p : ByteArray} (hk : Rise u.files) (hF : Rise F) (hp : isPath p = true) (hm : ∀ f : Fl, f.path ≠ p → (f ∈ F ↔ f ∈ u.files)) : Passed t ⟨F, u.chs ++ [p]⟩ := by
  obtain ⟨more, h1, h2, h3⟩ := h
  refine ⟨more ++ [p], by rw [← List.append_assoc, ← h1], fun q hq => ?_, fun q hq => ?_⟩
  · rcases List.mem_append.1 hq with h | h
    · exact h2 q h
    · rw [List.mem_singleton.1 h]; exact hp
  · simp only [List.mem_append, List.mem_singleton, not_or] at hq
    rw [h3 q hq.1]
    exact look_ext hk hF fun s => (hm ⟨q, s⟩ hq.2).symm
theorem Passed.write {t u : T} (h : Passed t u) (hk : Ok u) (p s : ByteArray) : Passed t (write u p s).2 := by
  rcases write_cases u p s with ⟨-, e⟩ | ⟨-, -, e⟩ | ⟨-, -, -, -, e⟩ | ⟨-, -, -, -, e⟩ | ⟨hp, -, -, -, e⟩ <;> rw [e]
  · exact h
  · exact h
  · exact h
  · exact h
  · obtain ⟨f1, f2, -⟩ := put_facts hk.rise p s
    exact h.more hk.rise f1 hp fun f hf => by
      rw [f2]
      exact ⟨fun h => h.elim (fun e => absurd (by rw [e]) hf) fun h => h.1, fun h => .inr ⟨h, hf⟩⟩
theorem Passed.remove {t u : T} (h : Passed t u) (hk : Ok u) (p : ByteArray) : Passed t (remove u p).2 := by
  rcases read_cases hk p with ⟨h1, -⟩ | ⟨h1, h2, -⟩ | ⟨h1, s, h2, -⟩
  · rw [remove_bad h1]; exact h
  · rw [remove_no hk h1 h2]; exact h
  · obtain ⟨r1, r2, r3, r4⟩ := remove_yes hk h1 h2
    have hi := (isIn_iff hk.rise p).2 ⟨s, h2⟩
    obtain ⟨f1, f2, -⟩ := cut_facts hk.rise hi
    have e : (Tm.remove u p).2 = ⟨cut u.files p, u.chs ++ [p]⟩ := by
      unfold Tm.remove
      rw [read_yes hk.rise h1 h2, if_pos rfl]
    rw [e]
    exact h.more hk.rise f1 h1 fun f hf => by
      rw [f2]
      exact ⟨fun h => h.1, fun h => ⟨h, hf⟩⟩
/-- what Since answers, so long after -/
theorem Passed.since {t u : T} (h : Passed t u) : (32 < (u.chs.length : Int) - t.chs.length ∧ since u t.chs.length = ([], false)) ∨
    ∃ L, since u t.chs.length = (L, true) ∧ L.length ≤ 32 ∧ Up L ∧ (∀ p ∈ L, isPath p = true) ∧ ∀ p, p ∉ L → look t.files p = look u.files p := by
  obtain ⟨more, h1, h2, h3⟩ := h
  have hl : u.chs.length = t.chs.length + more.length := by rw [h1, List.length_append]
  by_cases hm : 32 < more.length
  · left
    refine ⟨by omega, ?_⟩
    unfold Tm.since
    rw [if_pos (by omega)]
  · right
    obtain ⟨u1, u2⟩ := told_facts more [] List.Pairwise.nil
    have hnd : (more.foldl ins []).Nodup := by
      rw [List.nodup_iff_pairwise_ne]
      exact u1.imp fun h => kl_ne h
    have hlen := len_le _ more hnd fun q hq => ((u2 q).1 hq).elim id fun h => by cases h
    refine ⟨more.foldl ins [], ?_, by omega, u1, fun p hp => ?_, fun p hp => h3 p fun hm => hp ((u2 p).2 (.inl hm))⟩
    · unfold Tm.since
      rw [if_neg (by omega), h1, Int.toNat_natCast, List.drop_left]
    · rcases (u2 p).1 hp with h | h
      · exact h2 p h
      · cases h
/-- as far as L is told, the one; else the other -/
noncomputable def mix (L : List ByteArray) (a b : ByteArray → Option ByteArray) : ByteArray → Option ByteArray := fun q => open Classical in if q ∈ L then a q else b q
theorem mix_nil (a b : ByteArray → Option ByteArray) : mix [] a b = b := by funext q; simp [mix]
theorem mix_snoc (L : List ByteArray) (p : ByteArray) (a b : ByteArray → Option ByteArray) : mix (L ++ [p]) a b = fun q => if q = p then a p else mix L a b q := by
  funext q
  unfold mix
  by_cases e : q = p
  · subst e; simp
  · rw [if_neg e]
    by_cases h : q ∈ L
    · rw [if_pos h, if_pos (by simp [h])]
    · rw [if_neg h, if_neg (by simp [h, e])]
theorem mix_all {L : List ByteArray} {a b : ByteArray → Option ByteArray} (h : ∀ p, p ∉ L → b p = a p) : mix L a b = a := by
  funext q
  unfold mix
  split
  · rfl
  · exact h q ‹_›
end Go.Proofs.Ytifolddmcibkdaa.Tm
