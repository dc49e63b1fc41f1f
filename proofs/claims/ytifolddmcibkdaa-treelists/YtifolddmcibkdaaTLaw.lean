/-
  TREES: what follows of Write, Remove and Read, by the files alone. No program here.
-/
import Derived.Test.YtifolddmcibkdaaTOk
namespace Go.Proofs.Ytifolddmcibkdaa.Tm
open Ks

theorem same_path {l : List Fl} (hr : Rise l) {p s u : ByteArray} (h1 : (⟨p, s⟩ : Fl) ∈ l) (h2 : (⟨p, u⟩ : Fl) ∈ l) : s = u := (text_of hr h1).symm.trans (text_of hr h2)
theorem isIn_no {l : List Fl} (hr : Rise l) {p : ByteArray} (h : isIn l p = false) : ∀ s, (⟨p, s⟩ : Fl) ∉ l := fun s hs => by
  have := (isIn_iff hr p).2 ⟨s, hs⟩
  rw [h] at this; cases this
/-- a Write that is not refused -/
theorem write_zero {t : T} (hk : Ok t) {p s : ByteArray} (h : (write t p s).1 = 0) : isPath p = true ∧ s.size ≤ 4096 ∧ (∀ f, f ∈ (write t p s).2.files ↔ f = ⟨p, s⟩ ∨ (f ∈ t.files ∧ f.path ≠ p)) ∧
    (((⟨p, s⟩ : Fl) ∈ t.files ∧ (write t p s).2 = t) ∨ ((⟨p, s⟩ : Fl) ∉ t.files ∧ (write t p s).2.chs = t.chs ++ [p])) := by
  rcases write_cases t p s with ⟨-, e⟩ | ⟨-, -, e⟩ | ⟨hp, hs, hi, ht, e⟩ | ⟨-, -, -, -, e⟩ | ⟨hp, hs, h1, h2, e⟩
  · rw [e] at h; cases h
  · rw [e] at h; cases h
  · obtain ⟨u, hu⟩ := (isIn_iff hk.rise p).1 hi
    rw [text_of hk.rise hu] at ht
    subst ht
    rw [e]
    refine ⟨hp, hs, fun f => ⟨fun hf => ?_, ?_⟩, .inl ⟨hu, rfl⟩⟩
    · by_cases hfp : f.path = p
      · refine .inl ?_
        obtain ⟨q, x⟩ := f
        have hfp' : q = p := hfp
        subst hfp'
        rw [same_path hk.rise hf hu]
      · exact .inr ⟨hf, hfp⟩
    · rintro (rfl | hf)
      · exact hu
      · exact hf.1
  · rw [e] at h; cases h
  · rw [e]
    obtain ⟨f1, f2, f3⟩ := put_facts hk.rise p s
    refine ⟨hp, hs, f2, .inr ⟨fun hm => ?_, rfl⟩⟩
    exact h1 ((isIn_iff hk.rise p).2 ⟨s, hm⟩) (text_of hk.rise hm)
/-- a Write that is refused -/
theorem write_not {t : T} {p s : ByteArray} (h : (write t p s).1 ≠ 0) : (write t p s).2 = t ∧ (((write t p s).1 = 2 ∧ isPath p = false) ∨ ((write t p s).1 = 3 ∧ isPath p = true ∧ 4096 < s.size) ∨ ((write t p s).1 = 8 ∧ isPath p = true ∧ t.files.length = 256)) := by
  rcases write_cases t p s with ⟨hp, e⟩ | ⟨hp, hs, e⟩ | ⟨-, -, -, -, e⟩ | ⟨hp, -, -, hl, e⟩ | ⟨-, -, -, -, e⟩
  · rw [e]; exact ⟨rfl, .inl ⟨rfl, hp⟩⟩
  · rw [e]; exact ⟨rfl, .inr (.inl ⟨rfl, hp, hs⟩)⟩
  · rw [e] at h; exact absurd rfl h
  · rw [e]; exact ⟨rfl, .inr (.inr ⟨rfl, hp, hl⟩)⟩
  · rw [e] at h; exact absurd rfl h
/-- a Write of what stands there -/
theorem write_again {t : T} (hk : Ok t) {p s : ByteArray} (hp : isPath p = true) (h : (⟨p, s⟩ : Fl) ∈ t.files) : write t p s = (0, t) := by
  have hs := (hk.path _ h).2
  unfold write
  rw [if_neg (by rw [hp]; simp), if_neg (by show ¬ 4096 < s.size; have : (⟨p, s⟩ : Fl).text.size ≤ 4096 := hs; exact Nat.not_lt.2 this), if_pos ⟨(isIn_iff hk.rise p).2 ⟨s, h⟩, text_of hk.rise h⟩]
theorem remove_yes {t : T} (hk : Ok t) {p s : ByteArray} (hp : isPath p = true) (h : (⟨p, s⟩ : Fl) ∈ t.files) : (remove t p).1 = 0 ∧ (∀ f, f ∈ (remove t p).2.files ↔ f ∈ t.files ∧ f.path ≠ p) ∧ (remove t p).2.chs = t.chs ++ [p] ∧ (remove t p).2.files.length + 1 = t.files.length := by
  unfold remove
  rw [if_pos (by rw [read_yes hk.rise hp h])]
  obtain ⟨f1, f2, f3⟩ := cut_facts hk.rise ((isIn_iff hk.rise p).2 ⟨s, h⟩)
  exact ⟨rfl, f2, rfl, f3⟩
theorem remove_no {t : T} (hk : Ok t) {p : ByteArray} (hp : isPath p = true) (h : ∀ s, (⟨p, s⟩ : Fl) ∉ t.files) : remove t p = (4, t) := by
  unfold remove
  rw [if_neg (by rw [read_no hk.rise hp h]; simp), read_no hk.rise hp h]
theorem remove_bad {t : T} {p : ByteArray} (hp : isPath p = false) : remove t p = (2, t) := by
  have : read t p = (.empty, 2) := by unfold read; rw [if_pos hp]
  unfold remove
  rw [if_neg (by rw [this]; simp), this]
/-- what a Read tells -/
theorem read_cases {t : T} (hk : Ok t) (p : ByteArray) : (isPath p = false ∧ read t p = (.empty, 2)) ∨ (isPath p = true ∧ (∀ s, (⟨p, s⟩ : Fl) ∉ t.files) ∧ read t p = (.empty, 4)) ∨ (isPath p = true ∧ ∃ s, (⟨p, s⟩ : Fl) ∈ t.files ∧ read t p = (s, 0)) := by
  by_cases hp : isPath p = true
  · by_cases h : ∃ s, (⟨p, s⟩ : Fl) ∈ t.files
    · obtain ⟨s, hs⟩ := h
      exact .inr (.inr ⟨hp, s, hs, read_yes hk.rise hp hs⟩)
    · exact .inr (.inl ⟨hp, fun s hs => h ⟨s, hs⟩, read_no hk.rise hp fun s hs => h ⟨s, hs⟩⟩)
  · have hp' : isPath p = false := by simpa using hp
    exact .inl ⟨hp', by unfold read; rw [if_pos hp']⟩
/-- all that a tree lists -/
theorem list_all (t : T) : list t .empty = t.files.map Fl.path := by
  unfold list
  rw [List.filter_eq_self.2]
  intro a _
  rfl
theorem mem_list {t : T} {q : ByteArray} (h : q ∈ list t .empty) : ∃ s, (⟨q, s⟩ : Fl) ∈ t.files := by
  rw [list_all, List.mem_map] at h
  obtain ⟨f, hf, rfl⟩ := h
  exact ⟨f.text, hf⟩

end Go.Proofs.Ytifolddmcibkdaa.Tm
