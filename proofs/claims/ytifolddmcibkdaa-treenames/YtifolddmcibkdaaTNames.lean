/-
  TREES: 256 files by number, and the limits there. No program here.
-/
import Derived.Test.YtifolddmcibkdaaTLaw
namespace Go.Proofs.Ytifolddmcibkdaa.Tm
open Ks

/-- f, and three digits -/
def nmB (k : Nat) : List UInt8 := [102, UInt8.ofNat (48 + k / 100), UInt8.ofNat (48 + k / 10 % 10), UInt8.ofNat (48 + k % 10)]
def nm (k : Nat) : ByteArray := ⟨(nmB k).toArray⟩
theorem nm_data (k : Nat) : (nm k).data.toList = nmB k := by simp [nm]
theorem nm_toList (k : Nat) : (nm k).toList = nmB k := by rw [ByteArray.toList_eq, nm_data]
theorem nm_path_all : ∀ k : Fin 256, Pm.isP (nmB k.1) = true := by decide +kernel
theorem nm_path {k : Nat} (h : k < 256) : isPath (nm k) = true := by
  unfold isPath
  rw [nm_data]
  exact nm_path_all ⟨k, h⟩
theorem nm_less_all : ∀ i k : Fin 256, i.1 < k.1 → Op.bytesLess (nmB i.1) (nmB k.1) = true := by decide +kernel
theorem nm_less {i k : Nat} (h : i < k) (hk : k < 256) : kl (nm i) (nm k) = true := by
  unfold kl
  rw [nm_toList, nm_toList]
  exact nm_less_all ⟨i, by omega⟩ ⟨k, hk⟩ h
theorem nm_ne {i k : Nat} (h : i ≠ k) (hi : i < 256) (hk : k < 256) : nm i ≠ nm k := by
  rcases Nat.lt_or_gt_of_ne h with h | h
  · exact kl_ne (nm_less h hk)
  · exact (kl_ne (nm_less h hi)).symm
theorem tw_all {α : Type} {p : α → Bool} : ∀ {l : List α}, (∀ x ∈ l, p x = true) → l.takeWhile p = l
  | [], _ => rfl
  | a :: l, h => by
    rw [List.takeWhile_cons, if_pos (h a (by simp)), tw_all fun x hx => h x (by simp [hx])]
/-- the first k of them -/
def named (k : Nat) : T := ⟨(List.range k).map fun i => ⟨nm i, .empty⟩, (List.range k).map nm⟩
theorem named_succ (k : Nat) : named (k + 1) = ⟨(named k).files ++ [⟨nm k, .empty⟩], (named k).chs ++ [nm k]⟩ := by
  simp [named, List.range_succ]
theorem named_write {k : Nat} (hk : k < 256) : write (named k) (nm k) .empty = (0, named (k + 1)) := by
  have hall : ∀ f ∈ (named k).files, kl f.path (nm k) = true := fun f hf => by
    simp only [named, List.mem_map, List.mem_range] at hf
    obtain ⟨i, hi, rfl⟩ := hf
    exact nm_less hi hk
  have hl : (named k).files.length = k := by simp [named]
  have hp : place (named k).files (nm k) = k := by
    unfold place
    rw [tw_all hall, hl]
  have hi : isIn (named k).files (nm k) = false := by
    unfold isIn
    rw [hp, hl, decide_eq_false (Nat.lt_irrefl k), Bool.false_and]
  unfold write
  rw [if_neg (by rw [nm_path hk]; simp), if_neg (by decide), if_neg (by rw [hi]; simp), if_neg (by rw [hl]; omega), named_succ]
  unfold put
  rw [hp, hi, if_neg (by simp), List.take_of_length_le (by omega), List.drop_eq_nil_of_le (by omega)]
theorem named_ok : ∀ k, k ≤ 256 → Ok (named k) := by
  intro k
  induction k with
  | zero => intro _; exact Ok.zero
  | succ k ih =>
    intro h
    have := (ih (by omega)).write (by simp [named]; omega) (nm k) .empty
    rwa [named_write (by omega)] at this
theorem mem_named {k : Nat} {f : Fl} : f ∈ (named k).files ↔ ∃ i, i < k ∧ f = ⟨nm i, .empty⟩ := by
  simp only [named, List.mem_map, List.mem_range]
  exact ⟨fun ⟨i, h, e⟩ => ⟨i, h, e.symm⟩, fun ⟨i, h, e⟩ => ⟨i, h, e.symm⟩⟩
def gP : ByteArray := ⟨#[103]⟩
theorem g_ne_all : ∀ k : Fin 256, nmB k.1 ≠ [103] := by decide +kernel
theorem g_ne {k : Nat} (h : k < 256) : nm k ≠ gP := fun e => g_ne_all ⟨k, h⟩ (by rw [← nm_data, e]; rfl)
theorem write_full {t : T} {p s : ByteArray} (h1 : isPath p = true) (h2 : s.size ≤ 4096) (h3 : isIn t.files p = false) (h4 : t.files.length = 256) : write t p s = (8, t) := by
  unfold write
  rw [if_neg (by rw [h1]; simp), if_neg (by omega), if_neg (by rw [h3]; simp), if_pos ⟨h3, h4⟩]
theorem write_put {t : T} (hk : Ok t) {p s u : ByteArray} (h1 : isPath p = true) (h2 : s.size ≤ 4096) (h3 : (⟨p, u⟩ : Fl) ∈ t.files) (h4 : u ≠ s) : write t p s = (0, ⟨put t.files p s, t.chs ++ [p]⟩) := by
  have hi := (isIn_iff hk.rise p).2 ⟨u, h3⟩
  unfold write
  rw [if_neg (by rw [h1]; simp), if_neg (by omega), if_neg (fun h => h4 (by rw [← h.2, text_of hk.rise h3])), if_neg (by rw [hi]; simp)]
theorem write_new {t : T} {p s : ByteArray} (h1 : isPath p = true) (h2 : s.size ≤ 4096) (h3 : isIn t.files p = false) (h4 : t.files.length ≠ 256) : (write t p s).1 = 0 := by
  unfold write
  rw [if_neg (by rw [h1]; simp), if_neg (by omega), if_neg (by rw [h3]; simp), if_neg (fun h => h4 h.2)]
theorem write_long {t : T} {p s : ByteArray} (h1 : isPath p = true) (h2 : 4096 < s.size) : write t p s = (3, t) := by
  unfold write
  rw [if_neg (by rw [h1]; simp), if_pos h2]
theorem write_bad {t : T} {p s : ByteArray} (h1 : isPath p = false) : write t p s = (2, t) := by
  unfold write
  rw [if_pos h1]
theorem told32 : ((((named 256).chs ++ [nm 0]).drop (Int.toNat 225)).foldl ins []).length = 32 := by decide +kernel
/-- what the law asks at the limits -/
theorem names_known (full : ByteArray) (hf : full.size = 4096) (fx : ByteArray) (hx : fx.size = 4097) : ∃ t1 t2 t3,
    write (named 256) gP .empty = (8, named 256) ∧ write (named 256) (nm 0) ⟨#[120]⟩ = (0, t1) ∧ Ok t1 ∧ t1.files.length = 256 ∧ t1.chs.length = 257 ∧ (since t1 225).1.length = 32 ∧ (since t1 225).2 = true ∧ since t1 224 = ([], false) ∧ since t1 257 = ([], true) ∧ since t1 258 = ([], false) ∧
    write t1 (nm 1) full = (0, t2) ∧ Ok t2 ∧ write t2 (nm 1) fx = (3, t2) ∧ write t2 ⟨#[70]⟩ fx = (2, t2) ∧ write t2 gP fx = (3, t2) ∧ remove t2 (nm 2) = (0, t3) ∧ Ok t3 ∧ (write t3 gP .empty).1 = 0 := by
  have hok := named_ok 256 (Nat.le_refl _)
  have hg : isPath gP = true := by decide +kernel
  have hF : isPath ⟨#[70]⟩ = false := by decide +kernel
  have hl : (named 256).files.length = 256 := by simp [named]
  have hlc : (named 256).chs.length = 256 := by simp [named]
  have m0 : ∀ i, i < 256 → (⟨nm i, .empty⟩ : Fl) ∈ (named 256).files := fun i hi => mem_named.2 ⟨i, hi, rfl⟩
  have ng : ∀ {t : T}, Ok t → (∀ f ∈ t.files, ∃ i, i < 256 ∧ f.path = nm i) → isIn t.files gP = false := fun {t} hk h => by
    cases hi : isIn t.files gP with
    | false => rfl
    | true =>
      obtain ⟨s, hs⟩ := (isIn_iff hk.rise gP).1 hi
      obtain ⟨i, hi, e⟩ := h _ hs
      exact absurd e.symm (g_ne hi)
  have p0 : ∀ f ∈ (named 256).files, ∃ i, i < 256 ∧ f.path = nm i := fun f hf => by
    obtain ⟨i, hi, rfl⟩ := mem_named.1 hf
    exact ⟨i, hi, rfl⟩
  have w1 := write_put hok (p := nm 0) (s := ⟨#[120]⟩) (nm_path (by decide)) (by decide) (m0 0 (by decide)) (by decide)
  obtain ⟨a1, a2, a3⟩ := put_facts hok.rise (nm 0) ⟨#[120]⟩
  rw [if_pos ((isIn_iff hok.rise _).2 ⟨_, m0 0 (by decide)⟩), hl] at a3
  have ok1 := hok.write (by rw [hlc]; decide) (nm 0) ⟨#[120]⟩
  rw [w1] at ok1
  replace ok1 : Ok (⟨put (named 256).files (nm 0) ⟨#[120]⟩, (named 256).chs ++ [nm 0]⟩ : T) := ok1
  obtain ⟨t1, ht1⟩ : ∃ t1 : T, (⟨put (named 256).files (nm 0) ⟨#[120]⟩, (named 256).chs ++ [nm 0]⟩ : T) = t1 := ⟨_, rfl⟩
  have hf1 : t1.files = put (named 256).files (nm 0) ⟨#[120]⟩ := by rw [← ht1]
  have hc1 : t1.chs = (named 256).chs ++ [nm 0] := by rw [← ht1]
  rw [ht1] at w1 ok1
  rw [← hf1] at a1 a2 a3
  have hcl : t1.chs.length = 257 := by rw [hc1, List.length_append, hlc]; rfl
  have p1 : ∀ f ∈ t1.files, ∃ i, i < 256 ∧ f.path = nm i := fun f hf => by
    rcases (a2 f).1 hf with rfl | ⟨h, -⟩
    · exact ⟨0, by decide, rfl⟩
    · exact p0 f h
  have m1 : ∀ i, i ≠ 0 → i < 256 → (⟨nm i, .empty⟩ : Fl) ∈ t1.files := fun i h0 hi => (a2 _).2 (.inr ⟨m0 i hi, nm_ne h0 hi (by decide)⟩)
  have hne : (ByteArray.empty : ByteArray) ≠ full := fun e => by rw [← e] at hf; revert hf; decide
  have w2 := write_put ok1 (p := nm 1) (s := full) (nm_path (by decide)) (by omega) (m1 1 (by decide) (by decide)) hne
  obtain ⟨b1, b2, b3⟩ := put_facts ok1.rise (nm 1) full
  rw [if_pos ((isIn_iff ok1.rise _).2 ⟨_, m1 1 (by decide) (by decide)⟩), a3] at b3
  have ok2 := ok1.write (by rw [hcl]; decide) (nm 1) full
  rw [w2] at ok2
  replace ok2 : Ok (⟨put t1.files (nm 1) full, t1.chs ++ [nm 1]⟩ : T) := ok2
  obtain ⟨t2, ht2⟩ : ∃ t2 : T, (⟨put t1.files (nm 1) full, t1.chs ++ [nm 1]⟩ : T) = t2 := ⟨_, rfl⟩
  have hf2 : t2.files = put t1.files (nm 1) full := by rw [← ht2]
  have hc2 : t2.chs.length = 258 := by rw [← ht2]; simp [hcl]
  rw [ht2] at w2 ok2
  rw [← hf2] at b1 b2 b3
  have m2 : (⟨nm 2, .empty⟩ : Fl) ∈ t2.files := (b2 _).2 (.inr ⟨m1 2 (by decide) (by decide), nm_ne (by decide) (by decide) (by decide)⟩)
  obtain ⟨r1, r2, r3, r4⟩ := remove_yes ok2 (nm_path (k := 2) (by decide)) m2
  have ok3 := ok2.remove (by rw [hc2]; decide) (nm 2)
  refine ⟨t1, t2, (remove t2 (nm 2)).2, write_full hg (by decide) (ng hok p0) hl, w1, ok1, a3, hcl, ?_, ?_, ?_, ?_, ?_, w2, ok2, write_long (nm_path (by decide)) (by omega), write_bad hF, write_long hg (by omega), by rw [← r1], ok3, write_new hg (by decide) (ng ok3 fun f hf => ?_) (by omega)⟩
  · unfold since
    rw [if_neg (by rw [hcl]; decide), hc1]
    have h := told32
    generalize named 256 = X at h ⊢
    exact h
  · unfold since; rw [if_neg (by rw [hcl]; decide)]
  · unfold since; rw [if_pos (by rw [hcl]; decide)]
  · unfold since; rw [if_neg (by rw [hcl]; decide), List.drop_eq_nil_of_le (by rw [hcl]; decide)]; rfl
  · unfold since; rw [if_pos (by rw [hcl]; decide)]
  · rcases (b2 f).1 ((r2 f).1 hf).1 with rfl | ⟨h, -⟩
    · exact ⟨1, by decide, rfl⟩
    · exact p1 f h

end Go.Proofs.Ytifolddmcibkdaa.Tm
