/-
  A TEXT's BYTES FROM A PLACE ON, AS A READER MEETS THEM. No program here.
-/
import Derived.Test.YthpipbkbldlfjaaYBytes
import Derived.Test.YthpipbkbldlfjaaXMath
namespace Go.Proofs.Ythpipbkbldlfjaa.Lx

/-- the bytes from the k-th on, joins told as blanks -/
def dn (s : ByteArray) (k : Nat) : List (B Nat) := bytes k ((bs s).drop k)
/-- up to the logical line's end -/
def ln (s : ByteArray) (k : Nat) : List (B Nat) := (dn s k).takeWhile fun x => x.c != 10
/-- from the logical line's end on -/
def bh (s : ByteArray) (k : Nat) : List (B Nat) := (dn s k).dropWhile fun x => x.c != 10
/-- a join stands there -/
def Join (s : ByteArray) (k : Nat) : Prop := ∃ h : k + 1 < s.size, s[k] = 92 ∧ s[k + 1] = 10
/-- the logical line is at its end -/
def Ends (s : ByteArray) (k : Nat) : Prop := k = s.size ∨ ∃ h : k < s.size, s[k] = 10

variable {s : ByteArray} {k : Nat}
theorem dn_end (h : s.size ≤ k) : dn s k = [] := by
  unfold dn
  rw [List.drop_of_length_le (by rw [bs_length]; exact h)]
  rfl
theorem dn_join (h : Join s k) : dn s k = ⟨32, true, k⟩ :: dn s (k + 2) := by
  obtain ⟨h1, h2, h3⟩ := h
  unfold dn
  rw [drop_byte s k (by omega), drop_byte s (k + 1) h1, h2, h3, bytes_join]
theorem dn_one (h : k < s.size) (hn : ¬ Join s k) : dn s k = ⟨s[k], false, k⟩ :: dn s (k + 1) := by
  unfold dn
  rw [drop_byte s k h, bytes_one]
  by_cases h92 : s[k] = 92
  · right
    by_cases hk : k + 1 < s.size
    · rw [drop_byte s (k + 1) hk]
      simp only [List.head?_cons, ne_eq, Option.some.injEq]
      exact fun e => hn ⟨hk, h92, e⟩
    · rw [List.drop_of_length_le (by rw [bs_length]; omega)]
      simp
  · exact .inl h92
theorem not_join {h : k < s.size} (hx : s[k] ≠ 92) : ¬ Join s k := fun ⟨_, h2, _⟩ => hx h2
theorem ln_end (h : Ends s k) : ln s k = [] ∧ bh s k = dn s k := by
  unfold ln bh
  rcases h with rfl | ⟨h, hx⟩
  · rw [dn_end (Nat.le_refl _)]
    exact ⟨rfl, rfl⟩
  · rw [dn_one h (not_join (h := h) (by rw [hx]; decide)), List.takeWhile_cons, List.dropWhile_cons, hx]
    exact ⟨rfl, rfl⟩
theorem ln_join (h : Join s k) : ln s k = ⟨32, true, k⟩ :: ln s (k + 2) ∧ bh s k = bh s (k + 2) := by
  unfold ln bh
  rw [dn_join h, List.takeWhile_cons, List.dropWhile_cons]
  exact ⟨rfl, rfl⟩
theorem ln_one (h : k < s.size) (hn : ¬ Join s k) (h10 : s[k] ≠ 10) : ln s k = ⟨s[k], false, k⟩ :: ln s (k + 1) ∧ bh s k = bh s (k + 1) := by
  have e : (s[k] != 10) = true := by simpa using h10
  unfold ln bh
  rw [dn_one h hn, List.takeWhile_cons, List.dropWhile_cons]
  rw [if_pos e, if_pos e]
  exact ⟨rfl, rfl⟩
/-- behind a line's end -/
theorem ends_next (h : Ends s k) (hk : k < s.size) : (dn s k).drop 1 = dn s (k + 1) := by
  rcases h with rfl | ⟨h, hx⟩
  · omega
  · rw [dn_one h (not_join (h := h) (by rw [hx]; decide))]
    rfl
theorem lns_at (h : k < s.size) : lns (dn s k) = (line (ln s k)).andThen fun (i, ws) => (lns ((bh s k).drop 1)).map id fun T => if ws = [] then T else ⟨k, i, ws⟩ :: T := by
  have : ∃ b r, dn s k = b :: r ∧ b.at_ = k := by
    by_cases hj : Join s k
    · exact ⟨_, _, dn_join hj, rfl⟩
    · exact ⟨_, _, dn_one h hj, rfl⟩
  obtain ⟨b, r, e, ha⟩ := this
  unfold ln bh
  rw [e, lns, ha]
theorem line_tab (h : k < s.size) (hx : s[k] = 9) : line (ln s k) = (rd (ln s (k + 1))).map id (true, ·) := by
  rw [(ln_one h (not_join (h := h) (by rw [hx]; decide)) (by rw [hx]; decide)).1, line, if_pos hx]
theorem line_not (h : k < s.size) (hx : s[k] ≠ 9) : line (ln s k) = (rd (ln s k)).map id (false, ·) := by
  by_cases he : Ends s k
  · rw [(ln_end he).1, line, rd]; rfl
  · by_cases hj : Join s k
    · rw [(ln_join hj).1, line, if_neg (by show ¬ (32 : UInt8) = 9; decide)]
    · rw [(ln_one h hj (fun e => he (.inr ⟨h, e⟩))).1, line, if_neg hx]
theorem lex_dn (s : ByteArray) : lex (bs s) = lns (dn s 0) := by
  unfold lex dn
  rw [List.drop_zero]

end Go.Proofs.Ythpipbkbldlfjaa.Lx
