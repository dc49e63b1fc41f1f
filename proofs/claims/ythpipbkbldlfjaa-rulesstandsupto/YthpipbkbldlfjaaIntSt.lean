/-
  WHERE A TEXT's LINES BEGIN, as a row of numbers. No program here but the row's type.
-/
import Derived.Test.YthpipbkbldlfjaaZPlace
import Derived.Test.YthpipbkbldlfjaaKit
import Derived.Test.YthpipbkbldlfjaaXMath
namespace Go.Proofs.Ythpipbkbldlfjaa
open Go.RowKit

/-- rows of numbers -/
def IntR : Rc Nat where
  e := 3
  st := 50
  k := 1
  bytes := 8
  z := .int .i64 0
  enc n := [.int .i64 (n : Int)]
  pos := by decide
  len _ := rfl
  one f u hu := by
    simp only [List.mem_cons, List.not_mem_nil, or_false] at hu
    rcases hu with rfl
    rfl
  info := by kernel_rfl
  under := Try.underlying50
  zk := rfl
  small := by decide
theorem IntR.at {w : World} {B : Nat} {v : Value} {l : List Nat} (h : IntR.Sl w B v l) (j : Nat) (hj : j < l.length) :
    ∃ b o c, v = .slice (some ⟨b, o, none⟩) l.length c ∧ b < B ∧ w.cell? ⟨b, o + j, none⟩ = some (.int .i64 (l.getD j 0 : Int)) := by
  obtain ⟨b, o, c, rfl, hb, hc⟩ := h.cells j hj
  have e : l.getD j 0 = l[j] := by simp [List.getD, List.getElem?_eq_getElem hj]
  rw [e]
  have := hc 0 (.int .i64 (l[j] : Int)) (by decide) rfl
  rw [show o + (j * IntR.k + 0) = o + j from by show o + (j * 1 + 0) = o + j; omega] at this
  exact ⟨b, o, c, rfl, hb, this⟩

/-- where the lines of a text's first k bytes begin -/
def starts (s : ByteArray) : Nat → List Nat
  | 0 => [0]
  | k + 1 => starts s k ++ (if s.data[k]? = some 10 then [k + 1] else [])
theorem byte_some (s : ByteArray) (k : Nat) (h : k < s.size) : s.data[k]? = some s[k] := by
  rw [Array.getElem?_eq_getElem h]; rfl
theorem starts_last (s : ByteArray) : ∀ k, k ≤ s.size → (starts s k).length = (Lx.place (bs s) k).1 ∧ (starts s k)[(Lx.place (bs s) k).1 - 1]? = some (k - (Lx.place (bs s) k).2)
  | 0, _ => by simp [starts, Lx.place]
  | k + 1, h => by
    obtain ⟨h1, h2⟩ := starts_last s k (by omega)
    have hst := place_step s k (by omega)
    have hle := place_le s k
    have hb := byte_some s k (by omega)
    rw [starts, hb]
    by_cases hx : s[k] = 10
    · rw [if_pos hx] at hst
      rw [hst, if_pos (by rw [hx]), List.length_append, h1]
      refine ⟨rfl, ?_⟩
      show (starts s k ++ [k + 1])[(Lx.place (bs s) k).1 + 1 - 1]? = some (k + 1 - 0)
      rw [Nat.add_sub_cancel, List.getElem?_append_right (by omega), h1]
      simp
    · rw [if_neg hx] at hst
      rw [hst, if_neg (by simpa using hx), List.append_nil, h1]
      refine ⟨rfl, ?_⟩
      show (starts s k)[(Lx.place (bs s) k).1 - 1]? = some (k + 1 - ((Lx.place (bs s) k).2 + 1))
      rw [h2]
      congr 1
      omega
theorem starts_more (s : ByteArray) (k : Nat) : ∀ n, k ≤ n → ∃ r, starts s n = starts s k ++ r
  | 0, h => ⟨[], by rw [show k = 0 by omega, List.append_nil]⟩
  | n + 1, h => by
    rcases Nat.lt_or_ge n k with hlt | hge
    · exact ⟨[], by rw [show k = n + 1 by omega, List.append_nil]⟩
    · obtain ⟨r, hr⟩ := starts_more s k n hge
      exact ⟨r ++ (if s.data[n]? = some 10 then [n + 1] else []), by rw [starts, hr, List.append_assoc]⟩
theorem starts_len (s : ByteArray) : ∀ k, 1 ≤ (starts s k).length ∧ (starts s k).length ≤ k + 1
  | 0 => by simp [starts]
  | k + 1 => by
    have := starts_len s k
    rw [starts, List.length_append]
    have : (if s.data[k]? = some 10 then [k + 1] else ([] : List Nat)).length ≤ 1 := by split <;> simp
    omega
/-- the line's beginning of a place -/
theorem starts_at (s : ByteArray) (a : Nat) (h : a ≤ s.size) : 1 ≤ (Lx.place (bs s) a).1 ∧ (Lx.place (bs s) a).1 ≤ (starts s s.size).length ∧ (starts s s.size).getD ((Lx.place (bs s) a).1 - 1) 0 = a - (Lx.place (bs s) a).2 := by
  obtain ⟨h1, h2⟩ := starts_last s a h
  obtain ⟨r, hr⟩ := starts_more s a s.size h
  have hl := starts_len s a
  refine ⟨by omega, by rw [hr, List.length_append]; omega, ?_⟩
  rw [hr, List.getD, List.getElem?_append_left (by omega), h2]
  rfl
theorem place_mono (t : List UInt8) {a b : Nat} (h : a ≤ b) : (Lx.place t a).1 ≤ (Lx.place t b).1 := by
  unfold Lx.place
  have : (t.take a).count 10 ≤ (t.take b).count 10 := by
    apply List.Sublist.count_le
    exact (List.take_prefix_take_left h).sublist
  show _ + 1 ≤ _ + 1
  omega
/-- at a line's beginning there is no byte ahead in it -/
theorem place_begin (s : ByteArray) {a : Nat} (h : Lx.Begins (bs s) a) (ha : a ≤ s.size) : (Lx.place (bs s) a).2 = 0 := by
  rcases h with rfl | ⟨q, rfl, hq⟩
  · simp [Lx.place]
  · have hq' : q < s.size := by omega
    rw [place_step s q hq']
    have : s[q] = 10 := by
      have h2 := hq
      rw [List.getElem?_eq_getElem (by rw [bs_length]; exact hq')] at h2
      simp only [Option.some.injEq] at h2
      exact h2
    rw [if_pos this]


end Go.Proofs.Ythpipbkbldlfjaa
