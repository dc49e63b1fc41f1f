/-
  HOW MUCH IS READ, AND WHERE IT GOES WRONG; two texts, one behind the other.
-/
import Derived.Test.YtppcfidaalejfaaDpC
import Derived.Test.YtppcfidaalejfaaDpTwo
namespace Go.Proofs.Ytppcfidaalejfaa
open Go.RowKit

theorem bs_one (a : ByteArray) : bs (a ++ (⟨#[10]⟩ : ByteArray)) = bs a ++ [10] := by simp [bs, ByteArray.data_append]
theorem bs_two (a b : ByteArray) : bs (a ++ (⟨#[10]⟩ : ByteArray) ++ b) = bs a ++ 10 :: bs b := by simp [bs, ByteArray.data_append]
theorem size_one (a : ByteArray) : (a ++ (⟨#[10]⟩ : ByteArray)).size = a.size + 1 := by
  rw [ByteArray.size_append]; rfl
theorem size_two (a b : ByteArray) : (a ++ (⟨#[10]⟩ : ByteArray) ++ b).size = a.size + 1 + b.size := by
  rw [ByteArray.size_append, ByteArray.size_append]
  rfl
namespace Dp
/-- the backslashes at a text's end, counted -/
theorem trail_is {a : B} {n : Nat} (hn : n ≤ a.length) (h : ∀ j, j < n → a.reverse[j]? = some 92) (he : n = a.length ∨ a.reverse[n]? ≠ some 92) : trail a = n := by
  unfold trail
  have key : ∀ (l : B) (n : Nat), n ≤ l.length → (∀ j, j < n → l[j]? = some 92) → (n = l.length ∨ l[n]? ≠ some 92) → (l.takeWhile fun c => c = 92).length = n := by
    intro l
    induction l with
    | nil => intro n hn _ _; simp at hn; simp [hn]
    | cons c r ih =>
      intro n hn h he
      cases n with
      | zero =>
        have : c ≠ 92 := by
          rcases he with he | he
          · simp at he
          · simpa using he
        simp [this]
      | succ n =>
        have h0 : c = 92 := by simpa using h 0 (by omega)
        subst h0
        have := ih n (by simpa using hn) (fun j hj => by simpa using h (j + 1) (by omega)) (by
          rcases he with he | he
          · left; simpa using he
          · right; simpa using he)
        simp [this]
  exact key a.reverse n (by simpa using hn) h (by simpa using he)
theorem rev_at {a : B} {n : Nat} (h : n < a.length) : a.reverse[n]? = some a[a.length - 1 - n] := by
  rw [List.getElem?_reverse h, List.getElem?_eq_getElem (by omega)]
theorem parse_of {a : B} (h : a.length ≤ 32768) : parse a = match read a with | .inl i => .inl (6, i) | .inr l => .inr l := by
  unfold parse
  rw [if_neg (by omega)]
  cases read a <;> rfl
theorem pieces_le : ∀ (n : Nat) (b : B) (i : Nat), b.length ≤ n → (∀ p ∈ (pieces i b).1, p.2 ≤ i + b.length) ∧ ∀ k, (pieces i b).2 = some k → k ≤ i + b.length := by
  intro n
  induction n with
  | zero =>
    intro b i h
    have : b = [] := List.eq_nil_of_length_eq_zero (by omega)
    subst this
    simp [pieces]
  | succ n ih =>
    intro b i h
    have step : ∀ (x : Pc) (m : Nat) (r : B), r.length ≤ n → r.length + m = b.length → pieces i b = ((x, i) :: (pieces (i + m) r).1, (pieces (i + m) r).2) → (∀ p ∈ (pieces i b).1, p.2 ≤ i + b.length) ∧ ∀ k, (pieces i b).2 = some k → k ≤ i + b.length := fun x m r hr hm e => by
      obtain ⟨h1, h2⟩ := ih r (i + m) hr
      rw [e]
      refine ⟨fun p hp => ?_, fun k hk => ?_⟩
      · rcases List.mem_cons.1 hp with rfl | hp
        · show i ≤ _; omega
        · have := h1 p hp; omega
      · have := h2 k hk; omega
    have stop : pieces i b = ([], some i) → (∀ p ∈ (pieces i b).1, p.2 ≤ i + b.length) ∧ ∀ k, (pieces i b).2 = some k → k ≤ i + b.length := fun e => by
      rw [e]
      refine ⟨fun p hp => (by cases hp), fun k hk => ?_⟩
      have : i = k := Option.some.inj hk
      omega
    cases b with
    | nil => simp [pieces]
    | cons c r =>
      simp only [List.length_cons] at h
      by_cases h92 : c = 92
      · subst h92
        cases r with
        | nil => exact stop (pieces_end i)
        | cons d r =>
          simp only [List.length_cons] at h
          by_cases h10 : d = 10
          · subst h10
            exact step _ 2 r (by omega) (by simp) (pieces_join i r)
          · cases he : esc d with
            | true => exact step _ 2 r (by omega) (by simp) (pieces_esc i r he)
            | false => exact stop (pieces_odd i r h10 he)
      · by_cases h10 : c = 10
        · subst h10
          exact step _ 1 r (by omega) (by simp) (pieces_fin i r)
        · by_cases hl : c < 32
          · exact stop (pieces_low i r h10 hl)
          · by_cases h32 : c = 32
            · subst h32
              exact step _ 1 r (by omega) (by simp) (pieces_blank i r)
            · by_cases h58 : c = 58
              · subst h58
                exact step _ 1 r (by omega) (by simp) (pieces_mark i r)
              · exact step _ 1 r (by omega) (by simp) (pieces_byte i r (by simp [esc, h32, h58, h92]) (UInt8.not_lt.1 hl))
theorem run_err : ∀ (ps : List (Pc × Nat)) (s : Rd) (i : Nat), run ps s = .inl i → ∃ p ∈ ps, p.2 = i
  | [], s, i, h => by cases h
  | p :: r, s, i, h => by
    rw [run] at h
    cases hs : s.step p.1 with
    | none =>
      rw [hs] at h
      exact ⟨p, List.mem_cons_self .., Sum.inl.inj h⟩
    | some t =>
      rw [hs] at h
      obtain ⟨q, hq, e⟩ := run_err r t i h
      exact ⟨q, List.mem_cons_of_mem _ hq, e⟩
theorem read_le {b : B} {i : Nat} (h : read b = .inl i) : i ≤ b.length := by
  obtain ⟨h1, h2⟩ := pieces_le b.length b 0 (Nat.le_refl _)
  rw [Nat.zero_add] at h1 h2
  unfold read at h
  cases hr : run (pieces 0 b).1 Rd.zero with
  | inl k =>
    rw [hr] at h
    obtain ⟨p, hp, e⟩ := run_err _ _ _ hr
    have := h1 p hp
    have : k = i := Sum.inl.inj h
    omega
  | inr s =>
    rw [hr] at h
    simp only at h
    cases hb : (pieces 0 b).2 with
    | none => rw [hb] at h; cases h
    | some k =>
      rw [hb] at h
      have := h2 k hb
      have : k = i := Sum.inl.inj h
      omega
theorem parse_le {b : B} {k : Int} {i : Nat} (hb : b.length ≤ 32768) (h : parse b = .inl (k, i)) : k = 6 ∧ i ≤ b.length := by
  rw [parse_of hb] at h
  cases hr : read b with
  | inl j =>
    rw [hr] at h
    simp only [Sum.inl.injEq, Prod.mk.injEq] at h
    have := read_le hr
    exact ⟨h.1.symm, by omega⟩
  | inr l => rw [hr] at h; cases h
/-- what is read is no more than the text -/
def Rd.size (s : Rd) : Nat := s.out.length + s.words.length + (match s.cur with | none => 0 | some _ => 1)
theorem Rd.size_flush (s : Rd) : s.flush.size = s.size ∧ s.flush.out = s.out := by
  unfold Rd.flush
  cases h : s.cur with
  | none => exact ⟨rfl, rfl⟩
  | some w =>
    unfold Rd.size
    rw [h]
    simp only [List.length_append, List.length_cons, List.length_nil]
    exact ⟨by omega, trivial⟩
theorem step_small {s t : Rd} {p : Pc} (N : Nat) (h : s.step p = some t) (hs : s.size ≤ N) (ho : ∀ u ∈ s.out, u.2.length ≤ N) : t.size ≤ s.size + 1 ∧ ∀ u ∈ t.out, u.2.length ≤ N := by
  obtain ⟨f1, f2⟩ := Rd.size_flush s
  cases p with
  | blank =>
    have : s.flush = t := Option.some.inj h
    subst this
    exact ⟨by omega, by rw [f2]; exact ho⟩
  | byte c =>
    unfold Rd.step at h
    cases hc : s.cur with
    | some w =>
      rw [hc] at h
      simp only [Option.some.injEq] at h
      subst h
      refine ⟨?_, ho⟩
      unfold Rd.size
      simp only
      omega
    | none =>
      rw [hc] at h
      simp only at h
      split at h
      · cases h
      · simp only [Option.some.injEq] at h
        subst h
        refine ⟨?_, ho⟩
        unfold Rd.size
        simp only
        omega
  | mark =>
    unfold Rd.step at h
    simp only at h
    split at h
    · cases h
    · simp only [Option.some.injEq] at h
      subst h
      refine ⟨?_, by show ∀ u ∈ s.flush.out, _; rw [f2]; exact ho⟩
      have : Rd.size ⟨s.flush.words, s.flush.cur, true, s.flush.out⟩ = s.flush.size := rfl
      omega
  | fin =>
    unfold Rd.step at h
    simp only at h
    cases hw : s.flush.words with
    | nil =>
      rw [hw] at h
      simp only [Option.some.injEq] at h
      subst h
      refine ⟨?_, by show ∀ u ∈ s.flush.out, _; rw [f2]; exact ho⟩
      have : Rd.size ⟨s.flush.words, s.flush.cur, false, s.flush.out⟩ = s.flush.size := rfl
      rw [hw] at this
      omega
    | cons a d =>
      rw [hw] at h
      simp only at h
      have hz : s.flush.size = s.out.length + (d.length + 1) + (match s.flush.cur with | none => 0 | some _ => 1) := by
        unfold Rd.size
        rw [hw, f2, List.length_cons]
      split at h
      · simp only [Option.some.injEq] at h
        subst h
        refine ⟨?_, fun u hu => ?_⟩
        · unfold Rd.size at *
          simp only [List.length_append, List.length_cons, List.length_nil]
          omega
        · rcases List.mem_append.1 hu with hu | hu
          · exact ho u hu
          · rw [List.mem_singleton] at hu
            subst hu
            simp only
            omega
      · cases h
theorem run_small : ∀ (ps : List (Pc × Nat)) (s t : Rd) (N : Nat), run ps s = .inr t → s.size + ps.length ≤ N → (∀ u ∈ s.out, u.2.length ≤ N) → t.size ≤ N ∧ ∀ u ∈ t.out, u.2.length ≤ N
  | [], s, t, N, h, hs, ho => by
    have : s = t := Sum.inr.inj h
    subst this
    exact ⟨by simpa using hs, ho⟩
  | p :: r, s, t, N, h, hs, ho => by
    rw [run] at h
    rw [List.length_cons] at hs
    cases hp : s.step p.1 with
    | none => rw [hp] at h; cases h
    | some q =>
      rw [hp] at h
      obtain ⟨h1, h2⟩ := step_small N hp (by omega) ho
      exact run_small r q t N h (by omega) h2
theorem parse_small {b : B} {l : List Rule} (hb : b.length ≤ 32768) (h : parse b = .inr l) : l.length ≤ 32769 ∧ ∀ u ∈ l, u.2.length ≤ 32769 := by
  rw [parse_of hb] at h
  unfold read at h
  have hl := pieces_len _ b 0 (Nat.le_refl _)
  cases hr : run (pieces 0 b).1 Rd.zero with
  | inl k => rw [hr] at h; cases h
  | inr s =>
    rw [hr] at h
    simp only at h
    obtain ⟨h1, h2⟩ := run_small _ _ _ 32769 hr (by show 0 + _ ≤ _; omega) (fun u hu => by cases hu)
    cases hd : (pieces 0 b).2 with
    | some k => rw [hd] at h; cases h
    | none =>
      rw [hd] at h
      simp only [Sum.inr.injEq] at h
      subst h
      refine ⟨?_, h2⟩
      unfold Rd.size at h1
      omega
/-- two texts, the first one ending in no join -/
theorem parse_two {a b : B} (h : trail a % 2 = 0) (hl : a.length + b.length < 32768) :
    (∃ i, parse (a ++ [10]) = .inl (6, i) ∧ parse (a ++ 10 :: b) = .inl (6, i)) ∨ (∃ l i, parse (a ++ [10]) = .inr l ∧ parse b = .inl (6, i) ∧ parse (a ++ 10 :: b) = .inl (6, i + (a.length + 1))) ∨ ∃ l m, parse (a ++ [10]) = .inr l ∧ parse b = .inr m ∧ parse (a ++ 10 :: b) = .inr (l ++ m) := by
  have h2 := read_two (b := b) h
  rw [parse_of (a := a ++ [10]) (by rw [List.length_append, List.length_cons, List.length_nil]; omega), parse_of (a := b) (by omega), parse_of (a := a ++ 10 :: b) (by rw [List.length_append, List.length_cons]; omega), h2]
  cases read (a ++ [10]) with
  | inl i => exact .inl ⟨i, rfl, rfl⟩
  | inr l =>
    cases read b with
    | inl i => exact .inr (.inl ⟨l, i, rfl, rfl, rfl⟩)
    | inr m => exact .inr (.inr ⟨l, m, rfl, rfl, rfl⟩)
end Dp

theorem PsDEnd.any {w w' : World} {e : Ending} {r : (Int × Nat) ⊕ List Dp.Rule} (h : PsDEnd w w' e r) : ∃ v x y, e = .returned (.tuple #[v, .agg #[.int .i64 x, .int .i64 y]]) ∧ Below w.heap.size w w' := by
  cases r with
  | inl x => exact ⟨_, _, _, h.1, h.2⟩
  | inr l =>
    obtain ⟨v, h1, -, h2⟩ := h
    exact ⟨v, _, _, h1, h2⟩

namespace Dp
/-- how much is read -/
def Rd.vol (s : Rd) : Nat := Dp.vol s.out + (s.words.map fun d => 1 + d.length).sum + (match s.cur with | none => 0 | some w => 1 + w.length)
theorem Rd.vol_flush (s : Rd) : s.flush.vol = s.vol := by
  unfold Rd.flush
  cases h : s.cur with
  | none => rfl
  | some w =>
    unfold Rd.vol
    rw [h]
    simp only [List.map_append, List.sum_append, List.map_cons, List.map_nil, List.sum_cons, List.sum_nil]
    omega
theorem vol_app (a b : List Rule) : vol (a ++ b) = vol a + vol b := by unfold vol; rw [List.map_append, List.sum_append]
theorem step_vol {s t : Rd} {p : Pc} (h : s.step p = some t) : t.vol ≤ s.vol + 2 := by
  have f1 := Rd.vol_flush s
  cases p with
  | blank =>
    have : s.flush = t := Option.some.inj h
    subst this
    omega
  | byte c =>
    unfold Rd.step at h
    cases hc : s.cur with
    | some w =>
      rw [hc] at h
      simp only [Option.some.injEq] at h
      subst h
      unfold Rd.vol
      rw [hc]
      simp only [List.length_append, List.length_cons, List.length_nil]
      omega
    | none =>
      rw [hc] at h
      simp only at h
      split at h
      · cases h
      · simp only [Option.some.injEq] at h
        subst h
        unfold Rd.vol
        rw [hc]
        simp only [List.length_cons, List.length_nil]
        omega
  | mark =>
    unfold Rd.step at h
    simp only at h
    split at h
    · cases h
    · simp only [Option.some.injEq] at h
      subst h
      have : Rd.vol ⟨s.flush.words, s.flush.cur, true, s.flush.out⟩ = s.flush.vol := rfl
      omega
  | fin =>
    unfold Rd.step at h
    simp only at h
    cases hw : s.flush.words with
    | nil =>
      rw [hw] at h
      simp only [Option.some.injEq] at h
      subst h
      have : Rd.vol ⟨s.flush.words, s.flush.cur, false, s.flush.out⟩ = s.flush.vol := rfl
      rw [hw] at this
      omega
    | cons a d =>
      rw [hw] at h
      simp only at h
      split at h
      · simp only [Option.some.injEq] at h
        subst h
        have f2 := (Rd.size_flush s).2
        have hz : s.flush.vol = Dp.vol s.out + ((1 + a.length) + (d.map fun d => 1 + d.length).sum) + (match s.flush.cur with | none => 0 | some w => 1 + w.length) := by
          unfold Rd.vol
          rw [hw, f2, List.map_cons, List.sum_cons]
        show Dp.vol (s.out ++ [(a, d)]) + 0 + 0 ≤ _
        rw [vol_app]
        have : Dp.vol [(a, d)] = 1 + a.length + (d.map fun d => 1 + d.length).sum := by simp [Dp.vol]
        omega
      · cases h
theorem run_vol : ∀ (ps : List (Pc × Nat)) (s t : Rd), run ps s = .inr t → t.vol ≤ s.vol + 2 * ps.length
  | [], s, t, h => by
    have : s = t := Sum.inr.inj h
    subst this
    simp
  | p :: r, s, t, h => by
    rw [run] at h
    cases hp : s.step p.1 with
    | none => rw [hp] at h; cases h
    | some q =>
      rw [hp] at h
      have h1 := step_vol hp
      have h2 := run_vol r q t h
      rw [List.length_cons]
      omega
theorem parse_vol {b : B} {l : List Rule} (hb : b.length ≤ 32768) (h : parse b = .inr l) : vol l ≤ 65538 ∧ l.all may = true := by
  rw [parse_of hb] at h
  cases hr : read b with
  | inl k => rw [hr] at h; cases h
  | inr m =>
    rw [hr] at h
    simp only [Sum.inr.injEq] at h
    subst h
    refine ⟨?_, List.all_eq_true.2 (read_may hr)⟩
    unfold read at hr
    have hl := pieces_len _ b 0 (Nat.le_refl _)
    cases hq : run (pieces 0 b).1 Rd.zero with
    | inl k => rw [hq] at hr; cases hr
    | inr s =>
      rw [hq] at hr
      simp only at hr
      have h1 := run_vol _ _ _ hq
      have h0 : Rd.zero.vol = 0 := rfl
      cases hd : (pieces 0 b).2 with
      | some k => rw [hd] at hr; cases hr
      | none =>
        rw [hd] at hr
        simp only [Sum.inr.injEq] at hr
        subst hr
        rw [h0] at h1
        unfold Rd.vol at h1
        omega
theorem parse_long {b : B} (h : 32768 < b.length) : parse b = .inl (3, 32768) := by unfold parse; rw [if_pos h]
theorem printed_yes {f : Option Int} {l : List Rule} (h : l.all may = true) : printed f l = (print f l, 0) := by unfold printed; rw [if_pos h]
theorem printed_no {f : Option Int} {l : List Rule} (h : l.all may = false) : printed f l = ([], 2) := by unfold printed; rw [if_neg (by rw [h]; simp)]
theorem parse_back {f : Option Int} {l : List Rule} (h : l.all may = true) (hb : (print f l).length ≤ 32768) : parse (print f l) = .inr l := by
  rw [parse_of hb, back f (List.all_eq_true.1 h)]
end Dp

end Go.Proofs.Ytppcfidaalejfaa
