/-
  LAYER 16: READING BY PLACES: what a reading that stands at a place comes to; blanks passed; a word; a line's next step. No program here.
-/
import Derived.Test.YtppcfidaalejfaaDpTwo
namespace Go.Proofs.Ytppcfidaalejfaa.Dp

/-- what a reading that stands at place i comes to -/
def rest (text : B) (i : Nat) (s : Rd) : Nat ⊕ List Rule :=
  if text.length < i then .inr s.out else match run (pieces i (text.drop i)).1 s with
  | .inl k => .inl k
  | .inr t => match (pieces i (text.drop i)).2 with
    | some k => .inl k
    | none => .inr t.out
theorem rest_read (text : B) : rest text 0 Rd.zero = read text := by
  unfold rest read
  rw [if_neg (by omega), List.drop_zero]
  first | done | (cases run (pieces 0 text).1 Rd.zero <;> rfl)
theorem drop_next {text : B} {i : Nat} {c : UInt8} {r : B} (h : text.drop i = c :: r) : text.drop (i + 1) = r := by
  rw [← List.drop_drop, h]; rfl
theorem drop_next2 {text : B} {i : Nat} {c d : UInt8} {r : B} (h : text.drop i = c :: d :: r) : text.drop (i + 2) = r := by
  rw [← List.drop_drop, h]; rfl
theorem drop_lt {text : B} {i : Nat} {c : UInt8} {r : B} (h : text.drop i = c :: r) : i < text.length := by
  rcases Nat.lt_or_ge i text.length with h1 | h1
  · exact h1
  · rw [List.drop_eq_nil_of_le h1] at h; cases h
theorem drop_lt2 {text : B} {i : Nat} {c d : UInt8} {r : B} (h : text.drop i = c :: d :: r) : i + 1 < text.length := drop_lt (drop_next h)
/-- one piece -/
theorem rest_cons {text : B} {i j : Nat} {p : Pc} (s : Rd) (hi : i ≤ text.length) (hj : j ≤ text.length) (hp : pieces i (text.drop i) = ((p, i) :: (pieces j (text.drop j)).1, (pieces j (text.drop j)).2)) :
    rest text i s = match s.step p with
      | none => .inl i
      | some t => rest text j t := by
  unfold rest
  rw [if_neg (by omega), hp]
  show (match (match s.step p with | none => (Sum.inl i : Nat ⊕ Rd) | some t => run (pieces j (text.drop j)).1 t) with | .inl k => (Sum.inl k : Nat ⊕ List Rule) | .inr t => _) = _
  cases s.step p with
  | none => rfl
  | some t =>
    simp only
    rw [if_neg (by omega)]
theorem rest_bad {text : B} {i : Nat} (s : Rd) (hi : i ≤ text.length) (hp : pieces i (text.drop i) = ([], some i)) : rest text i s = .inl i := by
  unfold rest
  rw [if_neg (by omega), hp]
  rfl
theorem rest_blank {text : B} {i : Nat} {r : B} (h : text.drop i = 32 :: r) (s : Rd) : rest text i s = rest text (i + 1) s.flush := by
  have hl := drop_lt h
  rw [rest_cons (p := .blank) (j := i + 1) s (by omega) (by omega) (by rw [h, pieces_blank, drop_next h])]
  rfl
theorem rest_join {text : B} {i : Nat} {r : B} (h : text.drop i = 92 :: 10 :: r) (s : Rd) : rest text i s = rest text (i + 2) s.flush := by
  have hl := drop_lt2 h
  rw [rest_cons (p := .blank) (j := i + 2) s (by omega) (by omega) (by rw [h, pieces_join, drop_next2 h])]
  rfl
theorem rest_mark {text : B} {i : Nat} {r : B} (h : text.drop i = 58 :: r) (s : Rd) : rest text i s = match s.step .mark with
    | none => .inl i
    | some t => rest text (i + 1) t := by
  have hl := drop_lt h
  exact rest_cons s (by omega) (by omega) (by rw [h, pieces_mark, drop_next h])
theorem rest_fin {text : B} {i : Nat} {r : B} (h : text.drop i = 10 :: r) (s : Rd) : rest text i s = match s.step .fin with
    | none => .inl i
    | some t => rest text (i + 1) t := by
  have hl := drop_lt h
  exact rest_cons s (by omega) (by omega) (by rw [h, pieces_fin, drop_next h])
theorem rest_nil {text : B} {i : Nat} (h : i = text.length) (s : Rd) : rest text i s = match s.step .fin with
    | none => .inl i
    | some t => rest text (i + 1) t := by
  subst h
  have hd : text.drop text.length = [] := List.drop_length
  unfold rest
  rw [if_neg (by omega), hd]
  show (match (match s.step .fin with | none => (Sum.inl text.length : Nat ⊕ Rd) | some t => .inr t) with | .inl k => (Sum.inl k : Nat ⊕ List Rule) | .inr t => _) = _
  cases s.step .fin with
  | none => rfl
  | some t =>
    simp only
    rw [if_pos (by omega)]
    rfl
/-- behind the last line there is nothing -/
theorem rest_over {text : B} {i : Nat} (h : text.length ≤ i) (out : List Rule) : rest text i ⟨[], none, false, out⟩ = .inr out := by
  rcases Nat.lt_or_ge text.length i with h1 | h1
  · unfold rest
    rw [if_pos h1]
  · rw [rest_nil (by omega)]
    show rest text (i + 1) ⟨[], none, false, out⟩ = _
    unfold rest
    rw [if_pos (by omega)]

/-- a byte that ends a word -/
def stop (c : UInt8) : Bool := c = 32 || c = 58 || c = 10
/-- does a word end here? -/
def stops : B → Bool
  | [] => true
  | 92 :: 10 :: _ => true
  | c :: _ => stop c
/-- a word: its bytes (none: it goes wrong), and how far it goes -/
def wordR : B → Option B × Nat
  | [] => (some [], 0)
  | 92 :: 10 :: _ => (some [], 0)
  | 92 :: c :: r => if esc c then ((wordR r).1.map (c :: ·), (wordR r).2 + 2) else (none, 0)
  | [92] => (none, 0)
  | c :: r => if stop c then (some [], 0) else if c < 32 then (none, 0) else ((wordR r).1.map (c :: ·), (wordR r).2 + 1)
theorem wordR_byte {c : UInt8} {r : B} (h92 : c ≠ 92) : wordR (c :: r) = if stop c then (some [], 0) else if c < 32 then (none, 0) else ((wordR r).1.map (c :: ·), (wordR r).2 + 1) := by
  rw [wordR.eq_5 c r (fun _ e _ => h92 e) (fun _ _ e _ => h92 e) (fun e _ => h92 e)]
theorem wordR_esc {c : UInt8} {r : B} (h : c ≠ 10) : wordR (92 :: c :: r) = if esc c then ((wordR r).1.map (c :: ·), (wordR r).2 + 2) else (none, 0) := by
  rw [wordR.eq_3 c r (fun e => h e)]
theorem stops_byte {c : UInt8} {r : B} (h92 : c ≠ 92) : stops (c :: r) = stop c := by
  rw [stops.eq_3 c r (fun _ e _ => h92 e)]
theorem stops_esc {c : UInt8} {r : B} (h : c ≠ 10) : stops (92 :: c :: r) = false := by
  rw [stops.eq_3 92 (c :: r) (fun r' _ e => h (List.cons.inj e).1)]
  rfl
theorem rest_esc {text : B} {i : Nat} {c : UInt8} {r : B} (h : text.drop i = 92 :: c :: r) (he : esc c = true) (s : Rd) : rest text i s = match s.step (.byte c) with
    | none => .inl i
    | some t => rest text (i + 2) t := by
  have hl := drop_lt2 h
  exact rest_cons s (by omega) (by omega) (by rw [h, pieces_esc _ _ he, drop_next2 h])
theorem rest_byte {text : B} {i : Nat} {c : UInt8} {r : B} (h : text.drop i = c :: r) (h92 : c ≠ 92) (hs : stop c = false) (h32 : 32 ≤ c) (s : Rd) : rest text i s = match s.step (.byte c) with
    | none => .inl i
    | some t => rest text (i + 1) t := by
  have hl := drop_lt h
  refine rest_cons s (by omega) (by omega) ?_
  have he : esc c = false := by
    simp only [stop, Bool.or_eq_false_iff, decide_eq_false_iff_not] at hs
    simp [esc, hs.1.1, hs.1.2, h92]
  rw [h, pieces_byte _ _ he h32, drop_next h]
theorem rest_low {text : B} {i : Nat} {c : UInt8} {r : B} (h : text.drop i = c :: r) (h10 : c ≠ 10) (h32 : c < 32) (s : Rd) : rest text i s = .inl i := by
  have hl := drop_lt h
  have h92 : c ≠ 92 := by rintro rfl; revert h32; decide
  refine rest_bad s (by omega) ?_
  rw [h, pieces.eq_5 i c r (fun _ e _ => h92 e) (fun _ _ e _ => h92 e) (fun e _ => h92 e), if_neg h10, if_pos h32]
theorem rest_noesc {text : B} {i : Nat} {c : UInt8} {r : B} (h : text.drop i = 92 :: c :: r) (h10 : c ≠ 10) (he : esc c = false) (s : Rd) : rest text i s = .inl i := by
  have hl := drop_lt h
  refine rest_bad s (by omega) ?_
  rw [h, pieces.eq_3 i c r (by simpa using h10), if_neg (by rw [he]; simp)]
theorem rest_tail {text : B} {i : Nat} (h : text.drop i = [92]) (s : Rd) : rest text i s = .inl i := by
  have hl := drop_lt h
  refine rest_bad s (by omega) ?_
  rw [h]; rfl

/-- a word that is begun is read to its end -/
theorem rest_word {text : B} : ∀ (n i : Nat), text.length - i ≤ n → i ≤ text.length → ∀ (s : Rd) (w : B), s.cur = some w →
    (∀ w' k, wordR (text.drop i) = (some w', k) → rest text i s = rest text (i + k) { s with cur := some (w ++ w') } ∧ stops (text.drop (i + k)) = true ∧ i + k ≤ text.length) ∧
    (∀ k, wordR (text.drop i) = (none, k) → rest text i s = .inl (i + k) ∧ i + k ≤ text.length)
  | n, i, hn, hi, s, w, hc => by
    have same : ∀ {d : B}, text.drop i = d → wordR d = (some [], 0) → stops d = true → (∀ w' k, wordR (text.drop i) = (some w', k) → rest text i s = rest text (i + k) { s with cur := some (w ++ w') } ∧ stops (text.drop (i + k)) = true ∧ i + k ≤ text.length) ∧ (∀ k, wordR (text.drop i) = (none, k) → rest text i s = .inl (i + k) ∧ i + k ≤ text.length) := by
      intro d hd hw hst
      rw [hd, hw]
      refine ⟨fun w' k e => ?_, fun k e => (by cases e)⟩
      simp only [Prod.mk.injEq, Option.some.injEq] at e
      obtain ⟨rfl, rfl⟩ := e
      rw [List.append_nil, ← hc, Nat.add_zero, hd]
      exact ⟨rfl, hst, hi⟩
    have bad : ∀ {d : B}, text.drop i = d → wordR d = (none, 0) → rest text i s = .inl i → (∀ w' k, wordR (text.drop i) = (some w', k) → rest text i s = rest text (i + k) { s with cur := some (w ++ w') } ∧ stops (text.drop (i + k)) = true ∧ i + k ≤ text.length) ∧ (∀ k, wordR (text.drop i) = (none, k) → rest text i s = .inl (i + k) ∧ i + k ≤ text.length) := by
      intro d hd hw hr
      rw [hd, hw]
      refine ⟨fun w' k e => (by cases e), fun k e => ?_⟩
      simp only [Prod.mk.injEq, true_and] at e
      subst e
      exact ⟨hr, hi⟩
    have go : ∀ {d r : B} (c : UInt8) (m : Nat), text.drop i = d → text.drop (i + m) = r → 0 < m → i + m ≤ text.length → wordR d = ((wordR r).1.map (c :: ·), (wordR r).2 + m) → (rest text i s = match s.step (.byte c) with | none => .inl i | some t => rest text (i + m) t) → (∀ w' k, wordR (text.drop i) = (some w', k) → rest text i s = rest text (i + k) { s with cur := some (w ++ w') } ∧ stops (text.drop (i + k)) = true ∧ i + k ≤ text.length) ∧ (∀ k, wordR (text.drop i) = (none, k) → rest text i s = .inl (i + k) ∧ i + k ≤ text.length) := by
      intro d r c m hd hr hm hl hw hs
      have hst : s.step (.byte c) = some { s with cur := some (w ++ [c]) } := by unfold Rd.step; rw [hc]
      rw [hst] at hs
      cases n with
      | zero => omega
      | succ n =>
        obtain ⟨h1, h2⟩ := rest_word n (i + m) (by omega) hl { s with cur := some (w ++ [c]) } (w ++ [c]) rfl
        rw [hr] at h1 h2
        rw [hd, hw, hs]
        cases hwr : wordR r with
        | mk o k0 =>
          rw [hwr] at h1 h2
          cases o with
          | none =>
            obtain ⟨g1, g2⟩ := h2 k0 rfl
            refine ⟨fun w' k e => (by cases e), fun k e => ?_⟩
            simp only [Option.map_none, Prod.mk.injEq, true_and] at e
            subst e
            refine ⟨?_, by omega⟩
            rw [show i + (k0 + m) = i + m + k0 by omega]
            exact g1
          | some x =>
            obtain ⟨g1, g2, g3⟩ := h1 x k0 rfl
            refine ⟨fun w' k e => ?_, fun k e => (by cases e)⟩
            simp only [Option.map_some, Prod.mk.injEq, Option.some.injEq] at e
            obtain ⟨rfl, rfl⟩ := e
            rw [show i + (k0 + m) = i + m + k0 by omega]
            refine ⟨?_, g2, by omega⟩
            simp only
            rw [g1]
            simp
    cases hd : text.drop i with
    | nil =>
      rw [← hd]
      exact same hd rfl rfl
    | cons c r =>
      rw [← hd]
      by_cases h92 : c = 92
      · subst h92
        cases r with
        | nil => exact bad hd rfl (rest_tail hd s)
        | cons c r =>
          by_cases h10 : c = 10
          · subst h10
            exact same hd rfl rfl
          · cases he : esc c with
            | true => exact go c 2 hd (drop_next2 hd) (by omega) (by have := drop_lt2 hd; omega) (by rw [wordR_esc h10, he, if_pos rfl]) (rest_esc hd he s)
            | false => exact bad hd (by rw [wordR_esc h10, he, if_neg (by simp)]) (rest_noesc hd h10 he s)
      · cases hst : stop c with
        | true => exact same hd (by rw [wordR_byte h92, hst, if_pos rfl]) (by rw [stops_byte h92, hst])
        | false =>
          by_cases h32 : c < 32
          · exact bad hd (by rw [wordR_byte h92, hst, if_neg (by simp), if_pos h32]) (rest_low hd (by rintro rfl; revert hst; decide) h32 s)
          · exact go c 1 hd (drop_next hd) (by omega) (by have := drop_lt hd; omega) (by rw [wordR_byte h92, hst, if_neg (by simp), if_neg h32]) (rest_byte hd h92 hst (UInt8.not_lt.1 h32) s)
/-- where no word ends, one begins -/
theorem rest_begin {text : B} {i : Nat} (hst : stops (text.drop i) = false) (s : Rd) (hc : s.cur = none) (hok : ¬ (s.words.length = 1 ∧ s.mark = false)) : rest text i s = rest text i { s with cur := some [] } := by
  have hstep : ∀ c, s.step (.byte c) = some { s with cur := some [c] } := fun c => by
    unfold Rd.step
    rw [hc]
    show (if s.words.length = 1 ∧ s.mark = false then none else _) = _
    rw [if_neg hok]
  have hstep2 : ∀ c, Rd.step { s with cur := some [] } (.byte c) = some { s with cur := some [c] } := fun c => rfl
  cases hd : text.drop i with
  | nil => rw [hd] at hst; cases hst
  | cons c r =>
    by_cases h92 : c = 92
    · subst h92
      cases r with
      | nil => rw [rest_tail hd, rest_tail hd]
      | cons c r =>
        by_cases h10 : c = 10
        · subst h10; rw [hd] at hst; cases hst
        · cases he : esc c with
          | true => rw [rest_esc hd he, rest_esc hd he, hstep, hstep2]
          | false => rw [rest_noesc hd h10 he, rest_noesc hd h10 he]
    · rw [hd, stops_byte h92] at hst
      by_cases h32 : c < 32
      · have h10 : c ≠ 10 := by rintro rfl; revert hst; decide
        rw [rest_low hd h10 h32, rest_low hd h10 h32]
      · rw [rest_byte hd h92 hst (UInt8.not_lt.1 h32), rest_byte hd h92 hst (UInt8.not_lt.1 h32), hstep, hstep2]
/-- a word that begins has a byte -/
theorem wordR_some {d w : B} {k : Nat} (hst : stops d = false) (h : wordR d = (some w, k)) : w ≠ [] ∧ 0 < k := by
  cases d with
  | nil => cases hst
  | cons c r =>
    by_cases h92 : c = 92
    · subst h92
      cases r with
      | nil => cases h
      | cons c r =>
        by_cases h10 : c = 10
        · subst h10; cases hst
        · rw [wordR_esc h10] at h
          split at h
          · simp only [Prod.mk.injEq, Option.map_eq_some_iff] at h
            obtain ⟨⟨x, -, rfl⟩, rfl⟩ := h
            exact ⟨by simp, by omega⟩
          · cases h
    · rw [stops_byte h92] at hst
      rw [wordR_byte h92, hst, if_neg (by simp)] at h
      split at h
      · cases h
      · simp only [Prod.mk.injEq, Option.map_eq_some_iff] at h
        obtain ⟨⟨x, -, rfl⟩, rfl⟩ := h
        exact ⟨by simp, by omega⟩

/-- how far blanks go -/
def skip : B → Nat
  | 32 :: r => skip r + 1
  | 92 :: 10 :: r => skip r + 2
  | _ => 0
def blank : B → Bool
  | 32 :: _ => true
  | 92 :: 10 :: _ => true
  | _ => false
theorem flush_flush (s : Rd) : s.flush.flush = s.flush := by
  unfold Rd.flush
  cases h : s.cur <;> simp [h]
theorem flush_cur (s : Rd) : s.flush.cur = none := by
  unfold Rd.flush
  cases h : s.cur <;> simp [h]
theorem skip_zero {d : B} (h : blank d = false) : skip d = 0 := by
  unfold blank at h
  unfold skip
  split <;> simp_all
/-- blanks passed -/
theorem rest_skip {text : B} : ∀ (n i : Nat), text.length - i ≤ n → i ≤ text.length → ∀ (s : Rd), rest text i s = rest text (i + skip (text.drop i)) (if skip (text.drop i) = 0 then s else s.flush) ∧ blank (text.drop (i + skip (text.drop i))) = false ∧ i + skip (text.drop i) ≤ text.length
  | n, i, hn, hi, s => by
    by_cases hb : blank (text.drop i) = false
    · rw [skip_zero hb, Nat.add_zero, if_pos rfl]
      exact ⟨rfl, hb, hi⟩
    · have key : ∀ (m : Nat), 0 < m → i + m ≤ text.length → skip (text.drop i) = skip (text.drop (i + m)) + m → rest text i s = rest text (i + m) s.flush → rest text i s = rest text (i + skip (text.drop i)) (if skip (text.drop i) = 0 then s else s.flush) ∧ blank (text.drop (i + skip (text.drop i))) = false ∧ i + skip (text.drop i) ≤ text.length := by
        intro m hm hl hs hr
        cases n with
        | zero => omega
        | succ n =>
          obtain ⟨h1, h2, h3⟩ := rest_skip n (i + m) (by omega) hl s.flush
          have e : i + skip (text.drop i) = i + m + skip (text.drop (i + m)) := by omega
          rw [e, if_neg (by omega), hr, h1]
          refine ⟨?_, h2, h3⟩
          split <;> simp [flush_flush]
      cases hd : text.drop i with
      | nil => rw [hd] at hb; exact absurd rfl hb
      | cons c r =>
        rw [← hd]
        by_cases h32 : c = 32
        · subst h32
          have := drop_lt hd
          exact key 1 (by omega) (by omega) (by rw [hd, drop_next hd]; rfl) (rest_blank hd s)
        · by_cases h92 : c = 92
          · subst h92
            cases r with
            | nil => rw [hd] at hb; exact absurd rfl hb
            | cons c r =>
              by_cases h10 : c = 10
              · subst h10
                have := drop_lt2 hd
                exact key 2 (by omega) (by omega) (by rw [hd, drop_next2 hd]; rfl) (rest_join hd s)
              · exfalso; apply hb; rw [hd]; unfold blank; split <;> simp_all
          · exfalso; apply hb; rw [hd]; unfold blank; split <;> simp_all

/-- the words of a line so far -/
def ws' (t : B) (ds : List B) : List B := if t = [] then [] else t :: ds
/-- a line is read so far: R is what the whole reading comes to -/
structure At (text : B) (R : Nat ⊕ List Rule) (out : List Rule) (i : Nat) (t : B) (ds : List B) (mk : Bool) : Prop where
  st : ∃ s : Rd, s.flush = ⟨ws' t ds, none, mk, out⟩ ∧ rest text i s = R ∧ (s.cur = none ∨ stops (text.drop i) = true)
  le : i ≤ text.length
  tgt : t = [] → ds = [] ∧ mk = false
  dps : ds ≠ [] → mk = true
theorem At.begin {text : B} {R : Nat ⊕ List Rule} {out : List Rule} {i : Nat} (h : rest text i ⟨[], none, false, out⟩ = R) (hi : i ≤ text.length) : At text R out i [] [] false :=
  ⟨⟨⟨[], none, false, out⟩, rfl, h, .inl rfl⟩, hi, fun _ => ⟨rfl, rfl⟩, fun h => absurd rfl h⟩
theorem At.skip {text : B} {R : Nat ⊕ List Rule} {out : List Rule} {i : Nat} {t : B} {ds : List B} {mk : Bool} (h : At text R out i t ds mk) : At text R out (i + Dp.skip (text.drop i)) t ds mk ∧ blank (text.drop (i + Dp.skip (text.drop i))) = false := by
  obtain ⟨s, h1, h2, h3⟩ := h.st
  obtain ⟨g1, g2, g3⟩ := rest_skip _ i (Nat.le_refl _) h.le s
  refine ⟨⟨⟨_, ?_, g1.symm.trans h2, ?_⟩, g3, h.tgt, h.dps⟩, g2⟩
  · split
    · exact h1
    · rw [flush_flush]; exact h1
  · split
    · rename_i h0
      rw [h0, Nat.add_zero]; exact h3
    · exact .inl (flush_cur s)
theorem flush_fin {s : Rd} {t : B} {ds : List B} {mk : Bool} {out : List Rule} (h : s.flush = ⟨ws' t ds, none, mk, out⟩) (htg : t = [] → ds = [] ∧ mk = false) : s.step .fin = if t ≠ [] ∧ mk = false then none else some ⟨[], none, false, out ++ if t = [] then [] else [(t, ds)]⟩ := by
  have hmk : s.flush.mark = s.mark := by unfold Rd.flush; cases s.cur <;> rfl
  have hout : s.flush.out = s.out := by unfold Rd.flush; cases s.cur <;> rfl
  rw [h] at hmk hout
  unfold Rd.step
  rw [h]
  by_cases ht : t = []
  · have hw : ws' t ds = [] := by unfold ws'; rw [if_pos ht]
    rw [hw]
    show some (⟨[], none, false, out⟩ : Rd) = if t ≠ [] ∧ mk = false then none else some ⟨[], none, false, out ++ if t = [] then [] else [(t, ds)]⟩
    rw [if_neg (fun c => c.1 ht), if_pos ht, List.append_nil]
  · have hw : ws' t ds = t :: ds := by unfold ws'; rw [if_neg ht]
    rw [hw, if_neg ht]
    show (if s.mark = true then some (⟨[], none, false, s.out ++ [(t, ds)]⟩ : Rd) else none) = _
    rw [← hmk, ← hout]
    cases mk <;> simp [ht]
/-- a line ends -/
theorem At.fin {text : B} {R : Nat ⊕ List Rule} {out : List Rule} {i : Nat} {t : B} {ds : List B} {mk : Bool} (h : At text R out i t ds mk) (hd : text.drop i = [] ∨ ∃ r, text.drop i = 10 :: r) :
    (t ≠ [] ∧ mk = false → R = .inl i) ∧ (¬ (t ≠ [] ∧ mk = false) → R = rest text (i + 1) ⟨[], none, false, out ++ if t = [] then [] else [(t, ds)]⟩) := by
  obtain ⟨s, h1, h2, -⟩ := h.st
  have hf : rest text i s = match s.step .fin with | none => .inl i | some t => rest text (i + 1) t := by
    rcases hd with hd | ⟨r, hd⟩
    · exact rest_nil (Nat.le_antisymm h.le (List.drop_eq_nil_iff.1 hd)) s
    · exact rest_fin hd s
  rw [flush_fin h1 h.tgt] at hf
  rw [← h2, hf]
  refine ⟨fun hw => ?_, fun hw => ?_⟩
  · rw [if_pos hw]
  · rw [if_neg hw]
/-- a mark -/
theorem At.mark {text : B} {R : Nat ⊕ List Rule} {out : List Rule} {i : Nat} {t : B} {ds : List B} {mk : Bool} (h : At text R out i t ds mk) {r : B} (hd : text.drop i = 58 :: r) :
    (¬ (t ≠ [] ∧ mk = false) → R = .inl i) ∧ (t ≠ [] ∧ mk = false → At text R out (i + 1) t ds true) := by
  obtain ⟨s, h1, h2, -⟩ := h.st
  have hmk : s.flush.mark = s.mark := by unfold Rd.flush; cases s.cur <;> rfl
  rw [h1] at hmk
  have hst : s.step .mark = if t ≠ [] ∧ mk = false then some ⟨ws' t ds, none, true, out⟩ else none := by
    unfold Rd.step
    rw [h1, ← hmk]
    by_cases ht : t = []
    · simp [ws', ht]
    · cases mk <;> simp [ws', ht]
  have hm := rest_mark hd s
  rw [hst] at hm
  refine ⟨fun hw => ?_, fun hw => ?_⟩
  · rw [← h2, hm, if_neg hw]
  · rw [if_pos hw] at hm
    have hl := drop_lt hd
    exact ⟨⟨_, rfl, hm.symm.trans h2, .inl rfl⟩, hl, fun e => absurd e hw.1, fun _ => rfl⟩
/-- a word, or what is wrong there -/
theorem At.word {text : B} {R : Nat ⊕ List Rule} {out : List Rule} {i : Nat} {t : B} {ds : List B} {mk : Bool} (h : At text R out i t ds mk) (hd : stops (text.drop i) = false) :
    (t ≠ [] ∧ mk = false → R = .inl i) ∧
    (¬ (t ≠ [] ∧ mk = false) → (∀ k, wordR (text.drop i) = (none, k) → R = .inl (i + k) ∧ i + k ≤ text.length) ∧
      ∀ w k, wordR (text.drop i) = (some w, k) → At text R out (i + k) (if mk = true then t else w) (if mk = true then ds ++ [w] else ds) mk) := by
  obtain ⟨s, h1, h2, h3⟩ := h.st
  have hc : s.cur = none := h3.elim id fun e => by rw [hd] at e; cases e
  have hs : s = ⟨ws' t ds, none, mk, out⟩ := by rw [← h1]; unfold Rd.flush; rw [hc]
  subst hs
  refine ⟨fun hw => ?_, fun hw => ?_⟩
  · have hds : ds = [] := by
      by_cases hds : ds = []
      · exact hds
      · have := h.dps hds; rw [hw.2] at this; cases this
    have hstep : ∀ c, Rd.step ⟨ws' t ds, none, mk, out⟩ (.byte c) = none := fun c => by
      unfold Rd.step
      show (if (ws' t ds).length = 1 ∧ mk = false then none else _) = _
      rw [if_pos ⟨by unfold ws'; rw [if_neg hw.1, hds]; rfl, hw.2⟩]
    rw [← h2]
    cases he : text.drop i with
    | nil => rw [he] at hd; cases hd
    | cons c r =>
      by_cases h92 : c = 92
      · subst h92
        cases r with
        | nil => rw [rest_tail he]
        | cons c r =>
          by_cases h10 : c = 10
          · subst h10; rw [he] at hd; cases hd
          · cases hesc : esc c with
            | true => rw [rest_esc he hesc, hstep]
            | false => rw [rest_noesc he h10 hesc]
      · rw [he, stops_byte h92] at hd
        by_cases h32 : c < 32
        · rw [rest_low he (by rintro rfl; revert hd; decide) h32]
        · rw [rest_byte he h92 hd (UInt8.not_lt.1 h32), hstep]
  · have hok : ¬ ((ws' t ds).length = 1 ∧ mk = false) := by
      rintro ⟨e1, e2⟩
      apply hw
      refine ⟨fun e => ?_, e2⟩
      unfold ws' at e1
      rw [if_pos e] at e1
      simp at e1
    have hb := rest_begin hd (⟨ws' t ds, none, mk, out⟩ : Rd) rfl hok
    obtain ⟨g1, g2⟩ := rest_word (text := text) _ i (Nat.le_refl _) h.le ⟨ws' t ds, some [], mk, out⟩ [] rfl
    refine ⟨fun k e => ?_, fun w k e => ?_⟩
    · obtain ⟨a, b⟩ := g2 k e
      exact ⟨by rw [← h2, hb]; exact a, b⟩
    · obtain ⟨a, b, c⟩ := g1 w k e
      obtain ⟨hwn, hk⟩ := wordR_some hd e
      refine ⟨⟨⟨ws' t ds, some w, mk, out⟩, ?_, ?_, .inr b⟩, c, ?_, ?_⟩
      · show (⟨ws' t ds ++ [w], none, mk, out⟩ : Rd) = _
        cases mk with
        | true =>
          have ht : t ≠ [] := fun e => by have := (h.tgt e).2; cases this
          simp [ws', ht]
        | false =>
          have ht : t = [] := by
            by_cases ht : t = []
            · exact ht
            · exact absurd ⟨ht, rfl⟩ hw
          have hds := (h.tgt ht).1
          subst ht hds
          simp [ws', hwn]
      · rw [← h2, hb]
        have := a.symm
        rw [List.nil_append] at this
        exact this
      · cases mk with
        | true =>
          have ht : t ≠ [] := fun e => by have := (h.tgt e).2; cases this
          intro e; exact absurd e ht
        | false => intro e; exact absurd e hwn
      · cases mk with
        | true => exact fun _ => rfl
        | false =>
          have ht : t = [] := by
            by_cases ht : t = []
            · exact ht
            · exact absurd ⟨ht, rfl⟩ hw
          intro e; exact absurd (h.tgt ht).1 e

end Go.Proofs.Ytppcfidaalejfaa.Dp
