/-
  WORDS STAND WHERE THEY ARE SAID TO STAND.
-/
import Derived.Test.YtdknggccjhillaaXLine
namespace Go.Proofs.Ytdknggccjhillaa.Lx

/-- l are bytes of t that follow one another, the first one at p -/
def Seg (t : List UInt8) : Nat → List (B Nat) → Prop
  | _, [] => True
  | p, b :: r => b.at_ = p ∧ ((b.join = false ∧ t[p]? = some b.c ∧ Seg t (p + 1) r) ∨ (b.join = true ∧ b.c = 32 ∧ t[p]? = some 92 ∧ Seg t (p + 2) r))
theorem seg_bytes : ∀ (n : Nat) (pre s : List UInt8), s.length ≤ n → Seg (pre ++ s) pre.length (bytes pre.length s) := by
  intro n
  induction n with
  | zero =>
    intro pre s h
    have : s = [] := List.eq_nil_of_length_eq_zero (by omega)
    subst this
    simp [bytes, Seg]
  | succ n ih =>
    intro pre s h
    rcases bytes_cases s with rfl | ⟨r, rfl⟩ | ⟨c, r, rfl, hc⟩
    · simp [bytes, Seg]
    · simp only [List.length_cons] at h
      rw [bytes_join]
      refine ⟨rfl, .inr ⟨rfl, rfl, by simp, ?_⟩⟩
      have := ih (pre ++ [92, 10]) r (by omega)
      simpa using this
    · simp only [List.length_cons] at h
      rw [bytes_one _ _ _ hc]
      refine ⟨rfl, .inl ⟨rfl, by simp, ?_⟩⟩
      have := ih (pre ++ [c]) r (by omega)
      simpa using this
theorem Seg.tail {t : List UInt8} {p : Nat} {b : B Nat} {r : List (B Nat)} (h : Seg t p (b :: r)) : ∃ q, p < q ∧ Seg t q r := by
  rcases h.2 with ⟨-, -, h⟩ | ⟨-, -, -, h⟩
  · exact ⟨p + 1, by omega, h⟩
  · exact ⟨p + 2, by omega, h⟩
theorem Seg.lt {t : List UInt8} {p : Nat} {b : B Nat} {r : List (B Nat)} (h : Seg t p (b :: r)) : p < t.length := by
  rcases h.2 with ⟨-, h, -⟩ | ⟨-, -, h, -⟩
  · exact (List.getElem?_eq_some_iff.1 h).1
  · exact (List.getElem?_eq_some_iff.1 h).1
/-- the rest of a segment -/
theorem Seg.rest {t : List UInt8} : ∀ (x : List (B Nat)) {p : Nat} {y : List (B Nat)}, Seg t p (x ++ y) → ∃ q, p + x.length ≤ q ∧ Seg t q y
  | [], p, y, h => ⟨p, by simp, h⟩
  | b :: x, p, y, h => by
    obtain ⟨q, hq, h1⟩ := h.tail
    obtain ⟨q2, hq2, h2⟩ := Seg.rest x h1
    exact ⟨q2, by simp; omega, h2⟩
theorem Seg.head {t : List UInt8} : ∀ (x : List (B Nat)) {p : Nat} {y : List (B Nat)}, Seg t p (x ++ y) → Seg t p x
  | [], _, _, _ => trivial
  | b :: x, p, y, h => by
    refine ⟨h.1, ?_⟩
    rcases h.2 with ⟨h1, h2, h3⟩ | ⟨h1, h2, h3, h4⟩
    · exact .inl ⟨h1, h2, Seg.head x h3⟩
    · exact .inr ⟨h1, h2, h3, Seg.head x h4⟩
/-- bytes that are bare stand side by side in the text -/
theorem Seg.bare {t : List UInt8} : ∀ (x : List (B Nat)) {p : Nat}, Seg t p x → (∀ b ∈ x, bare b.c = true) → ∀ i, i < x.length → t[p + i]? = some ((x.map B.c).getD i 0)
  | [], _, _, _, _, h => by simp at h
  | b :: x, p, h, hb, i, hi => by
    rcases h.2 with ⟨-, h2, h3⟩ | ⟨-, h2, -, -⟩
    · cases i with
      | zero => simpa using h2
      | succ i =>
        have := Seg.bare x h3 (fun c hc => hb c (List.mem_cons_of_mem _ hc)) i (by simpa using hi)
        rw [show p + (i + 1) = p + 1 + i by omega, this]
        simp
    · have := hb b (by simp)
      rw [h2] at this
      exact absurd this (by decide)
theorem quo_rest : ∀ (n : Nat) (l : List (B Nat)) (acc s : List UInt8) (r : List (B Nat)), l.length ≤ n → quo l acc = .ok (some (s, r)) → ∃ x, l = x ++ r := by
  intro n
  induction n with
  | zero =>
    intro l acc s r hl h
    have : l = [] := List.eq_nil_of_length_eq_zero (by omega)
    subst this
    simp [quo] at h
  | succ n ih =>
    intro l acc s r hl h
    cases l with
    | nil => simp [quo] at h
    | cons b t =>
      rw [quo] at h
      simp only [List.length_cons] at hl
      split at h
      · simp only [R.ok.injEq, Option.some.injEq, Prod.mk.injEq] at h
        exact ⟨[b], by rw [← h.2]; rfl⟩
      · split at h
        · obtain ⟨x, rfl⟩ := ih t _ s r (by omega) h; exact ⟨b :: x, rfl⟩
        · cases t with
          | nil => simp [quo.qesc] at h
          | cons e t' =>
            rw [quo.qesc] at h
            split at h
            · cases h
            · split at h
              · simp only [List.length_cons] at hl
                obtain ⟨x, rfl⟩ := ih t' _ s r (by omega) h; exact ⟨b :: e :: x, rfl⟩
              · cases h
/-- a word stands at its place -/
structure Stands (t : List UInt8) (w : W Nat) : Prop where
  lt : w.at_ < t.length
  ok : WOk w
  quoted : w.quoted = true → t[w.at_]? = some 34
  bare : w.quoted = false → ∀ i, i < w.text.length → t[w.at_ + i]? = some (w.text.getD i 0)
/-- words stand one behind the other, from p on -/
def Row (t : List UInt8) : Nat → List (W Nat) → Prop
  | _, [] => True
  | p, w :: r => p ≤ w.at_ ∧ Stands t w ∧ Row t (w.at_ + 1) r
theorem Row.mono {t : List UInt8} {p q : Nat} {ws : List (W Nat)} (h : Row t q ws) (hp : p ≤ q) : Row t p ws := by
  cases ws with
  | nil => trivial
  | cons w r => exact ⟨Nat.le_trans hp h.1, h.2⟩
theorem rd_stands {t : List UInt8} : ∀ (n p : Nat) (l : List (B Nat)) (ws : List (W Nat)), l.length ≤ n → Seg t p l → rd l = .ok ws → Row t p ws := by
  intro n
  induction n with
  | zero =>
    intro p l ws h hs e
    have : l = [] := List.eq_nil_of_length_eq_zero (by omega)
    subst this
    simp only [rd, R.ok.injEq] at e
    subst e; trivial
  | succ n ih =>
    intro p l ws h hs e
    have hok := rd_ok _ l ws (Nat.le_refl _) e
    cases l with
    | nil =>
      simp only [rd, R.ok.injEq] at e
      subst e; trivial
    | cons b r =>
      simp only [List.length_cons] at h
      have hlt := hs.lt
      have hat := hs.1
      obtain ⟨q, hq, htl⟩ := hs.tail
      have hnj : b.c ≠ 32 → t[p]? = some b.c := fun hc => by
        rcases hs.2 with ⟨-, h2, -⟩ | ⟨-, h2, -⟩
        · exact h2
        · exact absurd h2 hc
      have fin : ∀ (r' : List (B Nat)) (w0 : W Nat) (q' : Nat), r'.length ≤ n → Seg t q' r' → p < q' → w0.at_ = p → (WOk w0 → Stands t w0) → (rd r').map id (w0 :: ·) = .ok ws → Row t p ws := fun r' w0 q' hr hs' hq' ha hw e => by
        cases hrd : rd r' with
        | bad a => rw [hrd] at e; cases e
        | ok v =>
          rw [hrd] at e
          simp only [R.map, R.ok.injEq] at e
          subst e
          exact ⟨by omega, hw (hok w0 (by simp)), (ih q' r' v hr hs' hrd).mono (by omega)⟩
      by_cases h1 : b.c = 35
      · rw [rd_hash h1] at e; simp only [R.ok.injEq] at e; subst e; trivial
      by_cases h2 : b.c = 32
      · rw [rd_blank h2] at e; exact (ih q r ws (by omega) htl e).mono (by omega)
      by_cases h3 : b.c = 58 ∨ b.c = 61
      · rw [rd_mark h3] at e
        exact fin r ⟨[b.c], b.at_, false, true⟩ q (by omega) htl hq hat (fun ho => ⟨by show b.at_ < _; omega, ho, fun h => (by cases h), fun _ i hi => by
          have : i = 0 := by simpa using hi
          subst this
          show t[b.at_ + 0]? = _
          rw [Nat.add_zero, hat, hnj h2]; rfl⟩) e
      by_cases h4 : b.c = 34
      · rw [rd_quote h4] at e
        cases hqr : quo r [] with
        | bad a => rw [hqr] at e; cases e
        | ok o =>
          cases o with
          | none => rw [hqr] at e; cases e
          | some pr =>
            obtain ⟨s, r'⟩ := pr
            rw [hqr] at e
            obtain ⟨x, hx⟩ := quo_rest _ r [] s r' (Nat.le_refl _) hqr
            rw [hx] at htl
            obtain ⟨q2, hq2, h5⟩ := Seg.rest x htl
            exact fin r' ⟨s, b.at_, true, false⟩ q2 (by have := quo_len _ r [] s r' (Nat.le_refl _) hqr; omega) h5 (by omega) hat (fun ho => ⟨by show b.at_ < _; omega, ho, fun _ => by
              show t[b.at_]? = _
              rw [hat, hnj h2, h4], fun h => (by cases h)⟩) e
      cases h5 : bare b.c with
      | false => rw [rd_bad h1 h2 h3 h4 h5] at e; cases e
      | true =>
        rw [rd_bare h5] at e
        have hsp : (b :: r.takeWhile fun x => Lx.bare x.c) ++ (r.dropWhile fun x => Lx.bare x.c) = b :: r := by rw [List.cons_append, List.takeWhile_append_dropWhile]
        have hs1 : Seg t p (b :: r.takeWhile fun x => Lx.bare x.c) := Seg.head _ (by rw [hsp]; exact hs)
        obtain ⟨q2, hq2, h6⟩ := Seg.rest (b :: r.takeWhile fun x => Lx.bare x.c) (y := r.dropWhile fun x => Lx.bare x.c) (p := p) (by rw [hsp]; exact hs)
        simp only [List.length_cons] at hq2
        refine fin _ ⟨b.c :: (r.takeWhile fun x => Lx.bare x.c).map B.c, b.at_, false, false⟩ q2 (Nat.le_trans (List.Sublist.length_le (List.dropWhile_sublist _)) (by omega)) h6 (by omega) hat (fun ho => ⟨by show b.at_ < _; omega, ho, fun h => (by cases h), fun _ i hi => ?_⟩) e
        have := Seg.bare _ hs1 (fun c hc => by
          rcases List.mem_cons.1 hc with rfl | hc
          · exact h5
          · exact (List.all_eq_true.1 (List.all_takeWhile (p := fun x : B Nat => Lx.bare x.c) (l := r))) c hc) i (by simpa using hi)
        show t[b.at_ + i]? = _
        rw [hat]
        simpa using this

/-- a line's beginning: the text's, or right behind a byte 10 -/
def Begins (t : List UInt8) (p : Nat) : Prop := p = 0 ∨ ∃ q, p = q + 1 ∧ t[q]? = some 10
/-- lines stand one behind the other, from p on -/
def Rows (t : List UInt8) : Nat → List (Ln Nat) → Prop
  | _, [] => True
  | p, l :: r => p ≤ l.at_ ∧ Begins t l.at_ ∧ l.at_ < t.length ∧ (l.ind = true ↔ t[l.at_]? = some 9) ∧ LOk l ∧ Row t l.at_ l.words ∧ ∃ q, l.at_ < q ∧ (∀ w ∈ l.words, w.at_ < q) ∧ Rows t q r
theorem Rows.mono {t : List UInt8} {p q : Nat} {ls : List (Ln Nat)} (h : Rows t q ls) (hp : p ≤ q) : Rows t p ls := by
  cases ls with
  | nil => trivial
  | cons l r => exact ⟨Nat.le_trans hp h.1, h.2⟩
/-- words stand below where their line ends -/
theorem rd_below {t : List UInt8} : ∀ (n p : Nat) (l : List (B Nat)) (ws : List (W Nat)) (q : Nat), l.length ≤ n → Seg t p l → (∀ b ∈ l, b.at_ < q) → rd l = .ok ws → ∀ w ∈ ws, w.at_ < q := by
  intro n
  induction n with
  | zero =>
    intro p l ws q h hs hb e
    have : l = [] := List.eq_nil_of_length_eq_zero (by omega)
    subst this
    simp only [rd, R.ok.injEq] at e
    subst e; simp
  | succ n ih =>
    intro p l ws q h hs hb e
    cases l with
    | nil =>
      simp only [rd, R.ok.injEq] at e
      subst e; simp
    | cons b r =>
      simp only [List.length_cons] at h
      obtain ⟨q1, hq1, htl⟩ := hs.tail
      have hb0 := hb b (by simp)
      have fin : ∀ (x r' : List (B Nat)) (w0 : W Nat), r = x ++ r' → w0.at_ = b.at_ → (rd r').map id (w0 :: ·) = .ok ws → ∀ w ∈ ws, w.at_ < q := fun x r' w0 hx ha e2 => by
        clear e
        subst hx
        obtain ⟨q2, -, h2⟩ := Seg.rest x htl
        cases hrd : rd r' with
        | bad a => rw [hrd] at e2; cases e2
        | ok v =>
          rw [hrd] at e2
          simp only [R.map, R.ok.injEq] at e2
          subst e2
          intro w hm
          rcases List.mem_cons.1 hm with rfl | hm
          · omega
          · exact ih q2 r' v q (by simp at h; omega) h2 (fun c hc => hb c (by simp [hc])) hrd w hm
      by_cases h1 : b.c = 35
      · rw [rd_hash h1] at e; simp only [R.ok.injEq] at e; subst e; simp
      by_cases h2 : b.c = 32
      · rw [rd_blank h2] at e; exact ih q1 r ws q (by omega) htl (fun c hc => hb c (List.mem_cons_of_mem _ hc)) e
      by_cases h3 : b.c = 58 ∨ b.c = 61
      · rw [rd_mark h3] at e; exact fin [] r ⟨[b.c], b.at_, false, true⟩ rfl rfl e
      by_cases h4 : b.c = 34
      · rw [rd_quote h4] at e
        cases hqr : quo r [] with
        | bad a => rw [hqr] at e; cases e
        | ok o =>
          cases o with
          | none => rw [hqr] at e; cases e
          | some pr =>
            obtain ⟨s, r'⟩ := pr
            rw [hqr] at e
            obtain ⟨x, hx⟩ := quo_rest _ r [] s r' (Nat.le_refl _) hqr
            exact fin x r' ⟨s, b.at_, true, false⟩ hx rfl e
      cases h5 : bare b.c with
      | false => rw [rd_bad h1 h2 h3 h4 h5] at e; cases e
      | true =>
        rw [rd_bare h5] at e
        exact fin (r.takeWhile fun x => Lx.bare x.c) _ ⟨_, b.at_, false, false⟩ (List.takeWhile_append_dropWhile ..).symm rfl e

theorem Seg.ats {t : List UInt8} : ∀ (x : List (B Nat)) {p : Nat}, Seg t p x → ∀ b ∈ x, p ≤ b.at_ ∧ b.at_ < t.length
  | [], _, _, _, h => by cases h
  | b :: x, p, h, c, hc => by
    have hlt := h.lt
    obtain ⟨q, hq, ht⟩ := h.tail
    rcases List.mem_cons.1 hc with rfl | hc
    · rw [h.1]; exact ⟨Nat.le_refl _, hlt⟩
    · have := Seg.ats x ht c hc
      exact ⟨by omega, this.2⟩
/-- the bytes ahead of another one of the segment stand ahead of it -/
theorem Seg.ahead {t : List UInt8} : ∀ (x : List (B Nat)) {p : Nat} {z : B Nat} {y : List (B Nat)}, Seg t p (x ++ z :: y) → ∀ b ∈ x, b.at_ < z.at_
  | [], _, _, _, _, _, h => by cases h
  | b :: x, p, z, y, h, c, hc => by
    obtain ⟨q, hq, ht⟩ := h.tail
    rcases List.mem_cons.1 hc with rfl | hc
    · have := (Seg.ats _ ht z (by simp)).1
      rw [h.1]; omega
    · exact Seg.ahead x ht c hc
theorem line_ind {t : List UInt8} {p : Nat} {b : B Nat} {r : List (B Nat)} {i : Bool} {ws : List (W Nat)} (hs : Seg t p (b :: r)) (h : line (b :: r) = .ok (i, ws)) : (i = true ↔ t[p]? = some 9) ∧ ∃ z : List (B Nat), (z = r ∨ z = b :: r) ∧ rd z = .ok ws := by
  rw [line] at h
  have hc : b.c = 9 ↔ t[p]? = some 9 := by
    rcases hs.2 with ⟨-, h2, -⟩ | ⟨hj, h2, h3, -⟩
    · rw [h2]; simp
    · exact ⟨fun h => by rw [h2] at h; exact absurd h (by decide), fun h => by
        rw [h3] at h; exact absurd h (by decide)⟩
  split at h
  · rename_i h9
    cases hr : rd r with
    | bad a => rw [hr] at h; cases h
    | ok v =>
      rw [hr] at h
      simp only [R.map, R.ok.injEq, Prod.mk.injEq] at h
      exact ⟨⟨fun _ => hc.1 h9, fun _ => h.1.symm⟩, r, .inl rfl, by rw [hr, ← h.2]⟩
  · rename_i h9
    cases hr : rd (b :: r) with
    | bad a => rw [hr] at h; cases h
    | ok v =>
      rw [hr] at h
      simp only [R.map, R.ok.injEq, Prod.mk.injEq] at h
      exact ⟨⟨fun hi => (by rw [← h.1] at hi; cases hi), fun h1 => absurd (hc.2 h1) h9⟩, b :: r, .inr rfl, by rw [hr, ← h.2]⟩

theorem split_nl (l : List (B Nat)) : (l.dropWhile (fun x => x.c != 10) = [] ∧ l.takeWhile (fun x => x.c != 10) = l) ∨ ∃ z y, l.dropWhile (fun x => x.c != 10) = z :: y ∧ z.c = 10 ∧ l = l.takeWhile (fun x => x.c != 10) ++ z :: y := by
  have hsp := List.takeWhile_append_dropWhile (p := fun x : B Nat => x.c != 10) (l := l)
  cases hd : l.dropWhile (fun x => x.c != 10) with
  | nil =>
    rw [hd, List.append_nil] at hsp
    exact .inl ⟨rfl, hsp⟩
  | cons z y =>
    refine .inr ⟨z, y, rfl, ?_, by rw [← hd, hsp]⟩
    have := List.head?_dropWhile_not (p := fun x : B Nat => x.c != 10) (l := l)
    rw [hd] at this
    simpa using this
theorem lns_stands {t : List UInt8} : ∀ (n p : Nat) (l : List (B Nat)) (ls : List (Ln Nat)), l.length ≤ n → Seg t p l → Begins t p → lns l = .ok ls → Rows t p ls := by
  intro n
  induction n with
  | zero =>
    intro p l ls h hs hb e
    have : l = [] := List.eq_nil_of_length_eq_zero (by omega)
    subst this
    simp only [lns, R.ok.injEq] at e
    subst e; trivial
  | succ n ih =>
    intro p l ls h hs hb e
    have hok := lns_ok _ l ls (Nat.le_refl _) e
    cases l with
    | nil =>
      simp only [lns, R.ok.injEq] at e
      subst e; trivial
    | cons b r =>
      rw [lns] at e
      have hat := hs.1
      have hlt := hs.lt
      have hsp := split_nl (b :: r)
      generalize hX : (b :: r).takeWhile (fun x => x.c != 10) = X at e hsp
      generalize hY : (b :: r).dropWhile (fun x => x.c != 10) = Y at e hsp
      cases hl : line X with
      | bad a => rw [hl] at e; cases e
      | ok pr =>
        obtain ⟨i, ws⟩ := pr
        rw [hl] at e
        cases ht : lns (Y.drop 1) with
        | bad a => simp only [R.andThen, ht, R.map] at e; cases e
        | ok u =>
          simp only [R.andThen, ht, R.map, R.ok.injEq] at e
          -- what follows the line
          have hnext : ∃ q, p < q ∧ (∀ c ∈ X, c.at_ < q) ∧ Rows t q u := by
            rcases hsp with ⟨rfl, hx⟩ | ⟨z, y, rfl, hz, hx⟩
            · simp only [List.drop_nil, lns, R.ok.injEq] at ht
              subst ht
              refine ⟨t.length, hlt, fun c hc => ?_, trivial⟩
              rw [hx] at hc
              exact (Seg.ats _ hs c hc).2
            · rw [hx] at hs
              obtain ⟨q, hq, hzs⟩ := Seg.rest X hs
              have hzat := hzs.1
              rcases hzs.2 with ⟨-, h2, h3⟩ | ⟨-, h2, -⟩
              · have hlen := congrArg List.length hx
                simp only [List.length_append, List.length_cons] at hlen h
                have := ih (q + 1) y u (by omega) h3 (.inr ⟨q, rfl, by rw [h2, hz]⟩) ht
                refine ⟨q + 1, by omega, fun c hc => ?_, this⟩
                have := Seg.ahead X hs c hc
                omega
              · rw [h2] at hz; exact absurd hz (by decide)
          obtain ⟨q, hpq, hXq, hRq⟩ := hnext
          cases ws with
          | nil => subst e; exact hRq.mono (by omega)
          | cons w0 ws =>
            subst e
            have hXb : ∃ X', X = b :: X' := by
              cases hXX : X with
              | nil => rw [hXX] at hl; simp [line] at hl
              | cons c X' =>
                have : c = b := by
                  rcases hsp with ⟨-, hx⟩ | ⟨z, y, -, -, hx⟩
                  · rw [hXX] at hx; exact (List.cons.inj hx).1
                  · rw [hXX] at hx; exact (List.cons.inj hx).1.symm
                exact ⟨X', by rw [this]⟩
            obtain ⟨X', rfl⟩ := hXb
            have hsX : Seg t p (b :: X') := by
              rcases hsp with ⟨-, hx⟩ | ⟨z, y, -, -, hx⟩
              · rw [hx]; exact hs
              · rw [hx] at hs; exact Seg.head _ hs
            obtain ⟨hi, z, hz, hrd⟩ := line_ind hsX hl
            have hL := hok ⟨b.at_, i, w0 :: ws⟩ (by simp)
            obtain ⟨q1, hq1, hs1⟩ := hsX.tail
            refine ⟨by show p ≤ b.at_; omega, by show Begins t b.at_; rw [hat]; exact hb, by show b.at_ < _; omega, by show _ ↔ t[b.at_]? = _; rw [hat]; exact hi, hL, ?_, q, by show b.at_ < q; omega, ?_, hRq⟩
            · show Row t b.at_ _
              rw [hat]
              rcases hz with rfl | rfl
              · exact (rd_stands _ q1 _ _ (Nat.le_refl _) hs1 hrd).mono (by omega)
              · exact rd_stands _ p _ _ (Nat.le_refl _) hsX hrd
            · rcases hz with rfl | rfl
              · exact rd_below _ q1 _ _ q (Nat.le_refl _) hs1 (fun c hc => hXq c (List.mem_cons_of_mem _ hc)) hrd
              · exact rd_below _ p _ _ q (Nat.le_refl _) hsX hXq hrd
/-- P11.8 -/
theorem lex_stands {t : List UInt8} {ls : List (Ln Nat)} (h : lex t = .ok ls) : Rows t 0 ls := by
  have := seg_bytes _ [] t (Nat.le_refl _)
  exact lns_stands _ 0 _ ls (Nat.le_refl _) (by simpa using this) (.inl rfl) h

end Go.Proofs.Ytdknggccjhillaa.Lx
