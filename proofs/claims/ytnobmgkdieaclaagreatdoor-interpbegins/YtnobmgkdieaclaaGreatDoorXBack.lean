/-
  WHAT IS WRITTEN IS READ: words, lines, whatever parts them. Places do not matter here.
-/
import Derived.Test.YtnobmgkdieaclaaGreatDoorPBs
namespace Go.Proofs.YtnobmgkdieaclaaGreatDoor.Lx
variable {α β : Type}

/-- a byte without a place -/
def u (c : UInt8) : B Unit := ⟨c, false, ()⟩
/-- a text's bytes without places -/
def eb (s : List UInt8) : List (B Unit) := (bytes 0 s).map (B.map fun _ => ())
theorem eb_at (p : Nat) (s : List UInt8) : (bytes p s).map (B.map fun _ => ()) = eb s := by
  have := bytes_shift p _ 0 s (Nat.le_refl _)
  rw [Nat.zero_add] at this
  rw [this, List.map_map]
  rfl
theorem bytes_app (t : List UInt8) : ∀ (n p : Nat) (s : List UInt8), s.length ≤ n → s.getLast? ≠ some 92 → bytes p (s ++ t) = bytes p s ++ bytes (p + s.length) t := by
  intro n
  induction n with
  | zero =>
    intro p a h _
    have : a = [] := List.eq_nil_of_length_eq_zero (by omega)
    subst this
    simp [bytes]
  | succ n ih =>
    intro p a h hl
    rcases bytes_cases a with rfl | ⟨r, rfl⟩ | ⟨c, r, rfl, hc⟩
    · simp [bytes]
    · simp only [List.length_cons] at h ⊢
      rw [List.cons_append, List.cons_append, bytes_join, bytes_join, List.cons_append, ih (p + 2) r (by omega) (by
        intro e
        apply hl
        cases r with
        | nil => simp at e
        | cons x r => simpa [List.getLast?_cons_cons] using e)]
      rw [show p + 2 + r.length = p + (r.length + 1 + 1) by omega]
    · simp only [List.length_cons] at h ⊢
      rw [List.cons_append, bytes_one _ _ _ hc, List.cons_append, bytes_one _ _ (r ++ t) (by
        cases r with
        | nil =>
          left
          rintro rfl
          simp at hl
        | cons x r => simpa using hc), ih (p + 1) r (by omega) (by
        intro e
        apply hl
        cases r with
        | nil => simp at e
        | cons x r => simpa [List.getLast?_cons_cons] using e)]
      rw [show p + 1 + r.length = p + (r.length + 1) by omega]
theorem eb_app {s t : List UInt8} (h : s.getLast? ≠ some 92) : eb (s ++ t) = eb s ++ eb t := by
  unfold eb
  rw [bytes_app t _ 0 s (Nat.le_refl _) h, List.map_append, eb_at, eb_at, eb_at]
theorem eb_one {c : UInt8} {r : List UInt8} (h : c ≠ 92) : eb (c :: r) = u c :: eb r := by
  unfold eb
  rw [bytes_one _ _ _ (.inl h), List.map_cons, eb_at]
  rfl
theorem bytes_plain : ∀ (n p : Nat) (s : List UInt8), s.length ≤ n → 10 ∉ s → (bytes p s).map (B.map fun _ => ()) = s.map u := by
  intro n
  induction n with
  | zero =>
    intro p s h _
    have : s = [] := List.eq_nil_of_length_eq_zero (by omega)
    subst this
    simp [bytes]
  | succ n ih =>
    intro p s h hn
    rcases bytes_cases s with rfl | ⟨r, rfl⟩ | ⟨c, r, rfl, hc⟩
    · simp [bytes]
    · simp at hn
    · simp only [List.length_cons] at h
      rw [bytes_one _ _ _ hc, List.map_cons, List.map_cons, ih (p + 1) r (by omega) (fun h => hn (List.mem_cons_of_mem _ h))]
      rfl
theorem eb_plain {s : List UInt8} (h : 10 ∉ s) : eb s = s.map u := bytes_plain _ 0 s (Nat.le_refl _) h

/-- a word as it may come: a mark, a quoted one, one of bare bytes -/
def WOk (w : W α) : Prop := (w.mark = true ∧ w.quoted = false ∧ (w.text = [58] ∨ w.text = [61])) ∨ (w.mark = false ∧ w.quoted = true) ∨ (w.mark = false ∧ w.quoted = false ∧ plain w.text = true)
def W.er (w : W α) : W Unit := w.map fun _ => ()

theorem bare_all {s : List UInt8} (h : plain s = true) : s ≠ [] ∧ ∀ c ∈ s, bare c = true := by
  unfold plain at h
  simp only [Bool.and_eq_true, Bool.not_eq_true', List.all_eq_true] at h
  exact ⟨fun e => by rw [e] at h; simp at h, h.2⟩
theorem qb_no (c : UInt8) : 10 ∉ qb c := by
  unfold qb
  split
  · rename_i h; rcases h with rfl | rfl <;> decide
  · split
    · decide
    · split
      · decide
      · rename_i h _; simpa using Ne.symm h
theorem quote_no (s : List UInt8) : 10 ∉ quote s := by
  unfold quote
  simp only [List.mem_cons, List.mem_append, List.mem_flatMap, List.not_mem_nil, or_false]
  rintro (h | ⟨c, -, h⟩ | h)
  · exact absurd h (by decide)
  · exact qb_no c h
  · exact absurd h (by decide)
theorem quote_last (s : List UInt8) : (quote s).getLast? = some 34 := by
  unfold quote
  rw [← List.cons_append, List.getLast?_append]
  rfl
theorem plain_no {s : List UInt8} (h : plain s = true) : 10 ∉ s ∧ s.getLast? ≠ some 92 := by
  obtain ⟨-, ha⟩ := bare_all h
  refine ⟨fun hm => (not_bare (ha 10 hm)).2.2.2.2.1 rfl, fun e => (not_bare (ha 92 (List.mem_of_getLast? e))).2.2.2.2.2.2 rfl⟩
theorem wtext_mark {w : W α} (h : w.mark = true) : wtext w = w.text := by unfold wtext; rw [if_pos h]
theorem wtext_quoted {w : W α} (h : w.mark = false) (hq : w.quoted = true) : wtext w = quote w.text := by unfold wtext; rw [if_neg (by rw [h]; simp), if_pos hq]
theorem wtext_plain {w : W α} (h : w.mark = false) (hq : w.quoted = false) (hp : plain w.text = true) : wtext w = w.text := by
  unfold wtext show_; rw [if_neg (by rw [h]; simp), if_neg (by rw [hq]; simp), if_pos hp]
theorem wtext_no {w : W α} (h : WOk w) : 10 ∉ wtext w ∧ (wtext w).getLast? ≠ some 92 := by
  rcases h with ⟨h1, -, h3 | h3⟩ | ⟨h1, h2⟩ | ⟨h1, h2, h3⟩
  · rw [wtext_mark h1, h3]; decide
  · rw [wtext_mark h1, h3]; decide
  · rw [wtext_quoted h1 h2]; exact ⟨quote_no _, by rw [quote_last]; decide⟩
  · rw [wtext_plain h1 h2 h3]; exact plain_no h3
theorem wtext_head {w : W α} (h : WOk w) : ∃ c r, wtext w = c :: r ∧ c ≠ 9 ∧ c ≠ 92 := by
  rcases h with ⟨h1, -, h3 | h3⟩ | ⟨h1, h2⟩ | ⟨h1, h2, h3⟩
  · rw [wtext_mark h1, h3]; exact ⟨58, [], rfl, by decide, by decide⟩
  · rw [wtext_mark h1, h3]; exact ⟨61, [], rfl, by decide, by decide⟩
  · rw [wtext_quoted h1 h2]; exact ⟨34, _, rfl, by decide, by decide⟩
  · rw [wtext_plain h1 h2 h3]
    obtain ⟨hn, ha⟩ := bare_all h3
    cases ht : w.text with
    | nil => exact absurd ht hn
    | cons c r =>
      have := not_bare (ha c (by rw [ht]; simp))
      exact ⟨c, r, rfl, this.2.2.2.2.2.1, this.2.2.2.2.2.2⟩

theorem quo_back (R' : List (B Unit)) : ∀ (s acc : List UInt8), quo ((s.flatMap qb ++ [34]).map u ++ R') acc = .ok (some (acc ++ s, R')) := by
  intro s
  induction s with
  | nil => intro acc; simp [quo, u]
  | cons c s ih =>
    intro acc
    have e : ((c :: s).flatMap qb ++ [34]).map u ++ R' = (qb c).map u ++ ((s.flatMap qb ++ [34]).map u ++ R') := by simp
    rw [e]
    have step : ∀ (d x : UInt8), esc d = some x → quo (u 92 :: u d :: ((s.flatMap qb ++ [34]).map u ++ R')) acc = .ok (some (acc ++ x :: s, R')) := fun d x hd => by
      rw [quo, if_neg (by decide), if_neg (by decide), quo.qesc, if_neg (show ¬ (u d).join = true by simp [u])]
      show (match esc d with | some x => _ | none => _) = _
      rw [hd]
      show quo _ (acc ++ [x]) = _
      rw [ih (acc ++ [x])]
      simp
    have hq : qb c = if c = 34 ∨ c = 92 then [92, c] else if c = 10 then [92, 110] else if c = 9 then [92, 116] else [c] := rfl
    rw [hq]
    by_cases h1 : c = 34 ∨ c = 92
    · rw [if_pos h1]; exact step c c (by unfold esc; rw [if_pos h1])
    rw [if_neg h1]
    by_cases h2 : c = 10
    · rw [if_pos h2]; subst h2; exact step 110 10 (by decide)
    rw [if_neg h2]
    by_cases h3 : c = 9
    · rw [if_pos h3]; subst h3; exact step 116 9 (by decide)
    rw [if_neg h3]
    show quo (u c :: ((s.flatMap qb ++ [34]).map u ++ R')) acc = _
    rw [quo, if_neg (show ¬ (u c).c = 34 from fun h => h1 (.inl h)), if_pos (show (u c).c ≠ 92 from fun h => h1 (.inr h))]
    show quo ((s.flatMap qb ++ [34]).map u ++ R') (acc ++ [c]) = _
    rw [ih (acc ++ [c])]
    simp
/-- what stands behind a word and is no more of it -/
def Parted (l : List (B Unit)) : Prop := ∀ b, l.head? = some b → bare b.c = false
theorem tw_bare {s : List UInt8} {R' : List (B Unit)} (hs : ∀ c ∈ s, bare c = true) (hR : Parted R') : ((s.map u ++ R').takeWhile fun x => bare x.c) = s.map u ∧ ((s.map u ++ R').dropWhile fun x => bare x.c) = R' := by
  induction s with
  | nil =>
    cases R' with
    | nil => exact ⟨rfl, rfl⟩
    | cons b r =>
      have := hR b rfl
      exact ⟨by rw [List.map_nil, List.nil_append, List.takeWhile_cons, if_neg (by rw [this]; simp)], by rw [List.map_nil, List.nil_append, List.dropWhile_cons, if_neg (by rw [this]; simp)]⟩
  | cons c s ih =>
    have h1 := hs c (by simp)
    obtain ⟨h2, h3⟩ := ih fun d hd => hs d (List.mem_cons_of_mem _ hd)
    rw [List.map_cons, List.cons_append, List.takeWhile_cons, List.dropWhile_cons, if_pos (show bare (u c).c = true from h1), if_pos (show bare (u c).c = true from h1), h2, h3]
    exact ⟨rfl, rfl⟩
/-- a word is read -/
theorem rd_word {w : W α} (h : WOk w) {R' : List (B Unit)} (hR : Parted R') : rd (eb (wtext w) ++ R') = (rd R').map id (w.er :: ·) := by
  rw [eb_plain (wtext_no h).1]
  obtain ⟨text, at_, quoted, mark⟩ := w
  rcases h with ⟨h1, h2, h3 | h3⟩ | ⟨h1, h2⟩ | ⟨h1, h2, h3⟩
  · rw [wtext_mark h1]
    simp only at h1 h2 h3
    subst h1 h2 h3
    exact rd_mark (b := u 58) (.inl rfl)
  · rw [wtext_mark h1]
    simp only at h1 h2 h3
    subst h1 h2 h3
    exact rd_mark (b := u 61) (.inr rfl)
  · rw [wtext_quoted h1 h2]
    simp only at h1 h2
    subst h1 h2
    show rd (u 34 :: ((text.flatMap qb ++ [34]).map u ++ R')) = _
    rw [rd_quote rfl, quo_back R' text []]
    rfl
  · rw [wtext_plain h1 h2 h3]
    simp only at h1 h2 h3 ⊢
    subst h1 h2
    obtain ⟨hn, ha⟩ := bare_all h3
    cases text with
    | nil => exact absurd rfl hn
    | cons c s =>
      obtain ⟨t1, t2⟩ := tw_bare (s := s) (fun d hd => ha d (List.mem_cons_of_mem _ hd)) hR
      show rd (u c :: (s.map u ++ R')) = _
      rw [rd_bare (show bare (u c).c = true from ha c (by simp)), t1, t2, List.map_map]
      have : s.map (B.c ∘ u) = s := by
        rw [show (B.c ∘ u) = (id : UInt8 → UInt8) from rfl, List.map_id]
      rw [this]
      rfl

end Go.Proofs.YtnobmgkdieaclaaGreatDoor.Lx

namespace Go.Proofs.YtnobmgkdieaclaaGreatDoor.Lx
variable {α β : Type}

/-- words as they come -/
theorem rd_ok : ∀ (n : Nat) (l : List (B α)) (ws : List (W α)), l.length ≤ n → rd l = .ok ws → ∀ w ∈ ws, WOk w := by
  intro n
  induction n with
  | zero =>
    intro l ws h e
    have : l = [] := List.eq_nil_of_length_eq_zero (by omega)
    subst this
    simp only [rd, R.ok.injEq] at e
    subst e; simp
  | succ n ih =>
    intro l ws h e
    cases l with
    | nil =>
      simp only [rd, R.ok.injEq] at e
      subst e; simp
    | cons b r =>
      simp only [List.length_cons] at h
      have fin : ∀ (r' : List (B α)) (w0 : W α), r'.length ≤ n → WOk w0 → (rd r').map id (w0 :: ·) = .ok ws → ∀ w ∈ ws, WOk w := fun r' w0 hr hw e => by
        cases hrd : rd r' with
        | bad a => rw [hrd] at e; cases e
        | ok t =>
          rw [hrd] at e
          simp only [R.map, R.ok.injEq] at e
          subst e
          intro w hm
          rcases List.mem_cons.1 hm with rfl | hm
          · exact hw
          · exact ih r' t hr hrd w hm
      by_cases h1 : b.c = 35
      · rw [rd_hash h1] at e; simp only [R.ok.injEq] at e; subst e; simp
      by_cases h2 : b.c = 32
      · rw [rd_blank h2] at e; exact ih r ws (by omega) e
      by_cases h3 : b.c = 58 ∨ b.c = 61
      · rw [rd_mark h3] at e
        exact fin r _ (by omega) (.inl ⟨rfl, rfl, by rcases h3 with h | h <;> simp [h]⟩) e
      by_cases h4 : b.c = 34
      · rw [rd_quote h4] at e
        cases hq : quo r [] with
        | bad a => rw [hq] at e; cases e
        | ok o =>
          cases o with
          | none => rw [hq] at e; cases e
          | some p =>
            obtain ⟨s, r'⟩ := p
            rw [hq] at e
            exact fin r' ⟨s, b.at_, true, false⟩ (by have := quo_len _ r [] s r' (Nat.le_refl _) hq; omega) (.inr (.inl ⟨rfl, rfl⟩)) e
      cases h5 : bare b.c with
      | false => rw [rd_bad h1 h2 h3 h4 h5] at e; cases e
      | true =>
        rw [rd_bare h5] at e
        refine fin (r.dropWhile fun x => bare x.c) _ (Nat.le_trans (List.Sublist.length_le (List.dropWhile_sublist _)) (by omega)) (.inr (.inr ⟨rfl, rfl, ?_⟩)) e
        show plain (b.c :: (r.takeWhile fun x => bare x.c).map B.c) = true
        unfold plain
        simp only [List.isEmpty_cons, Bool.not_false, Bool.true_and, List.all_cons, h5, List.all_eq_true, List.mem_map]
        rintro c ⟨x, hx, rfl⟩
        exact (List.all_eq_true.1 (List.all_takeWhile (p := fun x : B α => bare x.c) (l := r))) x hx
/-- a line as it may come -/
def LOk (l : Ln α) : Prop := l.words ≠ [] ∧ ∀ w ∈ l.words, WOk w
theorem lns_ok : ∀ (n : Nat) (l : List (B α)) (ls : List (Ln α)), l.length ≤ n → lns l = .ok ls → ∀ x ∈ ls, LOk x := by
  intro n
  induction n with
  | zero =>
    intro l ls h e
    have : l = [] := List.eq_nil_of_length_eq_zero (by omega)
    subst this
    simp only [lns, R.ok.injEq] at e
    subst e; simp
  | succ n ih =>
    intro l ls h e
    cases l with
    | nil =>
      simp only [lns, R.ok.injEq] at e
      subst e; simp
    | cons b r =>
      simp only [List.length_cons] at h
      rw [lns] at e
      cases hl : line ((b :: r).takeWhile fun x => x.c != 10) with
      | bad a => rw [hl] at e; cases e
      | ok p =>
        obtain ⟨i, ws⟩ := p
        rw [hl] at e
        have hd := List.Sublist.length_le (List.dropWhile_sublist (fun x : B α => x.c != 10) (l := b :: r))
        simp only [List.length_cons] at hd
        cases ht : lns (((b :: r).dropWhile fun x => x.c != 10).drop 1) with
        | bad a => simp only [R.andThen, ht, R.map] at e; cases e
        | ok t =>
          simp only [R.andThen, ht, R.map, R.ok.injEq] at e
          have hrest := ih _ t (by rw [List.length_drop]; omega) ht
          have hws : ∀ w ∈ ws, WOk w := by
            generalize (b :: r).takeWhile (fun x => x.c != 10) = z at hl
            cases z with
            | nil => simp only [line, R.ok.injEq, Prod.mk.injEq] at hl; rw [← hl.2]; simp
            | cons c zs =>
              rw [line] at hl
              split at hl
              · cases hr : rd zs with
                | bad a => rw [hr] at hl; cases hl
                | ok v =>
                  rw [hr] at hl
                  simp only [R.map, R.ok.injEq, Prod.mk.injEq] at hl
                  rw [← hl.2]; exact rd_ok _ zs v (Nat.le_refl _) hr
              · cases hr : rd (c :: zs) with
                | bad a => rw [hr] at hl; cases hl
                | ok v =>
                  rw [hr] at hl
                  simp only [R.map, R.ok.injEq, Prod.mk.injEq] at hl
                  rw [← hl.2]; exact rd_ok _ (c :: zs) v (Nat.le_refl _) hr
          subst e
          intro x hx
          cases ws with
          | nil => exact hrest x hx
          | cons w ws =>
            rcases List.mem_cons.1 hx with rfl | hx
            · exact ⟨by simp, hws⟩
            · exact hrest x hx

def Ln.er (l : Ln α) : Ln Unit := l.map fun _ => ()
def lexE (s : List UInt8) : R Unit (List (Ln Unit)) := lns (eb s)
theorem lexE_lex (s : List UInt8) : lexE s = (lex s).map (fun _ => ()) (List.map Ln.er) := lns_map _ _ _ (Nat.le_refl _)
theorem lexE_nl {s : List UInt8} (h : s.getLast? ≠ some 92) (t : List UInt8) : lexE (s ++ 10 :: t) = (lexE s).andThen fun l => (lexE t).map id (l ++ ·) := by
  unfold lexE
  rw [eb_app h, eb_one (by decide), lns_nl rfl _ _ _ (Nat.le_refl _)]

/-- what may stand between two words -/
def SepOk (s : List UInt8) : Prop := eb s ≠ [] ∧ (∀ b ∈ eb s, b.c = 32) ∧ s.getLast? ≠ some 92
/-- what may stand behind a line's last word -/
def TlOk (t : List UInt8) : Prop := rd (eb t) = .ok [] ∧ Parted (eb t) ∧ (∀ b ∈ eb t, b.c ≠ 10) ∧ t.getLast? ≠ some 92
/-- words, each with what stands behind it -/
def run : List (W α × List UInt8) → List UInt8
  | [] => []
  | (w, s) :: r => wtext w ++ (s ++ run r)
inductive Good : List (W α × List UInt8) → Prop
  | last {w : W α} {t : List UInt8} (hw : WOk w) (ht : TlOk t) : Good [(w, t)]
  | more {w : W α} {s : List UInt8} {r : List (W α × List UInt8)} (hw : WOk w) (hs : SepOk s) (hr : Good r) : Good ((w, s) :: r)
theorem last_app {s t : List UInt8} (hs : s.getLast? ≠ some 92) (ht : t.getLast? ≠ some 92) : (s ++ t).getLast? ≠ some 92 := by
  rw [List.getLast?_append]
  cases h : t.getLast? with
  | none => simpa using hs
  | some c => simpa [h] using ht
theorem rd_blanks {x : List (B Unit)} (h : ∀ b ∈ x, b.c = 32) (y : List (B Unit)) : rd (x ++ y) = rd y := by
  induction x with
  | nil => rfl
  | cons b r ih => rw [List.cons_append, rd_blank (h b (by simp)), ih fun c hc => h c (List.mem_cons_of_mem _ hc)]
theorem Good.facts {l : List (W α × List UInt8)} (h : Good l) : rd (eb (run l)) = .ok (l.map fun p => p.1.er) ∧ (∀ b ∈ eb (run l), b.c ≠ 10) ∧ (run l).getLast? ≠ some 92 ∧ ∃ c r, run l = c :: r ∧ c ≠ 9 ∧ c ≠ 92 := by
  induction h with
  | @last w t hw ht =>
    obtain ⟨t1, t2, t3, t4⟩ := ht
    obtain ⟨n1, n2⟩ := wtext_no hw
    obtain ⟨c, r, hc, h9, h92⟩ := wtext_head hw
    have e : run [(w, t)] = wtext w ++ t := by simp [run]
    rw [e, eb_app n2]
    refine ⟨?_, fun b hb => ?_, last_app n2 t4, c, r ++ t, by rw [hc]; rfl, h9, h92⟩
    · rw [rd_word hw t2, t1]; rfl
    · rcases List.mem_append.1 hb with hb | hb
      · rw [eb_plain n1] at hb
        obtain ⟨x, hx, rfl⟩ := List.mem_map.1 hb
        intro e
        exact n1 (by rw [← show x = 10 from e]; exact hx)
      · exact t3 b hb
  | @more w s r hw hs _ ih =>
    obtain ⟨i1, i2, i3, -⟩ := ih
    obtain ⟨s1, s2, s3⟩ := hs
    obtain ⟨n1, n2⟩ := wtext_no hw
    obtain ⟨c, r', hc, h9, h92⟩ := wtext_head hw
    have e : run ((w, s) :: r) = wtext w ++ (s ++ run r) := rfl
    rw [e, eb_app n2, eb_app s3]
    refine ⟨?_, fun b hb => ?_, last_app n2 (last_app s3 i3), c, r' ++ (s ++ run r), by rw [hc]; rfl, h9, h92⟩
    · rw [rd_word hw, rd_blanks s2, i1]
      · rfl
      · intro b hb
        cases hes : eb s with
        | nil => exact absurd hes s1
        | cons x xs =>
          rw [hes, List.cons_append, List.head?_cons, Option.some.injEq] at hb
          subst hb
          rw [s2 x (by rw [hes]; simp)]
          decide
    · rcases List.mem_append.1 hb with hb | hb
      · rw [eb_plain n1] at hb
        obtain ⟨x, hx, rfl⟩ := List.mem_map.1 hb
        intro e
        exact n1 (by rw [← show x = 10 from e]; exact hx)
      · rcases List.mem_append.1 hb with hb | hb
        · rw [s2 b hb]; decide
        · exact i2 b hb
theorem tw_all {γ : Type} {p : γ → Bool} : ∀ {l : List γ}, (∀ x ∈ l, p x = true) → l.takeWhile p = l ∧ l.dropWhile p = []
  | [], _ => ⟨rfl, rfl⟩
  | x :: l, h => by
    obtain ⟨h1, h2⟩ := tw_all (l := l) fun y hy => h y (List.mem_cons_of_mem _ hy)
    rw [List.takeWhile_cons, List.dropWhile_cons, if_pos (h x (by simp)), if_pos (h x (by simp)), h1, h2]
    exact ⟨rfl, rfl⟩
/-- a line's text -/
def ltext (i : Bool) (l : List (W α × List UInt8)) : List UInt8 := (if i = true then [9] else []) ++ run l
theorem ltext_last {l : List (W α × List UInt8)} (h : Good l) (i : Bool) : (ltext i l).getLast? ≠ some 92 := by
  obtain ⟨-, -, h3, -⟩ := h.facts
  unfold ltext
  refine last_app ?_ h3
  cases i <;> simp
theorem lexE_ltext {l : List (W α × List UInt8)} (h : Good l) (i : Bool) : lexE (ltext i l) = .ok [⟨(), i, l.map fun p => p.1.er⟩] := by
  obtain ⟨h1, h2, h3, c, r, hc, h9, h92⟩ := h.facts
  have hne : l.map (fun p => p.1.er) ≠ [] := by cases h <;> simp
  have key : ∀ x : List (B Unit), (∀ b ∈ x, b.c ≠ 10) → line x = .ok (i, l.map fun p => p.1.er) → x ≠ [] → lns x = .ok [⟨(), i, l.map fun p => p.1.er⟩] := fun x hx hl hn => by
    cases x with
    | nil => exact absurd rfl hn
    | cons b t =>
      obtain ⟨tw, dw⟩ := tw_all (p := fun y : B Unit => y.c != 10) (l := b :: t) fun y hy => by simpa using hx y hy
      rw [lns, tw, dw, hl]
      simp only [R.andThen, List.drop_nil, lns, R.map, if_neg hne]
  unfold lexE ltext
  cases i with
  | true =>
    rw [if_pos rfl, List.singleton_append, eb_one (by decide)]
    refine key _ (fun b hb => ?_) ?_ (by simp)
    · rcases List.mem_cons.1 hb with rfl | hb
      · decide
      · exact h2 b hb
    · rw [line, if_pos (show (u 9).c = 9 from rfl), h1]; rfl
  | false =>
    rw [if_neg (by simp), List.nil_append]
    refine key _ h2 ?_ (by rw [hc, eb_one h92]; simp)
    have he : eb (run l) = u c :: eb r := by rw [hc, eb_one h92]
    rw [he, line, if_neg (show ¬ (u c).c = 9 from h9), ← he, h1]; rfl
/-- lines without words -/
def ElOk (e : List UInt8) : Prop := ∀ t, lexE (e ++ t) = lexE t
/-- lines, each with what stands between and behind its words, and the lines without words behind it -/
def full : List (Bool × List (W α × List UInt8) × List UInt8) → List UInt8
  | [] => []
  | (i, l, e) :: r => ltext i l ++ 10 :: (e ++ full r)
theorem lexE_full : ∀ (L : List (Bool × List (W α × List UInt8) × List UInt8)), (∀ x ∈ L, Good x.2.1 ∧ ElOk x.2.2) → lexE (full L) = .ok (L.map fun x => ⟨(), x.1, x.2.1.map fun p => p.1.er⟩)
  | [], _ => by simp [full, lexE, eb, bytes, lns]
  | (i, l, e) :: r, h => by
    obtain ⟨h1, h2⟩ := h (i, l, e) (by simp)
    rw [full, lexE_nl (ltext_last h1 i), lexE_ltext h1, h2, lexE_full r fun x hx => h x (List.mem_cons_of_mem _ hx)]
    rfl

/-- words with one blank between two -/
def spaced : List (W α) → List (W α × List UInt8)
  | [] => []
  | [w] => [(w, [])]
  | w :: v :: r => (w, [32]) :: spaced (v :: r)
theorem spaced_run : ∀ ws : List (W α), run (spaced ws) = inter (ws.map wtext)
  | [] => rfl
  | [w] => by simp [spaced, run, inter, List.intercalate]
  | w :: v :: r => by
    have ih := spaced_run (v :: r)
    rw [spaced, run, ih]
    simp [inter, List.intercalate]
theorem spaced_words : ∀ ws : List (W α), (spaced ws).map (fun p => p.1.er) = ws.map W.er
  | [] => rfl
  | [w] => rfl
  | w :: v :: r => by rw [spaced, List.map_cons, spaced_words (v :: r)]; rfl
theorem blank_sep : SepOk [32] := ⟨by simp [eb, bytes], by simp [eb, bytes, B.map], by decide⟩
theorem none_tl : TlOk [] := ⟨by simp [eb, bytes, rd], by simp [eb, bytes, Parted], by simp [eb, bytes], by simp⟩
theorem spaced_good : ∀ ws : List (W α), ws ≠ [] → (∀ w ∈ ws, WOk w) → Good (spaced ws)
  | [], h, _ => absurd rfl h
  | [w], _, h => .last (h w (by simp)) none_tl
  | w :: v :: r, _, h => .more (h w (by simp)) blank_sep (spaced_good (v :: r) (by simp) fun x hx => h x (List.mem_cons_of_mem _ hx))
theorem none_el : ElOk [] := fun _ => rfl
theorem write_full (ls : List (Ln α)) : write ls = full (ls.map fun l => (l.ind, spaced l.words, [])) := by
  induction ls with
  | nil => rfl
  | cons l r ih =>
    rw [List.map_cons, full, ← ih]
    show wline l ++ write r = _
    unfold wline ltext
    rw [spaced_run]
    simp
/-- P11.5: what is written is read as it was -/
theorem lexE_write {ls : List (Ln α)} (h : ∀ l ∈ ls, LOk l) : lexE (write ls) = .ok (ls.map Ln.er) := by
  rw [write_full, lexE_full]
  · rw [List.map_map]
    congr 1
    refine List.map_congr_left fun l _ => ?_
    show (⟨(), l.ind, (spaced l.words).map fun p => p.1.er⟩ : Ln Unit) = _
    rw [spaced_words]
    rfl
  · intro x hx
    obtain ⟨l, hl, rfl⟩ := List.mem_map.1 hx
    exact ⟨spaced_good l.words (h l hl).1 (h l hl).2, none_el⟩

end Go.Proofs.YtnobmgkdieaclaaGreatDoor.Lx
