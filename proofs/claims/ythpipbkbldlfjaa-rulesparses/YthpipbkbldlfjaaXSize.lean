/-
  HOW LONG THE WORDS OF A TEXT CAN BE; told lines, written. No program here.
-/
import Derived.Test.YthpipbkbldlfjaaYWrite
import Derived.Test.YthpipbkbldlfjaaXMath
import Derived.Test.YthpipbkbldlfjaaYRow
namespace Go.Proofs.Ythpipbkbldlfjaa.Lx
variable {α : Type}

def wsum (ws : List (W α)) : Nat := (ws.map fun w => w.text.length + 1).sum
/-- what the words of some lines come to -/
def tot (ls : List (Ln α)) : Nat := (ls.map fun x => wsum x.words + 1).sum
theorem wsum_cons (w : W α) (ws : List (W α)) : wsum (w :: ws) = w.text.length + 1 + wsum ws := rfl
theorem tot_cons (x : Ln α) (ls : List (Ln α)) : tot (x :: ls) = wsum x.words + 1 + tot ls := rfl

theorem quo_size : ∀ (n : Nat) (l : List (B α)) (acc s : List UInt8) (r : List (B α)), l.length ≤ n → quo l acc = .ok (some (s, r)) → s.length + r.length + 1 ≤ acc.length + l.length := by
  intro n
  induction n with
  | zero =>
    intro l acc s r hl h
    cases l with
    | nil => simp [quo] at h
    | cons b t => simp at hl
  | succ n ih =>
    intro l acc s r hl h
    cases l with
    | nil => simp [quo] at h
    | cons b t =>
      rw [quo] at h
      simp only [List.length_cons] at hl ⊢
      split at h
      · simp only [R.ok.injEq, Option.some.injEq, Prod.mk.injEq] at h
        rw [← h.1, ← h.2]; omega
      · split at h
        · have := ih t _ s r (by omega) h
          rw [List.length_append, List.length_singleton] at this
          omega
        · cases t with
          | nil => simp [quo.qesc] at h
          | cons e t' =>
            rw [quo.qesc] at h
            split at h
            · cases h
            · split at h
              · simp only [List.length_cons] at hl ⊢
                have := ih t' _ s r (by omega) h
                rw [List.length_append, List.length_singleton] at this
                omega
              · cases h
theorem rd_size : ∀ (n : Nat) (l : List (B α)) (ws : List (W α)), l.length ≤ n → rd l = .ok ws → wsum ws ≤ 2 * l.length := by
  intro n
  induction n with
  | zero =>
    intro l ws hl h
    have : l = [] := List.eq_nil_of_length_eq_zero (by omega)
    subst this
    rw [rd] at h
    simp only [R.ok.injEq] at h
    rw [← h]; simp [wsum]
  | succ n ih =>
    intro l ws hl h
    cases l with
    | nil =>
      rw [rd] at h
      simp only [R.ok.injEq] at h
      rw [← h]; simp [wsum]
    | cons b r =>
      simp only [List.length_cons] at hl ⊢
      by_cases h35 : b.c = 35
      · rw [rd_hash h35] at h
        simp only [R.ok.injEq] at h
        rw [← h]; simp [wsum]
      by_cases h32 : b.c = 32
      · rw [rd_blank h32] at h
        have := ih r ws (by omega) h
        omega
      by_cases hm : b.c = 58 ∨ b.c = 61
      · rw [rd_mark hm] at h
        cases hr : rd r with
        | bad a => rw [hr] at h; cases h
        | ok ws' =>
          rw [hr] at h
          simp only [R.map, R.ok.injEq] at h
          have := ih r ws' (by omega) hr
          rw [← h, wsum_cons, List.length_singleton]
          omega
      by_cases h34 : b.c = 34
      · rw [rd_quote h34] at h
        cases hq : quo r [] with
        | bad a => rw [hq] at h; cases h
        | ok o =>
          cases o with
          | none => rw [hq] at h; cases h
          | some sr =>
            obtain ⟨s, r'⟩ := sr
            rw [hq] at h
            simp only [afterQ] at h
            have hz := quo_size _ r [] s r' (Nat.le_refl _) hq
            rw [List.length_nil] at hz
            cases hr : rd r' with
            | bad a => rw [hr] at h; cases h
            | ok ws' =>
              rw [hr] at h
              simp only [R.map, R.ok.injEq] at h
              have := ih r' ws' (by omega) hr
              rw [← h, wsum_cons]
              show s.length + 1 + _ ≤ _
              omega
      cases hb : bare b.c with
      | false => rw [rd_bad h35 h32 hm h34 hb] at h; cases h
      | true =>
        rw [rd_bare hb] at h
        have hsp : (r.takeWhile fun x => bare x.c).length + (r.dropWhile fun x => bare x.c).length = r.length := by
          rw [← List.length_append, List.takeWhile_append_dropWhile]
        cases hr : rd (r.dropWhile fun x => bare x.c) with
        | bad a => rw [hr] at h; cases h
        | ok ws' =>
          rw [hr] at h
          simp only [R.map, R.ok.injEq] at h
          have := ih _ ws' (by omega) hr
          rw [← h, wsum_cons, List.length_cons, List.length_map]
          omega
theorem line_size {l : List (B α)} {i : Bool} {ws : List (W α)} (h : line l = .ok (i, ws)) : wsum ws ≤ 2 * l.length := by
  cases l with
  | nil =>
    simp only [line, R.ok.injEq, Prod.mk.injEq] at h
    rw [← h.2]; simp [wsum]
  | cons b r =>
    rw [line] at h
    split at h
    · cases hr : rd r with
      | bad a => rw [hr] at h; cases h
      | ok ws' =>
        rw [hr] at h
        simp only [R.map, R.ok.injEq, Prod.mk.injEq] at h
        have := rd_size _ r ws' (Nat.le_refl _) hr
        rw [← h.2, List.length_cons]; omega
    · cases hr : rd (b :: r) with
      | bad a => rw [hr] at h; cases h
      | ok ws' =>
        rw [hr] at h
        simp only [R.map, R.ok.injEq, Prod.mk.injEq] at h
        have := rd_size _ (b :: r) ws' (Nat.le_refl _) hr
        rw [← h.2]; exact this
theorem lns_size : ∀ (n : Nat) (l : List (B α)) (ls : List (Ln α)), l.length ≤ n → lns l = .ok ls → tot ls ≤ 3 * l.length := by
  intro n
  induction n with
  | zero =>
    intro l ls hl h
    have : l = [] := List.eq_nil_of_length_eq_zero (by omega)
    subst this
    rw [lns] at h
    simp only [R.ok.injEq] at h
    rw [← h]; simp [tot]
  | succ n ih =>
    intro l ls hl h
    cases l with
    | nil =>
      rw [lns] at h
      simp only [R.ok.injEq] at h
      rw [← h]; simp [tot]
    | cons b r =>
      rw [lns] at h
      have hsp : ((b :: r).takeWhile fun x => x.c != 10).length + ((b :: r).dropWhile fun x => x.c != 10).length = (b :: r).length := by
        rw [← List.length_append, List.takeWhile_append_dropWhile]
      have hdp : (((b :: r).dropWhile fun x => x.c != 10).drop 1).length = ((b :: r).dropWhile fun x => x.c != 10).length - 1 := List.length_drop ..
      cases hli : line ((b :: r).takeWhile fun x => x.c != 10) with
      | bad a => rw [hli] at h; cases h
      | ok iw =>
        obtain ⟨i, ws⟩ := iw
        have hz := line_size hli
        rw [hli] at h
        simp only [R.andThen] at h
        cases hr : lns (((b :: r).dropWhile fun x => x.c != 10).drop 1) with
        | bad a => rw [hr] at h; cases h
        | ok T =>
          rw [hr] at h
          simp only [R.map, R.ok.injEq] at h
          simp only [List.length_cons] at hl hsp ⊢
          have := ih _ T (by omega) hr
          rw [← h]
          split
          · omega
          · rename_i hne
            rw [tot_cons]
            have hpos : 1 ≤ wsum ws := by
              cases ws with
              | nil => exact absurd rfl hne
              | cons w t => rw [wsum_cons]; omega
            show wsum ws + 1 + _ ≤ _
            omega
theorem wsum_mem {w : W α} : ∀ {ws : List (W α)}, w ∈ ws → w.text.length + 1 ≤ wsum ws
  | x :: r, h => by
    rw [wsum_cons]
    rcases List.mem_cons.1 h with rfl | h
    · omega
    · have := wsum_mem h; omega
theorem wsum_len : ∀ (ws : List (W α)), ws.length ≤ wsum ws
  | [] => by simp [wsum]
  | x :: r => by
    have := wsum_len r
    rw [wsum_cons, List.length_cons]; omega
theorem tot_mem {x : Ln α} : ∀ {ls : List (Ln α)}, x ∈ ls → wsum x.words + 1 ≤ tot ls
  | y :: r, h => by
    rw [tot_cons]
    rcases List.mem_cons.1 h with rfl | h
    · omega
    · have := tot_mem h; omega
theorem tot_len : ∀ (ls : List (Ln α)), ls.length ≤ tot ls
  | [] => by simp [tot]
  | x :: r => by
    have := tot_len r
    rw [tot_cons, List.length_cons]; omega
theorem flat_qb_len (s : List UInt8) : (s.flatMap qb).length ≤ 2 * s.length := qb_len s
theorem quote_len (s : List UInt8) : (quote s).length ≤ 2 * s.length + 2 := by
  have := qb_len s
  unfold quote
  rw [List.length_cons, List.length_append, List.length_singleton]; omega
theorem wtext_len (w : W α) : (wtext w).length ≤ 2 * w.text.length + 2 := by
  have := quote_len w.text
  unfold wtext show_
  split
  · omega
  · split
    · exact this
    · split <;> omega
theorem inter_len : ∀ (ws : List (W α)), (inter (ws.map wtext)).length ≤ 3 * wsum ws
  | [] => by simp [inter, wsum]
  | [w] => by
    have := wtext_len w
    rw [wsum_cons]
    simp only [inter, List.map_cons, List.map_nil, List.intercalate_singleton]
    omega
  | w :: x :: r => by
    have h1 := wtext_len w
    have h2 := inter_len (x :: r)
    rw [wsum_cons]
    have e : inter ((w :: x :: r).map wtext) = wtext w ++ ([32] ++ inter ((x :: r).map wtext)) := by simp [inter, List.intercalate]
    rw [e, List.length_append, List.length_append, List.length_singleton]
    omega
theorem write_len : ∀ (ls : List (Ln α)), (write ls).length ≤ 3 * tot ls
  | [] => by simp [write]
  | x :: r => by
    have h1 := write_len r
    have h2 := inter_len x.words
    have e : write (x :: r) = wline x ++ write r := by simp [write]
    rw [e, List.length_append, tot_cons]
    unfold wline
    rw [List.length_append, List.length_append, List.length_singleton]
    have : (if x.ind = true then [9] else ([] : List UInt8)).length ≤ 1 := by split <;> simp
    omega
/-- told lines are written as the text's own -/
theorem vwrite_told (t : List UInt8) (ls : List (Ln Nat)) : vwrite (ls.map (toldL t)) = write ls := by
  unfold vwrite write
  rw [List.flatMap_map]
  congr 1
  funext x
  unfold vline wline toldL
  simp only
  rw [wrest_one true _ (.inl rfl), List.map_map]
  rfl
theorem wline_er (x : Ln α) : wline x.er = wline x := by
  unfold wline Ln.er Ln.map
  simp only [List.map_map]
  rfl
theorem write_er (ls : List (Ln α)) : write (ls.map Ln.er) = write ls := by
  unfold write
  rw [List.flatMap_map]
  congr 1
  funext x
  exact wline_er x
/-- what a text says, written, says the same again -/
theorem lex_back {t : List UInt8} {ls : List (Ln Nat)} (h : lex t = .ok ls) : ∃ ms, lex (write ls) = .ok ms ∧ ls.map Ln.er = ms.map Ln.er ∧ write ms = write ls := by
  have h1 := lexE_write (lns_ok _ _ ls (Nat.le_refl _) h)
  rw [lexE_lex] at h1
  cases hm : lex (write ls) with
  | bad a => rw [hm] at h1; cases h1
  | ok ms =>
    rw [hm] at h1
    simp only [R.map, R.ok.injEq] at h1
    refine ⟨ms, rfl, h1.symm, ?_⟩
    rw [← write_er ms, h1, write_er]
theorem lex_size {t : List UInt8} {ls : List (Ln Nat)} (h : lex t = .ok ls) : tot ls ≤ 3 * t.length := by
  have h1 := lns_size _ _ ls (Nat.le_refl _) h
  have h2 := bytes_len _ 0 t (Nat.le_refl _)
  omega

end Go.Proofs.Ythpipbkbldlfjaa.Lx

namespace Go.Proofs.Ythpipbkbldlfjaa

/-- so many lines further down -/
def Lx.shiftV (d : Int) (v : Lx.V) : Lx.V := ⟨v.text, v.line + d, v.col, v.quoted, v.mark⟩
def Lx.shiftL (d : Int) (x : Lx.L) : Lx.L := ⟨x.num + d, x.ind, x.words.map (Lx.shiftV d)⟩
theorem row_lt {t : List UInt8} : ∀ {p : Nat} {ws : List (Lx.W Nat)}, Lx.Row t p ws → ∀ w ∈ ws, w.at_ < t.length
  | _, [], _, _, h => by cases h
  | _, u :: r, h, w, hw => by
    rcases List.mem_cons.1 hw with rfl | hw
    · exact h.2.1.lt
    · exact row_lt h.2.2 w hw
theorem rows_lt {t : List UInt8} : ∀ {p : Nat} {ls : List (Lx.Ln Nat)}, Lx.Rows t p ls → ∀ x ∈ ls, x.at_ < t.length ∧ (∀ w ∈ x.words, w.at_ < t.length) ∧ x.words ≠ []
  | _, [], _, _, h => by cases h
  | _, l :: r, h, x, hx => by
    obtain ⟨-, -, h3, -, h5, h6, q, -, -, h9⟩ := h
    rcases List.mem_cons.1 hx with rfl | hx
    · exact ⟨h3, row_lt h6, h5.1⟩
    · exact rows_lt h9 x hx
theorem told_low {a c : List UInt8} {x : Lx.Ln Nat} (h : x.at_ < a.length ∧ (∀ w ∈ x.words, w.at_ < a.length) ∧ x.words ≠ []) : Lx.toldL (a ++ c) x = Lx.toldL a x := by
  unfold Lx.toldL
  rw [Lx.place_low (by omega)]
  congr 1
  apply List.map_congr_left
  intro w hw
  unfold Lx.told
  rw [Lx.place_low (by have := h.2.1 w hw; omega)]
theorem told_high (a b : List UInt8) (x : Lx.Ln Nat) : Lx.toldL (a ++ 10 :: b) (x.map (· + (a.length + 1))) = Lx.shiftL ((a.count 10 + 1 : Nat) : Int) (Lx.toldL b x) := by
  unfold Lx.toldL Lx.shiftL Lx.Ln.map
  simp only [Lx.place_high, List.map_map]
  congr 1
  apply List.map_congr_left
  intro w _
  simp only [Function.comp, Lx.told, Lx.W.map, Lx.shiftV, Lx.place_high]
  congr 1
/-- the lines of both texts, as they are told -/
theorem told_two {a b : List UInt8} {l m : List (Lx.Ln Nat)} (hl : Lx.lex a = .ok l) : (l ++ m.map (Lx.Ln.map (· + (a.length + 1)))).map (Lx.toldL (a ++ 10 :: b)) = l.map (Lx.toldL a) ++ (m.map (Lx.toldL b)).map (Lx.shiftL ((a.count 10 + 1 : Nat) : Int)) := by
  rw [List.map_append, List.map_map, List.map_map]
  congr 1
  · exact List.map_congr_left fun x hx => told_low (rows_lt (Lx.lex_stands hl) x hx)
  · exact List.map_congr_left fun x _ => told_high a b x

end Go.Proofs.Ythpipbkbldlfjaa
