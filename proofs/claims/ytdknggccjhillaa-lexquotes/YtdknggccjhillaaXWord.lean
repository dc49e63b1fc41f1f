/-
  A WORD ALONE, READ. No program here.
-/
import Derived.Test.YtdknggccjhillaaXSize
namespace Go.Proofs.Ytdknggccjhillaa.Lx
variable {α : Type}

theorem rd_first {b : B α} {r : List (B α)} {x : W α} {xs : List (W α)} (h32 : b.c ≠ 32) (h : rd (b :: r) = .ok (x :: xs)) : x.at_ = b.at_ := by
  by_cases h35 : b.c = 35
  · rw [rd_hash h35] at h; cases h
  by_cases hm : b.c = 58 ∨ b.c = 61
  · rw [rd_mark hm] at h
    cases hr : rd r with
    | bad a => rw [hr] at h; cases h
    | ok ws =>
      rw [hr] at h
      simp only [R.map, R.ok.injEq, List.cons.injEq] at h
      rw [← h.1]
  by_cases h34 : b.c = 34
  · rw [rd_quote h34] at h
    cases hq : quo r [] with
    | bad a => rw [hq] at h; cases h
    | ok o =>
      cases o with
      | none => rw [hq] at h; cases h
      | some sr =>
        obtain ⟨s, r'⟩ := sr
        rw [hq] at h
        simp only [afterQ] at h
        cases hr : rd r' with
        | bad a => rw [hr] at h; cases h
        | ok ws =>
          rw [hr] at h
          simp only [R.map, R.ok.injEq, List.cons.injEq] at h
          rw [← h.1]
  cases hb : bare b.c with
  | false => rw [rd_bad h35 h32 hm h34 hb] at h; cases h
  | true =>
    rw [rd_bare hb] at h
    cases hr : rd (r.dropWhile fun x => bare x.c) with
    | bad a => rw [hr] at h; cases h
    | ok ws =>
      rw [hr] at h
      simp only [R.map, R.ok.injEq, List.cons.injEq] at h
      rw [← h.1]
theorem wtext_head32 {w : W α} (h : WOk w) : ∃ c r, wtext w = c :: r ∧ c ≠ 9 ∧ c ≠ 92 ∧ c ≠ 32 := by
  rcases h with ⟨h1, -, h3 | h3⟩ | ⟨h1, h2⟩ | ⟨h1, h2, h3⟩
  · rw [wtext_mark h1, h3]; exact ⟨58, [], rfl, by decide, by decide, by decide⟩
  · rw [wtext_mark h1, h3]; exact ⟨61, [], rfl, by decide, by decide, by decide⟩
  · rw [wtext_quoted h1 h2]; exact ⟨34, _, rfl, by decide, by decide, by decide⟩
  · rw [wtext_plain h1 h2 h3]
    obtain ⟨hn, ha⟩ := bare_all h3
    cases ht : w.text with
    | nil => exact absurd ht hn
    | cons c r =>
      have := not_bare (ha c (by rw [ht]; simp))
      exact ⟨c, r, rfl, this.2.2.2.2.2.1, this.2.2.2.2.2.2, this.2.1⟩
theorem bytes_c (s : List UInt8) (p : Nat) (h : 10 ∉ s) : ∀ b ∈ Lx.bytes p s, b.c ≠ 10 := by
  intro b hb
  have e := Lx.bytes_plain _ p s (Nat.le_refl _) h
  have hm : b.map (fun _ => ()) ∈ s.map Lx.u := by rw [← e]; exact List.mem_map_of_mem hb
  obtain ⟨c, hc, e2⟩ := List.mem_map.1 hm
  have : b.c = c := (congrArg Lx.B.c e2).symm
  rw [this]
  rintro rfl
  exact h hc
/-- a word, written, is read as just that word -/
theorem lex_word {w : W Nat} (h : WOk w) : lex (wtext w) = .ok [⟨0, false, [⟨w.text, 0, w.quoted, w.mark⟩]⟩] := by
  obtain ⟨c, r, e, h9, h92, h32⟩ := wtext_head32 h
  have hn := (wtext_no h).1
  have hE := lexE_ltext (spaced_good [w] (by simp) (by simpa using h)) false
  have hlt : ltext false (spaced [w]) = wtext w := by
    unfold ltext
    rw [spaced_run]
    simp [inter, List.intercalate]
  rw [hlt, lexE_lex] at hE
  have hby : bytes 0 (wtext w) = ⟨c, false, 0⟩ :: bytes 1 r := by rw [e, bytes_one _ _ _ (.inl h92)]
  have hc := bytes_c (wtext w) 0 hn
  rw [hby] at hc
  obtain ⟨t1, t2⟩ := tw_all (p := fun x : B Nat => x.c != 10) (l := ⟨c, false, 0⟩ :: bytes 1 r) (fun x hx => by simpa using hc x hx)
  have hl : lex (wtext w) = ((rd (⟨c, false, 0⟩ :: bytes 1 r)).map id (false, ·)).andThen fun (i, ws) => .ok (if ws = [] then [] else [⟨0, i, ws⟩]) := by
    unfold lex
    rw [hby, lns, t1, t2, line, if_neg (by exact h9)]
    congr 1
    funext iw
    simp only [List.drop_nil, lns, R.map]
  rw [hl] at hE ⊢
  cases hr : rd (⟨c, false, 0⟩ :: bytes 1 r) with
  | bad a => rw [hr] at hE; cases hE
  | ok ws =>
    rw [hr] at hE
    simp only [R.map, R.andThen, R.ok.injEq] at hE ⊢
    cases ws with
    | nil => simp at hE
    | cons x xs =>
      have hat := rd_first (by exact h32) hr
      rw [if_neg (by simp)] at hE ⊢
      simp only [List.map_cons, List.map_nil, List.cons.injEq, and_true] at hE
      have hw : (x :: xs).map (W.map fun _ => ()) = (spaced [w]).map fun p => p.1.er := congrArg (fun l : Ln Unit => l.words) hE
      rw [spaced_words] at hw
      simp only [List.map_cons, List.map_nil, List.cons.injEq, List.map_eq_nil_iff] at hw
      obtain ⟨hx, rfl⟩ := hw
      have e1 : x.text = w.text := congrArg (fun l : W Unit => l.text) hx
      have e2 : x.quoted = w.quoted := congrArg (fun l : W Unit => l.quoted) hx
      have e3 : x.mark = w.mark := congrArg (fun l : W Unit => l.mark) hx
      obtain ⟨a1, a2, a3, a4⟩ := x
      simp only at hat e1 e2 e3
      rw [hat, e1, e2, e3]
theorem lex_quote (s : List UInt8) : lex (quote s) = .ok [⟨0, false, [⟨s, 0, true, false⟩]⟩] :=
  lex_word (w := ⟨s, 0, true, false⟩) (.inr (.inl ⟨rfl, rfl⟩))
theorem lex_plain {s : List UInt8} (h : plain s = true) : lex s = .ok [⟨0, false, [⟨s, 0, false, false⟩]⟩] := by
  have := lex_word (w := ⟨s, 0, false, false⟩) (.inr (.inr ⟨rfl, rfl, h⟩))
  rwa [wtext_plain rfl rfl h] at this

end Go.Proofs.Ytdknggccjhillaa.Lx
