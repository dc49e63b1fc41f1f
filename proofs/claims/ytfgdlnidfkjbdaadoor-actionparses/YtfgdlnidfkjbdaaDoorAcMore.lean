/-
  ACTIONS: two one behind the other, a body, a beginning; the text. No program here.
-/
import Derived.Test.YtfgdlnidfkjbdaaDoorAcMath
import Derived.Test.YtfgdlnidfkjbdaaDoorXMath
namespace Go.Proofs.YtfgdlnidfkjbdaaDoor.Ac
open Lx

/-- too many, or too deep: it is told so -/
theorem chk_over : ∀ (f : Fo) (o m i : Nat) (r : List (List (List UInt8))), one f = true → o ≤ 8 → m ≤ 256 → (8 < o + deep f ∨ 256 < m + size f) → ∃ e j, chk o m i (all f ++ r) = some (e, j) ∧ (e = 3 ∨ (e = 132 ∧ 8 < o + deep f))
  | .nil, o, m, i, r, _, ho, hm, h => by
    simp only [deep, size] at h
    omega
  | .cons op a n b t, o, m, i, r, h1, ho, hm, h => by
    simp only [one, Bool.and_eq_true] at h1
    obtain ⟨⟨⟨k1, k2⟩, k3⟩, k4⟩ := h1
    rw [all, List.cons_append, chk, if_neg (line_ne k1), stmt_line k1]
    simp only
    by_cases hm2 : 256 < m + 1
    · rw [if_pos hm2]
      exact ⟨3, i, rfl, .inl rfl⟩
    rw [if_neg hm2]
    by_cases hop : opens op = true
    · rw [if_pos hop, if_pos hop]
      rw [deep, if_pos hop, size] at h
      by_cases h8 : o = 8
      · rw [if_pos h8]
        refine ⟨132, i, rfl, .inr ⟨rfl, ?_⟩⟩
        rw [deep, if_pos hop]
        omega
      rw [if_neg h8, show all b ++ [[sEnd]] ++ all t ++ r = all b ++ ([sEnd] :: (all t ++ r)) by simp]
      by_cases hb : 8 < o + 1 + deep b ∨ 256 < m + 1 + size b
      · obtain ⟨e, j, h2, h3⟩ := chk_over b (o + 1) (m + 1) (i + 1) ([sEnd] :: (all t ++ r)) k3 (by omega) (by omega) hb
        refine ⟨e, j, h2, ?_⟩
        rcases h3 with h3 | ⟨h3, h4⟩
        · exact .inl h3
        · refine .inr ⟨h3, ?_⟩
          rw [deep, if_pos hop]
          omega
      · rw [chk_all b (o + 1) (m + 1) (i + 1) _ k3 (by omega) (by omega), chk, if_pos rfl, if_neg (by omega), Nat.add_sub_cancel]
        obtain ⟨e, j, h2, h3⟩ := chk_over t o (m + 1 + size b) (i + 1 + (all b).length + 1) r k4 ho (by omega) (by omega)
        refine ⟨e, j, h2, ?_⟩
        rcases h3 with h3 | ⟨h3, h4⟩
        · exact .inl h3
        · refine .inr ⟨h3, ?_⟩
          rw [deep]
          omega
    · rw [if_neg hop, if_neg hop, List.nil_append]
      have hb : b = .nil := by
        rcases (by simpa using k2 : opens op = true ∨ b = .nil) with h | h
        · exact absurd h hop
        · exact h
      subst hb
      rw [deep, if_neg hop] at h
      simp only [size] at h
      obtain ⟨e, j, h2, h3⟩ := chk_over t o (m + 1) (i + 1) r k4 ho (by omega) (by omega)
      refine ⟨e, j, h2, ?_⟩
      rcases h3 with h3 | ⟨h3, h4⟩
      · exact .inl h3
      · refine .inr ⟨h3, ?_⟩
        rw [deep, if_neg hop]
        omega
theorem may_iff {f : Fo} : may f = true ↔ one f = true ∧ size f ≤ 256 ∧ deep f ≤ 8 := by
  unfold may
  simp only [Bool.and_eq_true, decide_eq_true_eq, and_assoc]
/-- P13.5: two lists, one behind the other -/
theorem parse_join {f g : Fo} (hf : may f = true) (hg : may g = true) : (size f + size g ≤ 256 → parse (all f ++ all g) = .ok (f.app g) ∧ may (f.app g) = true) ∧ (256 < size f + size g → (∃ j, parse (all f ++ all g) = .bad (3, j)) ∧ may (f.app g) = false) := by
  obtain ⟨f1, f2, f3⟩ := may_iff.1 hf
  obtain ⟨g1, g2, g3⟩ := may_iff.1 hg
  refine ⟨fun h => ?_, fun h => ⟨?_, ?_⟩⟩
  · have hm : may (f.app g) = true := may_iff.2 ⟨by rw [one_app, f1, g1]; rfl, by rw [size_app]; exact h, by rw [deep_app]; omega⟩
    rw [← all_app]
    exact ⟨parse_all hm, hm⟩
  · have h1 := chk_all f 0 0 0 (all g) f1 (by omega) (by omega)
    obtain ⟨e, j, h2, h3⟩ := chk_over g 0 (0 + size f) (0 + (all f).length) [] g1 (by omega) (by omega) (.inr (by omega))
    rw [List.append_nil] at h2
    rcases h3 with rfl | ⟨-, h3⟩
    · refine ⟨j, ?_⟩
      unfold parse
      rw [h1, h2]
    · omega
  · rw [← Bool.not_eq_true]
    intro hm
    have := (may_iff.1 hm).2.1
    rw [size_app] at this
    omega
/-- P13.5: a list in a repeat -/
theorem parse_body {f : Fo} {n : Nat} (hf : may f = true) (hn : n ≤ 1000) : (size f < 256 ∧ deep f < 8 → parse ([word 10, digits n] :: (all f ++ [[sEnd]])) = .ok (.cons 10 [] (n : Int) f .nil) ∧ may (.cons 10 [] (n : Int) f .nil) = true) ∧
    (¬ (size f < 256 ∧ deep f < 8) → (∃ e j, parse ([word 10, digits n] :: (all f ++ [[sEnd]])) = .bad (e, j) ∧ (e = 3 ∨ e = 132)) ∧ may (.cons 10 [] (n : Int) f .nil) = false) := by
  obtain ⟨f1, f2, f3⟩ := may_iff.1 hf
  have hok : ok1 10 [] (n : Int) = true := by
    unfold ok1
    simp only [Bool.and_eq_true, decide_eq_true_eq]
    exact ⟨⟨⟨by decide, rfl⟩, by omega, by omega⟩, .inl trivial⟩
  have hone : one (.cons 10 [] (n : Int) f .nil) = true := by simp [one, hok, f1, opens]
  have hop : opens 10 = true := rfl
  have ha : all (.cons 10 [] (n : Int) f .nil) = [word 10, digits n] :: (all f ++ [[sEnd]]) := by
    rw [all, if_pos hop]
    simp [lineOf, all]
  rw [← ha]
  refine ⟨fun h => ?_, fun h => ⟨?_, ?_⟩⟩
  · have hm : may (.cons 10 [] (n : Int) f .nil) = true := may_iff.2 ⟨hone, by simp only [size]; omega, by rw [deep, if_pos hop]; simp only [deep]; omega⟩
    exact ⟨parse_all hm, hm⟩
  · obtain ⟨e, j, h2, h3⟩ := chk_over (.cons 10 [] (n : Int) f .nil) 0 0 0 [] hone (by omega) (by omega) (by rw [deep, if_pos hop]; simp only [deep, size]; omega)
    rw [List.append_nil] at h2
    refine ⟨e, j, ?_, ?_⟩
    · unfold parse
      rw [h2]
    · rcases h3 with h3 | ⟨h3, -⟩
      · exact .inl h3
      · exact .inr h3
  · rw [← Bool.not_eq_true]
    intro hm
    obtain ⟨-, h1, h2⟩ := may_iff.1 hm
    rw [deep, if_pos hop] at h2
    simp only [size, deep] at h1 h2
    omega
/-- an error stands at this line or behind it -/
theorem chk_at : ∀ (ls : List (List (List UInt8))) (o m i : Nat) (e : Int) (j : Nat), chk o m i ls = some (e, j) → i ≤ j ∧ j ≤ i + ls.length
  | [], o, m, i, e, j, h => by
    rw [chk] at h
    split at h
    · simp only [Option.some.injEq, Prod.mk.injEq] at h
      simp; omega
    · cases h
  | l :: r, o, m, i, e, j, h => by
    rw [chk] at h
    simp only [List.length_cons]
    have here : ∀ x : Int, (some (x, i) : Option (Int × Nat)) = some (e, j) → i ≤ j ∧ j ≤ i + (r.length + 1) := by
      intro x h
      simp only [Option.some.injEq, Prod.mk.injEq] at h
      omega
    have next : ∀ o' m', chk o' m' (i + 1) r = some (e, j) → i ≤ j ∧ j ≤ i + (r.length + 1) := by
      intro o' m' h
      have := chk_at r o' m' (i + 1) e j h
      omega
    split at h
    · split at h
      · exact here _ h
      · exact next _ _ h
    · cases hs : stmtOf l with
      | none => rw [hs] at h; exact here _ h
      | some x =>
        obtain ⟨op, a, n⟩ := x
        rw [hs] at h
        simp only at h
        split at h
        · exact here _ h
        · split at h
          · split at h
            · exact here _ h
            · exact next _ _ h
          · exact next _ _ h
/-- the first lines alone: they go wrong within, whatever follows, or not -/
theorem chk_split : ∀ (a : List (List (List UInt8))) (o m i : Nat), (∃ e j, j < i + a.length ∧ ∀ r, chk o m i (a ++ r) = some (e, j)) ∨ (∃ o' m', ∀ r, chk o m i (a ++ r) = chk o' m' (i + a.length) r)
  | [], o, m, i => .inr ⟨o, m, fun r => by simp⟩
  | l :: a, o, m, i => by
    have here : ∀ x : Int, (∀ r, chk o m i (l :: a ++ r) = some (x, i)) → (∃ e j, j < i + (l :: a).length ∧ ∀ r, chk o m i (l :: a ++ r) = some (e, j)) := fun x h => ⟨x, i, by simp, h⟩
    have next : ∀ o1 m1, (∀ r, chk o m i (l :: a ++ r) = chk o1 m1 (i + 1) (a ++ r)) → (∃ e j, j < i + (l :: a).length ∧ ∀ r, chk o m i (l :: a ++ r) = some (e, j)) ∨ (∃ o' m', ∀ r, chk o m i (l :: a ++ r) = chk o' m' (i + (l :: a).length) r) := by
      intro o1 m1 h
      rcases chk_split a o1 m1 (i + 1) with ⟨e, j, h1, h2⟩ | ⟨o', m', h2⟩
      · exact .inl ⟨e, j, by simp only [List.length_cons]; omega, fun r => (h r).trans (h2 r)⟩
      · refine .inr ⟨o', m', fun r => ?_⟩
        rw [h r, h2 r]
        congr 1
        simp only [List.length_cons]
        omega
    by_cases he : l = [sEnd]
    · by_cases h0 : o = 0
      · exact .inl (here 131 fun r => by rw [List.cons_append, chk, if_pos he, if_pos h0])
      · exact next (o - 1) m fun r => by rw [List.cons_append, chk, if_pos he, if_neg h0]
    · cases hs : stmtOf l with
      | none => exact .inl (here 130 fun r => by rw [List.cons_append, chk, if_neg he, hs])
      | some x =>
        obtain ⟨op, b, n⟩ := x
        by_cases hm : 256 < m + 1
        · exact .inl (here 3 fun r => by rw [List.cons_append, chk, if_neg he, hs]; simp only; rw [if_pos hm])
        · by_cases hop : opens op = true
          · by_cases h8 : o = 8
            · exact .inl (here 132 fun r => by rw [List.cons_append, chk, if_neg he, hs]; simp only; rw [if_neg hm, if_pos hop, if_pos h8])
            · exact next (o + 1) (m + 1) fun r => by rw [List.cons_append, chk, if_neg he, hs]; simp only; rw [if_neg hm, if_pos hop, if_neg h8]
          · exact next o (m + 1) fun r => by rw [List.cons_append, chk, if_neg he, hs]; simp only; rw [if_neg hm, if_neg hop]
theorem line_inj {op op' : Int} {a a' : List (List UInt8)} {n n' : Int} (h : ok1 op a n = true) (h' : ok1 op' a' n' = true) (e : lineOf op a n = lineOf op' a' n') : op = op' ∧ a = a' ∧ n = n' := by
  have h1 := stmt_line h
  rw [e, stmt_line h'] at h1
  simp only [Option.some.injEq, Prod.mk.injEq] at h1
  exact ⟨h1.1.symm, h1.2.1.symm, h1.2.2.symm⟩
/-- a list whose lines begin with those of another begins with it -/
theorem all_prefix : ∀ (m f : Fo) (r : List (List (List UInt8))), one m = true → one f = true → all f = all m ++ r → ∃ g, f = m.app g
  | .nil, f, _, _, _, _ => ⟨f, rfl⟩
  | .cons op a n b t, .nil, r, _, _, h => by simp [all] at h
  | .cons op a n b t, .cons op' a' n' b' t', r, h1, h2, h => by
    simp only [one, Bool.and_eq_true] at h1 h2
    obtain ⟨⟨⟨k1, k2⟩, k3⟩, k4⟩ := h1
    obtain ⟨⟨⟨q1, q2⟩, q3⟩, q4⟩ := h2
    rw [all, all, List.cons_append, List.cons.injEq] at h
    obtain ⟨e, h⟩ := h
    obtain ⟨rfl, rfl, rfl⟩ := line_inj q1 k1 e
    by_cases hop : opens op' = true
    · rw [if_pos hop, if_pos hop] at h
      have h' : all b' ++ [sEnd] :: all t' = all b ++ [sEnd] :: (all t ++ r) := by simpa using h
      have u1 := (unt_all ((all b').length + (all b).length + 1) b' (all t') q3 (by omega)).1
      have u2 := (unt_all ((all b').length + (all b).length + 1) b (all t ++ r) k3 (by omega)).1
      rw [h', u2] at u1
      simp only [Prod.mk.injEq] at u1
      obtain ⟨rfl, e2⟩ := u1
      obtain ⟨g, rfl⟩ := all_prefix t t' r k4 q4 e2.symm
      exact ⟨g, rfl⟩
    · have hb : b = .nil := by
        rcases (by simpa using k2 : opens op' = true ∨ b = .nil) with h | h
        · exact absurd h hop
        · exact h
      have hb' : b' = .nil := by
        rcases (by simpa using q2 : opens op' = true ∨ b' = .nil) with h | h
        · exact absurd h hop
        · exact h
      subst hb hb'
      rw [if_neg hop, List.nil_append, List.nil_append] at h
      obtain ⟨g, rfl⟩ := all_prefix t t' r k4 q4 h
      exact ⟨g, rfl⟩
/-- P13.6: the first lines alone -/
theorem parse_cut (a r : List (List (List UInt8))) : (∀ e j, parse (a ++ r) = .bad (e, j) → a.length ≤ j ∨ parse a = .bad (e, j)) ∧
    (∀ f, parse (a ++ r) = .ok f → parse a = .bad (131, a.length) ∨ ∃ m g, parse a = .ok m ∧ f = m.app g) := by
  have hb : ∀ {ls : List (List (List UInt8))} {e : Int} {j : Nat}, parse ls = .bad (e, j) ↔ chk 0 0 0 ls = some (e, j) := by
    intro ls e j
    unfold parse
    cases hc : chk 0 0 0 ls with
    | none => simp
    | some x => simp
  rcases chk_split a 0 0 0 with ⟨e', j', h1, h2⟩ | ⟨o', m', h2⟩
  · have ha := h2 []
    rw [List.append_nil] at ha
    refine ⟨fun e j h => ?_, fun f h => ?_⟩
    · rw [hb, h2 r] at h
      right
      rw [hb, ha, h]
    · have := hb.2 (h2 r)
      rw [this] at h
      cases h
  · have ha := h2 []
    rw [List.append_nil, Nat.zero_add] at ha
    refine ⟨fun e j h => ?_, fun f h => ?_⟩
    · rw [hb, h2 r, Nat.zero_add] at h
      left
      exact (chk_at r o' m' a.length e j h).1
    · by_cases ho : 0 < o'
      · left
        rw [hb, ha, chk, if_pos ho]
      · right
        have hn : chk 0 0 0 a = none := by rw [ha, chk, if_neg ho]
        have hp : parse a = .ok (unt (a.length + 1) a).1 := by unfold parse; rw [hn]
        obtain ⟨m1, m2⟩ := parse_ok hp
        obtain ⟨f1, f2⟩ := parse_ok h
        have m3 := (may_iff.1 m1).1
        have f3 := (may_iff.1 f1).1
        obtain ⟨g, hg⟩ := all_prefix (unt (a.length + 1) a).1 f r m3 f3 (by rw [f2, m2])
        exact ⟨_, g, hp, hg⟩

/-- a line of words as it is written -/
def asLn (l : List (List UInt8)) : Ln Unit := ⟨(), false, l.map fun w => ⟨w, (), !plain w, false⟩⟩
def lineText (l : List (List UInt8)) : List UInt8 := inter (l.map show_) ++ [10]
/-- the text of a list -/
def print (f : Fo) : List UInt8 := (all f).flatMap lineText
theorem line_text (l : List (List UInt8)) : wline (asLn l) = lineText l := by
  unfold wline asLn lineText
  simp only [Bool.false_eq_true, if_false, List.nil_append, List.map_map]
  congr 2
  refine List.map_congr_left fun w _ => ?_
  simp only [Function.comp, wtext, Bool.false_eq_true, if_false]
  by_cases h : plain w = true
  · simp [h, show_]
  · simp [h, show_]
theorem print_write (f : Fo) : print f = write ((all f).map asLn) := by
  unfold print write
  rw [List.flatMap_map]
  congr 1
  funext l
  exact (line_text l).symm
theorem asLn_ok {l : List (List UInt8)} (h : l ≠ []) : LOk (asLn l) := by
  refine ⟨by simpa [asLn] using h, fun w hw => ?_⟩
  simp only [asLn, List.mem_map] at hw
  obtain ⟨u, -, rfl⟩ := hw
  by_cases hp : plain u = true
  · exact .inr (.inr ⟨rfl, by simp [hp], hp⟩)
  · exact .inr (.inl ⟨rfl, by simp [hp]⟩)
theorem all_ne : ∀ (f : Fo), ∀ l ∈ all f, l ≠ []
  | .nil, _, h => by cases h
  | .cons op a n b t, l, h => by
    rw [all] at h
    rcases List.mem_cons.1 h with rfl | h
    · simp [lineOf]
    · rcases List.mem_append.1 h with h | h
      · split at h
        · rcases List.mem_append.1 h with h | h
          · exact all_ne b l h
          · rw [List.mem_singleton] at h; subst h; simp
        · cases h
      · exact all_ne t l h
/-- P13.4: the text's words are the lines' -/
theorem lex_print (f : Fo) : ∃ ls, lex (print f) = .ok ls ∧ ls.map Ln.er = (all f).map asLn := by
  have h1 := lexE_write (ls := (all f).map asLn) (fun l hl => by
    obtain ⟨x, hx, rfl⟩ := List.mem_map.1 hl
    exact asLn_ok (all_ne f x hx))
  rw [← print_write, lexE_lex] at h1
  cases hm : lex (print f) with
  | bad a => rw [hm] at h1; cases h1
  | ok ls =>
    rw [hm] at h1
    simp only [R.map, R.ok.injEq] at h1
    refine ⟨ls, rfl, ?_⟩
    rw [h1, List.map_map]
    refine List.map_congr_left fun l _ => ?_
    simp [Function.comp, asLn, Ln.er, Ln.map, W.map]

end Go.Proofs.YtfgdlnidfkjbdaaDoor.Ac
