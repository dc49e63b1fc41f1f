/-
  ACTIONS: two one behind the other, a body, a beginning; the text. No program here.
-/
import Derived.Test.YtnobmgkdieaclaaGreatDoorAcMath
import Derived.Test.YtnobmgkdieaclaaGreatDoorXBack
namespace Go.Proofs.YtnobmgkdieaclaaGreatDoor.Ac
open Lx

/-- too many, or too deep: it is told so -/
theorem chk_over : ∀ (f : Fo) (o m i : Nat) (r : List (List (List UInt8))), one f = true → o ≤ 8 → m ≤ 256 → (8 < o + deep f ∨ 256 < m + size f) → ∃ e j, chk o m i (all f ++ r) = some (e, j) ∧ (e = 3 ∨ (e = 132 ∧ 8 < o + deep f))
  | .nil, o, m, i, r, _, ho, hm, h => by
    simp only [deep, size] at h
    omega
  | .cons op a n b t, o, m, i, r, h1, ho, hm, h => by
    simp only [one, Bool.and_eq_true] at h1
    obtain ⟨⟨⟨k1, k2⟩, k3⟩, k4⟩ := h1
    rw [all, List.cons_append, chk, if_neg (line_ne k1), stmt_line k1]
    simp only
    by_cases hm2 : 256 < m + 1
    · rw [if_pos hm2]
      exact ⟨3, i, rfl, .inl rfl⟩
    rw [if_neg hm2]
    by_cases hop : opens op = true
    · rw [if_pos hop, if_pos hop]
      rw [deep, if_pos hop, size] at h
      by_cases h8 : o = 8
      · rw [if_pos h8]
        refine ⟨132, i, rfl, .inr ⟨rfl, ?_⟩⟩
        rw [deep, if_pos hop]
        omega
      rw [if_neg h8, show all b ++ [[sEnd]] ++ all t ++ r = all b ++ ([sEnd] :: (all t ++ r)) by simp]
      by_cases hb : 8 < o + 1 + deep b ∨ 256 < m + 1 + size b
      · obtain ⟨e, j, h2, h3⟩ := chk_over b (o + 1) (m + 1) (i + 1) ([sEnd] :: (all t ++ r)) k3 (by omega) (by omega) hb
        refine ⟨e, j, h2, ?_⟩
        rcases h3 with h3 | ⟨h3, h4⟩
        · exact .inl h3
        · refine .inr ⟨h3, ?_⟩
          rw [deep, if_pos hop]
          omega
      · rw [chk_all b (o + 1) (m + 1) (i + 1) _ k3 (by omega) (by omega), chk, if_pos rfl, if_neg (by omega), Nat.add_sub_cancel]
        obtain ⟨e, j, h2, h3⟩ := chk_over t o (m + 1 + size b) (i + 1 + (all b).length + 1) r k4 ho (by omega) (by omega)
        refine ⟨e, j, h2, ?_⟩
        rcases h3 with h3 | ⟨h3, h4⟩
        · exact .inl h3
        · refine .inr ⟨h3, ?_⟩
          rw [deep]
          omega
    · rw [if_neg hop, if_neg hop, List.nil_append]
      have hb : b = .nil := by
        rcases (by simpa using k2 : opens op = true ∨ b = .nil) with h | h
        · exact absurd h hop
        · exact h
      subst hb
      rw [deep, if_neg hop] at h
      simp only [size] at h
      obtain ⟨e, j, h2, h3⟩ := chk_over t o (m + 1) (i + 1) r k4 ho (by omega) (by omega)
      refine ⟨e, j, h2, ?_⟩
      rcases h3 with h3 | ⟨h3, h4⟩
      · exact .inl h3
      · refine .inr ⟨h3, ?_⟩
        rw [deep, if_neg hop]
        omega
theorem may_iff {f : Fo} : may f = true ↔ one f = true ∧ size f ≤ 256 ∧ deep f ≤ 8 := by
  unfold may
  simp only [Bool.and_eq_true, decide_eq_true_eq, and_assoc]
/-- P13.5: two lists, one behind the other -/
theorem parse_join {f g : Fo} (hf : may f = true) (hg : may g = true) : (size f + size g ≤ 256 → parse (all f ++ all g) = .ok (f.app g) ∧ may (f.app g) = true) ∧ (256 < size f + size g → (∃ j, parse (all f ++ all g) = .bad (3, j)) ∧ may (f.app g) = false) := by
  obtain ⟨f1, f2, f3⟩ := may_iff.1 hf
  obtain ⟨g1, g2, g3⟩ := may_iff.1 hg
  refine ⟨fun h => ?_, fun h => ⟨?_, ?_⟩⟩
  · have hm : may (f.app g) = true := may_iff.2 ⟨by rw [one_app, f1, g1]; rfl, by rw [size_app]; exact h, by rw [deep_app]; omega⟩
    rw [← all_app]
    exact ⟨parse_all hm, hm⟩
  · have h1 := chk_all f 0 0 0 (all g) f1 (by omega) (by omega)
    obtain ⟨e, j, h2, h3⟩ := chk_over g 0 (0 + size f) (0 + (all f).length) [] g1 (by omega) (by omega) (.inr (by omega))
    rw [List.append_nil] at h2
    rcases h3 with rfl | ⟨-, h3⟩
    · refine ⟨j, ?_⟩
      unfold parse
      rw [h1, h2]
    · omega
  · rw [← Bool.not_eq_true]
    intro hm
    have := (may_iff.1 hm).2.1
    rw [size_app] at this
    omega
/-- P13.5: a list in a repeat -/
theorem parse_body {f : Fo} {n : Nat} (hf : may f = true) (hn : n ≤ 1000) : (size f < 256 ∧ deep f < 8 → parse ([word 10, digits n] :: (all f ++ [[sEnd]])) = .ok (.cons 10 [] (n : Int) f .nil) ∧ may (.cons 10 [] (n : Int) f .nil) = true) ∧
    (¬ (size f < 256 ∧ deep f < 8) → (∃ e j, parse ([word 10, digits n] :: (all f ++ [[sEnd]])) = .bad (e, j) ∧ (e = 3 ∨ e = 132)) ∧ may (.cons 10 [] (n : Int) f .nil) = false) := by
  obtain ⟨f1, f2, f3⟩ := may_iff.1 hf
  have hok : ok1 10 [] (n : Int) = true := by
    unfold ok1
    simp only [Bool.and_eq_true, decide_eq_true_eq]
    exact ⟨⟨⟨by decide, rfl⟩, by omega, by omega⟩, .inl trivial⟩
  have hone : one (.cons 10 [] (n : Int) f .nil) = true := by simp [one, hok, f1, opens]
  have hop : opens 10 = true := rfl
  have ha : all (.cons 10 [] (n : Int) f .nil) = [word 10, digits n] :: (all f ++ [[sEnd]]) := by
    rw [all, if_pos hop]
    simp [lineOf, all]
  rw [← ha]
  refine ⟨fun h => ?_, fun h => ⟨?_, ?_⟩⟩
  · have hm : may (.cons 10 [] (n : Int) f .nil) = true := may_iff.2 ⟨hone, by simp only [size]; omega, by rw [deep, if_pos hop]; simp only [deep]; omega⟩
    exact ⟨parse_all hm, hm⟩
  · obtain ⟨e, j, h2, h3⟩ := chk_over (.cons 10 [] (n : Int) f .nil) 0 0 0 [] hone (by omega) (by omega) (by rw [deep, if_pos hop]; simp only [deep, size]; omega)
    rw [List.append_nil] at h2
    refine ⟨e, j, ?_, ?_⟩
    · unfold parse
      rw [h2]
    · rcases h3 with h3 | ⟨h3, -⟩
      · exact .inl h3
      · exact .inr h3
  · rw [← Bool.not_eq_true]
    intro hm
    obtain ⟨-, h1, h2⟩ := may_iff.1 hm
    rw [deep, if_pos hop] at h2
    simp only [size, deep] at h1 h2
    omega
/-- an error stands at this line or behind it -/
theorem chk_at : ∀ (ls : List (List (List UInt8))) (o m i : Nat) (e : Int) (j : Nat), chk o m i ls = some (e, j) → i ≤ j ∧ j ≤ i + ls.length
  | [], o, m, i, e, j, h => by
    rw [chk] at h
    split at h
    · simp only [Option.some.injEq, Prod.mk.injEq] at h
      simp; omega
    · cases h
  | l :: r, o, m, i, e, j, h => by
    rw [chk] at h
    simp only [List.length_cons]
    have here : ∀ x : Int, (some (x, i) : Option (Int × Nat)) = some (e, j) → i ≤ j ∧ j ≤ i + (r.length + 1) := by
      intro x h
      simp only [Option.some.injEq, Prod.mk.injEq] at h
      omega
    have next : ∀ o' m', chk o' m' (i + 1) r = some (e, j) → i ≤ j ∧ j ≤ i + (r.length + 1) := by
      intro o' m' h
      have := chk_at r o' m' (i + 1) e j h
      omega
    split at h
    · split at h
      · exact here _ h
      · exact next _ _ h
    · cases hs : stmtOf l with
      | none => rw [hs] at h; exact here _ h
      | some x =>
        obtain ⟨op, a, n⟩ := x
        rw [hs] at h
        simp only at h
        split at h
        · exact here _ h
        · split at h
          · split at h
            · exact here _ h
            · exact next _ _ h
          · exact next _ _ h
/-- the first lines alone: they go wrong within, whatever follows, or not -/
theorem chk_split : ∀ (a : List (List (List UInt8))) (o m i : Nat), (∃ e j, j < i + a.length ∧ ∀ r, chk o m i (a ++ r) = some (e, j)) ∨ (∃ o' m', ∀ r, chk o m i (a ++ r) = chk o' m' (i + a.length) r)
  | [], o, m, i => .inr ⟨o, m, fun r => by simp⟩
  | l :: a, o, m, i => by
    have here : ∀ x : Int, (∀ r, chk o m i (l :: a ++ r) = some (x, i)) → (∃ e j, j < i + (l :: a).length ∧ ∀ r, chk o m i (l :: a ++ r) = some (e, j)) := fun x h => ⟨x, i, by simp, h⟩
    have next : ∀ o1 m1, (∀ r, chk o m i (l :: a ++ r) = chk o1 m1 (i + 1) (a ++ r)) → (∃ e j, j < i + (l :: a).length ∧ ∀ r, chk o m i (l :: a ++ r) = some (e, j)) ∨ (∃ o' m', ∀ r, chk o m i (l :: a ++ r) = chk o' m' (i + (l :: a).length) r) := by
      intro o1 m1 h
      rcases chk_split a o1 m1 (i + 1) with ⟨e, j, h1, h2⟩ | ⟨o', m', h2⟩
      · exact .inl ⟨e, j, by simp only [List.length_cons]; omega, fun r => (h r).trans (h2 r)⟩
      · refine .inr ⟨o', m', fun r => ?_⟩
        rw [h r, h2 r]
        congr 1
        simp only [List.length_cons]
        omega
    by_cases he : l = [sEnd]
    · by_cases h0 : o = 0
      · exact .inl (here 131 fun r => by rw [List.cons_append, chk, if_pos he, if_pos h0])
      · exact next (o - 1) m fun r => by rw [List.cons_append, chk, if_pos he, if_neg h0]
    · cases hs : stmtOf l with
      | none => exact .inl (here 130 fun r => by rw [List.cons_append, chk, if_neg he, hs])
      | some x =>
        obtain ⟨op, b, n⟩ := x
        by_cases hm : 256 < m + 1
        · exact .inl (here 3 fun r => by rw [List.cons_append, chk, if_neg he, hs]; simp only; rw [if_pos hm])
        · by_cases hop : opens op = true
          · by_cases h8 : o = 8
            · exact .inl (here 132 fun r => by rw [List.cons_append, chk, if_neg he, hs]; simp only; rw [if_neg hm, if_pos hop, if_pos h8])
            · exact next (o + 1) (m + 1) fun r => by rw [List.cons_append, chk, if_neg he, hs]; simp only; rw [if_neg hm, if_pos hop, if_neg h8]
          · exact next o (m + 1) fun r => by rw [List.cons_append, chk, if_neg he, hs]; simp only; rw [if_neg hm, if_neg hop]
theorem line_inj {op op' : Int} {a a' : List (List UInt8)} {n n' : Int} (h : ok1 op a n = true) (h' : ok1 op' a' n' = true) (e : lineOf op a n = lineOf op' a' n') : op = op' ∧ a = a' ∧ n = n' := by
  have h1 := stmt_line h
  rw [e, stmt_line h'] at h1
  simp only [Option.some.injEq, Prod.mk.injEq] at h1
  exact ⟨h1.1.symm, h1.2.1.symm, h1.2.2.symm⟩
/-- a list whose lines begin with those of another begins with it -/
theorem all_prefix : ∀ (m f : Fo) (r : List (List (List UInt8))), one m = true → one f = true → all f = all m ++ r → ∃ g, f = m.app g
  | .nil, f, _, _, _, _ => ⟨f, rfl⟩
  | .cons op a n b t, .nil, r, _, _, h => by simp [all] at h
  | .cons op a n b t, .cons op' a' n' b' t', r, h1, h2, h => by
    simp only [one, Bool.and_eq_true] at h1 h2
    obtain ⟨⟨⟨k1, k2⟩, k3⟩, k4⟩ := h1
    obtain ⟨⟨⟨q1, q2⟩, q3⟩, q4⟩ := h2
    rw [all, all, List.cons_append, List.cons.injEq] at h
    obtain ⟨e, h⟩ := h
    obtain ⟨rfl, rfl, rfl⟩ := line_inj q1 k1 e
    by_cases hop : opens op' = true
    · rw [if_pos hop, if_pos hop] at h
      have h' : all b' ++ [sEnd] :: all t' = all b ++ [sEnd] :: (all t ++ r) := by simpa using h
      have u1 := (unt_all ((all b').length + (all b).length + 1) b' (all t') q3 (by omega)).1
      have u2 := (unt_all ((all b').length + (all b).length + 1) b (all t ++ r) k3 (by omega)).1
      rw [h', u2] at u1
      simp only [Prod.mk.injEq] at u1
      obtain ⟨rfl, e2⟩ := u1
      obtain ⟨g, rfl⟩ := all_prefix t t' r k4 q4 e2.symm
      exact ⟨g, rfl⟩
    · have hb : b = .nil := by
        rcases (by simpa using k2 : opens op' = true ∨ b = .nil) with h | h
        · exact absurd h hop
        · exact h
      have hb' : b' = .nil := by
        rcases (by simpa using q2 : opens op' = true ∨ b' = .nil) with h | h
        · exact absurd h hop
        · exact h
      subst hb hb'
      rw [if_neg hop, List.nil_append, List.nil_append] at h
      obtain ⟨g, rfl⟩ := all_prefix t t' r k4 q4 h
      exact ⟨g, rfl⟩
/-- P13.6: the first lines alone -/
theorem parse_cut (a r : List (List (List UInt8))) : (∀ e j, parse (a ++ r) = .bad (e, j) → a.length ≤ j ∨ parse a = .bad (e, j)) ∧
    (∀ f, parse (a ++ r) = .ok f → parse a = .bad (131, a.length) ∨ ∃ m g, parse a = .ok m ∧ f = m.app g) := by
  have hb : ∀ {ls : List (List (List UInt8))} {e : Int} {j : Nat}, parse ls = .bad (e, j) ↔ chk 0 0 0 ls = some (e, j) := by
    intro ls e j
    unfold parse
    cases hc : chk 0 0 0 ls with
    | none => simp
    | some x => simp
  rcases chk_split a 0 0 0 with ⟨e', j', h1, h2⟩ | ⟨o', m', h2⟩
  · have ha := h2 []
    rw [List.append_nil] at ha
    refine ⟨fun e j h => ?_, fun f h => ?_⟩
    · rw [hb, h2 r] at h
      right
      rw [hb, ha, h]
    · have := hb.2 (h2 r)
      rw [this] at h
      cases h
  · have ha := h2 []
    rw [List.append_nil, Nat.zero_add] at ha
    refine ⟨fun e j h => ?_, fun f h => ?_⟩
    · rw [hb, h2 r, Nat.zero_add] at h
      left
      exact (chk_at r o' m' a.length e j h).1
    · by_cases ho : 0 < o'
      · left
        rw [hb, ha, chk, if_pos ho]
      · right
        have hn : chk 0 0 0 a = none := by rw [ha, chk, if_neg ho]
        have hp : parse a = .ok (unt (a.length + 1) a).1 := by unfold parse; rw [hn]
        obtain ⟨m1, m2⟩ := parse_ok hp
        obtain ⟨f1, f2⟩ := parse_ok h
        have m3 := (may_iff.1 m1).1
        have f3 := (may_iff.1 f1).1
        obtain ⟨g, hg⟩ := all_prefix (unt (a.length + 1) a).1 f r m3 f3 (by rw [f2, m2])
        exact ⟨_, g, hp, hg⟩

/-- a line of words as it is written -/
def asLn (l : List (List UInt8)) : Ln Unit := ⟨(), false, l.map fun w => ⟨w, (), !plain w, false⟩⟩
def lineText (l : List (List UInt8)) : List UInt8 := inter (l.map show_) ++ [10]
/-- the text of a list -/
def print (f : Fo) : List UInt8 := (all f).flatMap lineText
theorem line_text (l : List (List UInt8)) : wline (asLn l) = lineText l := by
  unfold wline asLn lineText
  simp only [Bool.false_eq_true, if_false, List.nil_append, List.map_map]
  congr 2
  refine List.map_congr_left fun w _ => ?_
  simp only [Function.comp, wtext, Bool.false_eq_true, if_false]
  by_cases h : plain w = true
  · simp [h, show_]
  · simp [h, show_]
theorem print_write (f : Fo) : print f = write ((all f).map asLn) := by
  unfold print write
  rw [List.flatMap_map]
  congr 1
  funext l
  exact (line_text l).symm
theorem asLn_ok {l : List (List UInt8)} (h : l ≠ []) : LOk (asLn l) := by
  refine ⟨by simpa [asLn] using h, fun w hw => ?_⟩
  simp only [asLn, List.mem_map] at hw
  obtain ⟨u, -, rfl⟩ := hw
  by_cases hp : plain u = true
  · exact .inr (.inr ⟨rfl, by simp [hp], hp⟩)
  · exact .inr (.inl ⟨rfl, by simp [hp]⟩)
theorem all_ne : ∀ (f : Fo), ∀ l ∈ all f, l ≠ []
  | .nil, _, h => by cases h
  | .cons op a n b t, l, h => by
    rw [all] at h
    rcases List.mem_cons.1 h with rfl | h
    · simp [lineOf]
    · rcases List.mem_append.1 h with h | h
      · split at h
        · rcases List.mem_append.1 h with h | h
          · exact all_ne b l h
          · rw [List.mem_singleton] at h; subst h; simp
        · cases h
      · exact all_ne t l h
/-- P13.4: the text's words are the lines' -/
theorem lex_print (f : Fo) : ∃ ls, lex (print f) = .ok ls ∧ ls.map Ln.er = (all f).map asLn := by
  have h1 := lexE_write (ls := (all f).map asLn) (fun l hl => by
    obtain ⟨x, hx, rfl⟩ := List.mem_map.1 hl
    exact asLn_ok (all_ne f x hx))
  rw [← print_write, lexE_lex] at h1
  cases hm : lex (print f) with
  | bad a => rw [hm] at h1; cases h1
  | ok ls =>
    rw [hm] at h1
    simp only [R.map, R.ok.injEq] at h1
    refine ⟨ls, rfl, ?_⟩
    rw [h1, List.map_map]
    refine List.map_congr_left fun l _ => ?_
    simp [Function.comp, asLn, Ln.er, Ln.map, W.map]

end Go.Proofs.YtnobmgkdieaclaaGreatDoor.Ac

namespace Go.Proofs.YtnobmgkdieaclaaGreatDoor.Ac
open Lx

/-- a line as the landed code reads it: 0 is the end -/
def rdLine (l : List (List UInt8)) : Option (Int × List (List UInt8) × Int) := if l = [sEnd] then some (0, [], 0) else stmtOf l
/-- what a body says: its statements, how many were read, the next line's number, the lines behind it -/
def bod : Nat → Nat → Nat → Nat → List (List (List UInt8)) → R (Int × Nat) (Fo × Nat × Nat × List (List (List UInt8)))
  | 0, _, _, _, _ => .bad (0, 0)
  | _ + 1, o, m, i, [] => if 0 < o then .bad (131, i) else .ok (.nil, m, i, [])
  | f + 1, o, m, i, l :: r =>
    if l = [sEnd] then (if o = 0 then .bad (131, i) else .ok (.nil, m, i + 1, r))
    else match stmtOf l with
      | none => .bad (130, i)
      | some (op, a, n) =>
        if m = 256 then .bad (3, i)
        else if opens op = true then
          (if o = 8 then .bad (132, i)
          else match bod f (o + 1) (m + 1) (i + 1) r with
            | .bad e => .bad e
            | .ok (b, m', i', r') => match bod f o m' i' r' with
              | .bad e => .bad e
              | .ok (t, x) => .ok (.cons op a n b t, x))
        else match bod f o (m + 1) (i + 1) r with
          | .bad e => .bad e
          | .ok (t, x) => .ok (.cons op a n .nil t, x)
theorem unt_nil (k : Nat) : unt k [] = (.nil, []) := by cases k <;> rfl
/-- bodies one in another, and the document's way -/
theorem bod_chk : ∀ (f : Nat) (ls : List (List (List UInt8))) (o m i : Nat), ls.length < f → o ≤ 8 → m ≤ 256 →
    (∀ e, bod f o m i ls = .bad e → chk o m i ls = some e) ∧
    (∀ t m' i' r, bod f o m i ls = .ok (t, m', i', r) → m' ≤ 256 ∧ i' + r.length = i + ls.length ∧ r.length ≤ ls.length ∧ (0 < o → r.length < ls.length) ∧ (o = 0 → r = [] ∧ chk o m i ls = none) ∧ (0 < o → chk o m i ls = chk (o - 1) m' i' r) ∧ ∀ k, ls.length < k → unt k ls = (t, r))
  | 0, ls, _, _, _, h, _, _ => by omega
  | f + 1, [], o, m, i, _, _, _ => by
    rw [bod]
    refine ⟨fun e h => ?_, fun t m' i' r h => ?_⟩
    · split at h
      · rename_i ho
        rw [chk, if_pos ho]
        simpa using h
      · cases h
    · split at h
      · cases h
      · rename_i ho
        simp only [R.ok.injEq, Prod.mk.injEq] at h
        obtain ⟨rfl, rfl, rfl, rfl⟩ := h
        exact ⟨by assumption, rfl, Nat.le_refl _, fun h => absurd h ho, fun _ => ⟨rfl, by rw [chk, if_neg ho]⟩, fun h => absurd h ho, fun k _ => unt_nil k⟩
  | f + 1, l :: ls, o, m, i, hf, ho8, hm8 => by
    simp only [List.length_cons] at hf
    have hu : ∀ k, (l :: ls).length < k → ∃ k', k = k' + 1 ∧ ls.length < k' := fun k hk => ⟨k - 1, by simp at hk; omega, by simp at hk; omega⟩
    rw [bod, chk]
    by_cases he : l = [sEnd]
    · rw [if_pos he, if_pos he]
      by_cases h0 : o = 0
      · rw [if_pos h0, if_pos h0]
        exact ⟨fun e h => by simpa using h, fun t m' i' r h => by cases h⟩
      · rw [if_neg h0, if_neg h0]
        refine ⟨fun e h => by (cases h), fun t m' i' r h => ?_⟩
        simp only [R.ok.injEq, Prod.mk.injEq] at h
        obtain ⟨rfl, rfl, rfl, rfl⟩ := h
        refine ⟨hm8, by simp only [List.length_cons]; omega, by simp, fun _ => by simp, fun h => absurd h h0, fun _ => rfl, fun k hk => ?_⟩
        obtain ⟨k', rfl, -⟩ := hu k hk
        rw [unt, if_pos he]
    · rw [if_neg he, if_neg he]
      cases hs : stmtOf l with
      | none => exact ⟨fun e h => by simpa using h, fun t m' i' r h => by cases h⟩
      | some x =>
        obtain ⟨op, a, n⟩ := x
        simp only
        by_cases hm : m = 256
        · rw [if_pos hm, if_pos (show 256 < m + 1 by omega)]
          exact ⟨fun e h => by simpa using h, fun t m' i' r h => by cases h⟩
        · rw [if_neg hm, if_neg (show ¬ 256 < m + 1 by omega)]
          by_cases hop : opens op = true
          · rw [if_pos hop, if_pos hop]
            by_cases h8 : o = 8
            · rw [if_pos h8, if_pos h8]
              exact ⟨fun e h => by simpa using h, fun t m' i' r h => by cases h⟩
            · rw [if_neg h8, if_neg h8]
              have hb := bod_chk f ls (o + 1) (m + 1) (i + 1) (by omega) (by omega) (by omega)
              cases hbe : bod f (o + 1) (m + 1) (i + 1) ls with
              | bad e' =>
                simp only
                have := hb.1 e' hbe
                exact ⟨fun e h => by rw [this]; simpa using h, fun t m' i' r h => by cases h⟩
              | ok y =>
                obtain ⟨b, m1, i1, r1⟩ := y
                simp only
                obtain ⟨q1, q2, q3, q4, -, q5, q6⟩ := hb.2 b m1 i1 r1 hbe
                have q5 := q5 (by omega)
                rw [Nat.add_sub_cancel] at q5
                have ht := bod_chk f r1 o m1 i1 (by omega) ho8 q1
                rw [q5]
                cases hte : bod f o m1 i1 r1 with
                | bad e' =>
                  simp only
                  have := ht.1 e' hte
                  exact ⟨fun e h => by rw [this]; simpa using h, fun t m' i' r h => by cases h⟩
                | ok z =>
                  obtain ⟨t, m2, i2, r2⟩ := z
                  simp only
                  obtain ⟨s1, s2, s3, s4, s5, s6, s7⟩ := ht.2 t m2 i2 r2 hte
                  refine ⟨fun e h => by (cases h), fun t' m' i' r h => ?_⟩
                  simp only [R.ok.injEq, Prod.mk.injEq] at h
                  obtain ⟨rfl, rfl, rfl, rfl⟩ := h
                  refine ⟨s1, by simp only [List.length_cons]; omega, by simp only [List.length_cons]; omega, fun _ => by simp only [List.length_cons]; omega, s5, s6, fun k hk => ?_⟩
                  obtain ⟨k', rfl, hk'⟩ := hu k hk
                  rw [unt, if_neg he, hs]
                  simp only
                  rw [if_pos hop, q6 k' hk']
                  simp only
                  rw [s7 k' (by omega)]
          · rw [if_neg hop, if_neg hop]
            have ht := bod_chk f ls o (m + 1) (i + 1) (by omega) ho8 (by omega)
            cases hte : bod f o (m + 1) (i + 1) ls with
            | bad e' =>
              simp only
              have := ht.1 e' hte
              exact ⟨fun e h => by rw [this]; simpa using h, fun t m' i' r h => by cases h⟩
            | ok z =>
              obtain ⟨t, m2, i2, r2⟩ := z
              simp only
              obtain ⟨s1, s2, s3, s4, s5, s6, s7⟩ := ht.2 t m2 i2 r2 hte
              refine ⟨fun e h => by (cases h), fun t' m' i' r h => ?_⟩
              simp only [R.ok.injEq, Prod.mk.injEq] at h
              obtain ⟨rfl, rfl, rfl, rfl⟩ := h
              refine ⟨s1, by simp only [List.length_cons]; omega, by simp only [List.length_cons]; omega, fun h => by have := s4 h; simp only [List.length_cons]; omega, s5, s6, fun k hk => ?_⟩
              obtain ⟨k', rfl, hk'⟩ := hu k hk
              rw [unt, if_neg he, hs]
              simp only
              rw [if_neg hop, s7 k' hk']
/-- the landed code's reading is the document's -/
theorem bod_parse (f : Nat) (ls : List (List (List UInt8))) (hf : ls.length < f) :
    (∀ e, bod f 0 0 0 ls = .bad e → parse ls = .bad e) ∧ (∀ t x, bod f 0 0 0 ls = .ok (t, x) → parse ls = .ok t) := by
  have h := bod_chk f ls 0 0 0 hf (by omega) (by omega)
  refine ⟨fun e he => ?_, fun t x he => ?_⟩
  · unfold parse
    rw [h.1 e he]
  · obtain ⟨m', i', r⟩ := x
    obtain ⟨-, -, -, -, h5, -, h7⟩ := h.2 t m' i' r he
    unfold parse
    rw [(h5 rfl).2]
    simp only
    rw [h7 (ls.length + 1) (by omega)]
theorem stmtOf_op {l : List (List UInt8)} {op : Int} {a : List (List UInt8)} {n : Int} (h : stmtOf l = some (op, a, n)) : 1 ≤ op ∧ op ≤ 12 := by
  have hk := (stmt_some h).2
  unfold ok1 at hk
  simp only [Bool.and_eq_true, decide_eq_true_eq] at hk
  have := word_of hk.1.1.1
  omega

/-- how many levels a list has -/
def ht : Fo → Nat
  | .nil => 0
  | .cons _ _ _ b t => max (1 + ht b) (ht t)
theorem ht_at : ∀ {f : Fo} {o : Int} {a : List (List UInt8)} {n : Int} {b r : Fo}, f = .cons o a n b r → 1 + ht b ≤ ht f ∧ ht r ≤ ht f := by
  intro f o a n b r e
  subst e
  rw [ht]
  omega
theorem ht_nil {f : Fo} (h : ht f = 0) : f = .nil := by
  cases f with
  | nil => rfl
  | cons _ _ _ _ _ => rw [ht] at h; omega
theorem ht_size : ∀ f : Fo, ht f ≤ size f
  | .nil => Nat.le_refl _
  | .cons _ _ _ b t => by
    have h1 := ht_size b
    have h2 := ht_size t
    rw [ht, size]
    omega
/-- a depth that counts each body that is there -/
def deepL : Fo → Nat
  | .nil => 0
  | .cons op _ _ b t => max (if opens op = true ∨ b ≠ .nil then 1 + deepL b else 0) (deepL t)
theorem deepL_one : ∀ {f : Fo}, one f = true → deepL f = deep f
  | .nil, _ => rfl
  | .cons op a n b t, h => by
    simp only [one, Bool.and_eq_true] at h
    obtain ⟨⟨⟨-, k2⟩, k3⟩, k4⟩ := h
    rw [deepL, deep, deepL_one k3, deepL_one k4]
    congr 1
    by_cases hop : opens op = true
    · rw [if_pos hop, if_pos (.inl hop)]
    · have hb : b = .nil := by
        rcases (by simpa using k2 : opens op = true ∨ b = .nil) with h | h
        · exact absurd h hop
        · exact h
      rw [if_neg hop, if_neg (by simp [hop, hb])]
theorem deepL_ht : ∀ f : Fo, deepL f ≤ ht f
  | .nil => Nat.le_refl _
  | .cons _ _ _ b t => by
    have h1 := deepL_ht b
    have h2 := deepL_ht t
    rw [ht, deepL]
    split <;> omega
/-- is a statement as the table says? of its body alone whether it may have one -/
def alone (op : Int) (a : List (List UInt8)) (n : Int) (b : Fo) : Bool := ok1 op a n && (opens op || decide (b = .nil))
/-- what may be, counted down: how many are left -/
def mayL : Fo → Nat → Nat → Option Nat
  | .nil, _, m => some m
  | .cons op a n b t, k, m =>
    if m = 0 ∨ alone op a n b = false then none
    else if opens op = true then (if k = 0 then none else (mayL b (k - 1) (m - 1)).bind fun m' => mayL t k m')
    else mayL t k (m - 1)
theorem mayL_eq : ∀ (f : Fo) (k m : Nat), mayL f k m = if one f = true ∧ deep f ≤ k ∧ size f ≤ m then some (m - size f) else none
  | .nil, k, m => by rw [mayL, if_pos ⟨rfl, Nat.zero_le _, Nat.zero_le _⟩]; rfl
  | .cons op a n b t, k, m => by
    rw [mayL]
    by_cases h1 : m = 0 ∨ alone op a n b = false
    · rw [if_pos h1, if_neg]
      rintro ⟨g1, g2, g3⟩
      rcases h1 with rfl | h1
      · rw [size] at g3; omega
      · simp only [one, Bool.and_eq_true] at g1
        unfold alone at h1
        rw [g1.1.1.1, g1.1.1.2] at h1
        cases h1
    · rw [if_neg h1]
      have h2 : m ≠ 0 := fun e => h1 (.inl e)
      have h3 : alone op a n b = true := by simpa using fun e => h1 (.inr e)
      unfold alone at h3
      simp only [Bool.and_eq_true] at h3
      have ho : one (.cons op a n b t) = (one b && one t) := by simp [one, h3.1, h3.2]
      simp only [ho, Bool.and_eq_true, size]
      by_cases hop : opens op = true
      · rw [if_pos hop, deep, if_pos hop]
        by_cases hk : k = 0
        · rw [if_pos hk, if_neg (by omega)]
        · rw [if_neg hk, mayL_eq b]
          by_cases hb : one b = true ∧ deep b ≤ k - 1 ∧ size b ≤ m - 1
          · rw [if_pos hb, Option.bind_some, mayL_eq t]
            by_cases ht : one t = true ∧ deep t ≤ k ∧ size t ≤ m - 1 - size b
            · rw [if_pos ht, if_pos ⟨⟨hb.1, ht.1⟩, by omega, by omega⟩]
              congr 1
              omega
            · rw [if_neg ht, if_neg (fun h => ht ⟨h.1.2, by omega, by omega⟩)]
          · rw [if_neg hb, Option.bind_none, if_neg (fun h => hb ⟨h.1.1, by omega, by omega⟩)]
      · rw [if_neg hop, deep, if_neg hop, mayL_eq t]
        have hb : b = .nil := by
          rcases (by simpa using h3.2 : opens op = true ∨ b = .nil) with h | h
          · exact absurd h hop
          · exact h
        subst hb
        simp only [one, size, true_and]
        by_cases ht : one t = true ∧ deep t ≤ k ∧ size t ≤ m - 1
        · rw [if_pos ht, if_pos ⟨ht.1, by omega, by omega⟩]
          congr 1
          omega
        · rw [if_neg ht, if_neg (fun h => ht ⟨h.1, by omega, by omega⟩)]
theorem mayL_may (f : Fo) : (mayL f 8 256).isSome = may f := by
  rw [mayL_eq, Bool.eq_iff_iff, may_iff]
  split
  · rename_i h
    simp only [Option.isSome_some, true_iff]
    exact ⟨h.1, h.2.2, h.2.1⟩
  · rename_i h
    simp only [Option.isSome_none, Bool.false_eq_true, false_iff]
    exact fun g => h ⟨g.1, g.2.2, g.2.1⟩

end Go.Proofs.YtnobmgkdieaclaaGreatDoor.Ac
