/-
  ACTIONS AS THE LANDED CODE GOES OVER THEM: bodies one in another, how high a list is, what may be, counted down. No program here.
-/
import Derived.Test.YtfgdlnidfkjbdaaDoorAcMore
namespace Go.Proofs.YtfgdlnidfkjbdaaDoor.Ac
open Lx

/-- a line as the landed code reads it: 0 is the end -/
def rdLine (l : List (List UInt8)) : Option (Int × List (List UInt8) × Int) := if l = [sEnd] then some (0, [], 0) else stmtOf l
/-- what a body says: its statements, how many were read, the next line's number, the lines behind it -/
def bod : Nat → Nat → Nat → Nat → List (List (List UInt8)) → R (Int × Nat) (Fo × Nat × Nat × List (List (List UInt8)))
  | 0, _, _, _, _ => .bad (0, 0)
  | _ + 1, o, m, i, [] => if 0 < o then .bad (131, i) else .ok (.nil, m, i, [])
  | f + 1, o, m, i, l :: r =>
    if l = [sEnd] then (if o = 0 then .bad (131, i) else .ok (.nil, m, i + 1, r))
    else match stmtOf l with
      | none => .bad (130, i)
      | some (op, a, n) =>
        if m = 256 then .bad (3, i)
        else if opens op = true then
          (if o = 8 then .bad (132, i)
          else match bod f (o + 1) (m + 1) (i + 1) r with
            | .bad e => .bad e
            | .ok (b, m', i', r') => match bod f o m' i' r' with
              | .bad e => .bad e
              | .ok (t, x) => .ok (.cons op a n b t, x))
        else match bod f o (m + 1) (i + 1) r with
          | .bad e => .bad e
          | .ok (t, x) => .ok (.cons op a n .nil t, x)
theorem unt_nil (k : Nat) : unt k [] = (.nil, []) := by cases k <;> rfl
/-- bodies one in another, and the document's way -/
theorem bod_chk : ∀ (f : Nat) (ls : List (List (List UInt8))) (o m i : Nat), ls.length < f → o ≤ 8 → m ≤ 256 →
    (∀ e, bod f o m i ls = .bad e → chk o m i ls = some e) ∧
    (∀ t m' i' r, bod f o m i ls = .ok (t, m', i', r) → m' ≤ 256 ∧ i' + r.length = i + ls.length ∧ r.length ≤ ls.length ∧ (0 < o → r.length < ls.length) ∧ (o = 0 → r = [] ∧ chk o m i ls = none) ∧ (0 < o → chk o m i ls = chk (o - 1) m' i' r) ∧ ∀ k, ls.length < k → unt k ls = (t, r))
  | 0, ls, _, _, _, h, _, _ => by omega
  | f + 1, [], o, m, i, _, _, _ => by
    rw [bod]
    refine ⟨fun e h => ?_, fun t m' i' r h => ?_⟩
    · split at h
      · rename_i ho
        rw [chk, if_pos ho]
        simpa using h
      · cases h
    · split at h
      · cases h
      · rename_i ho
        simp only [R.ok.injEq, Prod.mk.injEq] at h
        obtain ⟨rfl, rfl, rfl, rfl⟩ := h
        exact ⟨by assumption, rfl, Nat.le_refl _, fun h => absurd h ho, fun _ => ⟨rfl, by rw [chk, if_neg ho]⟩, fun h => absurd h ho, fun k _ => unt_nil k⟩
  | f + 1, l :: ls, o, m, i, hf, ho8, hm8 => by
    simp only [List.length_cons] at hf
    have hu : ∀ k, (l :: ls).length < k → ∃ k', k = k' + 1 ∧ ls.length < k' := fun k hk => ⟨k - 1, by simp at hk; omega, by simp at hk; omega⟩
    rw [bod, chk]
    by_cases he : l = [sEnd]
    · rw [if_pos he, if_pos he]
      by_cases h0 : o = 0
      · rw [if_pos h0, if_pos h0]
        exact ⟨fun e h => by simpa using h, fun t m' i' r h => by cases h⟩
      · rw [if_neg h0, if_neg h0]
        refine ⟨fun e h => by (cases h), fun t m' i' r h => ?_⟩
        simp only [R.ok.injEq, Prod.mk.injEq] at h
        obtain ⟨rfl, rfl, rfl, rfl⟩ := h
        refine ⟨hm8, by simp only [List.length_cons]; omega, by simp, fun _ => by simp, fun h => absurd h h0, fun _ => rfl, fun k hk => ?_⟩
        obtain ⟨k', rfl, -⟩ := hu k hk
        rw [unt, if_pos he]
    · rw [if_neg he, if_neg he]
      cases hs : stmtOf l with
      | none => exact ⟨fun e h => by simpa using h, fun t m' i' r h => by cases h⟩
      | some x =>
        obtain ⟨op, a, n⟩ := x
        simp only
        by_cases hm : m = 256
        · rw [if_pos hm, if_pos (show 256 < m + 1 by omega)]
          exact ⟨fun e h => by simpa using h, fun t m' i' r h => by cases h⟩
        · rw [if_neg hm, if_neg (show ¬ 256 < m + 1 by omega)]
          by_cases hop : opens op = true
          · rw [if_pos hop, if_pos hop]
            by_cases h8 : o = 8
            · rw [if_pos h8, if_pos h8]
              exact ⟨fun e h => by simpa using h, fun t m' i' r h => by cases h⟩
            · rw [if_neg h8, if_neg h8]
              have hb := bod_chk f ls (o + 1) (m + 1) (i + 1) (by omega) (by omega) (by omega)
              cases hbe : bod f (o + 1) (m + 1) (i + 1) ls with
              | bad e' =>
                simp only
                have := hb.1 e' hbe
                exact ⟨fun e h => by rw [this]; simpa using h, fun t m' i' r h => by cases h⟩
              | ok y =>
                obtain ⟨b, m1, i1, r1⟩ := y
                simp only
                obtain ⟨q1, q2, q3, q4, -, q5, q6⟩ := hb.2 b m1 i1 r1 hbe
                have q5 := q5 (by omega)
                rw [Nat.add_sub_cancel] at q5
                have ht := bod_chk f r1 o m1 i1 (by omega) ho8 q1
                rw [q5]
                cases hte : bod f o m1 i1 r1 with
                | bad e' =>
                  simp only
                  have := ht.1 e' hte
                  exact ⟨fun e h => by rw [this]; simpa using h, fun t m' i' r h => by cases h⟩
                | ok z =>
                  obtain ⟨t, m2, i2, r2⟩ := z
                  simp only
                  obtain ⟨s1, s2, s3, s4, s5, s6, s7⟩ := ht.2 t m2 i2 r2 hte
                  refine ⟨fun e h => by (cases h), fun t' m' i' r h => ?_⟩
                  simp only [R.ok.injEq, Prod.mk.injEq] at h
                  obtain ⟨rfl, rfl, rfl, rfl⟩ := h
                  refine ⟨s1, by simp only [List.length_cons]; omega, by simp only [List.length_cons]; omega, fun _ => by simp only [List.length_cons]; omega, s5, s6, fun k hk => ?_⟩
                  obtain ⟨k', rfl, hk'⟩ := hu k hk
                  rw [unt, if_neg he, hs]
                  simp only
                  rw [if_pos hop, q6 k' hk']
                  simp only
                  rw [s7 k' (by omega)]
          · rw [if_neg hop, if_neg hop]
            have ht := bod_chk f ls o (m + 1) (i + 1) (by omega) ho8 (by omega)
            cases hte : bod f o (m + 1) (i + 1) ls with
            | bad e' =>
              simp only
              have := ht.1 e' hte
              exact ⟨fun e h => by rw [this]; simpa using h, fun t m' i' r h => by cases h⟩
            | ok z =>
              obtain ⟨t, m2, i2, r2⟩ := z
              simp only
              obtain ⟨s1, s2, s3, s4, s5, s6, s7⟩ := ht.2 t m2 i2 r2 hte
              refine ⟨fun e h => by (cases h), fun t' m' i' r h => ?_⟩
              simp only [R.ok.injEq, Prod.mk.injEq] at h
              obtain ⟨rfl, rfl, rfl, rfl⟩ := h
              refine ⟨s1, by simp only [List.length_cons]; omega, by simp only [List.length_cons]; omega, fun h => by have := s4 h; simp only [List.length_cons]; omega, s5, s6, fun k hk => ?_⟩
              obtain ⟨k', rfl, hk'⟩ := hu k hk
              rw [unt, if_neg he, hs]
              simp only
              rw [if_neg hop, s7 k' hk']
/-- the landed code's reading is the document's -/
theorem bod_parse (f : Nat) (ls : List (List (List UInt8))) (hf : ls.length < f) :
    (∀ e, bod f 0 0 0 ls = .bad e → parse ls = .bad e) ∧ (∀ t x, bod f 0 0 0 ls = .ok (t, x) → parse ls = .ok t) := by
  have h := bod_chk f ls 0 0 0 hf (by omega) (by omega)
  refine ⟨fun e he => ?_, fun t x he => ?_⟩
  · unfold parse
    rw [h.1 e he]
  · obtain ⟨m', i', r⟩ := x
    obtain ⟨-, -, -, -, h5, -, h7⟩ := h.2 t m' i' r he
    unfold parse
    rw [(h5 rfl).2]
    simp only
    rw [h7 (ls.length + 1) (by omega)]
theorem stmtOf_op {l : List (List UInt8)} {op : Int} {a : List (List UInt8)} {n : Int} (h : stmtOf l = some (op, a, n)) : 1 ≤ op ∧ op ≤ 12 := by
  have hk := (stmt_some h).2
  unfold ok1 at hk
  simp only [Bool.and_eq_true, decide_eq_true_eq] at hk
  have := word_of hk.1.1.1
  omega

/-- how many levels a list has -/
def ht : Fo → Nat
  | .nil => 0
  | .cons _ _ _ b t => max (1 + ht b) (ht t)
theorem ht_at : ∀ {f : Fo} {o : Int} {a : List (List UInt8)} {n : Int} {b r : Fo}, f = .cons o a n b r → 1 + ht b ≤ ht f ∧ ht r ≤ ht f := by
  intro f o a n b r e
  subst e
  rw [ht]
  omega
theorem ht_nil {f : Fo} (h : ht f = 0) : f = .nil := by
  cases f with
  | nil => rfl
  | cons _ _ _ _ _ => rw [ht] at h; omega
theorem ht_size : ∀ f : Fo, ht f ≤ size f
  | .nil => Nat.le_refl _
  | .cons _ _ _ b t => by
    have h1 := ht_size b
    have h2 := ht_size t
    rw [ht, size]
    omega
/-- a depth that counts each body that is there -/
def deepL : Fo → Nat
  | .nil => 0
  | .cons op _ _ b t => max (if opens op = true ∨ b ≠ .nil then 1 + deepL b else 0) (deepL t)
theorem deepL_one : ∀ {f : Fo}, one f = true → deepL f = deep f
  | .nil, _ => rfl
  | .cons op a n b t, h => by
    simp only [one, Bool.and_eq_true] at h
    obtain ⟨⟨⟨-, k2⟩, k3⟩, k4⟩ := h
    rw [deepL, deep, deepL_one k3, deepL_one k4]
    congr 1
    by_cases hop : opens op = true
    · rw [if_pos hop, if_pos (.inl hop)]
    · have hb : b = .nil := by
        rcases (by simpa using k2 : opens op = true ∨ b = .nil) with h | h
        · exact absurd h hop
        · exact h
      rw [if_neg hop, if_neg (by simp [hop, hb])]
theorem deepL_ht : ∀ f : Fo, deepL f ≤ ht f
  | .nil => Nat.le_refl _
  | .cons _ _ _ b t => by
    have h1 := deepL_ht b
    have h2 := deepL_ht t
    rw [ht, deepL]
    split <;> omega
/-- is a statement as the table says? of its body alone whether it may have one -/
def alone (op : Int) (a : List (List UInt8)) (n : Int) (b : Fo) : Bool := ok1 op a n && (opens op || decide (b = .nil))
/-- what may be, counted down: how many are left -/
def mayL : Fo → Nat → Nat → Option Nat
  | .nil, _, m => some m
  | .cons op a n b t, k, m =>
    if m = 0 ∨ alone op a n b = false then none
    else if opens op = true then (if k = 0 then none else (mayL b (k - 1) (m - 1)).bind fun m' => mayL t k m')
    else mayL t k (m - 1)
theorem mayL_eq : ∀ (f : Fo) (k m : Nat), mayL f k m = if one f = true ∧ deep f ≤ k ∧ size f ≤ m then some (m - size f) else none
  | .nil, k, m => by rw [mayL, if_pos ⟨rfl, Nat.zero_le _, Nat.zero_le _⟩]; rfl
  | .cons op a n b t, k, m => by
    rw [mayL]
    by_cases h1 : m = 0 ∨ alone op a n b = false
    · rw [if_pos h1, if_neg]
      rintro ⟨g1, g2, g3⟩
      rcases h1 with rfl | h1
      · rw [size] at g3; omega
      · simp only [one, Bool.and_eq_true] at g1
        unfold alone at h1
        rw [g1.1.1.1, g1.1.1.2] at h1
        cases h1
    · rw [if_neg h1]
      have h2 : m ≠ 0 := fun e => h1 (.inl e)
      have h3 : alone op a n b = true := by simpa using fun e => h1 (.inr e)
      unfold alone at h3
      simp only [Bool.and_eq_true] at h3
      have ho : one (.cons op a n b t) = (one b && one t) := by simp [one, h3.1, h3.2]
      simp only [ho, Bool.and_eq_true, size]
      by_cases hop : opens op = true
      · rw [if_pos hop, deep, if_pos hop]
        by_cases hk : k = 0
        · rw [if_pos hk, if_neg (by omega)]
        · rw [if_neg hk, mayL_eq b]
          by_cases hb : one b = true ∧ deep b ≤ k - 1 ∧ size b ≤ m - 1
          · rw [if_pos hb, Option.bind_some, mayL_eq t]
            by_cases ht : one t = true ∧ deep t ≤ k ∧ size t ≤ m - 1 - size b
            · rw [if_pos ht, if_pos ⟨⟨hb.1, ht.1⟩, by omega, by omega⟩]
              congr 1
              omega
            · rw [if_neg ht, if_neg (fun h => ht ⟨h.1.2, by omega, by omega⟩)]
          · rw [if_neg hb, Option.bind_none, if_neg (fun h => hb ⟨h.1.1, by omega, by omega⟩)]
      · rw [if_neg hop, deep, if_neg hop, mayL_eq t]
        have hb : b = .nil := by
          rcases (by simpa using h3.2 : opens op = true ∨ b = .nil) with h | h
          · exact absurd h hop
          · exact h
        subst hb
        simp only [one, size, true_and]
        by_cases ht : one t = true ∧ deep t ≤ k ∧ size t ≤ m - 1
        · rw [if_pos ht, if_pos ⟨ht.1, by omega, by omega⟩]
          congr 1
          omega
        · rw [if_neg ht, if_neg (fun h => ht ⟨h.1, by omega, by omega⟩)]
theorem mayL_may (f : Fo) : (mayL f 8 256).isSome = may f := by
  rw [mayL_eq, Bool.eq_iff_iff, may_iff]
  split
  · rename_i h
    simp only [Option.isSome_some, true_iff]
    exact ⟨h.1, h.2.2, h.2.1⟩
  · rename_i h
    simp only [Option.isSome_none, Bool.false_eq_true, false_iff]
    exact fun g => h ⟨g.1, g.2.2, g.2.1⟩

end Go.Proofs.YtfgdlnidfkjbdaaDoor.Ac
