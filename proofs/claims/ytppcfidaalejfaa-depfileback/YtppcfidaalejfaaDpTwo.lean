/-
  LAYER 16: TWO DEPFILES, ONE BEHIND THE OTHER (pure): P16.7.
-/
import Derived.Test.YtppcfidaalejfaaDpMath
namespace Go.Proofs.Ytppcfidaalejfaa.Dp
/-- the backslashes at a text's end -/
def trail (a : B) : Nat := (a.reverse.takeWhile fun c => c = 92).length
theorem takeW_all {p : UInt8 → Bool} : ∀ {l : B}, l.all p = true → ∀ (m : B), (l ++ m).takeWhile p = l ++ m.takeWhile p
  | [], _, _ => rfl
  | c :: l, h, m => by
    rw [List.all_cons, Bool.and_eq_true] at h
    rw [List.cons_append, List.takeWhile_cons, h.1]
    show c :: (l ++ m).takeWhile p = _
    rw [takeW_all h.2 m]
    rfl
theorem takeW_some {p : UInt8 → Bool} : ∀ {l : B}, l.all p = false → ∀ (m : B), (l ++ m).takeWhile p = l.takeWhile p
  | [], h, _ => by cases h
  | c :: l, h, m => by
    rw [List.cons_append, List.takeWhile_cons, List.takeWhile_cons]
    cases hc : p c with
    | false => rfl
    | true =>
      rw [List.all_cons, hc, Bool.true_and] at h
      show c :: (l ++ m).takeWhile p = c :: l.takeWhile p
      rw [takeW_some h m]
/-- what stands ahead of a text turns the parity of its trail only by whole pairs -/
theorem trail_app (m a : B) : trail (m ++ a) = if (a.reverse.all fun c => decide (c = 92)) = true then a.length + trail m else trail a := by
  unfold trail
  rw [List.reverse_append]
  cases h : a.reverse.all fun c => decide (c = 92) with
  | true =>
    rw [if_pos rfl, takeW_all h, List.length_append, List.length_reverse]
  | false =>
    rw [if_neg (by simp), takeW_some h]
theorem trail_all {a : B} (h : (a.reverse.all fun c => decide (c = 92)) = true) : trail a = a.length := by
  have := takeW_all h []
  unfold trail
  rw [List.append_nil] at this
  rw [this]
  simp
theorem trail_one {c : UInt8} (hc : c ≠ 92) (r : B) : trail (c :: r) = trail r := by
  have h := trail_app [c] r
  rw [show [c] ++ r = c :: r from rfl] at h
  rw [h]
  split
  · rename_i ha
    rw [trail_all ha]
    have : trail [c] = 0 := by simp [trail, hc]
    omega
  · rfl
theorem trail_two (c : UInt8) (r : B) : trail (92 :: c :: r) % 2 = trail r % 2 := by
  have h := trail_app [92, c] r
  rw [show [92, c] ++ r = 92 :: c :: r from rfl] at h
  rw [h]
  split
  · rename_i ha
    rw [trail_all ha]
    by_cases hc : c = 92
    · have : trail [92, c] = 2 := by simp [trail, hc]
      omega
    · have : trail [92, c] = 0 := by simp [trail, hc]
      omega
  · rfl
/-- a text with a byte 10 behind it that is in no join: its pieces, and where it goes wrong, do not hang on what stands behind -/
theorem pieces_two : ∀ (n : Nat) (a : B) (i : Nat), a.length ≤ n → trail a % 2 = 0 → (∃ P, ∀ b, pieces i (a ++ 10 :: b) = (P ++ (.fin, i + a.length) :: (pieces (i + a.length + 1) b).1, (pieces (i + a.length + 1) b).2)) ∨ (∃ P k, k < i + a.length ∧ ∀ b, pieces i (a ++ 10 :: b) = (P, some k))
  | _, [], i, _, _ => .inl ⟨[], fun b => by rw [List.nil_append, pieces_fin]; rfl⟩
  | 0, c :: r, _, h, _ => by simp at h
  | n + 1, c :: r, i, h, ht => by
    have step1 : ∀ (p : Pc × Nat), c ≠ 92 → (∀ b, pieces i (c :: (r ++ 10 :: b)) = (p :: (pieces (i + 1) (r ++ 10 :: b)).1, (pieces (i + 1) (r ++ 10 :: b)).2)) → (∃ P, ∀ b, pieces i (c :: r ++ 10 :: b) = (P ++ (.fin, i + (c :: r).length) :: (pieces (i + (c :: r).length + 1) b).1, (pieces (i + (c :: r).length + 1) b).2)) ∨ (∃ P k, k < i + (c :: r).length ∧ ∀ b, pieces i (c :: r ++ 10 :: b) = (P, some k)) := fun p hc hp => by
      rw [trail_one hc] at ht
      have e : i + 1 + r.length = i + (c :: r).length := by simp; omega
      rcases pieces_two n r (i + 1) (by simp at h; omega) ht with ⟨P, hP⟩ | ⟨P, k, hk, hP⟩
      · exact .inl ⟨p :: P, fun b => by
          show pieces i (c :: (r ++ 10 :: b)) = _
          rw [hp, hP, e]
          rfl⟩
      · exact .inr ⟨p :: P, k, by omega, fun b => by
          show pieces i (c :: (r ++ 10 :: b)) = _
          rw [hp, hP]⟩
    by_cases h92 : c = 92
    · subst h92
      match r, h, ht with
      | [], _, ht => exact absurd ht (by simp [trail])
      | c2 :: r, h, ht =>
        rw [trail_two] at ht
        have e : i + 2 + r.length = i + (92 :: c2 :: r).length := by simp; omega
        have step2 : ∀ (p : Pc × Nat), (∀ b, pieces i (92 :: c2 :: (r ++ 10 :: b)) = (p :: (pieces (i + 2) (r ++ 10 :: b)).1, (pieces (i + 2) (r ++ 10 :: b)).2)) → (∃ P, ∀ b, pieces i (92 :: c2 :: r ++ 10 :: b) = (P ++ (.fin, i + (92 :: c2 :: r).length) :: (pieces (i + (92 :: c2 :: r).length + 1) b).1, (pieces (i + (92 :: c2 :: r).length + 1) b).2)) ∨ (∃ P k, k < i + (92 :: c2 :: r).length ∧ ∀ b, pieces i (92 :: c2 :: r ++ 10 :: b) = (P, some k)) := fun p hp => by
          rcases pieces_two n r (i + 2) (by simp at h; omega) ht with ⟨P, hP⟩ | ⟨P, k, hk, hP⟩
          · exact .inl ⟨p :: P, fun b => by
              show pieces i (92 :: c2 :: (r ++ 10 :: b)) = _
              rw [hp, hP, e]
              rfl⟩
          · exact .inr ⟨p :: P, k, by omega, fun b => by
              show pieces i (92 :: c2 :: (r ++ 10 :: b)) = _
              rw [hp, hP]⟩
        by_cases h10 : c2 = 10
        · subst h10
          exact step2 (.blank, i) (fun b => pieces_join i _)
        · cases he : esc c2 with
          | true => exact step2 (.byte c2, i) (fun b => pieces_esc i _ he)
          | false =>
            refine .inr ⟨[], i, by simp, fun b => ?_⟩
            show pieces i (92 :: c2 :: (r ++ 10 :: b)) = _
            rw [pieces.eq_3 i c2 _ (by simpa using h10), if_neg (by rw [he]; simp)]
    · by_cases h10 : c = 10
      · subst h10
        exact step1 (.fin, i) h92 (fun b => pieces_fin i _)
      by_cases h32 : c < 32
      · refine .inr ⟨[], i, by simp, fun b => ?_⟩
        show pieces i (c :: (r ++ 10 :: b)) = _
        rw [pieces.eq_5 i c _ (fun _ e _ => h92 e) (fun _ _ e _ => h92 e) (fun e _ => h92 e), if_neg h10, if_pos h32]
      by_cases hb : c = 32
      · subst hb
        exact step1 (.blank, i) h92 (fun b => pieces_blank i _)
      by_cases hm : c = 58
      · subst hm
        exact step1 (.mark, i) h92 (fun b => pieces_mark i _)
      · exact step1 (.byte c, i) h92 (fun b => pieces_byte i _ (by simp [esc, hb, hm, h92]) (UInt8.not_lt.1 h32))
/-- places further on -/
def shiftP (k : Nat) (ps : List (Pc × Nat)) : List (Pc × Nat) := ps.map fun p => (p.1, p.2 + k)
theorem pieces_shift : ∀ (n : Nat) (b : B) (i k : Nat), b.length ≤ n → pieces (i + k) b = (shiftP k (pieces i b).1, (pieces i b).2.map (· + k))
  | _, [], i, k, _ => rfl
  | 0, c :: r, _, _, h => by simp at h
  | n + 1, c :: r, i, k, h => by
    have e1 : i + k + 1 = (i + 1) + k := by omega
    have e2 : i + k + 2 = (i + 2) + k := by omega
    have hr : r.length ≤ n := by simpa using h
    by_cases h92 : c = 92
    · subst h92
      match r, hr with
      | [], _ => rfl
      | c2 :: r, hr =>
        have hr2 : r.length ≤ n := by simp at hr; omega
        by_cases h10 : c2 = 10
        · subst h10
          rw [pieces_join, pieces_join, e2, pieces_shift n r (i + 2) k hr2]
          rfl
        · cases he : esc c2 with
          | true =>
            rw [pieces_esc _ _ he, pieces_esc _ _ he, e2, pieces_shift n r (i + 2) k hr2]
            rfl
          | false =>
            rw [pieces.eq_3 (i + k) c2 _ (by simpa using h10), if_neg (by rw [he]; simp), pieces.eq_3 i c2 _ (by simpa using h10), if_neg (by rw [he]; simp)]
            rfl
    · by_cases h10 : c = 10
      · subst h10
        rw [pieces_fin, pieces_fin, e1, pieces_shift n r (i + 1) k hr]
        rfl
      by_cases h32 : c < 32
      · rw [pieces.eq_5 (i + k) c _ (fun _ e _ => h92 e) (fun _ _ e _ => h92 e) (fun e _ => h92 e), if_neg h10, if_pos h32, pieces.eq_5 i c _ (fun _ e _ => h92 e) (fun _ _ e _ => h92 e) (fun e _ => h92 e), if_neg h10, if_pos h32]
        rfl
      by_cases hb : c = 32
      · subst hb
        rw [pieces_blank, pieces_blank, e1, pieces_shift n r (i + 1) k hr]
        rfl
      by_cases hm : c = 58
      · subst hm
        rw [pieces_mark, pieces_mark, e1, pieces_shift n r (i + 1) k hr]
        rfl
      · have he : esc c = false := by simp [esc, hb, hm, h92]
        rw [pieces_byte _ _ he (UInt8.not_lt.1 h32), pieces_byte _ _ he (UInt8.not_lt.1 h32), e1, pieces_shift n r (i + 1) k hr]
        rfl
/-- rules so far don't matter -/
def Rd.ahead (l : List Rule) (s : Rd) : Rd := { s with out := l ++ s.out }
theorem step_ahead (l : List Rule) (s : Rd) (p : Pc) : (s.ahead l).step p = (s.step p).map (Rd.ahead l) := by
  obtain ⟨ws, cur, mark, out⟩ := s
  cases p with
  | byte c =>
    cases cur with
    | some w => rfl
    | none =>
      show (if ws.length = 1 ∧ mark = false then none else some _) = Option.map _ (if ws.length = 1 ∧ mark = false then none else some _)
      split <;> rfl
  | blank => cases cur <;> rfl
  | mark =>
    cases cur with
    | none =>
      show (if ws = [] ∨ mark = true then none else some _) = Option.map _ (if ws = [] ∨ mark = true then none else some _)
      split <;> rfl
    | some w =>
      show (if ws ++ [w] = [] ∨ mark = true then none else some _) = Option.map _ (if ws ++ [w] = [] ∨ mark = true then none else some _)
      split <;> rfl
  | fin =>
    cases cur with
    | none =>
      cases ws with
      | nil => rfl
      | cons t d =>
        show (if mark = true then some _ else none) = Option.map _ (if mark = true then some _ else none)
        split
        · simp [Rd.ahead]
        · rfl
    | some w =>
      have key : ∀ x : List B, (match x with | [] => some ({ words := x, cur := none, mark := false, out := l ++ out } : Rd) | t :: d => if mark = true then some ⟨[], none, false, (l ++ out) ++ [(t, d)]⟩ else none) = Option.map (Rd.ahead l) (match x with | [] => some ({ words := x, cur := none, mark := false, out := out } : Rd) | t :: d => if mark = true then some ⟨[], none, false, out ++ [(t, d)]⟩ else none) := fun x => by
        cases x with
        | nil => rfl
        | cons t d =>
          show (if mark = true then some _ else none) = Option.map _ (if mark = true then some _ else none)
          split
          · simp [Rd.ahead]
          · rfl
      exact key (ws ++ [w])
theorem run_ahead (l : List Rule) : ∀ (ps : List (Pc × Nat)) (s : Rd), run ps (s.ahead l) = match run ps s with
    | .inl i => .inl i
    | .inr t => .inr (t.ahead l)
  | [], _ => rfl
  | p :: r, s => by
    rw [run, run, step_ahead]
    cases h : s.step p.1 with
    | none => rfl
    | some t => exact run_ahead l r t
theorem run_shift (k : Nat) : ∀ (ps : List (Pc × Nat)) (s : Rd), run (shiftP k ps) s = match run ps s with
    | .inl i => .inl (i + k)
    | .inr t => .inr t
  | [], _ => rfl
  | p :: r, s => by
    show run ((p.1, p.2 + k) :: shiftP k r) s = _
    rw [run, run]
    cases h : s.step p.1 with
    | none => rfl
    | some t => exact run_shift k r t
/-- behind a line's end nothing is under way -/
theorem step_fin {s t : Rd} (h : s.step .fin = some t) : t = ⟨[], none, false, t.out⟩ := by
  obtain ⟨ws, cur, mark, out⟩ := s
  have key : ∀ x : List B, (match x with | [] => some ({ words := x, cur := none, mark := false, out := out } : Rd) | t :: d => if mark = true then some ⟨[], none, false, out ++ [(t, d)]⟩ else none) = some t → t = ⟨[], none, false, t.out⟩ := fun x h => by
    cases x with
    | nil => cases h; rfl
    | cons a d =>
      simp only at h
      split at h
      · cases h; rfl
      · cases h
  cases cur with
  | none => exact key ws h
  | some w => exact key (ws ++ [w]) h
/-- P16.7 -/
theorem read_two {a b : B} (h : trail a % 2 = 0) : read (a ++ 10 :: b) = match read (a ++ [10]) with
    | .inl i => .inl i
    | .inr l => match read b with
      | .inl i => .inl (i + (a.length + 1))
      | .inr m => .inr (l ++ m) := by
  have hs := pieces_shift b.length b 0 (a.length + 1) (Nat.le_refl _)
  rw [Nat.zero_add] at hs
  rcases pieces_two a.length a 0 (Nat.le_refl _) h with ⟨P, hP⟩ | ⟨P, k, -, hP⟩
  · rw [Nat.zero_add] at hP
    unfold read
    rw [hP b, show a ++ [10] = a ++ 10 :: [] from rfl, hP []]
    show (match run (P ++ (.fin, a.length) :: (pieces (a.length + 1) b).1) Rd.zero with | .inl i => _ | .inr s => _) = (match (match run (P ++ (.fin, a.length) :: [(.fin, a.length + 1)]) Rd.zero with | .inl i => _ | .inr s => _ : Nat ⊕ List Rule) with | .inl i => _ | .inr l => _)
    rw [run_app, run_app]
    cases hr : run P Rd.zero with
    | inl i => rfl
    | inr s =>
      show (match run ((.fin, a.length) :: (pieces (a.length + 1) b).1) s with | .inl i => _ | .inr s => _) = (match (match run ((.fin, a.length) :: [(.fin, a.length + 1)]) s with | .inl i => _ | .inr s => _ : Nat ⊕ List Rule) with | .inl i => _ | .inr l => _)
      rw [run, run]
      cases hf : s.step .fin with
      | none => rfl
      | some t =>
        have ht := step_fin hf
        show (match run (pieces (a.length + 1) b).1 t with | .inl i => _ | .inr s => _) = (match (match run [(.fin, a.length + 1)] t with | .inl i => _ | .inr s => _ : Nat ⊕ List Rule) with | .inl i => _ | .inr l => _)
        have e1 : run [(Pc.fin, a.length + 1)] t = .inr t := by
          rw [ht]; rfl
        have e2 : t = Rd.zero.ahead t.out := by
          unfold Rd.ahead Rd.zero
          rw [List.append_nil]
          exact ht
        rw [e1, hs]
        show (match run (shiftP (a.length + 1) (pieces 0 b).1) t with | .inl i => _ | .inr s => _) = (match (match run (pieces 0 b).1 Rd.zero with | .inl i => _ | .inr s => _ : Nat ⊕ List Rule) with | .inl i => _ | .inr l => _)
        rw [run_shift, e2, run_ahead]
        cases run (pieces 0 b).1 Rd.zero with
        | inl i => rfl
        | inr s2 => cases (pieces 0 b).2 <;> simp [Rd.ahead, Rd.zero]
  · unfold read
    rw [hP b, show a ++ [10] = a ++ 10 :: [] from rfl, hP []]
    cases run P Rd.zero <;> rfl
end Go.Proofs.Ytppcfidaalejfaa.Dp
