/-
  LAYER 16: DEPFILES BY DEFINITION: pieces, rules, there and back. No program here.
-/
namespace Go.Proofs.Ytppcfidaalejfaa.Dp
abbrev B := List UInt8
/-- a byte as it counts -/
inductive Pc where
  | blank : Pc
  | mark : Pc
  | fin : Pc
  | byte (c : UInt8) : Pc
deriving DecidableEq
/-- a rule: a target, its deps -/
abbrev Rule := B × List B
/-- a byte that a backslash stands ahead of -/
def esc (c : UInt8) : Bool := c = 32 || c = 58 || c = 92
/-- a text's pieces, each with its place; the place of a byte that may not be -/
def pieces : Nat → B → List (Pc × Nat) × Option Nat
  | i, [] => ([(.fin, i)], none)
  | i, 92 :: 10 :: r => ((.blank, i) :: (pieces (i + 2) r).1, (pieces (i + 2) r).2)
  | i, 92 :: c :: r => if esc c then ((.byte c, i) :: (pieces (i + 2) r).1, (pieces (i + 2) r).2) else ([], some i)
  | i, [92] => ([], some i)
  | i, c :: r =>
    if c = 10 then ((.fin, i) :: (pieces (i + 1) r).1, (pieces (i + 1) r).2)
    else if c < 32 then ([], some i)
    else if c = 32 then ((.blank, i) :: (pieces (i + 1) r).1, (pieces (i + 1) r).2)
    else if c = 58 then ((.mark, i) :: (pieces (i + 1) r).1, (pieces (i + 1) r).2)
    else ((.byte c, i) :: (pieces (i + 1) r).1, (pieces (i + 1) r).2)
/-- a reading under way: the words of the line, the word that is begun, was there a mark, the rules so far -/
structure Rd where
  words : List B
  cur : Option B
  mark : Bool
  out : List Rule
def Rd.zero : Rd := ⟨[], none, false, []⟩
/-- the word that is begun ends -/
def Rd.flush (s : Rd) : Rd := match s.cur with
  | none => s
  | some w => { s with words := s.words ++ [w], cur := none }
/-- a piece; none: it goes wrong there -/
def Rd.step (s : Rd) : Pc → Option Rd
  | .byte c => match s.cur with
    | some w => some { s with cur := some (w ++ [c]) }
    | none => if s.words.length = 1 ∧ s.mark = false then none else some { s with cur := some [c] }
  | .blank => some s.flush
  | .mark => if s.flush.words = [] ∨ s.mark = true then none else some { s.flush with mark := true }
  | .fin => match s.flush.words with
    | [] => some { s.flush with mark := false }
    | t :: d => if s.mark = true then some ⟨[], none, false, s.out ++ [(t, d)]⟩ else none
/-- a row of pieces: what is read, or where it goes wrong -/
def run : List (Pc × Nat) → Rd → Nat ⊕ Rd
  | [], s => .inr s
  | p :: r, s => match s.step p.1 with
    | none => .inl p.2
    | some t => run r t
/-- what a text says, the place where it goes wrong -/
def read (text : B) : Nat ⊕ List Rule := match run (pieces 0 text).1 Rd.zero with
  | .inl i => .inl i
  | .inr s => match (pieces 0 text).2 with
    | some i => .inl i
    | none => .inr s.out
/-- .. and whether it is too long: an error's kind and place -/
def parse (text : B) : (Int × Nat) ⊕ List Rule := if 32768 < text.length then .inl (3, 32768) else match read text with
  | .inl i => .inl (6, i)
  | .inr l => .inr l

/-- may a word be? -/
def mayW (s : B) : Bool := decide (s ≠ []) && s.all fun c => decide (32 ≤ c)
def may (r : Rule) : Bool := mayW r.1 && r.2.all mayW
/-- a word as it is written -/
def written (s : B) : B := s.flatMap fun c => if esc c then [92, c] else [c]
/-- what stands ahead of a dep: plain, or folded; n: the bytes of the line so far -/
def deps (fold : Option Int) : Int → List B → B
  | _, [] => []
  | n, d :: r => match fold with
    | none => 32 :: (written d ++ deps fold n r)
    | some w => if w < n + 1 + (written d).length then [32, 92, 10, 32, 32] ++ (written d ++ deps fold (2 + (written d).length) r) else 32 :: (written d ++ deps fold (n + 1 + (written d).length) r)
def line (fold : Option Int) (r : Rule) : B := written r.1 ++ 58 :: (deps fold ((written r.1).length + 1) r.2 ++ [10])
def print (fold : Option Int) (l : List Rule) : B := l.flatMap (line fold)

theorem run_app : ∀ (a b : List (Pc × Nat)) (s : Rd), run (a ++ b) s = match run a s with
    | .inl i => .inl i
    | .inr t => run b t
  | [], _, _ => rfl
  | p :: a, b, s => by
    show (match s.step p.1 with | none => _ | some t => run (a ++ b) t) = _
    rw [run]
    cases h : s.step p.1 with
    | none => rfl
    | some t => exact run_app a b t
/-- the pieces of a written word -/
def bytesAt : Nat → B → List (Pc × Nat)
  | _, [] => []
  | i, c :: r => (.byte c, i) :: bytesAt (i + (if esc c then 2 else 1)) r
theorem written_cons (c : UInt8) (r : B) : written (c :: r) = (if esc c then [92, c] else [c]) ++ written r := by simp [written]
theorem pieces_esc (i : Nat) {c : UInt8} (r : B) (h : esc c = true) : pieces i (92 :: c :: r) = ((.byte c, i) :: (pieces (i + 2) r).1, (pieces (i + 2) r).2) := by
  have hc : c ≠ 10 := by rintro rfl; revert h; decide
  rw [pieces.eq_3 i c r (by simpa using hc), if_pos h]
theorem pieces_byte (i : Nat) {c : UInt8} (r : B) (h : esc c = false) (h32 : 32 ≤ c) : pieces i (c :: r) = ((.byte c, i) :: (pieces (i + 1) r).1, (pieces (i + 1) r).2) := by
  have h1 : c ≠ 92 := by rintro rfl; revert h; decide
  have h2 : c ≠ 32 := by rintro rfl; revert h; decide
  have h3 : c ≠ 58 := by rintro rfl; revert h; decide
  have h4 : c ≠ 10 := by rintro rfl; revert h32; decide
  have h5 : ¬ c < 32 := UInt8.not_lt.2 h32
  rw [pieces.eq_5 i c r (fun _ e _ => h1 e) (fun _ _ e _ => h1 e) (fun e _ => h1 e), if_neg h4, if_neg h5, if_neg h2, if_neg h3]
theorem pieces_join (i : Nat) (r : B) : pieces i (92 :: 10 :: r) = ((.blank, i) :: (pieces (i + 2) r).1, (pieces (i + 2) r).2) := rfl
theorem pieces_fin (i : Nat) (r : B) : pieces i (10 :: r) = ((.fin, i) :: (pieces (i + 1) r).1, (pieces (i + 1) r).2) := by
  rw [pieces.eq_5 i 10 r (fun _ e _ => by cases e) (fun _ _ e _ => by cases e) (fun e _ => by cases e), if_pos rfl]
theorem pieces_blank (i : Nat) (r : B) : pieces i (32 :: r) = ((.blank, i) :: (pieces (i + 1) r).1, (pieces (i + 1) r).2) := by
  rw [pieces.eq_5 i 32 r (fun _ e _ => by cases e) (fun _ _ e _ => by cases e) (fun e _ => by cases e), if_neg (by decide), if_neg (by decide), if_pos rfl]
theorem pieces_mark (i : Nat) (r : B) : pieces i (58 :: r) = ((.mark, i) :: (pieces (i + 1) r).1, (pieces (i + 1) r).2) := by
  rw [pieces.eq_5 i 58 r (fun _ e _ => by cases e) (fun _ _ e _ => by cases e) (fun e _ => by cases e), if_neg (by decide), if_neg (by decide), if_neg (by decide), if_pos rfl]
/-- the pieces of a word that is written, and of what stands behind it -/
theorem pieces_written : ∀ (s : B) (i : Nat) (r : B), (s.all fun c => decide (32 ≤ c)) = true → pieces i (written s ++ r) = (bytesAt i s ++ (pieces (i + (written s).length) r).1, (pieces (i + (written s).length) r).2)
  | [], i, r, _ => by simp [written, bytesAt]
  | c :: s, i, r, h => by
    rw [List.all_cons, Bool.and_eq_true, decide_eq_true_eq] at h
    rw [written_cons]
    cases he : esc c with
    | true =>
      rw [if_pos rfl]
      show pieces i (92 :: c :: (written s ++ r)) = _
      rw [pieces_esc i _ he, pieces_written s (i + 2) r h.2, bytesAt, he, if_pos rfl]
      have e : i + 2 + (written s).length = i + ([92, c] ++ written s).length := by simp; omega
      rw [e]
      rfl
    | false =>
      rw [if_neg (by simp)]
      show pieces i (c :: (written s ++ r)) = _
      rw [pieces_byte i _ he h.1, pieces_written s (i + 1) r h.2, bytesAt, he, if_neg (by simp)]
      have e : i + 1 + (written s).length = i + ([c] ++ written s).length := by simp; omega
      rw [e]
      rfl
/-- a word is read, once it is begun -/
theorem run_cur : ∀ (s : B) (i : Nat) (t : Rd) (w : B) (r : List (Pc × Nat)), t.cur = some w → run (bytesAt i s ++ r) t = run r { t with cur := some (w ++ s) }
  | [], i, t, w, r, h => by
    rw [bytesAt, List.nil_append, List.append_nil, ← h]
  | c :: s, i, t, w, r, h => by
    rw [bytesAt, List.cons_append, run]
    have e : t.step (.byte c) = some { t with cur := some (w ++ [c]) } := by unfold Rd.step; rw [h]
    rw [e]
    show run (bytesAt _ s ++ r) _ = _
    rw [run_cur s _ _ (w ++ [c]) r rfl, List.append_assoc]
    rfl
theorem run_word {s : B} (hs : s ≠ []) (i : Nat) (t : Rd) (r : List (Pc × Nat)) (h : t.cur = none) (h1 : t.words.length ≠ 1 ∨ t.mark = true) : run (bytesAt i s ++ r) t = run r { t with cur := some s } := by
  cases s with
  | nil => exact absurd rfl hs
  | cons c s =>
    rw [bytesAt, List.cons_append, run]
    have e : t.step (.byte c) = some { t with cur := some [c] } := by
      unfold Rd.step
      rw [h]
      show (if t.words.length = 1 ∧ t.mark = false then none else _) = _
      rw [if_neg]
      rintro ⟨a, b⟩
      rcases h1 with h1 | h1
      · exact h1 a
      · rw [h1] at b; cases b
    rw [e]
    show run (bytesAt _ s ++ r) _ = _
    rw [run_cur s _ _ [c] r rfl]
    rfl
theorem mayW_iff {s : B} : mayW s = true ↔ s ≠ [] ∧ (s.all fun c => decide (32 ≤ c)) = true := by
  unfold mayW
  rw [Bool.and_eq_true, decide_eq_true_eq]
/-- the deps of a line are read -/
theorem run_deps (fold : Option Int) : ∀ (d : List B) (n : Int) (i : Nat) (ws : List B) (w : B) (out : List Rule) (r : B), (∀ s ∈ d, mayW s = true) →
    ∃ j x, j = i + (deps fold n d).length ∧ (ws ++ [w]) ++ d = x ++ [((ws ++ [w]) ++ d).getLastD []] ∧ (pieces i (deps fold n d ++ r)).2 = (pieces j r).2 ∧ run (pieces i (deps fold n d ++ r)).1 ⟨ws, some w, true, out⟩ = run (pieces j r).1 ⟨x, some (((ws ++ [w]) ++ d).getLastD []), true, out⟩
  | [], n, i, ws, w, out, r, _ => ⟨i, ws, by simp [deps], by simp, by simp [deps], by simp [deps]⟩
  | s :: d, n, i, ws, w, out, r, h => by
    obtain ⟨hs, h32⟩ := mayW_iff.1 (h s (List.mem_cons_self ..))
    have hd : ∀ s ∈ d, mayW s = true := fun x hx => h x (List.mem_cons_of_mem _ hx)
    have key : ∀ (n' : Int) (i' : Nat), ∃ j x, j = i' + (written s ++ deps fold n' d).length ∧ (ws ++ [w]) ++ (s :: d) = x ++ [((ws ++ [w]) ++ (s :: d)).getLastD []] ∧ (pieces i' (written s ++ deps fold n' d ++ r)).2 = (pieces j r).2 ∧ run (pieces i' (written s ++ deps fold n' d ++ r)).1 ⟨ws ++ [w], none, true, out⟩ = run (pieces j r).1 ⟨x, some (((ws ++ [w]) ++ (s :: d)).getLastD []), true, out⟩ := fun n' i' => by
      obtain ⟨j, x, e1, e2, e3, e4⟩ := run_deps fold d n' (i' + (written s).length) (ws ++ [w]) s out r hd
      have e5 : ws ++ [w] ++ (s :: d) = ws ++ [w] ++ [s] ++ d := by simp
      refine ⟨j, x, by rw [e1, List.length_append]; omega, by rw [e5]; exact e2, ?_, ?_⟩
      · rw [List.append_assoc, pieces_written s i' _ h32]
        exact e3
      · rw [List.append_assoc, pieces_written s i' _ h32, e5]
        show run (bytesAt i' s ++ _) _ = _
        rw [run_word hs i' _ _ rfl (.inr rfl)]
        exact e4
    have blank : ∀ (p : List (Pc × Nat)) (k : Nat), run ((.blank, k) :: p) ⟨ws, some w, true, out⟩ = run p ⟨ws ++ [w], none, true, out⟩ := fun p k => rfl
    have blank2 : ∀ (p : List (Pc × Nat)) (k : Nat), run ((.blank, k) :: p) ⟨ws ++ [w], none, true, out⟩ = run p ⟨ws ++ [w], none, true, out⟩ := fun p k => rfl
    have plain : ∀ n', ∃ j x, j = i + (32 :: (written s ++ deps fold n' d)).length ∧ (ws ++ [w]) ++ (s :: d) = x ++ [((ws ++ [w]) ++ (s :: d)).getLastD []] ∧ (pieces i (32 :: (written s ++ deps fold n' d) ++ r)).2 = (pieces j r).2 ∧ run (pieces i (32 :: (written s ++ deps fold n' d) ++ r)).1 ⟨ws, some w, true, out⟩ = run (pieces j r).1 ⟨x, some (((ws ++ [w]) ++ (s :: d)).getLastD []), true, out⟩ := fun n' => by
      obtain ⟨j, x, e1, e2, e3, e4⟩ := key n' (i + 1)
      refine ⟨j, x, by rw [e1]; simp; omega, e2, ?_, ?_⟩
      · show (pieces i (32 :: (written s ++ deps fold n' d ++ r))).2 = _
        rw [pieces_blank]; exact e3
      · show run (pieces i (32 :: (written s ++ deps fold n' d ++ r))).1 _ = _
        rw [pieces_blank]
        show run ((.blank, i) :: _) _ = _
        rw [blank]; exact e4
    cases fold with
    | none =>
      have e : deps none n (s :: d) = 32 :: (written s ++ deps none n d) := by rw [deps]
      rw [e]
      exact plain n
    | some wd =>
      by_cases hw : wd < n + 1 + (written s).length
      · have e : deps (some wd) n (s :: d) = [32, 92, 10, 32, 32] ++ (written s ++ deps (some wd) (2 + (written s).length) d) := by
          rw [deps]
          show (if wd < n + 1 + (written s).length then _ else _) = _
          rw [if_pos hw]
        rw [e]
        obtain ⟨j, x, e1, e2, e3, e4⟩ := key (2 + (written s).length) (i + 5)
        refine ⟨j, x, by rw [e1]; simp; omega, e2, ?_, ?_⟩
        · show (pieces i (32 :: 92 :: 10 :: 32 :: 32 :: (written s ++ deps (some wd) (2 + (written s).length) d ++ r))).2 = _
          rw [pieces_blank, pieces_join, pieces_blank, pieces_blank]; exact e3
        · show run (pieces i (32 :: 92 :: 10 :: 32 :: 32 :: (written s ++ deps (some wd) (2 + (written s).length) d ++ r))).1 _ = _
          rw [pieces_blank, pieces_join, pieces_blank, pieces_blank]
          show run ((.blank, i) :: (.blank, _) :: (.blank, _) :: (.blank, _) :: _) _ = _
          rw [blank, blank2, blank2, blank2]; exact e4
      · have e : deps (some wd) n (s :: d) = 32 :: (written s ++ deps (some wd) (n + 1 + (written s).length) d) := by
          rw [deps]
          show (if wd < n + 1 + (written s).length then _ else _) = _
          rw [if_neg hw]
        rw [e]
        exact plain _
theorem deps_head (fold : Option Int) (n : Int) (s : B) (d : List B) : ∃ q, deps fold n (s :: d) = 32 :: q := by
  cases fold with
  | none => exact ⟨written s ++ deps none n d, by rw [deps]⟩
  | some wd =>
    by_cases hw : wd < n + 1 + (written s).length
    · refine ⟨[92, 10, 32, 32] ++ (written s ++ deps (some wd) (2 + (written s).length) d), ?_⟩
      rw [deps]
      show (if wd < n + 1 + (written s).length then _ else _) = _
      rw [if_pos hw]
      rfl
    · refine ⟨written s ++ deps (some wd) (n + 1 + (written s).length) d, ?_⟩
      rw [deps]
      show (if wd < n + 1 + (written s).length then _ else _) = _
      rw [if_neg hw]
/-- a line is read -/
theorem run_line (fold : Option Int) (u : Rule) (hu : may u = true) (i : Nat) (out : List Rule) (r : B) : ∃ j, j = i + (line fold u).length ∧ (pieces i (line fold u ++ r)).2 = (pieces j r).2 ∧ run (pieces i (line fold u ++ r)).1 ⟨[], none, false, out⟩ = run (pieces j r).1 ⟨[], none, false, out ++ [u]⟩ := by
  obtain ⟨t, d⟩ := u
  unfold may at hu
  rw [Bool.and_eq_true, List.all_eq_true] at hu
  obtain ⟨ht, h32⟩ := mayW_iff.1 hu.1
  obtain ⟨j, x, e1, e2, e3, e4⟩ := run_deps fold d ((written t).length + 1) (i + (written t).length + 1) [] t out (10 :: r) hu.2
  have el : line fold (t, d) ++ r = written t ++ (58 :: (deps fold ((written t).length + 1) d ++ (10 :: r))) := by
    unfold line
    simp
  refine ⟨j + 1, ?_, ?_, ?_⟩
  · rw [e1]
    unfold line
    simp
    omega
  · rw [el, pieces_written t i _ h32, pieces_mark]
    show (pieces _ (deps fold _ d ++ (10 :: r))).2 = _
    rw [e3, pieces_fin]
  · rw [el, pieces_written t i _ h32, pieces_mark]
    show run (bytesAt i t ++ ((.mark, _) :: _)) _ = _
    rw [run_word ht i _ _ rfl (.inl (by show (0 : Nat) ≠ 1; decide))]
    show run (pieces _ (deps fold _ d ++ (10 :: r))).1 ⟨[t], none, true, out⟩ = _
    have e5 : ∀ (p : List (Pc × Nat)), run p ⟨[t], none, true, out⟩ = run p ⟨[t], none, true, out⟩ := fun _ => rfl
    have key : run (pieces (i + (written t).length + 1) (deps fold ((written t).length + 1) d ++ 10 :: r)).1 ⟨[t], none, true, out⟩ = run (pieces (i + (written t).length + 1) (deps fold ((written t).length + 1) d ++ 10 :: r)).1 ⟨[], some t, true, out⟩ := by
      cases d with
      | nil =>
        show run (pieces _ (10 :: r)).1 _ = run (pieces _ (10 :: r)).1 _
        rw [pieces_fin]
        rfl
      | cons s d =>
        have hd : ∃ q, deps fold ((written t).length + 1) (s :: d) ++ 10 :: r = 32 :: q := by
          obtain ⟨q, hq⟩ := deps_head fold ((written t).length + 1) s d
          exact ⟨q ++ 10 :: r, by rw [hq]; rfl⟩
        obtain ⟨q, hq⟩ := hd
        rw [hq, pieces_blank]
        rfl
    rw [key, e4, pieces_fin]
    have hx : x ++ [(t :: d).getLastD []] = t :: d := e2.symm
    show (match (Rd.step ⟨x, some ((t :: d).getLastD []), true, out⟩ .fin) with | none => _ | some s => run (pieces (j + 1) r).1 s) = _
    have es : Rd.step ⟨x, some ((t :: d).getLastD []), true, out⟩ .fin = some ⟨[], none, false, out ++ [(t, d)]⟩ := by
      unfold Rd.step Rd.flush
      show (match x ++ [(t :: d).getLastD []] with | [] => _ | t :: d => _) = _
      rw [hx]
      rfl
    rw [es]
/-- rules that are written are read as they were: P16.6 -/
theorem run_print (fold : Option Int) : ∀ (l : List Rule) (i : Nat) (out : List Rule) (r : B), (∀ u ∈ l, may u = true) → ∃ j, j = i + (print fold l).length ∧ (pieces i (print fold l ++ r)).2 = (pieces j r).2 ∧ run (pieces i (print fold l ++ r)).1 ⟨[], none, false, out⟩ = run (pieces j r).1 ⟨[], none, false, out ++ l⟩
  | [], i, out, r, _ => ⟨i, rfl, rfl, by simp [print]⟩
  | u :: l, i, out, r, h => by
    obtain ⟨j, e1, e2, e3⟩ := run_line fold u (h u (List.mem_cons_self ..)) i out (print fold l ++ r)
    obtain ⟨k, f1, f2, f3⟩ := run_print fold l j (out ++ [u]) r (fun x hx => h x (List.mem_cons_of_mem _ hx))
    have e : print fold (u :: l) ++ r = line fold u ++ (print fold l ++ r) := by simp [print]
    refine ⟨k, ?_, ?_, ?_⟩
    · rw [f1, e1]; simp [print]; omega
    · rw [e, e2, f2]
    · rw [e, e3, f3]; simp
theorem back (fold : Option Int) {l : List Rule} (h : ∀ u ∈ l, may u = true) : read (print fold l) = .inr l := by
  obtain ⟨j, -, e2, e3⟩ := run_print fold l 0 [] [] h
  rw [List.append_nil] at e2 e3
  unfold read
  rw [show Rd.zero = ⟨[], none, false, []⟩ from rfl, e3, e2]
  rfl
end Go.Proofs.Ytppcfidaalejfaa.Dp
