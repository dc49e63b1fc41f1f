/-
  LAYER 16: WHAT IS READ MAY BE; WHAT A TARGET HANGS ON; RULES PUT TOGETHER (pure): P16.6, P16.8.
-/
import Derived.Test.YtppcfidaalejfaaDpTwo
namespace Go.Proofs.Ytppcfidaalejfaa.Dp
theorem pieces_bytes : ∀ (n : Nat) (b : B) (i : Nat), b.length ≤ n → ∀ c k, (Pc.byte c, k) ∈ (pieces i b).1 → 32 ≤ c
  | _, [], i, _, c, k, h => by simp [pieces] at h
  | 0, _ :: _, _, h, _, _, _ => by simp at h
  | n + 1, x :: r, i, h, c, k, hm => by
    have hr : r.length ≤ n := by simpa using h
    by_cases h92 : x = 92
    · subst h92
      match r, hr, hm with
      | [], _, hm => simp [pieces] at hm
      | c2 :: r, hr, hm =>
        have hr2 : r.length ≤ n := by simp at hr; omega
        by_cases h10 : c2 = 10
        · subst h10
          rw [pieces_join] at hm
          rcases List.mem_cons.1 hm with e | e
          · cases e
          · exact pieces_bytes n r _ hr2 c k e
        · cases he : esc c2 with
          | true =>
            rw [pieces_esc _ _ he] at hm
            rcases List.mem_cons.1 hm with e | e
            · cases e
              revert he
              simp only [esc, Bool.or_eq_true, decide_eq_true_eq]
              rintro ((rfl | rfl) | rfl) <;> decide
            · exact pieces_bytes n r _ hr2 c k e
          | false =>
            rw [pieces.eq_3 i c2 _ (by simpa using h10), if_neg (by rw [he]; simp)] at hm
            cases hm
    · by_cases h10 : x = 10
      · subst h10
        rw [pieces_fin] at hm
        rcases List.mem_cons.1 hm with e | e
        · cases e
        · exact pieces_bytes n r _ hr c k e
      by_cases h32 : x < 32
      · rw [pieces.eq_5 i x _ (fun _ e _ => h92 e) (fun _ _ e _ => h92 e) (fun e _ => h92 e), if_neg h10, if_pos h32] at hm
        cases hm
      by_cases hb : x = 32
      · subst hb
        rw [pieces_blank] at hm
        rcases List.mem_cons.1 hm with e | e
        · cases e
        · exact pieces_bytes n r _ hr c k e
      by_cases hmk : x = 58
      · subst hmk
        rw [pieces_mark] at hm
        rcases List.mem_cons.1 hm with e | e
        · cases e
        · exact pieces_bytes n r _ hr c k e
      · rw [pieces_byte _ _ (by simp [esc, hb, hmk, h92]) (UInt8.not_lt.1 h32)] at hm
        rcases List.mem_cons.1 hm with e | e
        · cases e
          exact UInt8.not_lt.1 h32
        · exact pieces_bytes n r _ hr c k e
/-- all that is read may be -/
structure Rd.Fine (s : Rd) : Prop where
  words : ∀ w ∈ s.words, mayW w = true
  cur : ∀ w, s.cur = some w → mayW w = true
  out : ∀ u ∈ s.out, may u = true
theorem flush_fine {s : Rd} (h : s.Fine) : s.flush.Fine := by
  unfold Rd.flush
  split
  · exact h
  · rename_i w hw
    refine ⟨fun x hx => ?_, (fun x hx => by cases hx), h.out⟩
    rcases List.mem_append.1 hx with hx | hx
    · exact h.words x hx
    · rw [List.mem_singleton.1 hx]; exact h.cur w hw
theorem mayW_byte {c : UInt8} (h : 32 ≤ c) : mayW [c] = true := by simp [mayW, h]
theorem mayW_snoc {w : B} {c : UInt8} (hw : mayW w = true) (h : 32 ≤ c) : mayW (w ++ [c]) = true := by
  obtain ⟨h1, h2⟩ := mayW_iff.1 hw
  refine mayW_iff.2 ⟨by simp, ?_⟩
  rw [List.all_append, h2]
  simp [h]
theorem step_fine {s t : Rd} {p : Pc} (h : s.Fine) (hp : ∀ c, p = .byte c → 32 ≤ c) (e : s.step p = some t) : t.Fine := by
  cases p with
  | byte c =>
    have hc := hp c rfl
    unfold Rd.step at e
    simp only at e
    split at e
    · rename_i w hw
      cases e
      exact ⟨h.words, fun x hx => by cases hx; exact mayW_snoc (h.cur w hw) hc, h.out⟩
    · split at e
      · cases e
      · cases e
        exact ⟨h.words, fun x hx => by cases hx; exact mayW_byte hc, h.out⟩
  | blank =>
    cases e
    exact flush_fine h
  | mark =>
    unfold Rd.step at e
    simp only at e
    split at e
    · cases e
    · cases e
      have hf := flush_fine h
      exact ⟨hf.words, hf.cur, hf.out⟩
  | fin =>
    have hf := flush_fine h
    unfold Rd.step at e
    simp only at e
    split at e
    · cases e
      exact ⟨hf.words, hf.cur, hf.out⟩
    · rename_i a d hw
      split at e
      · cases e
        refine ⟨(fun x hx => by cases hx), (fun x hx => by cases hx), fun u hu => ?_⟩
        rcases List.mem_append.1 hu with hu | hu
        · exact h.out u hu
        · rw [List.mem_singleton.1 hu]
          unfold may
          rw [Bool.and_eq_true, List.all_eq_true]
          exact ⟨hf.words a (by rw [hw]; exact List.mem_cons_self ..), fun x hx => hf.words x (by rw [hw]; exact List.mem_cons_of_mem _ hx)⟩
      · cases e
theorem run_fine : ∀ (ps : List (Pc × Nat)) {s t : Rd}, s.Fine → (∀ c k, (Pc.byte c, k) ∈ ps → 32 ≤ c) → run ps s = .inr t → t.Fine
  | [], s, t, h, _, e => by cases e; exact h
  | p :: r, s, t, h, hb, e => by
    rw [run] at e
    cases hs : s.step p.1 with
    | none => rw [hs] at e; cases e
    | some u =>
      rw [hs] at e
      exact run_fine r (step_fine h (fun c hc => hb c p.2 (by rw [← hc]; exact List.mem_cons_self ..)) hs) (fun c k hk => hb c k (List.mem_cons_of_mem _ hk)) e
/-- P16.6: what is read may be -/
theorem read_may {text : B} {l : List Rule} (h : read text = .inr l) : ∀ u ∈ l, may u = true := by
  unfold read at h
  cases hr : run (pieces 0 text).1 Rd.zero with
  | inl i => rw [hr] at h; cases h
  | inr s =>
    rw [hr] at h
    have hf : s.Fine := run_fine _ ⟨(fun _ h => by cases h), (fun _ h => by cases h), (fun _ h => by cases h)⟩ (fun c k hk => pieces_bytes text.length text 0 (Nat.le_refl _) c k hk) hr
    cases hp : (pieces 0 text).2 with
    | some i => rw [hp] at h; cases h
    | none => rw [hp] at h; cases h; exact hf.out

/-- a text in a list, once -/
def add (l : List B) (s : B) : List B := if s ∈ l then l else l ++ [s]
/-- texts, each once, behind those of a list -/
def adds (l : List B) (d : List B) : List B := d.foldl add l
theorem mem_add {l : List B} {s x : B} : x ∈ add l s ↔ x ∈ l ∨ x = s := by
  unfold add
  split
  · rename_i h
    exact ⟨.inl, fun e => e.elim id (fun e => e ▸ h)⟩
  · simp
theorem mem_adds {x : B} : ∀ {d l : List B}, x ∈ adds l d ↔ x ∈ l ∨ x ∈ d
  | [], l => by simp [adds]
  | s :: d, l => by
    show x ∈ adds (add l s) d ↔ _
    rw [mem_adds, mem_add, List.mem_cons, or_assoc]
theorem add_nodup {l : List B} {s : B} (h : l.Nodup) : (add l s).Nodup := by
  unfold add
  split
  · exact h
  · rename_i hs
    rw [List.nodup_append]
    refine ⟨h, by simp, fun a ha b hb => ?_⟩
    rw [List.mem_singleton] at hb
    rw [hb]
    rintro rfl
    exact hs ha
theorem adds_nodup : ∀ {d l : List B}, l.Nodup → (adds l d).Nodup
  | [], _, h => h
  | _ :: d, _, h => adds_nodup (d := d) (add_nodup h)
theorem adds_app (l d e : List B) : adds l (d ++ e) = adds (adds l d) e := List.foldl_append ..
theorem adds_pre : ∀ (d l : List B), ∃ m, adds l d = l ++ m
  | [], l => ⟨[], by simp [adds]⟩
  | s :: d, l => by
    obtain ⟨m, hm⟩ := adds_pre d (add l s)
    show ∃ m, adds (add l s) d = l ++ m
    rw [hm]
    unfold add
    split
    · exact ⟨m, rfl⟩
    · exact ⟨[s] ++ m, by rw [List.append_assoc]⟩
/-- what stands already adds nothing -/
theorem adds_in : ∀ (d l : List B), (∀ s ∈ d, s ∈ l) → adds l d = l
  | [], _, _ => rfl
  | s :: d, l, h => by
    show adds (add l s) d = l
    have e : add l s = l := if_pos (h s (List.mem_cons_self ..))
    rw [e]
    exact adds_in d l (fun x hx => h x (List.mem_cons_of_mem _ hx))
/-- those of a list that has each once, behind a list -/
theorem adds_filter : ∀ (d l : List B), d.Nodup → adds l d = l ++ d.filter (fun s => decide (s ∉ l))
  | [], l, _ => by simp [adds]
  | s :: d, l, h => by
    obtain ⟨h1, h2⟩ := List.nodup_cons.1 h
    show adds (add l s) d = _
    rw [adds_filter d _ h2]
    unfold add
    by_cases hs : s ∈ l
    · rw [if_pos hs, List.filter_cons_of_neg (by simpa using hs)]
    · rw [if_neg hs, List.filter_cons_of_pos (by simpa using hs)]
      have e : d.filter (fun x => decide (x ∉ l ++ [s])) = d.filter (fun x => decide (x ∉ l)) := List.filter_congr fun x hx => by
        have hxs : x ≠ s := fun e => h1 (e ▸ hx)
        simp [hxs]
      rw [e, List.append_assoc]
      rfl
theorem add_in {l : List B} {s : B} (h : s ∈ l) : add l s = l := if_pos h
theorem adds_add (l d : List B) (s : B) : adds l (d ++ [s]) = add (adds l d) s := by rw [adds_app]; rfl
/-- each once first, or not: the same behind a list -/
theorem adds_adds (l d : List B) : adds l (adds [] d) = adds l d := by
  have key : ∀ (k : Nat) (d : List B), d.length = k → adds l (adds [] d) = adds l d := by
    intro k
    induction k with
    | zero =>
      intro d hd
      rw [List.eq_nil_of_length_eq_zero hd]
      rfl
    | succ k ih =>
      intro d hd
      have hne : d ≠ [] := by rintro rfl; simp at hd
      obtain ⟨e, s, rfl⟩ : ∃ e s, d = e ++ [s] := ⟨d.dropLast, d.getLast hne, (List.dropLast_concat_getLast hne).symm⟩
      have he := ih e (by simpa using hd)
      rw [adds_add, adds_add]
      by_cases hs : s ∈ adds [] e
      · rw [add_in hs, he, add_in]
        rw [mem_adds]
        right
        rw [mem_adds] at hs
        exact hs.elim (fun h => by cases h) id
      · have : add (adds [] e) s = adds [] e ++ [s] := if_neg hs
        rw [this, adds_add, he]
  exact key _ d rfl
theorem adds_self {d : List B} (h : d.Nodup) : adds [] d = d := by
  rw [adds_filter d [] h, List.nil_append]
  simp
/-- what stands behind another list -/
theorem adds_both (x y : List B) : adds [] (x ++ y) = adds [] x ++ (adds [] y).filter (fun s => decide (s ∉ adds [] x)) := by
  rw [adds_app, ← adds_adds (adds [] x) y, adds_filter _ _ (adds_nodup List.nodup_nil)]

/-- a rule among rules, one for each target -/
def put : List Rule → Rule → List Rule
  | [], u => [(u.1, adds [] u.2)]
  | v :: r, u => if v.1 = u.1 then (v.1, adds v.2 u.2) :: r else v :: put r u
def merge (l : List Rule) : List Rule := l.foldl put []
/-- one for each target, each dep once -/
def Neat (l : List Rule) : Prop := (l.map Prod.fst).Nodup ∧ ∀ u ∈ l, u.2.Nodup
theorem put_targets : ∀ (l : List Rule) (u : Rule), (put l u).map Prod.fst = if u.1 ∈ l.map Prod.fst then l.map Prod.fst else l.map Prod.fst ++ [u.1]
  | [], u => rfl
  | v :: r, u => by
    rw [put]
    by_cases h : v.1 = u.1
    · rw [if_pos h, if_pos (by simp [h])]
      rfl
    · rw [if_neg h, List.map_cons, put_targets r u]
      by_cases hr : u.1 ∈ r.map Prod.fst
      · rw [if_pos hr, if_pos (by rw [List.map_cons]; exact List.mem_cons_of_mem _ hr)]
        rfl
      · rw [if_neg hr, if_neg (by
          rw [List.map_cons, List.mem_cons]
          rintro (e | e)
          · exact h e.symm
          · exact hr e)]
        rfl
theorem put_deps : ∀ (l : List Rule) (u : Rule), (∀ v ∈ l, v.2.Nodup) → ∀ v ∈ put l u, v.2.Nodup
  | [], u, _, v, hv => by
    rw [put, List.mem_singleton] at hv
    rw [hv]; exact adds_nodup List.nodup_nil
  | w :: r, u, h, v, hv => by
    rw [put] at hv
    split at hv
    · rcases List.mem_cons.1 hv with e | e
      · rw [e]; exact adds_nodup (h w (List.mem_cons_self ..))
      · exact h v (List.mem_cons_of_mem _ e)
    · rcases List.mem_cons.1 hv with e | e
      · rw [e]; exact h w (List.mem_cons_self ..)
      · exact put_deps r u (fun x hx => h x (List.mem_cons_of_mem _ hx)) v e
theorem put_neat {l : List Rule} {u : Rule} (h : Neat l) : Neat (put l u) := by
  refine ⟨?_, put_deps l u h.2⟩
  rw [put_targets]
  split
  · exact h.1
  · rename_i hu
    rw [List.nodup_append]
    refine ⟨h.1, by simp, fun a ha b hb => ?_⟩
    rw [List.mem_singleton] at hb
    rw [hb]
    rintro rfl
    exact hu ha
theorem foldl_neat : ∀ (m l : List Rule), Neat l → Neat (m.foldl put l)
  | [], _, h => h
  | u :: m, l, h => foldl_neat m (put l u) (put_neat h)
theorem merge_neat (l : List Rule) : Neat (merge l) := foldl_neat l [] ⟨List.nodup_nil, (fun _ h => by cases h)⟩
theorem put_new : ∀ (l : List Rule) (u : Rule), u.1 ∉ l.map Prod.fst → u.2.Nodup → put l u = l ++ [u]
  | [], u, _, h => by rw [put, adds_self h]; rfl
  | v :: r, u, hn, h => by
    rw [List.map_cons, List.mem_cons, not_or] at hn
    rw [put, if_neg (fun e => hn.1 e.symm), put_new r u hn.2 h]
    rfl
theorem foldl_self : ∀ (m l : List Rule), Neat (l ++ m) → m.foldl put l = l ++ m
  | [], l, _ => by simp
  | u :: m, l, h => by
    obtain ⟨h1, h2⟩ := h
    have hu : u.1 ∉ l.map Prod.fst := by
      rw [List.map_append, List.nodup_append] at h1
      intro hx
      exact h1.2.2 _ hx _ (by rw [List.map_cons]; exact List.mem_cons_self ..) rfl
    show m.foldl put (put l u) = _
    rw [put_new l u hu (h2 u (by simp)), foldl_self m (l ++ [u]) (by rw [List.append_assoc]; exact ⟨h1, h2⟩), List.append_assoc]
    rfl
/-- P16.8: merged again, nothing turns -/
theorem merge_merge (l : List Rule) : merge (merge l) = merge l := by
  have := foldl_self (merge l) [] (by rw [List.nil_append]; exact merge_neat l)
  rw [List.nil_append] at this
  exact this
/-- which words stand behind which target -/
def Has (l : List Rule) (t x : B) : Prop := ∃ u ∈ l, u.1 = t ∧ x ∈ u.2
def Tg (l : List Rule) (t : B) : Prop := ∃ u ∈ l, u.1 = t
theorem put_has {t x : B} : ∀ (l : List Rule) (u : Rule), Has (put l u) t x ↔ Has l t x ∨ (u.1 = t ∧ x ∈ u.2)
  | [], u => by
    rw [put]
    simp [Has, mem_adds]
  | v :: r, u => by
    have hc : ∀ (v : Rule) (r : List Rule), Has (v :: r) t x ↔ (v.1 = t ∧ x ∈ v.2) ∨ Has r t x := fun v r => by simp [Has]
    rw [put]
    by_cases h : v.1 = u.1
    · rw [if_pos h, hc, hc]
      show (v.1 = t ∧ x ∈ adds v.2 u.2) ∨ _ ↔ _
      rw [mem_adds, h]
      constructor
      · rintro (⟨a, b | b⟩ | a)
        · exact .inl (.inl ⟨a, b⟩)
        · exact .inr ⟨a, b⟩
        · exact .inl (.inr a)
      · rintro ((⟨a, b⟩ | a) | ⟨a, b⟩)
        · exact .inl ⟨a, .inl b⟩
        · exact .inr a
        · exact .inl ⟨a, .inr b⟩
    · rw [if_neg h, hc, hc, put_has r u, or_assoc]
theorem put_tg {t : B} (l : List Rule) (u : Rule) : Tg (put l u) t ↔ Tg l t ∨ u.1 = t := by
  have e : ∀ l : List Rule, Tg l t ↔ t ∈ l.map Prod.fst := fun l => by simp [Tg]
  rw [e, e, put_targets]
  split
  · rename_i h
    exact ⟨.inl, fun k => k.elim id (fun k => k ▸ h)⟩
  · rw [List.mem_append, List.mem_singleton]
    exact ⟨fun k => k.imp id Eq.symm, fun k => k.imp id Eq.symm⟩
theorem foldl_has {t x : B} : ∀ (m l : List Rule), Has (m.foldl put l) t x ↔ Has l t x ∨ Has m t x
  | [], l => by simp [Has]
  | u :: m, l => by
    show Has (m.foldl put (put l u)) t x ↔ _
    rw [foldl_has m, put_has, or_assoc]
    have : Has (u :: m) t x ↔ (u.1 = t ∧ x ∈ u.2) ∨ Has m t x := by simp [Has]
    rw [this]
theorem foldl_tg {t : B} : ∀ (m l : List Rule), Tg (m.foldl put l) t ↔ Tg l t ∨ Tg m t
  | [], l => by simp [Tg]
  | u :: m, l => by
    show Tg (m.foldl put (put l u)) t ↔ _
    rw [foldl_tg m, put_tg, or_assoc]
    have : Tg (u :: m) t ↔ u.1 = t ∨ Tg m t := by simp [Tg]
    rw [this]
theorem merge_has {t x : B} (l : List Rule) : Has (merge l) t x ↔ Has l t x := (foldl_has l []).trans (by simp [Has])
theorem merge_tg {t : B} (l : List Rule) : Tg (merge l) t ↔ Tg l t := (foldl_tg l []).trans (by simp [Tg])

section
variable (nm : B → Int ⊕ B)
/-- the words behind a path's rules -/
def ws (p : B) (l : List Rule) : List B := (l.filter fun u => decide (nm u.1 = .inr p)).flatMap Prod.snd
def there (p : B) (l : List Rule) : Bool := l.any fun u => decide (nm u.1 = .inr p)
/-- words as paths, or the first error -/
def paths : List B → Int ⊕ List B
  | [] => .inr []
  | s :: r => match nm s with
    | .inl e => .inl e
    | .inr q => match paths r with
      | .inl e => .inl e
      | .inr qs => .inr (q :: qs)
/-- what a path hangs on -/
def hangs (p : B) (l : List Rule) : Int ⊕ List B := match paths nm (ws nm p l) with
  | .inl e => .inl e
  | .inr qs => if there nm p l then .inr (adds [] qs) else .inl 4
theorem ws_app (p : B) (l m : List Rule) : ws nm p (l ++ m) = ws nm p l ++ ws nm p m := by simp [ws]
theorem there_app (p : B) (l m : List Rule) : there nm p (l ++ m) = (there nm p l || there nm p m) := by simp [there]
theorem paths_app : ∀ (a b : List B), paths nm (a ++ b) = match paths nm a with
    | .inl e => .inl e
    | .inr x => match paths nm b with
      | .inl e => .inl e
      | .inr y => .inr (x ++ y)
  | [], b => by
    show paths nm b = match paths nm b with | .inl e => .inl e | .inr y => .inr ([] ++ y)
    cases paths nm b <;> rfl
  | s :: a, b => by
    rw [List.cons_append, paths, paths]
    cases nm s with
    | inl e => rfl
    | inr q =>
      show (match paths nm (a ++ b) with | .inl e => _ | .inr qs => _) = _
      rw [paths_app a b]
      cases paths nm a with
      | inl e => rfl
      | inr x => cases paths nm b <;> rfl
theorem mem_ws {p x : B} {l : List Rule} : x ∈ ws nm p l ↔ ∃ t, nm t = .inr p ∧ Has l t x := by
  unfold ws Has
  rw [List.mem_flatMap]
  constructor
  · rintro ⟨u, hu, hx⟩
    rw [List.mem_filter, decide_eq_true_eq] at hu
    exact ⟨u.1, hu.2, u, hu.1, rfl, hx⟩
  · rintro ⟨t, ht, u, hu, rfl, hx⟩
    exact ⟨u, by rw [List.mem_filter, decide_eq_true_eq]; exact ⟨hu, ht⟩, hx⟩
theorem there_iff {p : B} {l : List Rule} : there nm p l = true ↔ ∃ t, nm t = .inr p ∧ Tg l t := by
  unfold there Tg
  rw [List.any_eq_true]
  constructor
  · rintro ⟨u, hu, h⟩
    exact ⟨u.1, of_decide_eq_true h, u, hu, rfl⟩
  · rintro ⟨t, ht, u, hu, rfl⟩
    exact ⟨u, hu, decide_eq_true ht⟩
theorem paths_ok : ∀ {a : List B}, (∃ x, paths nm a = .inr x) ↔ ∀ s ∈ a, ∃ q, nm s = .inr q
  | [] => by simp [paths]
  | s :: a => by
    rw [paths]
    cases hs : nm s with
    | inl e =>
      constructor
      · rintro ⟨x, h⟩; cases h
      · intro h
        obtain ⟨q, hq⟩ := h s (List.mem_cons_self ..)
        rw [hs] at hq; cases hq
    | inr q =>
      constructor
      · rintro ⟨x, h⟩
        cases hp : paths nm a with
        | inl e => simp only [hp] at h; cases h
        | inr y =>
          intro z hz
          rcases List.mem_cons.1 hz with rfl | hz
          · exact ⟨q, hs⟩
          · exact paths_ok.1 ⟨y, hp⟩ z hz
      · intro h
        obtain ⟨y, hy⟩ := paths_ok.2 (fun z hz => h z (List.mem_cons_of_mem _ hz))
        exact ⟨q :: y, by simp only [hy]⟩
theorem paths_mem : ∀ {a x : List B}, paths nm a = .inr x → ∀ q, q ∈ x ↔ ∃ s ∈ a, nm s = .inr q
  | [], x, h, q => by
    cases h
    simp
  | s :: a, x, h, q => by
    rw [paths] at h
    cases hs : nm s with
    | inl e => simp only [hs] at h; cases h
    | inr z =>
      cases hp : paths nm a with
      | inl e => simp only [hs, hp] at h; cases h
      | inr y =>
        simp only [hs, hp] at h
        cases h
        rw [List.mem_cons, paths_mem hp q]
        constructor
        · rintro (rfl | ⟨w, hw, e⟩)
          · exact ⟨s, List.mem_cons_self .., hs⟩
          · exact ⟨w, List.mem_cons_of_mem _ hw, e⟩
        · rintro ⟨w, hw, e⟩
          rcases List.mem_cons.1 hw with rfl | hw
          · rw [hs] at e; cases e; exact .inl rfl
          · exact .inr ⟨w, hw, e⟩
/-- P16.8: merged rules say the same, but for the order -/
theorem hangs_merge (p : B) (l : List Rule) : ((∃ x, hangs nm p l = .inr x) ↔ ∃ x, hangs nm p (merge l) = .inr x) ∧ ∀ x y, hangs nm p l = .inr x → hangs nm p (merge l) = .inr y → y.length = x.length ∧ ∀ q, q ∈ y ↔ q ∈ x := by
  have hw : ∀ x, x ∈ ws nm p (merge l) ↔ x ∈ ws nm p l := fun x => by
    rw [mem_ws, mem_ws]
    exact ⟨fun ⟨t, a, b⟩ => ⟨t, a, (merge_has l).1 b⟩, fun ⟨t, a, b⟩ => ⟨t, a, (merge_has l).2 b⟩⟩
  have ht : there nm p (merge l) = there nm p l := by
    rw [Bool.eq_iff_iff, there_iff, there_iff]
    exact ⟨fun ⟨t, a, b⟩ => ⟨t, a, (merge_tg l).1 b⟩, fun ⟨t, a, b⟩ => ⟨t, a, (merge_tg l).2 b⟩⟩
  have hok : (∃ x, paths nm (ws nm p (merge l)) = .inr x) ↔ ∃ x, paths nm (ws nm p l) = .inr x := by
    rw [paths_ok, paths_ok]
    exact ⟨fun h s hs => h s ((hw s).2 hs), fun h s hs => h s ((hw s).1 hs)⟩
  unfold hangs
  rw [ht]
  cases h1 : paths nm (ws nm p l) with
  | inl e =>
    cases h2 : paths nm (ws nm p (merge l)) with
    | inl e2 => exact ⟨⟨fun ⟨_, h⟩ => (by cases h), fun ⟨_, h⟩ => (by cases h)⟩, fun x y h => by cases h⟩
    | inr y =>
      obtain ⟨x, hx⟩ := hok.1 ⟨y, h2⟩
      rw [h1] at hx; cases hx
  | inr x =>
    cases h2 : paths nm (ws nm p (merge l)) with
    | inl e2 =>
      obtain ⟨y, hy⟩ := hok.2 ⟨x, h1⟩
      rw [h2] at hy; cases hy
    | inr y =>
      cases there nm p l with
      | false => exact ⟨⟨fun ⟨_, h⟩ => (by cases h), fun ⟨_, h⟩ => (by cases h)⟩, fun x y h => by cases h⟩
      | true =>
        refine ⟨⟨fun _ => ⟨_, rfl⟩, fun _ => ⟨_, rfl⟩⟩, fun a b ha hb => ?_⟩
        cases ha
        cases hb
        have hm : ∀ q, q ∈ adds [] y ↔ q ∈ adds [] x := fun q => by
          rw [mem_adds, mem_adds, paths_mem nm h1, paths_mem nm h2]
          constructor
          · rintro (h | ⟨s, hs, e⟩)
            · exact .inl h
            · exact .inr ⟨s, (hw s).1 hs, e⟩
          · rintro (h | ⟨s, hs, e⟩)
            · exact .inl h
            · exact .inr ⟨s, (hw s).2 hs, e⟩
        exact ⟨((List.perm_ext_iff_of_nodup (adds_nodup List.nodup_nil) (adds_nodup List.nodup_nil)).2 hm).length_eq, hm⟩
/-- P16.8: two lists, one behind the other -/
theorem hangs_app (p : B) (l m : List Rule) : hangs nm p (l ++ m) = match paths nm (ws nm p l) with
    | .inl e => .inl e
    | .inr x => match paths nm (ws nm p m) with
      | .inl e => .inl e
      | .inr y => if there nm p l || there nm p m then .inr (adds [] x ++ (adds [] y).filter (fun s => decide (s ∉ adds [] x))) else .inl 4 := by
  unfold hangs
  rw [ws_app, paths_app, there_app]
  cases paths nm (ws nm p l) with
  | inl e => rfl
  | inr x =>
    cases paths nm (ws nm p m) with
    | inl e => rfl
    | inr y =>
      show (if (there nm p l || there nm p m) = true then (Sum.inr (adds [] (x ++ y)) : Int ⊕ List B) else .inl 4) = _
      rw [adds_both]
/-- without a rule there is nothing -/
theorem ws_none {p : B} {l : List Rule} (h : there nm p l = false) : ws nm p l = [] := by
  unfold ws
  rw [List.filter_eq_nil_iff.2]
  · rfl
  · intro u hu hd
    have : there nm p l = true := by
      unfold there
      exact List.any_eq_true.2 ⟨u, hu, hd⟩
    rw [h] at this
    cases this
end
end Go.Proofs.Ytppcfidaalejfaa.Dp
