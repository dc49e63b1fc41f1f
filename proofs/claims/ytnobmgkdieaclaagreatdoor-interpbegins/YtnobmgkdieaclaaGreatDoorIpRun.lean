/-
  LAYER 14: WHAT A RUN ASKS, AND HOW IT GOES ON FROM QUESTION TO QUESTION (pure).
-/
import Derived.Test.YtnobmgkdieaclaaGreatDoorIpOk2
namespace Go.Proofs.YtnobmgkdieaclaaGreatDoor
namespace Ip
namespace St
/-- what a step may do to needs and event -/
structure Asked (s t : St) : Prop where
  told : t.told = s.told ∧ t.targets = s.targets
  how : (t.needs = s.needs ∧ (t.ev = s.ev ∨ 2 ≤ t.ev.kind)) ∨ ∃ p, s.told p = none ∧ Pm.isP p = true ∧ s.needs.length < 8 ∧ t.needs = s.needs ++ [p] ∧ t.ev = ⟨1, p, 0, []⟩
theorem Asked.refl (s : St) : Asked s s := ⟨⟨rfl, rfl⟩, .inl ⟨rfl, .inl rfl⟩⟩
theorem Asked.of_same {s t u : St} (h : Asked s t) (h1 : u.told = t.told ∧ u.targets = t.targets) (h2 : u.needs = t.needs) (h3 : u.ev = t.ev) : Asked s u := ⟨⟨h1.1.trans h.told.1, h1.2.trans h.told.2⟩, by rw [h2, h3]; exact h.how⟩
theorem Asked.from {s t u : St} (h : Asked t u) (h1 : t.told = s.told ∧ t.targets = s.targets) (h2 : t.needs = s.needs) (h3 : t.ev = s.ev) : Asked s u := ⟨⟨h.told.1.trans h1.1, h.told.2.trans h1.2⟩, by
  have := h.how
  rw [h1.1, h2, h3] at this
  exact this⟩
theorem fail_asked (s : St) (y : Nat) (z : B) : Asked s (s.fail y z) := ⟨⟨rfl, rfl⟩, .inl ⟨rfl, .inr (by show 2 ≤ 3; decide)⟩⟩
theorem pay_asked (s : St) (k : Nat) : Asked s (s.pay k) := by
  unfold pay
  split
  · exact (Asked.refl s).of_same ⟨rfl, rfl⟩ rfl rfl
  · exact ⟨⟨rfl, rfl⟩, .inl ⟨rfl, .inr (by show 2 ≤ 3; decide)⟩⟩
theorem mayPut_asked (s : St) (k : Nat) : Asked s (s.mayPut k) := by
  unfold mayPut
  split
  · exact pay_asked s k
  · exact fail_asked _ _ _
theorem put_asked (s : St) (t : B) : Asked s (s.put t) := by
  unfold put
  split
  · exact (mayPut_asked s _).of_same ⟨rfl, rfl⟩ rfl rfl
  · exact mayPut_asked s _
theorem lay_asked (s : St) (ls : List B) : Asked s (s.lay ls) := by
  unfold lay
  split
  · exact (Asked.refl s).of_same ⟨rfl, rfl⟩ rfl rfl
  · exact fail_asked _ _ _
theorem write_asked (s : St) (p : B) : Asked s (s.write p) := by
  unfold write
  split
  · exact fail_asked _ _ _
  · exact (Asked.refl s).of_same ⟨rfl, rfl⟩ rfl rfl
theorem path_is {line w p : B} (h : pathOf line w = some p) : Pm.isP p = true := by
  unfold pathOf at h
  split at h
  · rename_i h0
    cases h
    exact (Pm.norm_path (Prod.ext rfl h0)).1
  · cases h
theorem ask_asked (s : St) (line w : B) : Asked s (s.ask line w) := by
  unfold ask
  split
  · exact fail_asked _ _ _
  · rename_i p hp
    split
    · exact Asked.refl s
    · rename_i hn
      split
      · exact fail_asked _ _ _
      · exact ⟨⟨rfl, rfl⟩, .inr ⟨p, hn, path_is hp, by omega, rfl, rfl⟩⟩
theorem push_asked (s : St) (b : Bod) : Asked s (s.push b) := (Asked.refl s).of_same ⟨rfl, rfl⟩ rfl rfl
theorem act_asked (s : St) (op : Int) (a : List B) (n : Nat) (body : Ac.Fo) (line : B) : Asked s (s.act op a n body line) := by
  obtain ⟨t, ht⟩ : ∃ t, s.act op a n body line = t := ⟨_, rfl⟩
  rw [ht]
  unfold act at ht
  repeat' split at ht
  all_goals subst ht
  all_goals first
    | exact ask_asked s _ _
    | exact put_asked s _
    | exact lay_asked s _
    | exact write_asked s _
    | exact fail_asked s _ _
    | exact push_asked s _
    | exact Asked.refl s
    | exact (Asked.refl s).of_same ⟨rfl, rfl⟩ rfl rfl
theorem did_same (s : St) (d : Nat) : (s.did d).told = s.told ∧ (s.did d).needs = s.needs ∧ (s.did d).ev = s.ev ∧ (s.did d).fuel = s.fuel ∧ (s.did d).used = s.used ∧ (s.did d).targets = s.targets ∧ (s.did d).written = s.written := by
  unfold did nextAt
  split <;> exact ⟨rfl, rfl, rfl, rfl, rfl, rfl, rfl⟩
theorem pay_yes {s : St} {k : Nat} (h : s.can k = true) : s.pay k = { s with used := s.used + k } := by unfold pay; rw [h]; rfl
theorem pay_not {s : St} {k : Nat} (h : s.can k = false) : s.pay k = { s with used := s.fuel, ev := ⟨3, [], 143, []⟩ } := by unfold pay; rw [h]; rfl
theorem finish_asked (s : St) : Asked s s.finish := by
  unfold finish
  split
  · exact fail_asked _ _ _
  · exact ⟨⟨rfl, rfl⟩, .inl ⟨rfl, .inr (by show 2 ≤ 2; decide)⟩⟩
theorem statement_asked (s : St) (b : Bod) (d : Nat) : Asked s (s.statement b d) := by
  unfold statement
  split
  · exact pay_asked s 1
  · rename_i hc
    split
    · exact Asked.refl s
    · rename_i op a n body rest _
      obtain ⟨e1, e2, e3, -, -, e4, -⟩ := did_same ((if s.begun then s else s.pay 1).act op a n.toNat body b.line) d
      refine Asked.of_same ?_ ⟨e1, e4⟩ e2 e3
      cases hb : s.begun with
      | true => exact act_asked s _ _ _ _ _
      | false =>
        have hcan : s.can 1 = true := by
          cases h : s.can 1 with
          | true => rfl
          | false => exact absurd ⟨hb, h⟩ hc
        rw [pay_yes hcan]
        exact (act_asked _ _ _ _ _ _).from ⟨rfl, rfl⟩ rfl rfl
theorem goOn_asked (s : St) : Asked s s.goOn := by
  unfold goOn
  split
  · exact finish_asked s
  · split
    · exact statement_asked s _ _
    · split
      · exact (Asked.refl s).of_same ⟨rfl, rfl⟩ rfl rfl
      · split
        · exact (pay_asked s 1).of_same ⟨rfl, rfl⟩ rfl rfl
        · exact pay_asked s 1

/-- a run that New made, and that went on as runs do -/
structure Inv (s : St) : Prop where
  ok : s.Ok
  zero : s.ev.kind = 0 → s.ev = Ev.zero
  need : s.ev.kind = 1 → s.ev = ⟨1, s.ev.path, 0, []⟩ ∧ s.told s.ev.path = none ∧ s.ev.path ∈ s.needs ∧ Pm.isP s.ev.path = true
  all : s.ev.kind ≤ 1 → ∀ p ∈ s.needs, (s.ev.kind = 1 ∧ p = s.ev.path) ∨ (s.told p).isSome = true
  once : s.needs.Nodup
  paths : ∀ p ∈ s.needs, Pm.isP p = true
  some : s.targets ≠ []
theorem Inv.len {s : St} (h : s.Inv) : s.needs.length ≤ 8 := h.ok.core.needs
theorem goOn_inv {s : St} (h : s.Inv) (h0 : s.ev.kind = 0) : s.goOn.Inv := by
  have hA := goOn_asked s
  refine ⟨(goOn_ok h.ok h0).1, fun hk => ?_, fun hk => ?_, fun hk p hp => ?_, ?_, ?_, by rw [hA.told.2]; exact h.some⟩
  · rcases hA.how with ⟨-, e | e⟩ | ⟨p, -, -, -, -, e⟩
    · rw [e]; exact h.zero h0
    · omega
    · rw [e] at hk; cases hk
  · rcases hA.how with ⟨-, e | e⟩ | ⟨p, e1, e2, -, e3, e⟩
    · rw [e] at hk; omega
    · omega
    · rw [e, e3, hA.told.1]
      exact ⟨rfl, e1, by simp, e2⟩
  · have hall : ∀ p ∈ s.needs, (s.told p).isSome = true := fun p hp => (h.all (by omega) p hp).elim (fun e => by omega) id
    rcases hA.how with ⟨e1, e | e⟩ | ⟨q, -, -, -, e3, e⟩
    · rw [e1] at hp
      rw [hA.told.1]
      exact .inr (hall p hp)
    · omega
    · rw [e3] at hp
      rw [e, hA.told.1]
      rcases List.mem_append.1 hp with hp | hp
      · exact .inr (hall p hp)
      · rw [List.mem_singleton] at hp
        exact .inl ⟨rfl, hp⟩
  · rcases hA.how with ⟨e1, -⟩ | ⟨p, e1, -, -, e3, -⟩
    · rw [e1]; exact h.once
    · rw [e3, List.nodup_append]
      refine ⟨h.once, by simp, fun a ha b hb => ?_⟩
      rw [List.mem_singleton] at hb
      subst hb
      rintro rfl
      rcases h.all (by omega) a ha with e | e
      · omega
      · rw [e1] at e
        cases e
  · rcases hA.how with ⟨e1, -⟩ | ⟨p, -, e2, -, e3, -⟩
    · rw [e1]; exact h.paths
    · rw [e3]
      intro q hq
      rcases List.mem_append.1 hq with hq | hq
      · exact h.paths q hq
      · rw [List.mem_singleton] at hq
        rw [hq]; exact e2

/-- on, until there is something to tell -/
def stepN : Nat → St → St
  | 0, s => s
  | n + 1, s => if s.ev.kind = 0 then stepN n s.goOn else s
def step (s : St) : St := stepN (s.far + 1) s
theorem stepN_end {s : St} (h : s.ev.kind ≠ 0) (n : Nat) : stepN n s = s := by
  cases n with
  | zero => rfl
  | succ n => unfold stepN; rw [if_neg h]
theorem stepN_more : ∀ (n m : Nat) {s : St}, s.Ok → s.far < n → s.far < m → stepN n s = stepN m s
  | 0, _, _, _, h, _ => absurd h (Nat.not_lt_zero _)
  | _ + 1, 0, _, _, _, h => absurd h (Nat.not_lt_zero _)
  | n + 1, m + 1, s, hs, hn, hm => by
    unfold stepN
    split
    · rename_i h0
      obtain ⟨h1, h2⟩ := goOn_ok hs h0
      by_cases hk : s.goOn.ev.kind = 0
      · have := h2 hk
        exact stepN_more n m h1 (by omega) (by omega)
      · rw [stepN_end hk, stepN_end hk]
    · rfl
theorem step_end {s : St} (h : s.ev.kind ≠ 0) : s.step = s := stepN_end h _
theorem step_on {s : St} (hs : s.Ok) (h0 : s.ev.kind = 0) : s.step = s.goOn.step := by
  obtain ⟨h1, h2⟩ := goOn_ok hs h0
  show stepN (s.far + 1) s = _
  unfold stepN
  rw [if_pos h0]
  by_cases hk : s.goOn.ev.kind = 0
  · have := h2 hk
    exact stepN_more _ _ h1 (by omega) (Nat.lt_succ_self _)
  · rw [stepN_end hk, step_end hk]
/-- what holds ahead of each step, and is kept, holds behind all -/
theorem step_ind (P : St → Prop) (hP : ∀ s, P s → s.ev.kind = 0 → s.Ok → P s.goOn) : ∀ {s : St}, s.Ok → P s → P s.step ∧ s.step.ev.kind ≠ 0 ∧ s.step.Ok := by
  have key : ∀ n (s : St), s.far < n → s.Ok → P s → P s.step ∧ s.step.ev.kind ≠ 0 ∧ s.step.Ok := by
    intro n
    induction n with
    | zero => intro s h; omega
    | succ n ih =>
      intro s hn hs hp
      by_cases h0 : s.ev.kind = 0
      · obtain ⟨h1, h2⟩ := goOn_ok hs h0
        rw [step_on hs h0]
        by_cases hk : s.goOn.ev.kind = 0
        · have := h2 hk
          exact ih _ (by omega) h1 (hP s hp h0 hs)
        · rw [step_end hk]
          exact ⟨hP s hp h0 hs, hk, h1⟩
      · rw [step_end h0]
        exact ⟨hp, h0, hs⟩
  intro s hs hp
  exact key (s.far + 1) s (Nat.lt_succ_self _) hs hp
theorem step_inv {s : St} (h : s.Inv) : s.step.Inv ∧ s.step.ev.kind ≠ 0 := by
  have := step_ind Inv (fun _ hs h0 _ => goOn_inv hs h0) h.ok h
  exact ⟨this.1, this.2.1⟩
theorem step_step {s : St} (h : s.Inv) : s.step.step = s.step := step_end (step_inv h).2

/-- a content is told -/
def give (s : St) (c : B) : St := if c.length ≤ 256 then { s with told := upd s.told s.ev.path c, ev := Ev.zero } else s.fail 146 s.ev.path
/-- it is told that there is none -/
def lack (s : St) : St := s.fail 145 s.ev.path
def answer (s : St) : Option B → St
  | some c => s.give c
  | none => s.lack
theorem fail_inv {s : St} (h : s.Inv) (y : Nat) (z : B) : (s.fail y z).Inv := ⟨⟨(fail_next h.ok.core _ _).core, h.ok.room, h.ok.bods⟩, (by intro hk; cases hk), (by intro hk; cases hk), (by intro hk; change 3 ≤ 1 at hk; omega), h.once, h.paths, h.some⟩
theorem give_inv {s : St} (h : s.Inv) (h1 : s.ev.kind = 1) (c : B) : (s.give c).Inv := by
  unfold give
  split
  · rename_i hc
    refine ⟨⟨⟨h.ok.core.used, h.ok.core.fuel, h.ok.core.buf, fun p d hd => ?_, h.ok.core.needs, h.ok.core.few, h.ok.core.short⟩, h.ok.room, h.ok.bods⟩, fun _ => rfl, (by intro hk; cases hk), fun _ p hp => .inr ?_, h.once, h.paths, h.some⟩
    · change upd s.told s.ev.path c p = some d at hd
      unfold upd at hd
      split at hd
      · cases hd; exact hc
      · exact h.ok.core.told p d hd
    · show (upd s.told s.ev.path c p).isSome = true
      unfold upd
      split
      · rfl
      · rename_i hne
        rcases h.all (by omega) p hp with e | e
        · exact absurd e.2 hne
        · exact e
  · exact fail_inv h _ _
theorem lack_inv {s : St} (h : s.Inv) : s.lack.Inv := fail_inv h _ _
theorem answer_inv {s : St} (h : s.Inv) (h1 : s.ev.kind = 1) (c : Option B) : (s.answer c).Inv ∧ (s.answer c).ev.kind ≠ 1 ∧ (s.answer c).needs = s.needs := by
  cases c with
  | none => exact ⟨lack_inv h, by show (3 : Nat) ≠ 1; decide, rfl⟩
  | some c =>
    refine ⟨give_inv h h1 c, ?_, ?_⟩
    · show (s.give c).ev.kind ≠ 1
      unfold give
      split
      · show (0 : Nat) ≠ 1; decide
      · show (3 : Nat) ≠ 1; decide
    · show (s.give c).needs = s.needs
      unfold give
      split <;> rfl
/-- a run that New makes -/
theorem new_inv {code : Ac.Fo} {ts : List B} {fuel : Nat} (h : (new code ts fuel).Ok) (hs : ts ≠ []) : (new code ts fuel).Inv := ⟨h, fun _ => rfl, (by intro hk; cases hk), (by intro _ p hp; cases hp), List.nodup_nil, (by intro p hp; cases hp), hs⟩
/-- needs are only added -/
theorem goOn_needs {s : St} (h0 : s.ev.kind = 0) : s.needs <+: s.goOn.needs ∧ (s.goOn.ev.kind = 1 → s.needs.length < s.goOn.needs.length) := by
  rcases (goOn_asked s).how with ⟨e1, e | e⟩ | ⟨p, -, -, -, e3, -⟩
  · rw [e1, e]; exact ⟨List.prefix_refl _, fun h => by omega⟩
  · rw [e1]; exact ⟨List.prefix_refl _, fun h => by omega⟩
  · rw [e3]; exact ⟨List.prefix_append _ _, fun _ => by simp⟩
theorem step_needs {s : St} (hs : s.Ok) (h0 : s.ev.kind = 0) : s.needs <+: s.step.needs ∧ (s.step.ev.kind = 1 → s.needs.length < s.step.needs.length) := by
  have := step_ind (fun t => s.needs <+: t.needs ∧ (t.ev.kind = 1 → s.needs.length < t.needs.length)) (fun t ht hk _ => by
    obtain ⟨k1, k2⟩ := goOn_needs hk
    exact ⟨ht.1.trans k1, fun h => Nat.lt_of_le_of_lt ht.1.length_le (k2 h)⟩) hs ⟨List.prefix_refl _, fun h => by omega⟩
  exact this.1

/-- what was asked for -/
theorem step_qs {s : St} (hs : s.Inv) (h1 : s.ev.kind ≠ 1) : (s.step.ev.kind = 1 → s.step.needs = s.needs ++ [s.step.ev.path]) ∧ (s.step.ev.kind ≠ 1 → s.step.needs = s.needs) := by
  by_cases h0 : s.ev.kind = 0
  · have := step_ind (fun t => (t.ev.kind ≠ 1 → t.needs = s.needs) ∧ (t.ev.kind = 1 → t.needs = s.needs ++ [t.ev.path])) (fun t ht hk _ => by
      have e := ht.1 (by omega)
      rcases (goOn_asked t).how with ⟨e1, e2 | e2⟩ | ⟨p, -, -, -, e3, e4⟩
      · rw [e1, e2]; exact ⟨fun _ => e, fun h => by omega⟩
      · rw [e1]; exact ⟨fun _ => e, fun h => by omega⟩
      · rw [e3, e4]; exact ⟨fun h => absurd rfl h, fun _ => by rw [e]⟩) hs.ok ⟨fun _ => rfl, fun h => by omega⟩
    exact ⟨this.1.2, this.1.1⟩
  · rw [step_end h0]
    exact ⟨fun h => absurd h h1, fun _ => rfl⟩
/-- from question to question -/
def next (f : B → Option B) (s : St) : St := (s.answer (f s.ev.path)).step
def goN (f : B → Option B) : Nat → St → St
  | 0, s => s
  | n + 1, s => if s.ev.kind = 1 then goN f n (s.next f) else s
theorem next_inv {f : B → Option B} {s : St} (h : s.Inv) (h1 : s.ev.kind = 1) : (s.next f).Inv ∧ (s.next f).ev.kind ≠ 0 ∧ s.needs <+: (s.next f).needs ∧ ((s.next f).ev.kind = 1 → s.needs.length < (s.next f).needs.length) := by
  obtain ⟨a1, a2, a3⟩ := answer_inv h h1 (f s.ev.path)
  obtain ⟨b1, b2⟩ := step_inv a1
  refine ⟨b1, b2, ?_⟩
  show s.needs <+: (s.answer (f s.ev.path)).step.needs ∧ ((s.answer (f s.ev.path)).step.ev.kind = 1 → s.needs.length < (s.answer (f s.ev.path)).step.needs.length)
  by_cases h0 : (s.answer (f s.ev.path)).ev.kind = 0
  · have := step_needs a1.ok h0
    rw [a3] at this
    exact this
  · rw [step_end h0, a3]
    exact ⟨List.prefix_refl _, fun h => absurd h a2⟩
/-- a run that is over, or asks -/
structure Told (s : St) : Prop where
  inv : s.Inv
  kind : s.ev.kind ≠ 0
theorem goN_end {f : B → Option B} {s : St} (h : s.ev.kind ≠ 1) (n : Nat) : goN f n s = s := by
  cases n with
  | zero => rfl
  | succ n => unfold goN; rw [if_neg h]
theorem goN_over (f : B → Option B) : ∀ (n : Nat) {s : St}, s.Inv → 9 ≤ s.needs.length + n → (goN f n s).ev.kind ≠ 1
  | 0, s, h, hn => by have := h.len; omega
  | n + 1, s, h, hn => by
    unfold goN
    split
    · rename_i h1
      obtain ⟨a1, a2, a3, a4⟩ := next_inv (f := f) h h1
      by_cases hk : (s.next f).ev.kind = 1
      · have := a4 hk
        exact goN_over f n a1 (by omega)
      · rw [goN_end hk]
        exact hk
    · assumption
theorem goN_more {f : B → Option B} : ∀ {n m : Nat} {s : St}, s.Inv → 9 ≤ s.needs.length + n → 9 ≤ s.needs.length + m → goN f n s = goN f m s
  | 0, m, s, h, hn, _ => by have := h.len; omega
  | n + 1, 0, s, h, _, hm => by have := h.len; omega
  | n + 1, m + 1, s, h, hn, hm => by
    unfold goN
    split
    · rename_i h1
      obtain ⟨a1, a2, a3, a4⟩ := next_inv (f := f) h h1
      by_cases hk : (s.next f).ev.kind = 1
      · have := a4 hk
        exact goN_more a1 (by omega) (by omega)
      · rw [goN_end hk, goN_end hk]
    · rfl
/-- what a run comes to -/
def done (f : B → Option B) (s : St) : St := goN f 9 s
theorem done_end {f : B → Option B} {s : St} (h : s.ev.kind ≠ 1) : done f s = s := goN_end h 9
theorem done_next {f : B → Option B} {s : St} (h : s.Inv) (h1 : s.ev.kind = 1) : done f (s.next f) = done f s := by
  have e : done f s = goN f 8 (s.next f) := by
    show (if s.ev.kind = 1 then goN f 8 (s.next f) else s) = _
    exact if_pos h1
  rw [e]
  obtain ⟨a1, a2, a3, a4⟩ := next_inv (f := f) h h1
  by_cases hk : (s.next f).ev.kind = 1
  · have := a4 hk
    exact goN_more a1 (by omega) (by omega)
  · rw [done_end hk, goN_end hk]
theorem goN_ind {f : B → Option B} (P : St → Prop) (hP : ∀ s, s.Inv → P s → s.ev.kind = 1 → P (s.next f)) : ∀ (n : Nat) {s : St}, s.Inv → P s → P (goN f n s) ∧ (goN f n s).Inv
  | 0, _, h, p => ⟨p, h⟩
  | n + 1, s, h, p => by
    unfold goN
    split
    · rename_i h1
      exact goN_ind P hP n (next_inv (f := f) h h1).1 (hP s h p h1)
    · exact ⟨p, h⟩
theorem done_over {f : B → Option B} {s : St} (h : s.Told) : (done f s).Inv ∧ 2 ≤ (done f s).ev.kind ∧ s.needs <+: (done f s).needs := by
  obtain ⟨⟨a, k⟩, b⟩ := goN_ind (f := f) (fun t => s.needs <+: t.needs ∧ t.ev.kind ≠ 0) (fun t ht p h1 => ⟨p.1.trans (next_inv ht h1).2.2.1, (next_inv ht h1).2.1⟩) 9 h.inv ⟨List.prefix_refl _, h.kind⟩
  have := goN_over f 9 h.inv (by omega)
  refine ⟨b, ?_, a⟩
  change (done f s).ev.kind ≠ 0 at k
  change (done f s).ev.kind ≠ 1 at this
  omega
/-- only what it asks matters -/
theorem done_asks {f g : B → Option B} {s : St} (h : s.Told) (hfg : ∀ p ∈ (done f s).needs, f p = g p) : done g s = done f s := by
  have key : ∀ (n : Nat) (s : St), s.Told → 9 ≤ s.needs.length + n → (∀ p ∈ (done f s).needs, f p = g p) → done g s = done f s := by
    intro n
    induction n with
    | zero => intro s h hn; have := h.inv.len; omega
    | succ n ih =>
      intro s h hn hfg
      by_cases h1 : s.ev.kind = 1
      · obtain ⟨a1, a2, a3, a4⟩ := next_inv (f := f) h.inv h1
        have hd := done_next (f := f) h.inv h1
        have hmem : s.ev.path ∈ (done f s).needs := (done_over (f := f) h).2.2.subset (h.inv.need h1).2.2.1
        have hn' : s.next g = s.next f := by unfold next; rw [hfg _ hmem]
        rw [← done_next (f := g) h.inv h1, ← hd, hn']
        by_cases hk : (s.next f).ev.kind = 1
        · have := a4 hk
          exact ih _ ⟨a1, a2⟩ (by omega) (by rw [hd]; exact hfg)
        · rw [done_end hk, done_end hk]
      · rw [done_end h1, done_end h1]
  exact key 9 s h (by omega) hfg
end St
end Ip
end Go.Proofs.YtnobmgkdieaclaaGreatDoor
