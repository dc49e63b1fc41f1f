/-
  LAYER 14: MORE FUEL, LESS FUEL (pure).
-/
import Derived.Test.YtnobmgkdieaclaaGreatDoorIpRun
namespace Go.Proofs.YtnobmgkdieaclaaGreatDoor
namespace Ip
namespace St
/-- the same run with other fuel -/
def fu (F : Nat) (s : St) : St := { s with fuel := F }
theorem fu_self (s : St) : fu s.fuel s = s := rfl
theorem fu_fu (F F' : Nat) (s : St) : fu F (fu F' s) = fu F s := rfl
/-- what less fuel comes to: the same, or it is used up -/
def Sim (F F' : Nat) (s t t' : St) : Prop := t' = fu F' t ∨ (t.ev = ⟨3, [], 143, []⟩ ∧ t.used = F ∧ t.needs = s.needs ∧ F < t'.used)
theorem fail_sim (F F' : Nat) (s : St) (y : Nat) (z : B) : Sim F F' s ((fu F s).fail y z) ((fu F' s).fail y z) := .inl rfl
theorem pay_sim {F F' : Nat} (hF : F < F') {s : St} (hu : s.used ≤ F) (k : Nat) : Sim F F' s ((fu F s).pay k) ((fu F' s).pay k) := by
  cases hc : (fu F s).can k with
  | true =>
    have hc' : (fu F' s).can k = true := by
      unfold can fu at hc ⊢
      rw [decide_eq_true_eq] at hc ⊢
      change k ≤ F - s.used at hc
      show k ≤ F' - s.used
      omega
    rw [pay_yes hc, pay_yes hc']
    exact .inl rfl
  | false =>
    rw [pay_not hc]
    refine .inr ⟨rfl, rfl, rfl, ?_⟩
    have hn : ¬ k ≤ F - s.used := by
      unfold can fu at hc
      rw [decide_eq_false_iff_not] at hc
      exact hc
    cases hc' : (fu F' s).can k with
    | true =>
      rw [pay_yes hc']
      show F < s.used + k
      omega
    | false => rw [pay_not hc']; exact hF
theorem mayPut_sim {F F' : Nat} (hF : F < F') {s : St} (hu : s.used ≤ F) (k : Nat) : Sim F F' s ((fu F s).mayPut k) ((fu F' s).mayPut k) := by
  unfold mayPut
  show Sim F F' s (if s.buffer.length + k ≤ 256 then _ else _) (if s.buffer.length + k ≤ 256 then _ else _)
  split
  · exact pay_sim hF hu k
  · exact fail_sim F F' s _ _
theorem put_sim {F F' : Nat} (hF : F < F') {s : St} (hu : s.used ≤ F) (t : B) : Sim F F' s ((fu F s).put t) ((fu F' s).put t) := by
  by_cases hb : s.buffer.length + t.length ≤ 256
  · cases hc : (fu F s).can t.length with
    | true =>
      have hc' : (fu F' s).can t.length = true := by
        unfold can fu at hc ⊢
        rw [decide_eq_true_eq] at hc ⊢
        change _ ≤ F - s.used at hc
        show _ ≤ F' - s.used
        omega
      left
      unfold put canPut mayPut
      have hb1 : (fu F s).buffer.length + t.length ≤ 256 := hb
      have hb2 : (fu F' s).buffer.length + t.length ≤ 256 := hb
      rw [hc, hc', pay_yes hc, pay_yes hc']
      simp only [hb1, hb2, decide_true, Bool.and_self, if_true]
      rfl
    | false =>
      have e : (fu F s).put t = (fu F s).pay t.length := by
        unfold put canPut mayPut
        have hb1 : (fu F s).buffer.length + t.length ≤ 256 := hb
        rw [hc]
        simp only [hb1, Bool.and_false, Bool.false_eq_true, if_false, if_true]
      rw [e]
      rcases pay_sim hF hu t.length with h | ⟨h1, h2, h3, h4⟩
      · exfalso
        rw [pay_not hc] at h
        have : ((fu F' s).pay t.length).used = F := by rw [h]; rfl
        have hn : ¬ t.length ≤ F - s.used := by
          unfold can fu at hc
          rw [decide_eq_false_iff_not] at hc
          exact hc
        cases hc' : (fu F' s).can t.length with
        | true =>
          rw [pay_yes hc'] at this
          change s.used + t.length = F at this
          omega
        | false =>
          rw [pay_not hc'] at this
          change F' = F at this
          omega
      · refine .inr ⟨h1, h2, h3, ?_⟩
        have : ((fu F' s).put t).used = ((fu F' s).pay t.length).used := by
          unfold put
          have hm : (fu F' s).mayPut t.length = (fu F' s).pay t.length := by
            unfold mayPut
            exact if_pos (show (fu F' s).buffer.length + t.length ≤ 256 from hb)
          rw [hm]
          split <;> rfl
        rw [this]
        exact h4
  · have e : ∀ G, (fu G s).put t = (fu G s).fail 146 [] := by
      intro G
      unfold put canPut mayPut
      have hb1 : ¬ (fu G s).buffer.length + t.length ≤ 256 := hb
      simp only [hb1, decide_false, Bool.false_and, Bool.false_eq_true, if_false]
    rw [e, e]
    exact fail_sim F F' s _ _
theorem same_sim {F F' : Nat} {s : St} (g : St → St) (h : g (fu F' s) = fu F' (g (fu F s))) : Sim F F' s (g (fu F s)) (g (fu F' s)) := .inl h
theorem ask_sim {F F' : Nat} {s : St} (line w : B) : Sim F F' s ((fu F s).ask line w) ((fu F' s).ask line w) := by
  left
  unfold ask
  cases pathOf line w with
  | none => rfl
  | some p =>
    show (match s.told p with | some _ => _ | none => _) = fu F' (match s.told p with | some _ => _ | none => _)
    cases s.told p with
    | some _ => rfl
    | none =>
      show (if 8 ≤ s.needs.length then _ else _) = fu F' (if 8 ≤ s.needs.length then _ else _)
      split <;> rfl
theorem lay_sim {F F' : Nat} {s : St} (ls : List B) : Sim F F' s ((fu F s).lay ls) ((fu F' s).lay ls) := by
  left
  unfold lay
  split <;> rfl
theorem write_sim {F F' : Nat} {s : St} (p : B) : Sim F F' s ((fu F s).write p) ((fu F' s).write p) := by
  left
  unfold write
  show (if (s.written p).isSome = true ∨ p ∉ s.targets then _ else _) = fu F' (if (s.written p).isSome = true ∨ p ∉ s.targets then _ else _)
  split <;> rfl
theorem act_sim {F F' : Nat} (hF : F < F') {s : St} (hu : s.used ≤ F) (op : Int) (a : List B) (n : Nat) (body : Ac.Fo) (line : B) : Sim F F' s ((fu F s).act op a n body line) ((fu F' s).act op a n body line) := by
  unfold act
  show Sim F F' s (if op = 1 then _ else if op = 2 then (match s.has line (a.getD 0 []) with | some c => _ | none => _) else if op = 3 then _ else if op = 4 then _ else if op = 5 ∨ op = 6 ∨ op = 7 then _ else if op = 8 then _ else if op = 9 then _ else if op = 10 then _ else if op = 11 then (match s.has line (a.getD 0 []) with | some c => _ | none => _) else _)
    (if op = 1 then _ else if op = 2 then (match s.has line (a.getD 0 []) with | some c => _ | none => _) else if op = 3 then _ else if op = 4 then _ else if op = 5 ∨ op = 6 ∨ op = 7 then _ else if op = 8 then _ else if op = 9 then _ else if op = 10 then _ else if op = 11 then (match s.has line (a.getD 0 []) with | some c => _ | none => _) else _)
  by_cases h1 : op = 1
  · rw [if_pos h1, if_pos h1]; exact ask_sim _ _
  rw [if_neg h1, if_neg h1]
  by_cases h2 : op = 2
  · rw [if_pos h2, if_pos h2]
    cases s.has line (a.getD 0 []) with
    | some c => exact put_sim hF hu c
    | none => exact ask_sim _ _
  rw [if_neg h2, if_neg h2]
  by_cases h3 : op = 3
  · rw [if_pos h3, if_pos h3]; exact put_sim hF hu _
  rw [if_neg h3, if_neg h3]
  by_cases h4 : op = 4
  · rw [if_pos h4, if_pos h4]; exact .inl rfl
  rw [if_neg h4, if_neg h4]
  by_cases h5 : op = 5 ∨ op = 6 ∨ op = 7
  · rw [if_pos h5, if_pos h5]; exact lay_sim _
  rw [if_neg h5, if_neg h5]
  by_cases h8 : op = 8
  · rw [if_pos h8, if_pos h8]
    cases pathOf line (a.getD 0 []) with
    | some p => exact write_sim p
    | none => exact fail_sim F F' s _ _
  rw [if_neg h8, if_neg h8]
  by_cases h9 : op = 9
  · rw [if_pos h9, if_pos h9]; exact fail_sim F F' s _ _
  rw [if_neg h9, if_neg h9]
  by_cases h10 : op = 10
  · rw [if_pos h10, if_pos h10]; exact .inl rfl
  rw [if_neg h10, if_neg h10]
  by_cases h11 : op = 11
  · rw [if_pos h11, if_pos h11]
    cases s.has line (a.getD 0 []) with
    | some c => exact .inl rfl
    | none => exact ask_sim _ _
  rw [if_neg h11, if_neg h11]
  by_cases h12 : op = 12
  · rw [if_pos h12, if_pos h12]
    by_cases hw : Ip.told line (a.getD 0 []) = Ip.told line (a.getD 1 [])
    · rw [if_pos hw, if_pos hw]; exact .inl rfl
    · rw [if_neg hw, if_neg hw]; exact .inl rfl
  · rw [if_neg h12, if_neg h12]; exact .inl rfl
theorem did_sim {F F' : Nat} {s t t' : St} (h : Sim F F' s t t') (d : Nat) : Sim F F' s (t.did d) (t'.did d) := by
  rcases h with rfl | ⟨h1, h2, h3, h4⟩
  · left
    unfold did
    show (if t.ev.kind = 1 then _ else _) = fu F' (if t.ev.kind = 1 then _ else _)
    split <;> rfl
  · obtain ⟨e1, e2, e3, e4, e5, -⟩ := did_same t d
    obtain ⟨g1, g2, g3, g4, g5, -⟩ := did_same t' d
    exact .inr ⟨e3.trans h1, e5.trans h2, e2.trans h3, by rw [g5]; exact h4⟩
theorem act_used {s : St} (h : s.Core) (op : Int) (a : List B) (n : Nat) (body : Ac.Fo) (line : B) (d : Nat) : s.used ≤ ((s.act op a n body line).did d).used := by
  rw [(did_same _ d).2.2.2.2.1]
  exact (act_next h op a n body line).used
theorem fu_core {F : Nat} {s : St} (h : s.Core) (hu : s.used ≤ F) (hF : F ≤ 65536) : (fu F s).Core := ⟨hu, hF, h.buf, h.told, h.needs, h.few, h.short⟩
theorem statement_sim {F F' : Nat} (hF : F < F') (hF' : F' ≤ 65536) {s : St} (hc : s.Core) (hu : s.used ≤ F) (b : Bod) (d : Nat) (hk : b.next < b.code.len) : Sim F F' s ((fu F s).statement b d) ((fu F' s).statement b d) := by
  unfold statement
  show Sim F F' s (if s.begun = false ∧ (fu F s).can 1 = false then _ else match b.code.drop b.next with | .nil => _ | .cons op a n body _ => ((if s.begun then _ else _ : St).act _ _ _ _ _).did d) (if s.begun = false ∧ (fu F' s).can 1 = false then _ else match b.code.drop b.next with | .nil => _ | .cons op a n body _ => ((if s.begun then _ else _ : St).act _ _ _ _ _).did d)
  cases hb : s.begun with
  | true =>
    simp only [Bool.true_eq_false, false_and, if_false, if_true]
    cases b.code.drop b.next with
    | nil => exact .inl rfl
    | cons op a n body rest => exact did_sim (act_sim hF hu _ _ _ _ _) d
  | false =>
    simp only [true_and, Bool.false_eq_true, if_false]
    cases h1 : (fu F s).can 1 with
    | true =>
      have h2 : (fu F' s).can 1 = true := by
        unfold can fu at h1 ⊢
        rw [decide_eq_true_eq] at h1 ⊢
        change _ ≤ F - s.used at h1
        show _ ≤ F' - s.used
        omega
      have hle : s.used + 1 ≤ F := by
        unfold can fu at h1
        rw [decide_eq_true_eq] at h1
        change 1 ≤ F - s.used at h1
        omega
      rw [h2]
      simp only [Bool.true_eq_false, if_false]
      rw [pay_yes h1, pay_yes h2]
      cases b.code.drop b.next with
      | nil => exact .inl rfl
      | cons op a n body rest => exact did_sim (act_sim (s := { s with used := s.used + 1 }) hF hle _ _ _ _ _) d
    | false =>
      simp only [if_true]
      cases h2 : (fu F' s).can 1 with
      | false =>
        simp only [if_true]
        exact pay_sim hF hu 1
      | true =>
        simp only [Bool.true_eq_false, if_false]
        rw [pay_not h1, pay_yes h2]
        have hn : ¬ 1 ≤ F - s.used := by
          unfold can fu at h1
          rw [decide_eq_false_iff_not] at h1
          exact h1
        have hn' : 1 ≤ F' - s.used := by
          unfold can fu at h2
          rw [decide_eq_true_eq] at h2
          exact h2
        refine .inr ⟨rfl, rfl, rfl, ?_⟩
        have hcore : ({ fu F' s with used := s.used + 1 } : St).Core := ⟨by show s.used + 1 ≤ F'; omega, hF', hc.buf, hc.told, hc.needs, hc.few, hc.short⟩
        obtain ⟨op, a, n, body, rest, hd⟩ := Ac.Fo.drop_lt hk
        rw [hd]
        refine Nat.lt_of_lt_of_le ?_ (act_used hcore op a n.toNat body b.line d)
        show F < s.used + 1
        omega
theorem finish_sim {F F' : Nat} (s : St) : Sim F F' s (fu F s).finish (fu F' s).finish := by
  left
  unfold finish
  show (match s.targets.find? (fun p => !(s.written p).isSome) with | some p => _ | none => _) = fu F' (match s.targets.find? (fun p => !(s.written p).isSome) with | some p => _ | none => _)
  cases s.targets.find? (fun p => !(s.written p).isSome) <;> rfl
theorem goOn_sim {F F' : Nat} (hF : F < F') (hF' : F' ≤ 65536) {s : St} (hc : s.Core) (hu : s.used ≤ F) : Sim F F' s (fu F s).goOn (fu F' s).goOn := by
  unfold goOn
  show Sim F F' s (match s.stack with | [] => _ | b :: r => _) (match s.stack with | [] => _ | b :: r => _)
  cases s.stack with
  | nil => exact finish_sim s
  | cons b r =>
    show Sim F F' s (if b.next < b.code.len then _ else (match b.rounds with | [] => _ | l :: ls => _)) (if b.next < b.code.len then _ else (match b.rounds with | [] => _ | l :: ls => _))
    split
    · rename_i hk
      exact statement_sim hF hF' hc hu b r.length hk
    · cases b.rounds with
      | nil => exact .inl rfl
      | cons l ls =>
        show Sim F F' s (if (fu F s).can 1 then _ else _) (if (fu F' s).can 1 then _ else _)
        have hP := pay_sim hF hu 1
        cases h1 : (fu F s).can 1 with
        | true =>
          have h2 : (fu F' s).can 1 = true := by
            unfold can fu at h1 ⊢
            rw [decide_eq_true_eq] at h1 ⊢
            change _ ≤ F - s.used at h1
            show _ ≤ F' - s.used
            omega
          rw [h2, pay_yes h1, pay_yes h2]
          exact .inl rfl
        | false =>
          rcases hP with e | ⟨e1, e2, e3, e4⟩
          · exfalso
            rw [pay_not h1] at e
            have hn : ¬ 1 ≤ F - s.used := by
              unfold can fu at h1
              rw [decide_eq_false_iff_not] at h1
              exact h1
            have hus : ((fu F' s).pay 1).used = F := by rw [e]; rfl
            cases h2 : (fu F' s).can 1 with
            | true =>
              rw [pay_yes h2] at hus
              change s.used + 1 = F at hus
              omega
            | false =>
              rw [pay_not h2] at hus
              change F' = F at hus
              omega
          · refine .inr ⟨e1, e2, e3, ?_⟩
            split
            · exact e4
            · exact e4
theorem statement_fuel {s : St} (hs : s.Core) (b : Bod) (d : Nat) : (s.statement b d).fuel = s.fuel := by
  unfold statement
  split
  · exact (pay_next hs 1).fuel
  · split
    · rfl
    · rename_i op a n body rest _
      rw [(did_same _ d).2.2.2.1]
      cases s.begun with
      | true => exact (act_next hs op a n.toNat body b.line).fuel
      | false => exact (act_next (pay_next hs 1).core op a n.toNat body b.line).fuel.trans (pay_next hs 1).fuel
theorem goOn_fuel {s : St} (hs : s.Core) (_ : s.ev.kind = 0) : s.goOn.fuel = s.fuel := by
  unfold goOn
  split
  · unfold finish
    split <;> rfl
  · split
    · exact statement_fuel hs _ _
    · split
      · rfl
      · split
        · exact (pay_next hs 1).fuel
        · exact (pay_next hs 1).fuel
/-- steps with less fuel -/
def Sims (F F' : Nat) (t t' : St) : Prop := t' = fu F' t ∨ (t.ev = ⟨3, [], 143, []⟩ ∧ t.used = F ∧ t.needs <+: t'.needs ∧ F < t'.used)
theorem Sims.ev {F F' : Nat} {t t' : St} (h : Sims F F' t t') : t' = fu F' t ∨ t.ev.kind = 3 := by
  rcases h with h | ⟨h, -⟩
  · exact .inl h
  · rw [h]; exact .inr rfl
/-- nothing falls -/
structure Up (s t : St) : Prop where
  used : s.used ≤ t.used
  needs : s.needs <+: t.needs
theorem Up.refl (s : St) : Up s s := ⟨Nat.le_refl _, List.prefix_refl _⟩
theorem Up.trans {s t u : St} (h : Up s t) (k : Up t u) : Up s u := ⟨Nat.le_trans h.used k.used, h.needs.trans k.needs⟩
theorem statement_used {s : St} (hs : s.Core) (b : Bod) (d : Nat) : s.used ≤ (s.statement b d).used := by
  unfold statement
  split
  · exact (pay_next hs 1).used
  · split
    · exact Nat.le_refl _
    · rename_i op a n body rest _
      cases s.begun with
      | true => exact act_used hs op a n.toNat body b.line d
      | false => exact Nat.le_trans (pay_next hs 1).used (act_used (pay_next hs 1).core op a n.toNat body b.line d)
theorem goOn_up {s : St} (hs : s.Core) (h0 : s.ev.kind = 0) : Up s s.goOn := by
  refine ⟨?_, (goOn_needs h0).1⟩
  unfold goOn
  split
  · unfold finish
    split <;> exact Nat.le_refl _
  · split
    · exact statement_used hs _ _
    · split
      · exact Nat.le_refl _
      · split
        · exact (pay_next hs 1).used
        · exact (pay_next hs 1).used
theorem step_up {s : St} (hs : s.Ok) : Up s s.step := (step_ind (Up s) (fun _ ht hk ho => ht.trans (goOn_up ho.core hk)) hs (Up.refl s)).1
theorem fu_ok {F : Nat} {s : St} (h : s.Ok) (hu : s.used ≤ F) (hF : F ≤ 65536) : (fu F s).Ok := ⟨fu_core h.core hu hF, h.room, h.bods⟩
theorem step_sim {F F' : Nat} (hF : F < F') (hF' : F' ≤ 65536) : ∀ {s : St}, s.Ok → s.used ≤ F → Sims F F' (fu F s).step (fu F' s).step := by
  have key : ∀ n (s : St), (fu F s).far < n → s.Ok → s.used ≤ F → Sims F F' (fu F s).step (fu F' s).step := by
    intro n
    induction n with
    | zero => intro s h; omega
    | succ n ih =>
      intro s hn hs hu
      have o1 := fu_ok (F := F) hs hu (by omega)
      have o2 := fu_ok (F := F') hs (by omega) hF'
      by_cases h0 : s.ev.kind = 0
      · have h01 : (fu F s).ev.kind = 0 := h0
        have h02 : (fu F' s).ev.kind = 0 := h0
        rw [step_on o1 h01, step_on o2 h02]
        obtain ⟨g1, g2⟩ := goOn_ok o1 h01
        obtain ⟨g3, g4⟩ := goOn_ok o2 h02
        rcases goOn_sim hF hF' hs.core hu with e | ⟨e1, e2, e3, e4⟩
        · rw [e]
          obtain ⟨t, ht⟩ : ∃ t, (fu F s).goOn = t := ⟨_, rfl⟩
          have hf : fu F t = t := by
            have : t.fuel = F := by
              rw [← ht]
              exact goOn_fuel o1.core h01
            rw [← this]
            rfl
          rw [ht] at g1 g2 ⊢
          have := ih t
          rw [hf] at this
          by_cases hk : t.ev.kind = 0
          · have hlt := g2 hk
            exact this (by omega) g1 (by have := g1.core.used; rw [← hf] at this; exact this)
          · rw [step_end hk, step_end (show (fu F' t).ev.kind ≠ 0 from hk)]
            exact .inl rfl
        · rw [step_end (by rw [e1]; show (3 : Nat) ≠ 0; decide)]
          have hup := step_up g3
          refine .inr ⟨e1, e2, ?_, Nat.lt_of_lt_of_le e4 hup.used⟩
          rw [e3]
          exact (goOn_up o2.core h02).needs.trans hup.needs
      · rw [step_end (show (fu F s).ev.kind ≠ 0 from h0), step_end (show (fu F' s).ev.kind ≠ 0 from h0)]
        exact .inl rfl
  intro s hs hu
  exact key _ s (Nat.lt_succ_self _) hs hu
theorem fu_inv {F : Nat} {s : St} (h : s.Inv) (hu : s.used ≤ F) (hF : F ≤ 65536) : (fu F s).Inv := ⟨fu_ok h.ok hu hF, h.zero, h.need, h.all, h.once, h.paths, h.some⟩
theorem answer_fu (F : Nat) (s : St) (c : Option B) : (fu F s).answer c = fu F (s.answer c) := by
  cases c with
  | none => rfl
  | some c =>
    show (fu F s).give c = fu F (s.give c)
    unfold give
    split <;> rfl
theorem answer_used (s : St) (c : Option B) : (s.answer c).used = s.used ∧ (s.answer c).fuel = s.fuel := by
  cases c with
  | none => exact ⟨rfl, rfl⟩
  | some c =>
    show (s.give c).used = s.used ∧ (s.give c).fuel = s.fuel
    unfold give
    split <;> exact ⟨rfl, rfl⟩
theorem step_fuel {s : St} (hs : s.Ok) : s.step.fuel = s.fuel := (step_ind (fun t => t.fuel = s.fuel) (fun _ ht hk ho => (goOn_fuel ho.core hk).trans ht) hs rfl).1
theorem next_up {f : B → Option B} {s : St} (h : s.Inv) (h1 : s.ev.kind = 1) : Up s (s.next f) := by
  obtain ⟨a1, a2, a3⟩ := answer_inv h h1 (f s.ev.path)
  refine Up.trans ⟨?_, ?_⟩ (step_up a1.ok)
  · rw [(answer_used s _).1]; exact Nat.le_refl _
  · rw [a3]; exact List.prefix_refl _
theorem goN_sim {F F' : Nat} (hF : F < F') (hF' : F' ≤ 65536) (f : B → Option B) : ∀ (n : Nat) {t t' : St}, t.Inv → t'.Inv → t.fuel = F → Sims F F' t t' → Sims F F' (goN f n t) (goN f n t')
  | 0, _, _, _, _, _, h => h
  | n + 1, t, t', ht, ht', hfu, h => by
    rcases h with rfl | ⟨h1, h2, h3, h4⟩
    · unfold goN
      show Sims F F' (if t.ev.kind = 1 then _ else _) (if t.ev.kind = 1 then _ else _)
      split
      · rename_i hk
        have hself : fu F t = t := by rw [← hfu]; rfl
        obtain ⟨a1, a2, a3⟩ := answer_inv ht hk (f t.ev.path)
        have e1 : t.next f = (fu F (t.answer (f t.ev.path))).step := by
          unfold next
          have : fu F (t.answer (f t.ev.path)) = t.answer (f t.ev.path) := by rw [← answer_fu, hself]
          rw [this]
        have e2 : (fu F' t).next f = (fu F' (t.answer (f t.ev.path))).step := by
          unfold next
          rw [answer_fu]
          rfl
        refine goN_sim hF hF' f n (next_inv ht hk).1 (next_inv ht' hk).1 ?_ ?_
        · rw [e1, step_fuel (fu_ok a1.ok (by rw [(answer_used t _).1]; have := ht.ok.core.used; omega) (by omega))]
          rfl
        · rw [e1, e2]
          exact step_sim hF hF' a1.ok (by rw [(answer_used t _).1]; have := ht.ok.core.used; omega)
      · exact .inl rfl
    · rw [goN_end (by rw [h1]; show (3 : Nat) ≠ 1; decide)]
      obtain ⟨⟨u1, u2⟩, -⟩ := goN_ind (f := f) (Up t') (fun s hs hp hk => hp.trans (next_up hs hk)) (n + 1) ht' (Up.refl t')
      exact .inr ⟨h1, h2, h3.trans u2, Nat.lt_of_lt_of_le h4 u1⟩
theorem done_sim {F F' : Nat} (hF : F < F') (hF' : F' ≤ 65536) (f : B → Option B) {s : St} (hs : s.Inv) (hu : s.used ≤ F) : Sims F F' (done f (fu F s).step) (done f (fu F' s).step) := by
  have i1 := fu_inv (F := F) hs hu (by omega)
  have i2 := fu_inv (F := F') hs (by omega) hF'
  exact goN_sim hF hF' f 9 (step_inv i1).1 (step_inv i2).1 (step_fuel i1.ok) (step_sim hF hF' hs.ok hu)
/-- out of fuel: all of it used -/
def Ends (s : St) : Prop := s.ev.why = 143 → s.used = s.fuel
theorem ends_of {s : St} (h : s.ev.why ≠ 143) : s.Ends := fun e => absurd e h
theorem pay_ends {s : St} (_ : s.Ends) (h0 : s.ev.why ≠ 143) (k : Nat) : (s.pay k).Ends := by
  unfold pay
  split
  · exact ends_of h0
  · exact fun _ => rfl
set_option maxHeartbeats 2000000 in
theorem act_ends {s : St} (h : s.ev.why ≠ 143) (op : Int) (a : List B) (n : Nat) (body : Ac.Fo) (line : B) : (s.act op a n body line).Ends := by
  have h9 : s.Ends := ends_of h
  have hmp : ∀ k, (s.mayPut k).Ends := by
    intro k
    unfold mayPut
    split
    · exact pay_ends h9 h k
    · exact ends_of (by show (146 : Nat) ≠ 143; decide)
  have hput : ∀ t, (s.put t).Ends := by
    intro t
    unfold put
    split
    · exact hmp t.length
    · exact hmp t.length
  have hask : ∀ l w, (s.ask l w).Ends := by
    intro l w
    unfold ask
    split
    · exact ends_of (by show (141 : Nat) ≠ 143; decide)
    · split
      · exact h9
      · split
        · exact ends_of (by show (144 : Nat) ≠ 143; decide)
        · exact ends_of (by show (0 : Nat) ≠ 143; decide)
  have hlay : ∀ l, (s.lay l).Ends := by
    intro l
    unfold lay
    split
    · exact h9
    · exact ends_of (by show (146 : Nat) ≠ 143; decide)
  have hwr : ∀ p, (s.write p).Ends := by
    intro p
    unfold write
    split
    · exact ends_of (by show (142 : Nat) ≠ 143; decide)
    · exact h9
  obtain ⟨t, ht⟩ : ∃ t, s.act op a n body line = t := ⟨_, rfl⟩
  rw [ht]
  unfold act at ht
  repeat' split at ht
  all_goals subst ht
  all_goals first
    | exact hask _ _
    | exact hput _
    | exact hlay _
    | exact hwr _
    | exact h9
    | exact ends_of (by show (141 : Nat) ≠ 143; decide)
    | exact ends_of (by show (140 : Nat) ≠ 143; decide)
theorem goOn_ends {s : St} (h0 : s.ev.why ≠ 143) : s.goOn.Ends := by
  unfold goOn
  split
  · unfold finish
    split
    · exact ends_of (by show (142 : Nat) ≠ 143; decide)
    · exact ends_of (by show (0 : Nat) ≠ 143; decide)
  · split
    · unfold statement
      split
      · exact pay_ends (ends_of h0) h0 1
      · rename_i hc
        split
        · exact ends_of h0
        · rename_i op a n body rest _
          have key : ∀ (l : B) (d : Nat) (t : St), t.ev.why ≠ 143 → ((t.act op a n.toNat body l).did d).Ends := by
            intro l d t ht he
            obtain ⟨-, -, e3, e4, e5, -⟩ := did_same (t.act op a n.toNat body l) d
            rw [e3] at he
            rw [e4, e5]
            exact act_ends ht op a n.toNat body _ he
          cases hb : s.begun with
          | true => exact key _ _ s h0
          | false =>
            have hcan : s.can 1 = true := by
              cases h : s.can 1 with
              | true => rfl
              | false => exact absurd ⟨hb, h⟩ hc
            rw [pay_yes hcan]
            exact key _ _ _ h0
    · split
      · exact ends_of h0
      · split
        · rename_i hcan
          rw [pay_yes hcan]
          exact ends_of h0
        · exact pay_ends (ends_of h0) h0 1
/-- zero events have no why -/
theorem step_ends {s : St} (h : s.Inv) (he : s.Ends) : s.step.Ends := by
  have := step_ind (fun t => t.Inv ∧ t.Ends) (fun t ht hk _ => ⟨goOn_inv ht.1 hk, goOn_ends (by rw [ht.1.zero hk]; show (0 : Nat) ≠ 143; decide)⟩) h.ok ⟨h, he⟩
  exact this.1.2
theorem answer_ends (s : St) (c : Option B) : (s.answer c).Ends := by
  cases c with
  | none => exact ends_of (by show (145 : Nat) ≠ 143; decide)
  | some c =>
    show (s.give c).Ends
    unfold give
    split
    · exact ends_of (by show (0 : Nat) ≠ 143; decide)
    · exact ends_of (by show (146 : Nat) ≠ 143; decide)
theorem done_ends {f : B → Option B} {s : St} (h : s.Inv) (he : s.Ends) : (done f s).Ends :=
  (goN_ind (f := f) Ends (fun t ht _ hk => step_ends (answer_inv ht hk _).1 (answer_ends t _)) 9 h he).1
end St
end Ip
end Go.Proofs.YtnobmgkdieaclaaGreatDoor
