/-
  LAYER 14: WHAT A RUN KEEPS TO AS IT GOES ON (pure), AND HOW FAR IT IS TO AN EVENT.
-/
import Derived.Test.YtnobmgkdieaclaaGreatDoorIpGo
namespace Go.Proofs.YtnobmgkdieaclaaGreatDoor
namespace Ip
namespace St
/-- the bounds but for the stack -/
structure Core (s : St) : Prop where
  used : s.used ≤ s.fuel
  fuel : s.fuel ≤ 65536
  buf : s.buffer.length ≤ 256
  told : ∀ p c, s.told p = some c → c.length ≤ 256
  needs : s.needs.length ≤ 8
  few : s.targets.length ≤ 4
  short : ∀ p ∈ s.targets, p.length ≤ 1000
/-- what is the same, or no less, behind a step -/
structure Next (s t : St) : Prop where
  fuel : t.fuel = s.fuel
  targets : t.targets = s.targets
  used : s.used ≤ t.used
  begun : t.begun = s.begun
  told : t.told = s.told
  core : t.Core
theorem Next.refl {s : St} (h : s.Core) : Next s s := ⟨rfl, rfl, Nat.le_refl _, rfl, rfl, h⟩
theorem Next.trans {s t u : St} (h : Next s t) (k : Next t u) : Next s u := ⟨k.fuel.trans h.fuel, k.targets.trans h.targets, Nat.le_trans h.used k.used, k.begun.trans h.begun, k.told.trans h.told, k.core⟩
theorem fail_next {s : St} (h : s.Core) (y : Nat) (z : B) : Next s (s.fail y z) := ⟨rfl, rfl, Nat.le_refl _, rfl, rfl, ⟨h.used, h.fuel, h.buf, h.told, h.needs, h.few, h.short⟩⟩
theorem pay_next {s : St} (h : s.Core) (k : Nat) : Next s (s.pay k) := by
  unfold pay
  split
  · rename_i hc
    unfold can at hc
    rw [decide_eq_true_eq] at hc
    have := h.used
    exact ⟨rfl, rfl, Nat.le_add_right _ _, rfl, rfl, ⟨by show s.used + k ≤ s.fuel; omega, h.fuel, h.buf, h.told, h.needs, h.few, h.short⟩⟩
  · exact ⟨rfl, rfl, h.used, rfl, rfl, ⟨Nat.le_refl _, h.fuel, h.buf, h.told, h.needs, h.few, h.short⟩⟩
theorem mayPut_next {s : St} (h : s.Core) (k : Nat) : Next s (s.mayPut k) := by
  unfold mayPut
  split
  · exact pay_next h k
  · exact fail_next h _ _
theorem setBuf_next {s t : St} (h : Next s t) (b : B) (hb : b.length ≤ 256) : Next s { t with buffer := b } := ⟨h.fuel, h.targets, h.used, h.begun, h.told, ⟨h.core.used, h.core.fuel, hb, h.core.told, h.core.needs, h.core.few, h.core.short⟩⟩
theorem put_next {s : St} (h : s.Core) (t : B) : Next s (s.put t) := by
  unfold put
  split
  · rename_i hc
    unfold canPut at hc
    rw [Bool.and_eq_true, decide_eq_true_eq] at hc
    exact setBuf_next (mayPut_next h _) _ (by rw [List.length_append]; exact hc.1)
  · exact mayPut_next h _
theorem lay_next {s : St} (h : s.Core) (ls : List B) : Next s (s.lay ls) := by
  unfold lay
  split
  · rename_i hc
    exact setBuf_next (Next.refl h) _ hc
  · exact fail_next h _ _
theorem write_next {s : St} (h : s.Core) (p : B) : Next s (s.write p) := by
  unfold write
  split
  · exact fail_next h _ _
  · exact ⟨rfl, rfl, Nat.le_refl _, rfl, rfl, ⟨h.used, h.fuel, by simp, h.told, h.needs, h.few, h.short⟩⟩
theorem ask_next {s : St} (h : s.Core) (line w : B) : Next s (s.ask line w) := by
  unfold ask
  split
  · exact fail_next h _ _
  · split
    · exact Next.refl h
    · split
      · exact fail_next h _ _
      · exact ⟨rfl, rfl, Nat.le_refl _, rfl, rfl, ⟨h.used, h.fuel, h.buf, h.told, by show (s.needs ++ [_]).length ≤ 8; rw [List.length_append, List.length_singleton]; omega, h.few, h.short⟩⟩
theorem push_next {s : St} (h : s.Core) (b : Bod) : Next s (s.push b) := ⟨rfl, rfl, Nat.le_refl _, rfl, rfl, ⟨h.used, h.fuel, h.buf, h.told, h.needs, h.few, h.short⟩⟩
theorem act_next {s : St} (h : s.Core) (op : Int) (a : List B) (n : Nat) (body : Ac.Fo) (line : B) : Next s (s.act op a n body line) := by
  obtain ⟨t, ht⟩ : ∃ t, s.act op a n body line = t := ⟨_, rfl⟩
  rw [ht]
  unfold act at ht
  repeat' split at ht
  all_goals subst ht
  all_goals first
    | exact ask_next h _ _
    | exact put_next h _
    | exact setBuf_next (Next.refl h) _ (by have := h.buf; simpa [upper] using this)
    | exact lay_next h _
    | exact write_next h _
    | exact fail_next h _ _
    | exact push_next h _
    | exact Next.refl h
theorem mem_tot : ∀ {ls : List B} {l : B}, l ∈ ls → l.length + 1 ≤ tot ls
  | [], _, h => by cases h
  | a :: r, l, h => by
    show _ ≤ (a.length + 1) + tot r
    rcases List.mem_cons.1 h with rfl | h
    · omega
    · have := mem_tot h
      omega
theorem lines_short {c : B} {l : B} (h : l ∈ linesOf c) : l.length ≤ c.length := by
  have h1 := tot_lines c
  have h2 := mem_tot h
  omega
/-- what an act may push -/
theorem act_push (s : St) (op : Int) (a : List B) (n : Nat) (body : Ac.Fo) (line : B) : (s.act op a n body line).stack = s.stack ∨ ∃ b, s.act op a n body line = s.push b ∧ (b = ⟨body, body.len, [], List.replicate n line⟩ ∨ (∃ c, s.has line (a.getD 0 []) = some c ∧ b = ⟨body, body.len, [], linesOf c⟩) ∨ b = ⟨body, 0, line, []⟩) := by
  have hfail : ∀ (t : St) y z, (t.fail y z).stack = t.stack := fun _ _ _ => rfl
  have hpay : ∀ (t : St) k, (t.pay k).stack = t.stack := pay_stack
  have hmp : ∀ (t : St) k, (t.mayPut k).stack = t.stack := by intro t k; unfold mayPut; split; exact hpay _ _; rfl
  have hput : ∀ (t : St) y, (t.put y).stack = t.stack := by
    intro t y
    unfold put
    split
    · exact hmp t _
    · exact hmp t _
  have hask : ∀ (t : St) y z, (t.ask y z).stack = t.stack := by
    intro t y z
    unfold ask
    split
    · rfl
    · split
      · rfl
      · split <;> rfl
  have hlay : ∀ (t : St) y, (t.lay y).stack = t.stack := by intro t y; unfold lay; split <;> rfl
  have hwr : ∀ (t : St) y, (t.write y).stack = t.stack := by intro t y; unfold write; split <;> rfl
  obtain ⟨t, ht⟩ : ∃ t, s.act op a n body line = t := ⟨_, rfl⟩
  rw [ht]
  unfold act at ht
  split at ht
  · left; rw [← ht, hask]
  split at ht
  · split at ht
    · left; rw [← ht, hput]
    · left; rw [← ht, hask]
  split at ht
  · left; rw [← ht, hput]
  split at ht
  · left; rw [← ht]
  split at ht
  · left; rw [← ht, hlay]
  split at ht
  · split at ht
    · left; rw [← ht, hwr]
    · left; rw [← ht, hfail]
  split at ht
  · left; rw [← ht, hfail]
  split at ht
  · right; exact ⟨_, ht.symm, .inl rfl⟩
  split at ht
  · split at ht
    · rename_i c hc
      right; exact ⟨_, ht.symm, .inr (.inl ⟨c, hc, rfl⟩)⟩
    · left; rw [← ht, hask]
  split at ht
  · split at ht
    · right; exact ⟨_, ht.symm, .inr (.inr rfl)⟩
    · left; rw [← ht]
  · left; rw [← ht]
theorem act_bods {s : St} (h : s.Core) {op : Int} {a : List B} {n : Nat} {body : Ac.Fo} {line : B} (hg : good body) (hl : body.len ≤ 1000000) (hline : line.length ≤ 256) (hn : n ≤ 1000) : ∀ b ∈ (s.act op a n body line).stack, b ∈ s.stack ∨ b.Ok := by
  intro b hb
  rcases act_push s op a n body line with e | ⟨c, e, hc⟩
  · rw [e] at hb; exact .inl hb
  · rw [e] at hb
    rcases List.mem_cons.1 hb with rfl | hb
    · right
      rcases hc with rfl | ⟨c, hc, rfl⟩ | rfl
      · exact ⟨hg, hl, by simp, fun l hl' => by rw [List.eq_of_mem_replicate hl']; exact hline, by simp; omega, Nat.le_refl _⟩
      · have hcl : c.length ≤ 256 := by
          unfold has at hc
          cases hp : pathOf line (a.getD 0 []) with
          | none => rw [hp] at hc; cases hc
          | some p => rw [hp] at hc; exact h.told p c hc
        refine ⟨hg, hl, by simp, fun l hl' => Nat.le_trans (lines_short hl') hcl, ?_, Nat.le_refl _⟩
        show (linesOf c).length ≤ _
        have h1 := len_tot (linesOf c)
        have h2 := tot_lines c
        omega
      · exact ⟨hg, hl, hline, by simp, by simp, Nat.zero_le _⟩
    · exact .inl hb
end St
end Ip
end Go.Proofs.YtnobmgkdieaclaaGreatDoor
