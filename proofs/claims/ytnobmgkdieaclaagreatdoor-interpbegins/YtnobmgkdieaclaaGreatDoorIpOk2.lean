/-
  LAYER 14: A RUN THAT IS AS IT SHOULD BE STAYS SO; EACH STEP BRINGS IT NEARER TO AN EVENT (pure).
-/
import Derived.Test.YtnobmgkdieaclaaGreatDoorIpOk
namespace Go.Proofs.YtnobmgkdieaclaaGreatDoor
namespace Ip
namespace St
/-- a run as it should be -/
structure Ok (s : St) : Prop where
  core : s.Core
  room : s.stack.length + (if s.begun then 1 else 0) ≤ s.used + 1
  bods : ∀ b ∈ s.stack, b.Ok
theorem Ok.fine {s : St} (h : s.Ok) : s.Fine := ⟨h.core.used, h.core.fuel, h.core.buf, h.core.told, h.core.needs, h.core.few, h.core.short, by have := h.room; have := h.core.used; have := h.core.fuel; omega⟩
theorem nextAt_len (s : St) (d : Nat) : (s.nextAt d).stack.length = s.stack.length := by simp [nextAt]
theorem kind_ask {s : St} (line w : B) (_ : (s.ask line w).ev.kind = 1) : (s.ask line w).stack = s.stack := by
  unfold ask
  split
  · rfl
  · split
    · rfl
    · split <;> rfl
/-- where it asks, nothing was opened -/
theorem act_kind {s : St} (h0 : s.ev.kind ≠ 1) {op : Int} {a : List B} {n : Nat} {body : Ac.Fo} {line : B} (h : (s.act op a n body line).ev.kind = 1) : (s.act op a n body line).stack = s.stack := by
  rcases act_push s op a n body line with e | ⟨b, e, -⟩
  · exact e
  · rw [e] at h
    exact absurd h h0
theorem mem_modify {α : Type} {f : α → α} : ∀ {l : List α} {d : Nat} {y : α}, y ∈ l.modify d f → y ∈ l ∨ ∃ z, l[d]? = some z ∧ y = f z
  | [], d, y, h => by simp at h
  | a :: r, 0, y, h => by
    rw [List.modify_zero_cons] at h
    rcases List.mem_cons.1 h with rfl | h
    · exact .inr ⟨a, rfl, rfl⟩
    · exact .inl (List.mem_cons_of_mem _ h)
  | a :: r, d + 1, y, h => by
    rw [List.modify_succ_cons] at h
    rcases List.mem_cons.1 h with rfl | h
    · exact .inl (List.mem_cons_self ..)
    · rcases mem_modify h with h | ⟨z, h1, h2⟩
      · exact .inl (List.mem_cons_of_mem _ h)
      · exact .inr ⟨z, h1, h2⟩
/-- a statement, paid for: s0 is the run behind the pay -/
theorem did_ok {s0 : St} {b : Bod} {r : List Bod} {op : Int} {a : List B} {n : Int} {body rest : Ac.Fo} (hc : s0.Core) (hr : s0.stack.length ≤ s0.used) (hb : ∀ b ∈ s0.stack, b.Ok) (hs : s0.stack = b :: r) (hd : b.code.drop b.next = .cons op a n body rest) (hk : b.next < b.code.len) (h0 : s0.ev.kind ≠ 1) :
    ((s0.act op a n.toNat body b.line).did r.length).Ok ∧ (s0.act op a n.toNat body b.line).Core ∧ s0.used ≤ (s0.act op a n.toNat body b.line).used ∧ (s0.act op a n.toNat body b.line).fuel = s0.fuel ∧ (s0.act op a n.toNat body b.line).stack.length ≤ s0.stack.length + 1 := by
  have hbo := hb b (by rw [hs]; simp)
  obtain ⟨hok, hsl, hbl, hgb⟩ := good_at hbo.good hd
  obtain ⟨-, -, -, h4, h5⟩ := ok_args hok
  have hN := act_next hc op a n.toNat body b.line
  have hB := act_bods hc (op := op) (a := a) hgb hbl hbo.line (n := n.toNat) (by omega)
  have hP := act_push s0 op a n.toNat body b.line
  have hK := @act_kind s0 h0 op a n.toNat body b.line
  have hlen : (s0.act op a n.toNat body b.line).stack.length ≤ s0.stack.length + 1 := by
    rcases hP with e | ⟨c, e, -⟩
    · rw [e]; omega
    · rw [e]; exact Nat.le_refl _
  have hAt : (s0.act op a n.toNat body b.line).stack.reverse[r.length]? = some b := by
    rcases hP with e | ⟨c, e, -⟩
    · rw [e, hs]; simp
    · rw [e]
      show (c :: s0.stack).reverse[r.length]? = some b
      rw [hs]
      simp
  generalize s0.act op a n.toNat body b.line = t at *
  refine ⟨?_, hN.core, hN.used, hN.fuel, hlen⟩
  have hall : ∀ y ∈ t.stack, y.Ok := fun y hy => (hB y hy).elim (hb y) id
  by_cases hkd : t.ev.kind = 1
  · rw [did_yes _ _ hkd]
    refine ⟨⟨hN.core.used, hN.core.fuel, hN.core.buf, hN.core.told, hN.core.needs, hN.core.few, hN.core.short⟩, ?_, hall⟩
    show t.stack.length + 1 ≤ t.used + 1
    rw [hK hkd]
    have := hN.used
    omega
  · rw [did_no _ _ hkd]
    refine ⟨⟨hN.core.used, hN.core.fuel, hN.core.buf, hN.core.told, hN.core.needs, hN.core.few, hN.core.short⟩, ?_, ?_⟩
    · show (t.nextAt r.length).stack.length + 0 ≤ t.used + 1
      rw [nextAt_len]
      have := hN.used
      omega
    · intro y hy
      change y ∈ (t.stack.reverse.modify r.length fun b => { b with next := b.next + 1 }).reverse at hy
      rw [List.mem_reverse] at hy
      rcases mem_modify hy with hy | ⟨z, h1, rfl⟩
      · exact hall y (List.mem_reverse.1 hy)
      · rw [hAt] at h1
        obtain rfl : b = z := Option.some.inj h1
        exact ⟨hbo.good, hbo.len, hbo.line, hbo.rounds, hbo.few, hk⟩
theorem did_far {t : St} {d : Nat} (h : (t.did d).ev.kind = 0) : (t.did d).begun = false ∧ (t.did d).stack.length = t.stack.length ∧ (t.did d).used = t.used ∧ (t.did d).fuel = t.fuel := by
  by_cases hk : t.ev.kind = 1
  · rw [did_yes _ _ hk] at h
    change t.ev.kind = 0 at h
    omega
  · rw [did_no _ _ hk]
    exact ⟨rfl, nextAt_len t d, rfl, rfl⟩
theorem finish_ok {s : St} (h : s.Ok) : s.finish.Ok ∧ s.finish.ev.kind ≠ 0 := by
  unfold finish
  split
  · exact ⟨⟨(fail_next h.core _ _).core, h.room, h.bods⟩, by show (3 : Nat) ≠ 0; decide⟩
  · exact ⟨⟨⟨h.core.used, h.core.fuel, h.core.buf, h.core.told, h.core.needs, h.core.few, h.core.short⟩, h.room, h.bods⟩, by show (2 : Nat) ≠ 0; decide⟩
theorem pay_no {s : St} (h : s.Ok) {k : Nat} (hc : s.can k = false) : (s.pay k).Ok ∧ (s.pay k).ev.kind ≠ 0 := by
  have hN := pay_next h.core k
  refine ⟨⟨hN.core, ?_, ?_⟩, ?_⟩
  · rw [pay_stack, hN.begun]
    have := h.room
    have := hN.used
    omega
  · rw [pay_stack]; exact h.bods
  · unfold pay
    rw [hc]
    show (3 : Nat) ≠ 0
    decide
theorem goOn_ok {s : St} (h : s.Ok) (h0 : s.ev.kind = 0) : s.goOn.Ok ∧ (s.goOn.ev.kind = 0 → s.goOn.far < s.far) := by
  unfold goOn
  split
  · obtain ⟨h1, h2⟩ := finish_ok h
    exact ⟨h1, fun e => absurd e h2⟩
  · rename_i b r hs
    have hbo := h.bods b (by rw [hs]; simp)
    have hroom := h.room
    have hu := h.core.used
    split
    · rename_i hk
      obtain ⟨op, a, n, body, rest, hd⟩ := Ac.Fo.drop_lt hk
      unfold statement
      split
      · rename_i hc
        obtain ⟨h1, h2⟩ := pay_no h hc.2
        exact ⟨h1, fun e => absurd e h2⟩
      · rename_i hc
        simp only [hd]
        cases hbg : s.begun with
        | true =>
          rw [hbg] at hroom
          simp only [if_true] at hroom ⊢
          obtain ⟨k1, k2, k3, k4, k5⟩ := did_ok (s0 := s) h.core (by omega) h.bods hs hd hk (by omega)
          refine ⟨k1, fun e => ?_⟩
          obtain ⟨f1, f2, f3, f4⟩ := did_far e
          unfold far
          rw [f1, f2, f3, f4, k4, hbg]
          simp only [Bool.false_eq_true, if_false, if_true]
          omega
        | false =>
          rw [hbg] at hroom
          simp only [Bool.false_eq_true, if_false] at hroom ⊢
          have hcan : s.can 1 = true := by
            cases h1 : s.can 1 with
            | true => rfl
            | false => exact absurd ⟨hbg, h1⟩ hc
          have hN := pay_next h.core 1
          have hst := pay_stack s 1
          have hus : (s.pay 1).used = s.used + 1 := by unfold pay; rw [hcan]; rfl
          have hev : (s.pay 1).ev = s.ev := by unfold pay; rw [hcan]; rfl
          obtain ⟨k1, k2, k3, k4, k5⟩ := did_ok (s0 := s.pay 1) hN.core (by rw [hst]; omega) (by rw [hst]; exact h.bods) (by rw [hst]; exact hs) hd hk (by rw [hev]; omega)
          refine ⟨k1, fun e => ?_⟩
          obtain ⟨f1, f2, f3, f4⟩ := did_far e
          have c2 := k2.used
          rw [k4, hN.fuel] at c2
          rw [hst] at k5
          unfold far
          rw [f1, f2, f3, f4, k4, hN.fuel, hbg]
          simp only [Bool.false_eq_true, if_false]
          omega
    · split
      · refine ⟨⟨⟨h.core.used, h.core.fuel, h.core.buf, h.core.told, h.core.needs, h.core.few, h.core.short⟩, ?_, fun y hy => h.bods y (by rw [hs]; exact List.mem_cons_of_mem _ hy)⟩, fun _ => ?_⟩
        · rw [hs, List.length_cons] at hroom
          show r.length + (if s.begun then 1 else 0) ≤ s.used + 1
          omega
        · unfold far
          rw [hs, List.length_cons]
          show 2 * (s.fuel - s.used) + r.length + (if s.begun then 2 else 0) < 2 * (s.fuel - s.used) + (r.length + 1) + (if s.begun then 2 else 0)
          omega
      · rename_i l ls hrd
        split
        · rename_i hcan
          have hN := pay_next h.core 1
          have hus : (s.pay 1).used = s.used + 1 := by unfold pay; rw [hcan]; rfl
          have c2 := hN.core.used
          rw [hN.fuel, hus] at c2
          refine ⟨⟨⟨hN.core.used, hN.core.fuel, hN.core.buf, hN.core.told, hN.core.needs, hN.core.few, hN.core.short⟩, ?_, fun y hy => ?_⟩, fun _ => ?_⟩
          · rw [hs, List.length_cons] at hroom
            show r.length + 1 + (if (s.pay 1).begun then 1 else 0) ≤ (s.pay 1).used + 1
            rw [hN.begun, hus]
            omega
          · rcases List.mem_cons.1 hy with rfl | hy
            · exact ⟨hbo.good, hbo.len, hbo.rounds l (by rw [hrd]; simp), fun y hy => hbo.rounds y (by rw [hrd]; exact List.mem_cons_of_mem _ hy), by have := hbo.few; rw [hrd, List.length_cons] at this; show ls.length ≤ _; omega, Nat.zero_le _⟩
            · exact h.bods y (by rw [hs]; exact List.mem_cons_of_mem _ hy)
          · unfold far
            rw [hs, List.length_cons]
            show 2 * ((s.pay 1).fuel - (s.pay 1).used) + (r.length + 1) + (if (s.pay 1).begun then 2 else 0) < 2 * (s.fuel - s.used) + (r.length + 1) + (if s.begun then 2 else 0)
            rw [hN.begun, hN.fuel, hus]
            omega
        · rename_i hcan
          have hcf : s.can 1 = false := by
            cases h1 : s.can 1 with
            | true => exact absurd h1 hcan
            | false => rfl
          obtain ⟨h1, h2⟩ := pay_no h hcf
          exact ⟨h1, fun e => absurd e h2⟩
end St
end Ip
end Go.Proofs.YtnobmgkdieaclaaGreatDoor
