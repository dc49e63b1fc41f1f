/-
  WHAT goOn DOES.
-/
import Derived.Test.YtnobmgkdieaclaaGreatDoorIpStmB
namespace Go.Proofs.YtnobmgkdieaclaaGreatDoor
open Go.RowKit

/-- 's[1:]' of a row that is never written -/
theorem SlP.tail {w : World} {P : Nat → Prop} {ad : Option Addr} {n c : Nat} {l : List UInt8} {ls : List (List UInt8)} (h : TxR.SlP w P (.slice ad n c) (l :: ls)) :
    ∃ g o A, ad = some ⟨g, o, none⟩ ∧ w.cell? ⟨g, o, none⟩ = some (.string (str l)) ∧ n = ls.length + 1 ∧ (∀ W : World, (Instr.slice 23 (.slice ad n c) (some (.int .i64 1)) none none).run Tryz.prog W = .ok (.slice A ls.length (c - 1)) W) ∧ TxR.SlP w P (.slice A ls.length (c - 1)) ls := by
  obtain ⟨ad', c', hv, hle, hn0, h⟩ := h
  simp only [Value.slice.injEq, List.length_cons] at hv hle
  obtain ⟨rfl, rfl, rfl⟩ := hv
  obtain ⟨g, o, rfl, hP, hc⟩ := h (by simp)
  refine ⟨g, o, if c = 1 then some ⟨g, o, none⟩ else some ⟨g, o + 1, none⟩, rfl, ?_, rfl, fun W => ?_, ?_⟩
  · exact hc 0 _ rfl
  · show (Instr.slice TxR.st _ (some (.int .i64 ((1 : Nat) : Int))) _ _).run Tryz.prog W = _
    rw [run_slice_l W TxR.st _ (ls.length + 1) c (by rw [TxR.elem_st]; exact TxR.under) .i64 ((1 : Nat) : Int) (by omega) (by omega), TxR.elem_st, TxR.size_e]
    have : 1 * TxR.k = 1 := rfl
    by_cases hc1 : c = 1
    · simp [Result.andThen, sliced, hc1]
    · simp [Result.andThen, sliced, hc1, addr_at, this]
  · refine ⟨_, c - 1, rfl, by omega, (fun h => by split at h <;> cases h), fun hne => ?_⟩
    have hl : 0 < ls.length := List.length_pos_iff.2 hne
    rw [if_neg (by omega)]
    refine ⟨g, o + 1, rfl, hP, fun j u hu => ?_⟩
    rw [Nat.add_assoc]
    refine hc (1 + j) u ?_
    rw [Nat.add_comm]
    exact hu
/-- a round more of the innermost body -/
theorem RunS.round {w : World} {O : List Nat} {x : RP} {s : Ip.St} {b : Ip.Bod} {r : List Ip.Bod} {l : List UInt8} {ls : List (List UInt8)} (h : RunS w O x s) (hs : s.stack = b :: r) (hr : b.rounds = l :: ls) :
    ∃ g ga oa rc A v1 v2, x.oa = some ⟨g, 0, none⟩ ∧ x.on = r.length + 1 ∧ r.length + 1 ≤ x.oc ∧ g ∈ x.own ∧ w.cell? ⟨g, r.length * 4 + 3, none⟩ = some (.slice (some ⟨ga, oa, none⟩) (ls.length + 1) rc) ∧ w.cell? ⟨ga, oa, none⟩ = some (.string (str l)) ∧ w.cell? ⟨g, r.length * 4 + 1, none⟩ = some v1 ∧ w.cell? ⟨g, r.length * 4 + 2, none⟩ = some v2 ∧ (∀ j, w.frozen? ⟨g, j, none⟩ = false) ∧ ga ≠ g ∧
      (∀ W : World, (Instr.slice 23 (.slice (some ⟨ga, oa, none⟩) (ls.length + 1) rc) (some (.int .i64 1)) none none).run Tryz.prog W = .ok (.slice A ls.length (rc - 1)) W) ∧
      RunS (((w.setCell ⟨g, r.length * 4 + 2, none⟩ (.string (str l))).setCell ⟨g, r.length * 4 + 3, none⟩ (.slice A ls.length (rc - 1))).setCell ⟨g, r.length * 4 + 1, none⟩ (.int .i64 0)) O x { s with stack := ⟨b.code, 0, l, ls⟩ :: r } := by
  obtain ⟨rs, o1, o2⟩ := h.op
  rw [hs, List.reverse_cons] at o2
  obtain ⟨qs, q, e, k1, k2⟩ := o2.last
  have hql := k1.len
  rw [List.length_reverse] at hql
  subst e
  obtain ⟨n1, n2, n3, n4⟩ := k2
  rw [hr] at n4
  unfold RawB.rounds at n4
  obtain ⟨ga, oa, A, ea, ca, en, hrun, hsl⟩ := SlP.tail n4
  obtain ⟨g, ca0, cc, ra, rc, e1, e2, e3, gown, c0, c1, c2, c3, -, -⟩ := h.top hs
  have hlen : qs.length < (qs ++ [q]).length := by simp
  have hel : (qs ++ [q])[qs.length]'hlen = q := by simp
  have key : ∀ f (W : World) (q1 q2 : RawB) (u : Value), f < 4 → BoR.Own W 7 x.ov (qs ++ [q1]) → BoR.enc q2 = (BoR.enc q1).set f u → BoR.Own (W.setCell ⟨g, r.length * 4 + f, none⟩ u) 7 x.ov (qs ++ [q2]) := by
    intro f W q1 q2 u hf hO henc
    obtain ⟨g2, cap2, e2', -, -, -, hset⟩ := hO.set qs.length f (by simp) hf
    simp only [RP.ov, Value.slice.injEq] at e2'
    have eg : g2 = g := by
      have := e1.symm.trans e2'.1
      simpa using this.symm
    subst eg
    have := hset q2 u (by rw [show (qs ++ [q1])[qs.length]'(by simp) = q1 by simp]; exact henc)
    rw [show (qs ++ [q1]).set qs.length q2 = qs ++ [q2] by simp] at this
    rw [← hql]
    exact this
  have hO1 := key 2 w q { q with line := l } (.string (str l)) (by decide) o1 rfl
  have hO2 := key 3 _ { q with line := l } { q with line := l, ra := A, rn := ls.length, rc := q.rc - 1 } (.slice A ls.length (q.rc - 1)) (by decide) hO1 rfl
  have hO3 := key 1 _ { q with line := l, ra := A, rn := ls.length, rc := q.rc - 1 } { q with line := l, ra := A, rn := ls.length, rc := q.rc - 1, next := 0 } (.int .i64 0) (by decide) hO2 rfl
  have hgf : ∀ j, w.frozen? ⟨g, j, none⟩ = false := by
    intro j
    rcases o1.2 with ⟨e0, -⟩ | ⟨g3, cap, cur, e4, -, h3, -⟩
    · simp only [RP.ov, Value.slice.injEq] at e0
      rw [e1] at e0; cases e0.1
    · simp only [RP.ov, Value.slice.injEq] at e4
      have eg : g3 = g := by
        have := e1.symm.trans e4.1
        simpa using this.symm
      subst eg
      exact frozen_of_row w g3 j cur _ h3
  have hTg : Turn [g] w (((w.setCell ⟨g, r.length * 4 + 2, none⟩ (.string (str l))).setCell ⟨g, r.length * 4 + 3, none⟩ (.slice A ls.length (q.rc - 1))).setCell ⟨g, r.length * 4 + 1, none⟩ (.int .i64 0)) := (((Turn.refl [g] w).set (fun _ => by simp) _).set (fun _ => by simp) _).set (fun _ => by simp) _
  have hcc3 : w.cell? ⟨g, r.length * 4 + 3, none⟩ = some (.slice (some ⟨ga, oa, none⟩) (ls.length + 1) q.rc) := by
    obtain ⟨g4, o4, c4, e4, -, hc4⟩ := o1.sl.cells qs.length (by simp)
    rw [hel] at hc4
    have := hc4 3 _ (by decide) rfl
    obtain ⟨g5, cap5, e5, -⟩ := o1.set qs.length 0 (by simp) (by decide)
    simp only [RP.ov, Value.slice.injEq] at e4 e5
    have eg : g4 = g ∧ o4 = 0 := by
      have h1 := e1.symm.trans e4.1
      simpa using h1.symm
    obtain ⟨rfl, rfl⟩ := eg
    rw [show 0 + (qs.length * BoR.k + 3) = r.length * 4 + 3 by show 0 + (qs.length * 4 + 3) = _; omega, ea, en] at this
    exact this
  rw [ea, en] at hrun
  have hgag : ga ≠ g := by
    intro e
    obtain ⟨ad', c', hv, -, -, hcl⟩ := n4
    simp only [Value.slice.injEq] at hv
    obtain ⟨b', o', ha', hPb, -⟩ := hcl (by simp)
    rw [← hv.1, ea] at ha'
    simp only [Option.some.injEq, Addr.mk.injEq] at ha'
    rw [← ha'.1, e] at hPb
    exact hPb.2 (h.sub _ gown)
  refine ⟨g, ga, oa, q.rc, A, _, _, e1, e2, e3, gown, hcc3, ca, c1, c2, hgf, hgag, hrun, ?_⟩
  refine h.bodies hTg (by unfold RP.ov; rw [e1]; rfl) hO3 ?_
  rw [List.reverse_cons]
  exact k1.app ⟨_, [], rfl, ⟨rfl, rfl, n3, hsl⟩, rfl⟩

set_option maxRecDepth 100000 in
theorem statement_n (w : World) (O : List Nat) (x : RP) (s : Ip.St) (h : RunS w O x s) (hf : s.Fine) (hb : s.begun = false) (hc : s.can 1 = false) :
    Calls Tryz.prog 82 #[.pointer (some ⟨x.p, 0, none⟩)] w fun e w' => e = .returned (.tuple #[]) ∧ Went w O x (s.pay 1) w' := by
  have hP := pay_any 1 w O x s h hf.used hf.fuel (by omega)
  rw [hc] at hP
  change Calls _ _ #[_, .int .i64 1] _ _ at hP
  have k4 := h.c4
  rw [hb] at k4
  clear h hf hb hc
  go_enter Tryz.func82, Tryz.ntmps82
  go_wp2_with (first | (go_at_call 83; refine hP.mono ?_; rintro e wp ⟨rfl, h1, h2⟩) | fail)
  refine bodyPost_ret (results_none rfl _ _ _) rfl ?_
  exact ⟨rfl, Went.same h1 h2.toOwn⟩
/-- a body that may be gone on with -/
structure Ip.Bod.Ok (b : Ip.Bod) : Prop where
  good : Ip.good b.code
  len : b.code.len ≤ 1000000
  line : b.line.length ≤ 256
  rounds : ∀ l ∈ b.rounds, l.length ≤ 256
  few : b.rounds.length ≤ 1000000
  next : b.next ≤ b.code.len
theorem statement_any (w : World) (O : List Nat) (x : RP) (s : Ip.St) (b : Ip.Bod) (r : List Ip.Bod) (h : RunS w O x s) (hf : s.Fine) (hL : Laid w) (hs : s.stack = b :: r) (hb : b.Ok) (hk : b.next < b.code.len) :
    Calls Tryz.prog 82 #[.pointer (some ⟨x.p, 0, none⟩)] w fun e w' => e = .returned (.tuple #[]) ∧ Went w O x (s.statement b r.length) w' := by
  obtain ⟨op, a, n, body, rest, hd⟩ := Ac.Fo.drop_lt hk
  unfold Ip.St.statement
  cases hbg : s.begun with
  | true =>
    rw [if_neg (by simp)]
    simp only [hd, if_true]
    exact statement_c w O x s s b r op a n body rest h hf hL hbg rfl hs hd hk hb.good hb.line hb.len
  | false =>
    cases hc : s.can 1 with
    | false =>
      rw [if_pos ⟨rfl, rfl⟩]
      exact statement_n w O x s h hf hbg hc
    | true =>
      rw [if_neg (by simp)]
      simp only [hd, Bool.false_eq_true, if_false]
      exact statement_b w O x s (s.pay 1) b r op a n body rest h (pay_fine hf 1 hc) hL hbg hf hc rfl (by rw [pay_stack]; exact hs) hd hk hb.good hb.line hb.len

theorem Went.undrew {w w' : World} {O : List Nat} {x : RP} {s' : Ip.St} {q : Nat} (h : Went (w.drewN q) O x s' w') : Went w O x s' w' := by
  obtain ⟨x', a1, a2, a3, a4⟩ := h
  exact ⟨x', a1, a2, a3, ⟨a4.os, a4.tape, a4.output, a4.size, a4.block⟩⟩
set_option maxRecDepth 100000 in
set_option maxHeartbeats 4000000 in
theorem goOn_any (w : World) (O : List Nat) (x : RP) (s : Ip.St) (h : RunS w O x s) (hf : s.Fine) (hL : Laid w) (hb : ∀ b ∈ s.stack, b.Ok) :
    Calls Tryz.prog 56 #[.pointer (some ⟨x.p, 0, none⟩)] w fun e w' => e = .returned (.tuple #[]) ∧ Went w O x s.goOn w' := by
  have k3 := h.c3
  cases hs : s.stack with
  | nil =>
    have e1 : s.goOn = s.finish := by unfold Ip.St.goOn; rw [hs]
    have hon : x.on = 0 := by
      obtain ⟨rs, o1, o2, o3⟩ := h.opened
      obtain ⟨ad, c, e, -⟩ := o1.sl.shape
      simp only [Value.slice.injEq] at e
      rw [hs] at o3
      simp at o3
      rw [e.2.1, o3]; rfl
    rw [e1]
    rw [hon] at k3
    have hE := end_any w O x s h hf.few hf.short
    clear e1 hon h hf hL hb hs
    go_enter Tryz.func56, Tryz.ntmps56
    go_wp2_with (first | (go_at_call 81; refine hE.mono ?_; rintro e w1 ⟨rfl, h1, h2⟩) | fail)
    refine bodyPost_ret (results_none rfl _ _ _) rfl ?_
    exact ⟨rfl, Went.same h1 h2.toOwn⟩
  | cons b r =>
    have hbo := hb b (by rw [hs]; simp)
    obtain ⟨g, ca, cc, ra, rc, e1, e2, e3, gown, c0, c1, c2, c3, -, -⟩ := h.top hs
    rw [e1, e2] at k3
    have hrl : r.length ≤ 1000000 := by have := hf.deep; rw [hs] at this; simp at this; omega
    have rb : (r.length : Int) ≤ 1000000 := by omega
    have rz : (0 : Int) ≤ (r.length : Int) := by omega
    have rl : (r.length : Int) < ((r.length + 1 : Nat) : Int) := by omega
    have wr : IntKind.i64.wrap (((r.length + 1 : Nat) : Int) - 1) = (r.length : Int) := by rw [IntKind.wrap_i64]; omega
    have hne : (((r.length + 1 : Nat) : Int) == 0) = false := by simp; omega
    by_cases hk : b.next < b.code.len
    · have eg : s.goOn = s.statement b r.length := by unfold Ip.St.goOn; rw [hs]; simp only [hk, if_true]
      rw [eg]
      have hS := fun q => statement_any (w.drewN q) O x s b r (h.drewN q) hf (hL.drewN q) hs hbo hk
      have i1 : (b.next : Int) < (b.code.len : Int) := by omega
      have d1 : decide ((b.next : Int) < (b.code.len : Int)) = true := decide_eq_true i1
      clear eg h hf hL hb hs hbo hrl
      generalize s.statement b r.length = R at *
      go_enter Tryz.func56, Tryz.ntmps56
      go_upto_region 2 with fail
      go_quiet (fail)
      go_upto_region 3 with fail
      go_quiet (fail)
      go_wp2_with (first | (go_at_call 82; refine (hS _).mono ?_; rintro e w1 ⟨rfl, h1⟩) | fail)
      go_end0
      exact ⟨rfl, h1.undrew⟩
    · have i1 : ¬ (b.next : Int) < (b.code.len : Int) := by omega
      have d1 : decide ((b.next : Int) < (b.code.len : Int)) = false := decide_eq_false i1
      cases hr : b.rounds with
      | nil =>
        have eg : s.goOn = { s with stack := r } := by unfold Ip.St.goOn; rw [hs]; simp only [hk, if_false, hr]
        rw [eg]
        rw [hr] at c3
        change _ = some (Value.slice ra 0 rc) at c3
        have hP : ∀ q, RunS ((w.drewN q).setCell ⟨x.p, 3, none⟩ (.slice (some ⟨g, 0, none⟩) r.length x.oc)) O (x.withO x.oa r.length x.oc) { s with stack := r } := by
          intro q
          have := ((h.drewN q).popped hs e2).1
          rw [e1] at this
          rw [e1]
          exact this
        have hTt : ∀ q, Turn [x.p] w ((w.drewN q).setCell ⟨x.p, 3, none⟩ (.slice (some ⟨g, 0, none⟩) r.length x.oc)) := fun q => ((Turn.refl _ w).drewN q).set (fun _ => by simp) _
        have hoe : ∀ y ∈ (x.withO x.oa r.length x.oc).own, y ∈ x.own := by
          intro y hy
          have : (x.withO x.oa r.length x.oc).own = x.own := by
            unfold RP.own RP.withO RP.ov RP.nv
            cases x.oa <;> rfl
          rwa [this] at hy
        have HF : Hid (∀ q, Went w O x { s with stack := r } ((w.drewN q).setCell ⟨x.p, 3, none⟩ (.slice (some ⟨g, 0, none⟩) r.length x.oc))) := fun q => ⟨x.withO x.oa r.length x.oc, rfl, (hP q).other (fun y hy _ => by
            rcases List.mem_append.1 hy with hy | hy
            · exact (hP q).sub y hy
            · exact hy) (fun y hy => List.mem_append_left _ hy) (fun y hy => by
            rcases List.mem_append.1 hy with hy | hy
            · exact (hP q).lt y hy
            · exact (hP q).lim y hy), fun y hy => .inl (hoe y hy), (hTt q).toOwn⟩
        have hfr := h.free 3
        have hsl := fun W => BoR.slice_head W (some ⟨g, 0, none⟩) (r.length + 1) x.oc r.length (by omega)
        clear eg h hf hL hb hs hbo hrl hr hP hTt hoe
        go_enter Tryz.func56, Tryz.ntmps56
        go_upto_region 2 with fail
        go_quiet (fail)
        go_upto_region 3 with fail
        go_quiet (fail)
        go_upto_region 6 with fail
        go_region
        all_goals (go_wp2; go_end0; exact ⟨rfl, HF.out _⟩)
      | cons l ls =>
        have hpay := fun q => pay_any 1 (w.drewN q) O x s (h.drewN q) hf.used hf.fuel (by omega)
        change ∀ q, Calls _ _ #[_, .int .i64 1] _ _ at hpay
        rw [hr] at c3
        have lz : (ls.length : Int) ≤ 1000000 := by have := hbo.few; rw [hr] at this; simp at this; omega
        change _ = some (Value.slice ra (ls.length + 1) rc) at c3
        have hn0 : (((ls.length + 1 : Nat) : Int) == 0) = false := by simp; omega
        cases hcn : s.can 1 with
        | false =>
          have eg : s.goOn = s.pay 1 := by unfold Ip.St.goOn; rw [hs]; simp only [hk, if_false, hr, hcn]; rfl
          rw [eg]
          rw [hcn] at hpay
          clear eg h hf hL hb hs hbo hrl hr hcn
          generalize s.pay 1 = R at *
          go_enter Tryz.func56, Tryz.ntmps56
          go_upto_region 2 with fail
          go_quiet (fail)
          go_upto_region 3 with fail
          go_quiet (fail)
          go_wp2_with (first | (go_at_call 83; refine (hpay _).mono ?_; rintro e w1 ⟨rfl, h1, h2⟩) | fail)
          go_end0
          exact ⟨rfl, (Went.same h1 h2.toOwn).undrew⟩
        | true =>
          have eg : s.goOn = { s.pay 1 with stack := ⟨b.code, 0, l, ls⟩ :: r } := by unfold Ip.St.goOn; rw [hs]; simp only [hk, if_false, hr, hcn, if_true]
          rw [eg]
          rw [hcn] at hpay
          have hps := pay_stack s 1
          rw [hs] at hps
          have hRd : ∀ W, RunS W O x (s.pay 1) → _ := fun W hW => hW.round hps hr
          have HE1 : Hid (x.oa = some ⟨g, 0, none⟩) := e1
          clear eg h hf hL hb hs hbo hrl hr hcn hps
          generalize s.pay 1 = s1 at *
          go_enter Tryz.func56, Tryz.ntmps56
          go_upto_region 2 with fail
          go_quiet (fail)
          go_upto_region 3 with fail
          go_quiet (fail)
          go_upto_region 8 with (first | (go_at_call 83; refine (hpay _).mono ?_; rintro e w1 ⟨rfl, h1, h2⟩) | fail)
          obtain ⟨g', ga, oa, rc', A, v1, v2, f1, f2, f3, f4, f5, f6, f7, f8, f9, f10, f11, f12⟩ := hRd w1 h1
          have eg' : g' = g := by
            have := HE1.out.symm.trans f1
            simpa using this.symm
          subst eg'
          have HF : Hid (Went w O x { s1 with stack := ⟨b.code, 0, l, ls⟩ :: r } ((((w1.setCell ⟨g', r.length * 4 + 2, none⟩ (.string (str l))).setCell ⟨g', r.length * 4 + 3, none⟩ (.slice A ls.length (rc' - 1))).drew).setCell ⟨g', r.length * 4 + 1, none⟩ (.int .i64 0))) := by
            have f12' : RunS ((((w1.setCell ⟨g', r.length * 4 + 2, none⟩ (.string (str l))).setCell ⟨g', r.length * 4 + 3, none⟩ (.slice A ls.length (rc' - 1))).drew).setCell ⟨g', r.length * 4 + 1, none⟩ (.int .i64 0)) O x { s1 with stack := ⟨b.code, 0, l, ls⟩ :: r } := f12.drewN 1
            exact (Went.same f12' (((((h2.toOwn).set (fun _ => f4) _).set (fun _ => f4) _).drew).set (fun _ => f4) _)).undrew
          have f5d : w1.drew.cell? ⟨g', r.length * 4 + 3, none⟩ = some (.slice (some ⟨ga, oa, none⟩) (ls.length + 1) rc') := f5
          have f6d : w1.drew.cell? ⟨ga, oa, none⟩ = some (.string (str l)) := f6
          clear hRd hpay h1 h2 f12
          generalize str l = SL at *
          go_region
          all_goals (go_wp2; go_end0; exact ⟨rfl, HF.out⟩)

end Go.Proofs.YtnobmgkdieaclaaGreatDoor
