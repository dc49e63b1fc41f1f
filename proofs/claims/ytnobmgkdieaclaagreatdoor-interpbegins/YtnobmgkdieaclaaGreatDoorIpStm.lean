/-
  WHAT statement DOES.
-/
import Derived.Test.YtnobmgkdieaclaaGreatDoorIpDoAll
namespace Go.Proofs.YtnobmgkdieaclaaGreatDoor
open Go.RowKit

theorem act_stack (s : Ip.St) (op : Int) (a : List Ip.B) (n : Nat) (body : Ac.Fo) (line : Ip.B) : (s.act op a n body line).stack = s.stack ∨ ∃ b, (s.act op a n body line).stack = b :: s.stack := by
  have hfail : ∀ (t : Ip.St) y z, (t.fail y z).stack = t.stack := fun _ _ _ => rfl
  have hpay : ∀ (t : Ip.St) k, (t.pay k).stack = t.stack := by intro t k; unfold Ip.St.pay; split <;> rfl
  have hput : ∀ (t : Ip.St) y, (t.put y).stack = t.stack := by
    intro t y
    have hm : ∀ k, (t.mayPut k).stack = t.stack := by intro k; unfold Ip.St.mayPut; split; exact hpay _ _; rfl
    unfold Ip.St.put
    split
    · exact hm _
    · exact hm _
  have hask : ∀ (t : Ip.St) y z, (t.ask y z).stack = t.stack := by
    intro t y z
    unfold Ip.St.ask
    split
    · rfl
    · split
      · rfl
      · split <;> rfl
  have hlay : ∀ (t : Ip.St) y, (t.lay y).stack = t.stack := by intro t y; unfold Ip.St.lay; split <;> rfl
  have hwr : ∀ (t : Ip.St) y, (t.write y).stack = t.stack := by intro t y; unfold Ip.St.write; split <;> rfl
  obtain ⟨t, ht⟩ : ∃ t, s.act op a n body line = t := ⟨_, rfl⟩
  rw [ht]
  unfold Ip.St.act at ht
  repeat' split at ht
  all_goals subst ht
  all_goals first
    | (rw [hask]; exact .inl rfl)
    | (rw [hput]; exact .inl rfl)
    | (rw [hlay]; exact .inl rfl)
    | (rw [hwr]; exact .inl rfl)
    | (rw [hfail]; exact .inl rfl)
    | exact .inr ⟨_, rfl⟩
    | exact .inl rfl
theorem FoRowP.len {w : World} {P : Nat → Prop} : ∀ {f : Ac.Fo} {rs : List RawS}, FoRowP w P f rs → rs.length = f.len
  | .nil, _, h => by rw [show _ = ([] : List RawS) from h]; rfl
  | .cons _ _ _ _ t, _, ⟨r, rs', h1, _, _, _, _, h7⟩ => by rw [h1, List.length_cons, FoRowP.len h7]; rfl
theorem FoRowP.at {w : World} {P : Nat → Prop} : ∀ {f : Ac.Fo} {rs : List RawS} (_ : FoRowP w P f rs) {k : Nat} {o : Int} {a : List (List UInt8)} {n : Int} {b r : Ac.Fo} (_ : f.drop k = .cons o a n b r) (hk : k < rs.length), rs[k].op = o ∧ rs[k].n = n ∧ TxR.SlP w P rs[k].args a ∧ FoP w P rs[k].body b
  | .nil, _, _, k, _, _, _, _, _, e, _ => by rw [Ac.Fo.drop_nil] at e; cases e
  | .cons _ _ _ _ t, _, ⟨r, rs', h1, h2, h3, h4, h5, h7⟩, 0, _, _, _, _, _, e, hk => by
    simp only [Ac.Fo.drop, Ac.Fo.cons.injEq] at e
    obtain ⟨rfl, rfl, rfl, rfl, rfl⟩ := e
    subst h1
    exact ⟨h2, h3, h4, h5⟩
  | .cons _ _ _ _ t, _, ⟨r, rs', h1, h2, h3, h4, h5, h7⟩, k + 1, _, _, _, _, _, e, hk => by
    subst h1
    exact FoRowP.at h7 (k := k) e (by simpa using hk)
theorem FoP.at {w : World} {P : Nat → Prop} {v : Value} {f : Ac.Fo} (h : FoP w P v f) {k : Nat} {op : Int} {a : List (List UInt8)} {n : Int} {b r : Ac.Fo} (e : f.drop k = .cons op a n b r) (hk : k < f.len) :
    ∃ g o c aa ac ba bc, v = .slice (some ⟨g, o, none⟩) f.len c ∧ P g ∧ w.cell? ⟨g, o + k * 4, none⟩ = some (.int .i64 op) ∧ w.cell? ⟨g, o + k * 4 + 1, none⟩ = some (.slice aa a.length ac) ∧ w.cell? ⟨g, o + k * 4 + 2, none⟩ = some (.int .i64 n) ∧ w.cell? ⟨g, o + k * 4 + 3, none⟩ = some (.slice ba b.len bc) ∧
      TxR.SlP w P (.slice aa a.length ac) a ∧ FoP w P (.slice ba b.len bc) b := by
  obtain ⟨rs, h1, h2⟩ := h
  have hl := h2.len
  have hk' : k < rs.length := by omega
  obtain ⟨ad, c, rfl, hle, hn, h1⟩ := h1
  obtain ⟨g, o, rfl, hP, hc⟩ := h1 (by rintro rfl; simp at hk')
  obtain ⟨q1, q2, q3, q4⟩ := h2.at e hk'
  have hcell : ∀ j u, j < 4 → (SmR.enc rs[k])[j]? = some u → w.cell? ⟨g, o + k * 4 + j, none⟩ = some u := by
    intro j u hj hu
    have := hc (k * 4 + j) u ((SmR.vals_get rs k j hk' hj).trans hu)
    rwa [← Nat.add_assoc] at this
  have c0 := hcell 0 _ (by decide) rfl
  have c1 := hcell 1 _ (by decide) rfl
  have c2 := hcell 2 _ (by decide) rfl
  have c3 := hcell 3 _ (by decide) rfl
  have ea : rs[k].an = a.length := by
    obtain ⟨ad', c', e', -⟩ := q3
    simp only [RawS.args, Value.slice.injEq] at e'
    exact e'.2.1
  have eb : rs[k].bn = b.len := by
    obtain ⟨rs2, ⟨ad', c', e', -⟩, hr2⟩ := q4
    simp only [RawS.body, Value.slice.injEq] at e'
    rw [e'.2.1, hr2.len]
  unfold RawS.args at q3
  unfold RawS.body at q4
  rw [ea] at c1 q3
  rw [eb] at c3 q4
  rw [q1] at c0
  rw [q2] at c2
  exact ⟨g, o, c, _, _, _, _, by rw [hl], hP, c0, c1, c2, c3, q3, q4⟩
/-- the last body of the row, its cells, and the statement that is to be done -/
theorem RunS.top {w : World} {O : List Nat} {x : RP} {s : Ip.St} {b : Ip.Bod} {r : List Ip.Bod} (h : RunS w O x s) (hs : s.stack = b :: r) :
    ∃ g ca cc ra rc, x.oa = some ⟨g, 0, none⟩ ∧ x.on = r.length + 1 ∧ r.length + 1 ≤ x.oc ∧ g ∈ x.own ∧ w.cell? ⟨g, r.length * 4, none⟩ = some (.slice ca b.code.len cc) ∧ w.cell? ⟨g, r.length * 4 + 1, none⟩ = some (.int .i64 (b.next : Int)) ∧ w.cell? ⟨g, r.length * 4 + 2, none⟩ = some (.string (str b.line)) ∧ w.cell? ⟨g, r.length * 4 + 3, none⟩ = some (.slice ra b.rounds.length rc) ∧
      FoP w (fun b => b < w.heap.size ∧ b ∉ O) (.slice ca b.code.len cc) b.code ∧ TxR.SlP w (fun b => b < w.heap.size ∧ b ∉ O) (.slice ra b.rounds.length rc) b.rounds := by
  obtain ⟨rs, o1, o2⟩ := h.op
  rw [hs, List.reverse_cons] at o2
  obtain ⟨qs, q, e, k1, k2⟩ := o2.last
  have hql := k1.len
  rw [List.length_reverse] at hql
  subst e
  obtain ⟨n1, n2, n3, n4⟩ := k2
  obtain ⟨g, o, c, e, hg, hc⟩ := o1.sl.cells qs.length (by simp)
  obtain ⟨g2, cap2, e2, -⟩ := o1.set qs.length 0 (by simp) (by decide)
  simp only [RP.ov, Value.slice.injEq, List.length_append, List.length_singleton] at e e2
  have e3 : g = g2 ∧ o = 0 := by
    have := e.1.symm.trans e2.1
    simpa using this
  obtain ⟨rfl, rfl⟩ := e3
  have hel : (qs ++ [q])[qs.length]'(by simp) = q := by simp
  rw [hel] at hc
  have c0 := hc 0 _ (by decide) rfl
  have c1 := hc 1 _ (by decide) rfl
  have c2 := hc 2 _ (by decide) rfl
  have c3 := hc 3 _ (by decide) rfl
  have hcn : q.cn = b.code.len := by
    obtain ⟨ad, c', e', -⟩ := (n3.foS (B := w.heap.size) (fun b hb => hb.1)).shape
    simp only [RawB.code, Value.slice.injEq] at e'
    exact e'.2.1
  have hrn : q.rn = b.rounds.length := by
    obtain ⟨ad, c', e', -⟩ := n4
    simp only [RawB.rounds, Value.slice.injEq] at e'
    exact e'.2.1
  have hle : (qs ++ [q]).length ≤ x.oc := by
    obtain ⟨ad, c', esh, hle⟩ := o1.sl.shape
    simp only [RP.ov, Value.slice.injEq] at esh
    omega
  rw [List.length_append, List.length_singleton] at hle
  have a0 : 0 + (qs.length * BoR.k + 0) = r.length * 4 := by show 0 + (qs.length * 4 + 0) = _; omega
  have a1 : 0 + (qs.length * BoR.k + 1) = r.length * 4 + 1 := by show 0 + (qs.length * 4 + 1) = _; omega
  have a2 : 0 + (qs.length * BoR.k + 2) = r.length * 4 + 2 := by show 0 + (qs.length * 4 + 2) = _; omega
  have a3 : 0 + (qs.length * BoR.k + 3) = r.length * 4 + 3 := by show 0 + (qs.length * 4 + 3) = _; omega
  rw [a0, hcn] at c0
  rw [a1, n1] at c1
  rw [a2, n2] at c2
  rw [a3, hrn] at c3
  unfold RawB.code at n3
  unfold RawB.rounds at n4
  rw [hcn] at n3
  rw [hrn] at n4
  exact ⟨g, q.ca, q.cc, q.ra, q.rc, e.1, by omega, by omega, RP.ov_own (by unfold RP.ov; rw [e.1]; rfl), c0, c1, c2, c3, n3, n4⟩


theorem pay_stack (s : Ip.St) (k : Nat) : (s.pay k).stack = s.stack := by unfold Ip.St.pay; split <;> rfl
theorem pay_fine {s : Ip.St} (hf : s.Fine) (k : Nat) (hc : s.can k = true) : (s.pay k).Fine := by
  have hc2 := hc
  unfold Ip.St.can at hc2
  rw [decide_eq_true_eq] at hc2
  unfold Ip.St.pay
  rw [if_pos hc]
  have := hf.used
  exact ⟨by show s.used + k ≤ s.fuel; omega, hf.fuel, hf.buf, hf.told, hf.needs, hf.few, hf.short, hf.deep⟩
/-- what comes behind the pay: the statement, and the place to go on from -/
theorem Ip.did_yes (t : Ip.St) (d : Nat) (h : t.ev.kind = 1) : t.did d = { t with begun := true } := by unfold Ip.St.did; rw [if_pos h]
theorem Ip.did_no (t : Ip.St) (d : Nat) (h : t.ev.kind ≠ 1) : t.did d = { t.nextAt d with begun := false } := by unfold Ip.St.did; rw [if_neg h]

set_option maxRecDepth 100000 in
set_option maxHeartbeats 4000000 in
theorem statement_c (w : World) (O : List Nat) (x : RP) (s s1 : Ip.St) (b : Ip.Bod) (r : List Ip.Bod) (op : Int) (a : List Ip.B) (n : Int) (body rest : Ac.Fo) (h : RunS w O x s) (hf1 : s1.Fine) (hL : Laid w) (hb : s.begun = true) (heq : s1 = s) (hs : s1.stack = b :: r) (hd : b.code.drop b.next = .cons op a n body rest) (hk : b.next < b.code.len) (hg : Ip.good b.code) (hl : b.line.length ≤ 256) (hcl : b.code.len ≤ 1000000) :
    Calls Tryz.prog 82 #[.pointer (some ⟨x.p, 0, none⟩)] w fun e w' => e = .returned (.tuple #[]) ∧ Went w O x ((s1.act op a n.toNat body b.line).did r.length) w' := by
  have hs0 : s1 = s := heq
  subst hs0
  obtain ⟨hok, hsl, hbl, -⟩ := Ip.good_at hg hd
  have hst := act_stack s1 op a n.toNat body b.line
  have hrl : r.length ≤ 1000000 := by have := hf1.deep; rw [hs] at this; simp at this; omega
  have rb : (r.length : Int) ≤ 1000000 := by omega
  have nb : (b.next : Int) < (b.code.len : Int) := by omega
  have cb : (b.code.len : Int) ≤ 1000000 := by omega
  have hD := fun (W : World) aa ac ba bc hW hLW ha hb' => do_any op a n body b.line aa a.length ac ba body.len bc W O x s1 hW hf1 hLW ha hb' hok hsl hl hbl
  have hAt : (s1.act op a n.toNat body b.line).stack.reverse[r.length]? = some b ∧ r.length < (s1.act op a n.toNat body b.line).stack.length := by
    rcases hst with e | ⟨c, e⟩
    · rw [e, hs]; simp
    · rw [e, hs]; simp; omega
  have k4 := h.c4
  rw [hb] at k4
  generalize s1.act op a n.toNat body b.line = s2 at *
  clear hst
  go_enter Tryz.func82, Tryz.ntmps82
  go_upto_region 1 with fail
  have hW := h
  have hTW : Turn [x.p] w w := Turn.refl _ _
  obtain ⟨g, ca, cc, ra, rc, e1, e2, e3, gown, c0, c1, c2, c3, fo, -⟩ := hW.top hs
  obtain ⟨gc, oc, cc', aa, ac, ba, bc, ev, hPg, p0, p1, p2, p3, hta, hfb⟩ := fo.at hd hk
  simp only [Value.slice.injEq] at ev
  obtain ⟨rfl, -, rfl⟩ := ev
  have q3 := hW.c3
  rw [e1, e2] at q3
  have rl : (r.length : Int) < ((r.length + 1 : Nat) : Int) := by omega
  have rz : (0 : Int) ≤ (r.length : Int) := by omega
  have wr : IntKind.i64.wrap (((r.length + 1 : Nat) : Int) - 1) = (r.length : Int) := by rw [IntKind.wrap_i64]; omega
  go_upto_region 3 with fail
  have hBV : Below w.heap.size w (w.alloc (.cells #[.slice (some ⟨gc, oc, none⟩) b.code.len cc, .int .i64 (b.next : Int), .string (str b.line), .slice ra b.rounds.length rc] 86)) := (Below.refl _ w).alloc (Nat.le_refl _) _
  have hRV := Rw.new w #[.slice (some ⟨gc, oc, none⟩) b.code.len cc, .int .i64 (b.next : Int), .string (str b.line), .slice ra b.rounds.length rc] 86
  generalize w.alloc (.cells #[.slice (some ⟨gc, oc, none⟩) b.code.len cc, .int .i64 (b.next : Int), .string (str b.line), .slice ra b.rounds.length rc] 86) = V at hBV hRV ⊢
  have hVs := hW.below hBV
  have hLV : Laid V := (hL.turn hTW (fun y hy => by simp at hy; rw [hy]; exact h.low _ x.p_own)).below hBV (Nat.le_trans hL.size hTW.size)
  have hkV : ∀ d, d < w.heap.size ∧ d ∉ O → V.heap[d]? = w.heap[d]? := fun d hd => hBV.block d hd.1
  have hPV : ∀ d, d < w.heap.size ∧ d ∉ O → d < V.heap.size ∧ d ∉ O := fun d hd => ⟨Nat.lt_of_lt_of_le hd.1 hBV.size, hd.2⟩
  have hDV := hD V.drew aa ac ba bc (hVs.drewN 1) (hLV.drewN 1) (hta.keep (w' := V.drew) hkV hPV) (hfb.keep (w' := V.drew) hkV hPV)
  have v0 : V.drew.cell? ⟨w.heap.size, 0, none⟩ = some (.slice (some ⟨gc, oc, none⟩) b.code.len cc) := hRV.cell 0
  have v1 : V.drew.cell? ⟨w.heap.size, 1, none⟩ = some (.int .i64 (b.next : Int)) := hRV.cell 1
  have v2 : V.drew.cell? ⟨w.heap.size, 2, none⟩ = some (.string (str b.line)) := hRV.cell 2
  have w0 : V.drew.cell? ⟨gc, oc + b.next * 4, none⟩ = some (.int .i64 op) := (hBV.cell (World.block_lt_of_cell? _ _ p0)).trans p0
  have w1 : V.drew.cell? ⟨gc, oc + b.next * 4 + 1, none⟩ = some (.slice aa a.length ac) := (hBV.cell (World.block_lt_of_cell? _ _ p1)).trans p1
  have w2 : V.drew.cell? ⟨gc, oc + b.next * 4 + 2, none⟩ = some (.int .i64 n) := (hBV.cell (World.block_lt_of_cell? _ _ p2)).trans p2
  have w3 : V.drew.cell? ⟨gc, oc + b.next * 4 + 3, none⟩ = some (.slice ba body.len bc) := (hBV.cell (World.block_lt_of_cell? _ _ p3)).trans p3
  have hgl : ∀ y ∈ x.own, y < w.heap.size := hW.lt
  have hgO : ∀ y ∈ x.own, y ∈ O := hW.sub
  have hSk : ∀ X : World, Went V.drew O x s2 X → X.cell? ⟨w.heap.size, 0, none⟩ = some (.slice (some ⟨gc, oc, none⟩) b.code.len cc) ∧ X.cell? ⟨w.heap.size, 1, none⟩ = some (.int .i64 (b.next : Int)) ∧ X.cell? ⟨w.heap.size, 2, none⟩ = some (.string (str b.line)) ∧ X.cell? ⟨gc, oc + b.next * 4, none⟩ = some (.int .i64 op) ∧ X.cell? ⟨gc, oc + b.next * 4 + 1, none⟩ = some (.slice aa a.length ac) ∧ X.cell? ⟨gc, oc + b.next * 4 + 2, none⟩ = some (.int .i64 n) ∧ X.cell? ⟨gc, oc + b.next * 4 + 3, none⟩ = some (.slice ba body.len bc) := by
    rintro X ⟨x', -, -, -, t⟩
    have kb : ∀ (y : Addr) u, y.block = w.heap.size → V.drew.cell? y = some u → X.cell? y = some u := fun y u hy hu => (t.cell (World.block_lt_of_cell? _ _ hu) (fun hx => by have := hgl _ hx; omega)).trans hu
    have kc : ∀ (y : Addr) u, y.block = gc → V.drew.cell? y = some u → X.cell? y = some u := fun y u hy hu => (t.cell (World.block_lt_of_cell? _ _ hu) (fun hx => hPg.2 (hy ▸ hgO _ hx))).trans hu
    exact ⟨kb _ _ rfl v0, kb _ _ rfl v1, kb _ _ rfl v2, kc _ _ rfl w0, kc _ _ rfl w1, kc _ _ rfl w2, kc _ _ rfl w3⟩
  have hS0 := And.intro v0 (And.intro v1 (And.intro v2 (And.intro w0 (And.intro w1 (And.intro w2 w3)))))
  have HVW : Hid (∀ s3 X, Went V.drew O x s3 X → Went w O x s3 X) := by
    show ∀ s3 X, _
    intro s3 X hX
    refine Went.step (x1 := x) rfl (fun y hy => .inl hy) hTW.toOwn ?_
    obtain ⟨x', a1, a2, a3, a4⟩ := hX
    have a4' : Turn x.own V X := ⟨a4.os, a4.tape, a4.output, a4.size, a4.block⟩
    refine Went.ofBelow hBV ⟨x', a1, a2.other (fun y hy _ => ?_) (fun y hy => List.mem_append_left _ hy) (fun y hy => ?_), a3, a4'⟩
    · rcases List.mem_append.1 hy with hy | hy
      · exact List.mem_append_left _ hy
      · rcases List.mem_append.1 hy with hy | hy
        · exact List.mem_append_right _ (hgO y hy)
        · exact List.mem_append_right _ hy
    · rcases List.mem_append.1 hy with hy | hy
      · exact a2.lt y hy
      · rcases List.mem_append.1 hy with hy | hy
        · exact a2.lim y (List.mem_append_right _ (hgO y hy))
        · exact a2.lim y (List.mem_append_right _ hy)
  have hb0 : (0 : Int) ≤ (b.next : Int) := by omega
  have HBN : Hid (b.next < b.code.len) := hk
  clear hD hta hfb fo hkV hPV hRV hW hVs hLV hgl hgO p0 p1 p2 p3 c0 c1 c2 c3 q3 k4 hBV hs hd hsl hok hL hTW hf1 h hg hk v0 v1 v2 w0 w1 w2 w3
  generalize str b.line = SL at *
  go_region_held3 (fun X : World => X.cell? ⟨w.heap.size, 0, none⟩ = some (.slice (some ⟨gc, oc, none⟩) b.code.len cc) ∧ X.cell? ⟨w.heap.size, 1, none⟩ = some (.int .i64 (b.next : Int)) ∧ X.cell? ⟨w.heap.size, 2, none⟩ = some (.string SL) ∧ X.cell? ⟨gc, oc + b.next * 4, none⟩ = some (.int .i64 op) ∧ X.cell? ⟨gc, oc + b.next * 4 + 1, none⟩ = some (.slice aa a.length ac) ∧ X.cell? ⟨gc, oc + b.next * 4 + 2, none⟩ = some (.int .i64 n) ∧ X.cell? ⟨gc, oc + b.next * 4 + 3, none⟩ = some (.slice ba body.len bc)) (first | with_reducible exact hS0 | assumption | fail) (first | (go_at_call 93; refine hDV.mono ?_; rintro e wd ⟨rfl, hwd⟩; have hSd := hSk wd hwd) | fail)
  obtain ⟨x2, y1, y2, y3, y4⟩ := hwd
  have k9 := y2.c9
  have k4 := y2.c4
  have kf := y2.free 4
  rw [y1] at k9 k4 kf
  by_cases hkd : s2.ev.kind = 1
  · have b1 : ((s2.ev.kind : Int) == 1) = true := by rw [hkd]; rfl
    have hB := y2.setBegun true
    rw [y1] at hB
    have HF : Hid (Went w O x (s2.did r.length) (wd.setCell ⟨x.p, 4, none⟩ (.bool true))) := by
      rw [Ip.did_yes _ _ hkd]
      refine HVW.out _ _ ⟨x2, y1, hB, y3, y4.set (fun _ => x.p_own) _⟩
    clear hSk hS0 hSd hDV y2 y3 y4 hB HVW hAt hkd
    go_wp2
    go_end0
    exact ⟨rfl, HF.out⟩
  · have b1 : ((s2.ev.kind : Int) == 1) = false := by simp; omega
    have hB := y2.setBegun false
    rw [y1] at hB
    obtain ⟨g2, kk, z1, z2, z3, z4, z5, ⟨b2, z6, z7⟩, z8, z9⟩ := hB.next (d := r.length) hAt.2
    have hb2 : b2 = b := by
      have := hAt.1
      change s2.stack.reverse[r.length]? = some b2 at z6
      rw [this] at z6
      exact (Option.some.inj z6).symm
    have hkb : (kk : Int) ≤ 1000000 := by rw [z7, hb2]; have := HBN.out; omega
    have k3 := hB.c3
    rw [z1, z2, y1] at k3
    have HF : Hid (Went w O x (s2.did r.length) ((wd.setCell ⟨x.p, 4, none⟩ (.bool false)).setCell ⟨g2, r.length * 4 + 1, none⟩ (.int .i64 ((kk : Int) + 1)))) := by
      rw [Ip.did_no _ _ hkd]
      have e9 : ((kk + 1 : Nat) : Int) = (kk : Int) + 1 := by omega
      rw [e9] at z8
      refine HVW.out _ _ ⟨x2, y1, z8, y3, (y4.set (fun _ => x.p_own) _).set (fun hlt => ?_) _⟩
      rcases y3 g2 z9 with hy | hy
      · exact hy
      · exact absurd hlt (by show ¬ g2 < _; omega)
    have sl : (r.length : Int) < (s2.stack.length : Int) := by have := hAt.2; omega
    clear hSk hS0 hSd hDV y2 y3 y4 hB HVW hAt hkd z2 z3 z6 z7 z8 z9 hb2 HBN
    change (wd.setCell ⟨x.p, 4, none⟩ (.bool false)).cell? ⟨x.p, 3, none⟩ = some (.slice (some ⟨g2, 0, none⟩) s2.stack.length x2.oc) at k3
    go_wp2
    go_end0
    exact ⟨rfl, HF.out⟩

end Go.Proofs.YtnobmgkdieaclaaGreatDoor
