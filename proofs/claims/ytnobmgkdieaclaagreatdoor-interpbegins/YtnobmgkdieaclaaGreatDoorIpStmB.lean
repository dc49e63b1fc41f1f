/-
  WHAT statement DOES where it is to be paid.
-/
import Derived.Test.YtnobmgkdieaclaaGreatDoorIpStm
namespace Go.Proofs.YtnobmgkdieaclaaGreatDoor
open Go.RowKit

set_option maxRecDepth 100000 in
set_option maxHeartbeats 4000000 in
theorem statement_b (w : World) (O : List Nat) (x : RP) (s s1 : Ip.St) (b : Ip.Bod) (r : List Ip.Bod) (op : Int) (a : List Ip.B) (n : Int) (body rest : Ac.Fo) (h : RunS w O x s) (hf1 : s1.Fine) (hL : Laid w) (hb : s.begun = false) (hfs : s.Fine) (hcan : s.can 1 = true) (heq : s1 = s.pay 1) (hs : s1.stack = b :: r) (hd : b.code.drop b.next = .cons op a n body rest) (hk : b.next < b.code.len) (hg : Ip.good b.code) (hl : b.line.length ≤ 256) (hcl : b.code.len ≤ 1000000) :
    Calls Tryz.prog 82 #[.pointer (some ⟨x.p, 0, none⟩)] w fun e w' => e = .returned (.tuple #[]) ∧ Went w O x ((s1.act op a n.toNat body b.line).did r.length) w' := by
  have hs0 : s1 = s.pay 1 := heq
  have hP := pay_any 1 w O x s h hfs.used hfs.fuel (by omega)
  rw [hcan, ← hs0] at hP
  change Calls _ _ #[_, .int .i64 1] _ _ at hP
  clear hs0
  obtain ⟨hok, hsl, hbl, -⟩ := Ip.good_at hg hd
  have hst := act_stack s1 op a n.toNat body b.line
  have hrl : r.length ≤ 1000000 := by have := hf1.deep; rw [hs] at this; simp at this; omega
  have rb : (r.length : Int) ≤ 1000000 := by omega
  have nb : (b.next : Int) < (b.code.len : Int) := by omega
  have cb : (b.code.len : Int) ≤ 1000000 := by omega
  have hD := fun (W : World) aa ac ba bc hW hLW ha hb' => do_any op a n body b.line aa a.length ac ba body.len bc W O x s1 hW hf1 hLW ha hb' hok hsl hl hbl
  have hAt : (s1.act op a n.toNat body b.line).stack.reverse[r.length]? = some b ∧ r.length < (s1.act op a n.toNat body b.line).stack.length := by
    rcases hst with e | ⟨c, e⟩
    · rw [e, hs]; simp
    · rw [e, hs]; simp; omega
  have k4 := h.c4
  rw [hb] at k4
  generalize s1.act op a n.toNat body b.line = s2 at *
  clear hst
  go_enter Tryz.func82, Tryz.ntmps82
  go_upto_region 1 with (first | (go_at_call 83; refine hP.mono ?_; rintro e wp ⟨rfl, hW, hTW⟩) | fail)
  obtain ⟨g, ca, cc, ra, rc, e1, e2, e3, gown, c0, c1, c2, c3, fo, -⟩ := hW.top hs
  obtain ⟨gc, oc, cc', aa, ac, ba, bc, ev, hPg, p0, p1, p2, p3, hta, hfb⟩ := fo.at hd hk
  simp only [Value.slice.injEq] at ev
  obtain ⟨rfl, -, rfl⟩ := ev
  have q3 := hW.c3
  rw [e1, e2] at q3
  have rl : (r.length : Int) < ((r.length + 1 : Nat) : Int) := by omega
  have rz : (0 : Int) ≤ (r.length : Int) := by omega
  have wr : IntKind.i64.wrap (((r.length + 1 : Nat) : Int) - 1) = (r.length : Int) := by rw [IntKind.wrap_i64]; omega
  go_upto_region 3 with fail
  have hBV : Below wp.heap.size wp (wp.alloc (.cells #[.slice (some ⟨gc, oc, none⟩) b.code.len cc, .int .i64 (b.next : Int), .string (str b.line), .slice ra b.rounds.length rc] 86)) := (Below.refl _ wp).alloc (Nat.le_refl _) _
  have hRV := Rw.new wp #[.slice (some ⟨gc, oc, none⟩) b.code.len cc, .int .i64 (b.next : Int), .string (str b.line), .slice ra b.rounds.length rc] 86
  generalize wp.alloc (.cells #[.slice (some ⟨gc, oc, none⟩) b.code.len cc, .int .i64 (b.next : Int), .string (str b.line), .slice ra b.rounds.length rc] 86) = V at hBV hRV ⊢
  have hVs := hW.below hBV
  have hLV : Laid V := (hL.turn hTW (fun y hy => by simp at hy; rw [hy]; exact h.low _ x.p_own)).below hBV (Nat.le_trans hL.size hTW.size)
  have hkV : ∀ d, d < wp.heap.size ∧ d ∉ O → V.heap[d]? = wp.heap[d]? := fun d hd => hBV.block d hd.1
  have hPV : ∀ d, d < wp.heap.size ∧ d ∉ O → d < V.heap.size ∧ d ∉ O := fun d hd => ⟨Nat.lt_of_lt_of_le hd.1 hBV.size, hd.2⟩
  have hDV := hD V.drew aa ac ba bc (hVs.drewN 1) (hLV.drewN 1) (hta.keep (w' := V.drew) hkV hPV) (hfb.keep (w' := V.drew) hkV hPV)
  have v0 : V.drew.cell? ⟨wp.heap.size, 0, none⟩ = some (.slice (some ⟨gc, oc, none⟩) b.code.len cc) := hRV.cell 0
  have v1 : V.drew.cell? ⟨wp.heap.size, 1, none⟩ = some (.int .i64 (b.next : Int)) := hRV.cell 1
  have v2 : V.drew.cell? ⟨wp.heap.size, 2, none⟩ = some (.string (str b.line)) := hRV.cell 2
  have w0 : V.drew.cell? ⟨gc, oc + b.next * 4, none⟩ = some (.int .i64 op) := (hBV.cell (World.block_lt_of_cell? _ _ p0)).trans p0
  have w1 : V.drew.cell? ⟨gc, oc + b.next * 4 + 1, none⟩ = some (.slice aa a.length ac) := (hBV.cell (World.block_lt_of_cell? _ _ p1)).trans p1
  have w2 : V.drew.cell? ⟨gc, oc + b.next * 4 + 2, none⟩ = some (.int .i64 n) := (hBV.cell (World.block_lt_of_cell? _ _ p2)).trans p2
  have w3 : V.drew.cell? ⟨gc, oc + b.next * 4 + 3, none⟩ = some (.slice ba body.len bc) := (hBV.cell (World.block_lt_of_cell? _ _ p3)).trans p3
  have hgl : ∀ y ∈ x.own, y < wp.heap.size := hW.lt
  have hgO : ∀ y ∈ x.own, y ∈ O := hW.sub
  have hSk : ∀ X : World, Went V.drew O x s2 X → X.cell? ⟨wp.heap.size, 0, none⟩ = some (.slice (some ⟨gc, oc, none⟩) b.code.len cc) ∧ X.cell? ⟨wp.heap.size, 1, none⟩ = some (.int .i64 (b.next : Int)) ∧ X.cell? ⟨wp.heap.size, 2, none⟩ = some (.string (str b.line)) ∧ X.cell? ⟨gc, oc + b.next * 4, none⟩ = some (.int .i64 op) ∧ X.cell? ⟨gc, oc + b.next * 4 + 1, none⟩ = some (.slice aa a.length ac) ∧ X.cell? ⟨gc, oc + b.next * 4 + 2, none⟩ = some (.int .i64 n) ∧ X.cell? ⟨gc, oc + b.next * 4 + 3, none⟩ = some (.slice ba body.len bc) := by
    rintro X ⟨x', -, -, -, t⟩
    have kb : ∀ (y : Addr) u, y.block = wp.heap.size → V.drew.cell? y = some u → X.cell? y = some u := fun y u hy hu => (t.cell (World.block_lt_of_cell? _ _ hu) (fun hx => by have := hgl _ hx; omega)).trans hu
    have kc : ∀ (y : Addr) u, y.block = gc → V.drew.cell? y = some u → X.cell? y = some u := fun y u hy hu => (t.cell (World.block_lt_of_cell? _ _ hu) (fun hx => hPg.2 (hy ▸ hgO _ hx))).trans hu
    exact ⟨kb _ _ rfl v0, kb _ _ rfl v1, kb _ _ rfl v2, kc _ _ rfl w0, kc _ _ rfl w1, kc _ _ rfl w2, kc _ _ rfl w3⟩
  have hS0 := And.intro v0 (And.intro v1 (And.intro v2 (And.intro w0 (And.intro w1 (And.intro w2 w3)))))
  have HVW : Hid (∀ s3 X, Went V.drew O x s3 X → Went w O x s3 X) := by
    show ∀ s3 X, _
    intro s3 X hX
    refine Went.step (x1 := x) rfl (fun y hy => .inl hy) hTW.toOwn ?_
    obtain ⟨x', a1, a2, a3, a4⟩ := hX
    have a4' : Turn x.own V X := ⟨a4.os, a4.tape, a4.output, a4.size, a4.block⟩
    refine Went.ofBelow hBV ⟨x', a1, a2.other (fun y hy _ => ?_) (fun y hy => List.mem_append_left _ hy) (fun y hy => ?_), a3, a4'⟩
    · rcases List.mem_append.1 hy with hy | hy
      · exact List.mem_append_left _ hy
      · rcases List.mem_append.1 hy with hy | hy
        · exact List.mem_append_right _ (hgO y hy)
        · exact List.mem_append_right _ hy
    · rcases List.mem_append.1 hy with hy | hy
      · exact a2.lt y hy
      · rcases List.mem_append.1 hy with hy | hy
        · exact a2.lim y (List.mem_append_right _ (hgO y hy))
        · exact a2.lim y (List.mem_append_right _ hy)
  have hb0 : (0 : Int) ≤ (b.next : Int) := by omega
  have HBN : Hid (b.next < b.code.len) := hk
  clear hD hta hfb fo hkV hPV hRV hW hVs hLV hgl hgO p0 p1 p2 p3 c0 c1 c2 c3 q3 k4 hBV hs hd hsl hok hL hTW hf1 h hg hk v0 v1 v2 w0 w1 w2 w3
  generalize str b.line = SL at *
  go_region_held3 (fun X : World => X.cell? ⟨wp.heap.size, 0, none⟩ = some (.slice (some ⟨gc, oc, none⟩) b.code.len cc) ∧ X.cell? ⟨wp.heap.size, 1, none⟩ = some (.int .i64 (b.next : Int)) ∧ X.cell? ⟨wp.heap.size, 2, none⟩ = some (.string SL) ∧ X.cell? ⟨gc, oc + b.next * 4, none⟩ = some (.int .i64 op) ∧ X.cell? ⟨gc, oc + b.next * 4 + 1, none⟩ = some (.slice aa a.length ac) ∧ X.cell? ⟨gc, oc + b.next * 4 + 2, none⟩ = some (.int .i64 n) ∧ X.cell? ⟨gc, oc + b.next * 4 + 3, none⟩ = some (.slice ba body.len bc)) (first | with_reducible exact hS0 | assumption | fail) (first | (go_at_call 93; refine hDV.mono ?_; rintro e wd ⟨rfl, hwd⟩; have hSd := hSk wd hwd) | fail)
  obtain ⟨x2, y1, y2, y3, y4⟩ := hwd
  have k9 := y2.c9
  have k4 := y2.c4
  have kf := y2.free 4
  rw [y1] at k9 k4 kf
  by_cases hkd : s2.ev.kind = 1
  · have b1 : ((s2.ev.kind : Int) == 1) = true := by rw [hkd]; rfl
    have hB := y2.setBegun true
    rw [y1] at hB
    have HF : Hid (Went w O x (s2.did r.length) (wd.setCell ⟨x.p, 4, none⟩ (.bool true))) := by
      rw [Ip.did_yes _ _ hkd]
      refine HVW.out _ _ ⟨x2, y1, hB, y3, y4.set (fun _ => x.p_own) _⟩
    clear hSk hS0 hSd hDV y2 y3 y4 hB HVW hAt hkd
    go_wp2
    go_end0
    exact ⟨rfl, HF.out⟩
  · have b1 : ((s2.ev.kind : Int) == 1) = false := by simp; omega
    have hB := y2.setBegun false
    rw [y1] at hB
    obtain ⟨g2, kk, z1, z2, z3, z4, z5, ⟨b2, z6, z7⟩, z8, z9⟩ := hB.next (d := r.length) hAt.2
    have hb2 : b2 = b := by
      have := hAt.1
      change s2.stack.reverse[r.length]? = some b2 at z6
      rw [this] at z6
      exact (Option.some.inj z6).symm
    have hkb : (kk : Int) ≤ 1000000 := by rw [z7, hb2]; have := HBN.out; omega
    have k3 := hB.c3
    rw [z1, z2, y1] at k3
    have HF : Hid (Went w O x (s2.did r.length) ((wd.setCell ⟨x.p, 4, none⟩ (.bool false)).setCell ⟨g2, r.length * 4 + 1, none⟩ (.int .i64 ((kk : Int) + 1)))) := by
      rw [Ip.did_no _ _ hkd]
      have e9 : ((kk + 1 : Nat) : Int) = (kk : Int) + 1 := by omega
      rw [e9] at z8
      refine HVW.out _ _ ⟨x2, y1, z8, y3, (y4.set (fun _ => x.p_own) _).set (fun hlt => ?_) _⟩
      rcases y3 g2 z9 with hy | hy
      · exact hy
      · exact absurd hlt (by show ¬ g2 < _; omega)
    have sl : (r.length : Int) < (s2.stack.length : Int) := by have := hAt.2; omega
    clear hSk hS0 hSd hDV y2 y3 y4 hB HVW hAt hkd z2 z3 z6 z7 z8 z9 hb2 HBN
    change (wd.setCell ⟨x.p, 4, none⟩ (.bool false)).cell? ⟨x.p, 3, none⟩ = some (.slice (some ⟨g2, 0, none⟩) s2.stack.length x2.oc) at k3
    go_wp2
    go_end0
    exact ⟨rfl, HF.out⟩

end Go.Proofs.YtnobmgkdieaclaaGreatDoor
