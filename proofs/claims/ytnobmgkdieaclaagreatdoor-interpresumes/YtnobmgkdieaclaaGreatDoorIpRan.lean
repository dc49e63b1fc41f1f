/-
  WHAT THE LAWS' OWN begun, tell, ran DO.
-/
import Derived.Test.YtnobmgkdieaclaaGreatDoorIpFiles
namespace Go.Proofs.YtnobmgkdieaclaaGreatDoor
open Go.RowKit

variable {B : Nat} {va : Option Addr} {vn vc : Nat} {ta : Option Addr} {tn tc : Nat} {f : Ac.Fo} {ts : List (List UInt8)}
set_option maxRecDepth 100000 in
set_option maxHeartbeats 1000000 in
theorem begun_no (fuel : Int) (w : World) (h : JobS w B va vn vc ta tn tc f ts) (hL : Laid w) (h1 : -9223372036854775808 ≤ fuel) (h2 : fuel ≤ 9223372036854775807) (hno : Ip.mayNew f ts fuel = false) :
    Calls Tryz.prog 23 #[jobV va vn vc ta tn tc fuel] w fun e w' => e = .returned (.tuple #[.pointer none, .bool false]) ∧ Below w.heap.size w w' := by
  have r0 := Rw.new w #[.slice va vn vc, .slice ta tn tc, .int .i64 fuel] 25
  have hb := (Below.refl w.heap.size w).alloc (Nat.le_refl _) (.cells #[.slice va vn vc, .slice ta tn tc, .int .i64 fuel] 25)
  have hN := New_no f ts fuel _ _ _ B (h.below hb).handed (hL.below hb hL.size) h1 h2 hno
  unfold jobV
  clear h hno
  go_enter Tryz.func23, Tryz.ntmps23
  go_upto_region 1 with fail
  generalize w.alloc (.cells #[.slice va vn vc, .slice ta tn tc, .int .i64 fuel] 25) = Y at *
  have c0 := r0.cell 0
  have c1 := r0.cell 1
  have c2 := r0.cell 2
  go_wp2_with (first | (go_at_call 14; refine hN.mono ?_; rintro e w1 ⟨rfl, hb1⟩) | fail)
  go_ret2
  exact ⟨rfl, hb.trans (hb1.mono hb.size)⟩
set_option maxRecDepth 100000 in
set_option maxHeartbeats 1000000 in
theorem begun_yes (fuel : Int) (w : World) (O : List Nat) (h : JobS w B va vn vc ta tn tc f ts) (hL : Laid w) (h1 : -9223372036854775808 ≤ fuel) (h2 : fuel ≤ 9223372036854775807) (hyes : Ip.mayNew f ts fuel = true) (hO : ∀ b ∈ O, b < w.heap.size) :
    Calls Tryz.prog 23 #[jobV va vn vc ta tn tc fuel] w fun e w' => ∃ x, e = .returned (.tuple #[.pointer (some ⟨x.p, 0, none⟩), .bool true]) ∧ RunS w' (x.own ++ O) x (Ip.new f ts fuel.toNat) ∧ (∀ b ∈ x.own, w.heap.size ≤ b) ∧ Below w.heap.size w w' := by
  have r0 := Rw.new w #[.slice va vn vc, .slice ta tn tc, .int .i64 fuel] 25
  have hb := (Below.refl w.heap.size w).alloc (Nat.le_refl _) (.cells #[.slice va vn vc, .slice ta tn tc, .int .i64 fuel] 25)
  have hN := New_yes f ts fuel _ _ _ B O (h.below hb).handed (hL.below hb hL.size) h1 h2 hyes (fun b hx => Nat.lt_of_lt_of_le (hO b hx) hb.size)
  unfold jobV
  clear h hyes
  go_enter Tryz.func23, Tryz.ntmps23
  go_upto_region 1 with fail
  generalize w.alloc (.cells #[.slice va vn vc, .slice ta tn tc, .int .i64 fuel] 25) = Y at *
  have c0 := r0.cell 0
  have c1 := r0.cell 1
  have c2 := r0.cell 2
  go_wp2_with (first | (go_at_call 14; refine hN.mono ?_; rintro e w1 ⟨x, rfl, q1, q2, hb1⟩) | fail)
  go_ret2
  exact ⟨x, rfl, q1, fun b hx => Nat.le_trans hb.size (q2 b hx), hb.trans (hb1.mono hb.size)⟩

theorem Ip.find_mem : ∀ {l : List (Ip.B × Ip.B)} {p c : Ip.B}, Ip.find l p = some c → ∃ a ∈ l, a.2 = c
  | [], _, _, h => by cases h
  | a :: r, p, c, h => by
    rw [Ip.find] at h
    split at h
    · cases h
      exact ⟨a, List.mem_cons_self .., rfl⟩
    · obtain ⟨x, h1, h2⟩ := Ip.find_mem h
      exact ⟨x, List.mem_cons_of_mem _ h1, h2⟩
set_option maxRecDepth 100000 in
set_option maxHeartbeats 1000000 in
theorem tell_any (l : List (Ip.B × Ip.B)) (v : Value) (w : World) (O : List Nat) (x : RP) (s : Ip.St) (h : RunS w O x s) (hi : s.Inv) (h1 : s.ev.kind = 1) (hl : FiR.Sl w B v l) (hB : B ≤ w.heap.size) (hn : l.length ≤ 140737488351232) (hz : ∀ a ∈ l, a.2.length ≤ 140737488351232) :
    Calls Tryz.prog 32 #[.pointer (some ⟨x.p, 0, none⟩), v, .string (str s.ev.path)] w fun e w' => e = .returned (.tuple #[]) ∧ RunS w' O x (s.answer (Ip.find l s.ev.path)) ∧ Turn [x.p, x.mt] w w' := by
  have hF := Find_any l v s.ev.path w B hl hB hn
  cases hr : Ip.find l s.ev.path with
  | none =>
    rw [hr] at hF
    have hK : Hid (∀ W, Below w.heap.size w W → Calls Tryz.prog 21 #[.pointer (some ⟨x.p, 0, none⟩)] W fun e w' => e = .returned (.int .i64 0) ∧ RunS w' O x s.lack ∧ Turn [x.p] W w') := fun W hb => Lack_any W O x s (h.below hb) hi.some h1
    change Calls _ _ _ _ fun e w' => e = .returned (.tuple #[]) ∧ RunS w' O x s.lack ∧ _
    unfold ansV at hF
    change Calls _ _ _ _ fun e w' => e = .returned (.agg #[.string ⟨#[]⟩, .bool false]) ∧ _ at hF
    generalize str s.ev.path = P at *
    generalize s.lack = R at *
    clear h hi h1 hr hz hl
    go_enter Tryz.func32, Tryz.ntmps32
    go_upto_region 1 with (first
      | (go_at_call 34; refine hF.mono ?_; rintro e w1 ⟨rfl, hb1⟩)
      | fail)
    have r2 := Rw.new w1 #[.string ⟨#[]⟩, .bool false] 52
    have hb2 : Below w.heap.size w _ := hb1.alloc hb1.size (.cells #[.string ⟨#[]⟩, .bool false] 52)
    generalize w1.alloc (.cells #[.string ⟨#[]⟩, .bool false] 52) = W2 at *
    have g0 := r2.cell 0
    have g1 := r2.cell 1
    go_wp2_with (first | (go_at_call 21; refine (hK.out _ hb2).mono ?_; rintro e w3 ⟨rfl, k1, k2⟩) | fail)
    go_end0
    exact ⟨rfl, k1, ((Turn.of_below hb2).mono (S' := [x.p, x.mt]) (by simp)).trans k2 (fun b hb _ => by simp at hb; simp [hb])⟩
  | some c =>
    rw [hr] at hF
    obtain ⟨a, ha, hac⟩ := Ip.find_mem hr
    have hcl : c.length ≤ 140737488351232 := by rw [← hac]; exact hz a ha
    have hK : Hid (∀ W, Below w.heap.size w W → Calls Tryz.prog 20 #[.pointer (some ⟨x.p, 0, none⟩), .string (str c)] W fun e w' => e = .returned (.int .i64 0) ∧ RunS w' O x (s.give c) ∧ Turn [x.p, x.mt] W w') := fun W hb => Give_any c W O x s (h.below hb) hi h1 hcl
    change Calls _ _ _ _ fun e w' => e = .returned (.tuple #[]) ∧ RunS w' O x (s.give c) ∧ _
    unfold ansV at hF
    change Calls _ _ _ _ fun e w' => e = .returned (.agg #[.string (str c), .bool true]) ∧ _ at hF
    generalize str s.ev.path = P at *
    generalize s.give c = R at *
    generalize str c = C at *
    clear h hi h1 hr hz hl ha hac hcl
    go_enter Tryz.func32, Tryz.ntmps32
    go_upto_region 1 with (first
      | (go_at_call 34; refine hF.mono ?_; rintro e w1 ⟨rfl, hb1⟩)
      | fail)
    have r2 := Rw.new w1 #[.string C, .bool true] 52
    have hb2 : Below w.heap.size w _ := hb1.alloc hb1.size (.cells #[.string C, .bool true] 52)
    generalize w1.alloc (.cells #[.string C, .bool true] 52) = W2 at *
    have g0 := r2.cell 0
    have g1 := r2.cell 1
    go_wp2_with (first | (go_at_call 20; refine (hK.out _ hb2).mono ?_; rintro e w3 ⟨rfl, k1, k2⟩) | fail)
    go_end0
    exact ⟨rfl, k1, ((Turn.of_below hb2).mono (S' := [x.p, x.mt]) (by simp)).trans k2 (fun b hb _ => hb)⟩

theorem results_ran {fn : Func} {p : Tmp} (h : fn.results = #[.cell p 35]) (tmps : Array Value) (W : World) {g : Nat} {cs : Array Value} (hR : Rw W g cs 35) (hz : cs.size = 7) (hp : tmps.getD p undef = .pointer (some ⟨g, 0, none⟩)) :
    (results fn tmps).run Tryz.prog W = .ok (.agg cs) W := by
  have hp' : tmps[p]?.getD undef = .pointer (some ⟨g, 0, none⟩) := by simpa using hp
  simp [results, h, hp', asAddr, run_loadVar_row W g _ 35 cs (0, 0) _ hR Tryz.underlying35 rfl (by rw [hz]; kernel_rfl)]
set_option maxRecDepth 100000 in
set_option maxHeartbeats 4000000 in
theorem ran_any (w : World) (O : List Nat) (x : RP) (s : Ip.St) (h : RunS w O x s) (hi : s.Inv) :
    Calls Tryz.prog 27 #[.pointer (some ⟨x.p, 0, none⟩), evV s.ev] w fun e w' => ∃ oa on oc na nn nc, e = .returned (ranV s.ev (.slice oa on oc) (.slice na nn nc) s.used) ∧ TxR.Own w' w.heap.size (.slice oa on oc) s.outs ∧ TxR.Own w' w.heap.size (.slice na nn nc) s.needs ∧ Below w.heap.size w w' := by
  obtain ⟨r0, r1, hb, hz⟩ := Rw.two w #[.int .i64 (s.ev.kind : Int), .string (str s.ev.path), .int .i64 (s.ev.why : Int), .string (str s.ev.text)] ran0 33 35
  have HO : Hid (∀ W, Below w.heap.size w W → Calls Tryz.prog 18 #[.pointer (some ⟨x.p, 0, none⟩)] W fun e w' => ∃ a n c, e = .returned (.slice a n c) ∧ TxR.Own w' W.heap.size (.slice a n c) s.outs ∧ Below W.heap.size W w') := fun W hb => Outputs_any W O x s (h.below hb) hi
  have HN : Hid (∀ W, Below w.heap.size w W → Calls Tryz.prog 17 #[.pointer (some ⟨x.p, 0, none⟩)] W fun e w' => ∃ a n c, e = .returned (.slice a n c) ∧ TxR.Own w' W.heap.size (.slice a n c) s.needs ∧ Below W.heap.size W w') := fun W hb => Needs_any W O x s (h.below hb) hi.some hi.len
  have HU : Hid (∀ W, Below w.heap.size w W → Calls Tryz.prog 19 #[.pointer (some ⟨x.p, 0, none⟩)] W fun e w' => e = .returned (.int .i64 (s.used : Int)) ∧ w' = W) := fun W hb => Used_any W O x s (h.below hb) hi.some
  unfold evV ranV
  unfold ran0 at r0 r1 hb hz
  clear h hi
  generalize (s.ev.kind : Int) = K at *
  generalize str s.ev.path = P at *
  generalize (s.ev.why : Int) = Z at *
  generalize str s.ev.text = X2 at *
  generalize (s.used : Int) = U at *
  generalize s.outs = LO at *
  generalize s.needs = LN at *
  go_enter Tryz.func27, Tryz.ntmps27
  go_upto_region 1 with fail
  generalize (w.alloc (.cells #[.int .i64 K, .string P, .int .i64 Z, .string X2] 33)).alloc (.cells #[.int .i64 0, .string ⟨#[]⟩, .int .i64 0, .string ⟨#[]⟩, .slice none 0 0, .slice none 0 0, .int .i64 0] 35) = Y at *
  have hzw : w.heap.size ≤ Y.heap.size := hb.size
  have HS : Hid (∀ W, Below Y.heap.size Y W → W.cell? ⟨w.heap.size, 0, none⟩ = some (.int .i64 K) ∧ W.cell? ⟨w.heap.size, 1, none⟩ = some (.string P) ∧ W.cell? ⟨w.heap.size, 2, none⟩ = some (.int .i64 Z) ∧ W.cell? ⟨w.heap.size, 3, none⟩ = some (.string X2)) := fun W hb => ⟨(r0.below hb r0.lt).cell 0, (r0.below hb r0.lt).cell 1, (r0.below hb r0.lt).cell 2, (r0.below hb r0.lt).cell 3⟩
  have HS7 : Hid (∀ (W : World) (b0 b1 b2 b3 b4 b5 b6 : Value), Below Y.heap.size Y W → (((((((W.setCell ⟨w.heap.size + 1, 0, none⟩ b0).setCell ⟨w.heap.size + 1, 1, none⟩ b1).setCell ⟨w.heap.size + 1, 2, none⟩ b2).setCell ⟨w.heap.size + 1, 3, none⟩ b3).setCell ⟨w.heap.size + 1, 4, none⟩ b4).setCell ⟨w.heap.size + 1, 5, none⟩ b5).setCell ⟨w.heap.size + 1, 6, none⟩ b6).cell? ⟨w.heap.size, 0, none⟩ = some (.int .i64 K) ∧ (((((((W.setCell ⟨w.heap.size + 1, 0, none⟩ b0).setCell ⟨w.heap.size + 1, 1, none⟩ b1).setCell ⟨w.heap.size + 1, 2, none⟩ b2).setCell ⟨w.heap.size + 1, 3, none⟩ b3).setCell ⟨w.heap.size + 1, 4, none⟩ b4).setCell ⟨w.heap.size + 1, 5, none⟩ b5).setCell ⟨w.heap.size + 1, 6, none⟩ b6).cell? ⟨w.heap.size, 1, none⟩ = some (.string P) ∧ (((((((W.setCell ⟨w.heap.size + 1, 0, none⟩ b0).setCell ⟨w.heap.size + 1, 1, none⟩ b1).setCell ⟨w.heap.size + 1, 2, none⟩ b2).setCell ⟨w.heap.size + 1, 3, none⟩ b3).setCell ⟨w.heap.size + 1, 4, none⟩ b4).setCell ⟨w.heap.size + 1, 5, none⟩ b5).setCell ⟨w.heap.size + 1, 6, none⟩ b6).cell? ⟨w.heap.size, 2, none⟩ = some (.int .i64 Z) ∧ (((((((W.setCell ⟨w.heap.size + 1, 0, none⟩ b0).setCell ⟨w.heap.size + 1, 1, none⟩ b1).setCell ⟨w.heap.size + 1, 2, none⟩ b2).setCell ⟨w.heap.size + 1, 3, none⟩ b3).setCell ⟨w.heap.size + 1, 4, none⟩ b4).setCell ⟨w.heap.size + 1, 5, none⟩ b5).setCell ⟨w.heap.size + 1, 6, none⟩ b6).cell? ⟨w.heap.size, 3, none⟩ = some (.string X2)) := fun W b0 b1 b2 b3 b4 b5 b6 hbx => by
    have q := (r0.below hbx r0.lt).turn (Turn.put7 W (w.heap.size + 1) b0 b1 b2 b3 b4 b5 b6) (by simp)
    exact ⟨q.cell 0, q.cell 1, q.cell 2, q.cell 3⟩
  have hb0 : Below Y.heap.size Y Y.drew := (Below.refl _ Y).drew
  have hYw : Hid (∀ W, Below Y.heap.size Y W → Below w.heap.size w W) := fun W hx => hb.trans (hx.mono hzw)
  go_region_held3 (fun X : World => X.cell? ⟨w.heap.size, 0, none⟩ = some (.int .i64 K) ∧ X.cell? ⟨w.heap.size, 1, none⟩ = some (.string P) ∧ X.cell? ⟨w.heap.size, 2, none⟩ = some (.int .i64 Z) ∧ X.cell? ⟨w.heap.size, 3, none⟩ = some (.string X2)) (first | with_reducible exact HS.out _ hb0 | with_reducible exact HS.out _ hb1 | with_reducible exact HS.out _ hb2 | with_reducible exact HS7.out _ _ _ _ _ _ _ _ hb2 | fail) (first
    | (go_at_call 18; refine (HO.out _ (hYw.out _ hb0)).mono ?_; rintro e w1 ⟨oa, on, oc, rfl, p1, hb1'⟩; have hb1 : Below Y.heap.size Y w1 := hb0.trans (hb1'.mono hb0.size); clear hb1')
    | (go_at_call 17; refine (HN.out _ (hYw.out _ hb1)).mono ?_; rintro e w2 ⟨na, nn, nc, rfl, p2, hb2'⟩; have p1' := p1.below hb2' (Nat.le_refl _); have hb2 : Below Y.heap.size Y w2 := hb1.trans (hb2'.mono hb1.size); have rr := r1.below hb2 r1.lt; have f0 := rr.free 0; have f1 := rr.free 1; have f2 := rr.free 2; have f3 := rr.free 3; have f4 := rr.free 4; have f5 := rr.free 5; have f6 := rr.free 6; have g0 := rr.cell 0; have g1 := rr.cell 1; have g2 := rr.cell 2; have g3 := rr.cell 3; have g4 := rr.cell 4; have g5 := rr.cell 5; have g6 := rr.cell 6; clear hb2')
    | (go_at_call 19; refine (HU.out _ (hYw.out _ hb2)).mono ?_; rintro e w3 ⟨rfl, hw3⟩; rw [hw3]; clear hw3)
    | fail)
  have q7 := rr.put7 (.int .i64 K) (.string P) (.int .i64 Z) (.string X2) (.slice oa on oc) (.slice na nn nc) (.int .i64 U)
  have hT7 := Turn.put7 w2 (w.heap.size + 1) (.int .i64 K) (.string P) (.int .i64 Z) (.string X2) (.slice oa on oc) (.slice na nn nc) (.int .i64 U)
  have hzY : Y.heap.size = w.heap.size + 2 := hz
  have pA := (p1'.turnP hT7 (fun g hg => by have := (p1'.lt g hg).1; have := hb0.size; simp; omega)).low (B' := w.heap.size) (by have := hb0.size; omega)
  have pB := (p2.turnP hT7 (fun g hg => by have := (p2.lt g hg).1; have := hb1.size; simp; omega)).low (B' := w.heap.size) (by have := hb1.size; omega)
  have hF := hT7.bel (hYw.out _ hb2) (by simp)
  go_wp2
  refine bodyPost_ret (results_ran Tryz.results27 _ _ q7 rfl rfl) rfl ⟨oa, on, oc, na, nn, nc, rfl, pA, pB, hF⟩
end Go.Proofs.YtnobmgkdieaclaaGreatDoor
