/-
  slices.Clone OF TEXTS, LINES, BODIES, STATEMENTS.
-/
import Derived.Test.YtnobmgkdieaclaaGreatDoorMpS
namespace Go.Proofs.YtnobmgkdieaclaaGreatDoor
open Go.RowKit

/-- rows of lines: rows of texts by another name -/
def LnR : Rc (List UInt8) where
  e := 9
  st := 138
  k := 1
  bytes := 16
  z := .string .empty
  enc s := [.string (str s)]
  pos := by decide
  len _ := rfl
  one f u hu := by
    simp only [List.mem_cons, List.not_mem_nil, or_false] at hu
    subst hu; rfl
  info := by kernel_rfl
  under := Tryz.underlying138
  zk := rfl
  small := by decide
theorem own_ln {w : World} {base : Nat} {v : Value} {l : List (List UInt8)} : LnR.Own w base v l ↔ TxR.Own w base v l := Iff.rfl
theorem sl_ln {w : World} {B : Nat} {v : Value} {l : List (List UInt8)} : LnR.Sl w B v l ↔ TxR.Sl w B v l := Iff.rfl

set_option maxRecDepth 100000 in
theorem CloneT_any (l : List (List UInt8)) (v : Value) (B : Nat) (w : World) (hv : TxR.Sl w B v l) (hB : B ≤ w.heap.size) (hl : l.length ≤ 109951162) :
    Calls Tryz.prog 45 #[v] w fun e w' => ∃ a n c, e = .returned (.slice a n c) ∧ TxR.Own w' w.heap.size (.slice a n c) l ∧ Below w.heap.size w w' := by
  have hv0 := hv
  obtain ⟨ad, c, rfl, _, hn, _⟩ := hv0
  cases ad with
  | none =>
    have hc0 := hn rfl
    subst hc0
    have hm : l = [] := List.eq_nil_of_length_eq_zero (by omega)
    subst hm
    have hnil := fun W : World => Lib.run_eql_slice_nil (P := Tryz.prog) W 23 9 none 0 0 0 0 Tryz.underlying23
    go_enter Tryz.func45, Tryz.ntmps45
    go_wp2
    go_ret
    exact ⟨_, _, _, rfl, Rc.Own.nil _ _, Below.refl _ _⟩
  | some x =>
    have Hl : Hid (([] : List (List UInt8)).length + l.length ≤ 1099511627) := by show _ ≤ _; simp; omega
    clear hl
    have h0 : TxR.Own (w.alloc (.cells #[] 9)) w.heap.size (.slice (some ⟨w.heap.size, 0, none⟩) 0 0) [] := World.ownsRow_lit (size := 1) w #[] 0 (Nat.le_refl _) (by decide) rfl
    have hnil := fun W : World => Lib.run_eql_slice_nil (P := Tryz.prog) W 23 9 (some x) l.length c 0 0 Tryz.underlying23
    go_enter Tryz.func45, Tryz.ntmps45
    go_wp2_with (at_builtin; go_must (refine TxR.append rfl (.tmp 5) (.tmp 6) rfl w.heap.size B _ _ [] l rfl h0 rfl (hv.alloc hB _) Hl (by simp) ?_))
    intro v' w' h1 h2
    obtain ⟨a7, n7, c7, rfl⟩ := h1.isSl
    go_wp2
    go_ret
    exact ⟨_, _, _, rfl, h1, ((Below.refl _ w).alloc (Nat.le_refl _) _).grown h2 (by simp) fun k hk => (World.ownsRow.lt h0 k hk).1⟩

set_option maxRecDepth 100000 in
theorem CloneL_any (l : List (List UInt8)) (v : Value) (B : Nat) (w : World) (hv : LnR.Sl w B v l) (hB : B ≤ w.heap.size) (hl : l.length ≤ 109951162) :
    Calls Tryz.prog 138 #[v] w fun e w' => ∃ a n c, e = .returned (.slice a n c) ∧ LnR.Own w' w.heap.size (.slice a n c) l ∧ Below w.heap.size w w' := by
  have hv0 := hv
  obtain ⟨ad, c, rfl, _, hn, _⟩ := hv0
  cases ad with
  | none =>
    have hc0 := hn rfl
    subst hc0
    have hm : l = [] := List.eq_nil_of_length_eq_zero (by omega)
    subst hm
    have hnil := fun W : World => Lib.run_eql_slice_nil (P := Tryz.prog) W 138 9 none 0 0 0 0 Tryz.underlying138
    go_enter Tryz.func138, Tryz.ntmps138
    go_wp2
    go_ret
    exact ⟨_, _, _, rfl, Rc.Own.nil _ _, Below.refl _ _⟩
  | some x =>
    have Hl : Hid (([] : List (List UInt8)).length + l.length ≤ 1099511627) := by show _ ≤ _; simp; omega
    clear hl
    have h0 : LnR.Own (w.alloc (.cells #[] 9)) w.heap.size (.slice (some ⟨w.heap.size, 0, none⟩) 0 0) [] := World.ownsRow_lit (size := 1) w #[] 0 (Nat.le_refl _) (by decide) rfl
    have hnil := fun W : World => Lib.run_eql_slice_nil (P := Tryz.prog) W 138 9 (some x) l.length c 0 0 Tryz.underlying138
    go_enter Tryz.func138, Tryz.ntmps138
    go_wp2_with (at_builtin; go_must (refine LnR.append rfl (.tmp 5) (.tmp 6) rfl w.heap.size B _ _ [] l rfl h0 rfl (hv.alloc hB _) Hl (by simp) ?_))
    intro v' w' h1 h2
    obtain ⟨a7, n7, c7, rfl⟩ := h1.isSl
    go_wp2
    go_ret
    exact ⟨_, _, _, rfl, h1, ((Below.refl _ w).alloc (Nat.le_refl _) _).grown h2 (by simp) fun k hk => (World.ownsRow.lt h0 k hk).1⟩

set_option maxRecDepth 100000 in
theorem CloneB_any (l : List RawB) (v : Value) (B : Nat) (w : World) (hv : BoR.Sl w B v l) (hB : B ≤ w.heap.size) (hl : l.length ≤ 109951162) :
    Calls Tryz.prog 58 #[v] w fun e w' => ∃ a n c, e = .returned (.slice a n c) ∧ BoR.Own w' w.heap.size (.slice a n c) l ∧ Below w.heap.size w w' := by
  have hv0 := hv
  obtain ⟨ad, c, rfl, _, hn, _⟩ := hv0
  cases ad with
  | none =>
    have hc0 := hn rfl
    subst hc0
    have hm : l = [] := List.eq_nil_of_length_eq_zero (by omega)
    subst hm
    have hnil := fun W : World => Lib.run_eql_slice_nil (P := Tryz.prog) W 59 86 none 0 0 0 0 Tryz.underlying59
    go_enter Tryz.func58, Tryz.ntmps58
    go_wp2
    go_ret
    exact ⟨_, _, _, rfl, Rc.Own.nil _ _, Below.refl _ _⟩
  | some x =>
    have Hl : Hid (([] : List RawB).length + l.length ≤ 1099511627) := by show _ ≤ _; simp; omega
    clear hl
    have h0 : BoR.Own (w.alloc (.cells #[] 86)) w.heap.size (.slice (some ⟨w.heap.size, 0, none⟩) 0 0) [] := World.ownsRow_lit (size := 4) w #[] 0 (Nat.le_refl _) (by decide) rfl
    have hnil := fun W : World => Lib.run_eql_slice_nil (P := Tryz.prog) W 59 86 (some x) l.length c 0 0 Tryz.underlying59
    go_enter Tryz.func58, Tryz.ntmps58
    go_wp2_with (at_builtin; go_must (refine BoR.append rfl (.tmp 5) (.tmp 6) rfl w.heap.size B _ _ [] l rfl h0 rfl (hv.alloc hB _) Hl (by simp) ?_))
    intro v' w' h1 h2
    obtain ⟨a7, n7, c7, rfl⟩ := h1.isSl
    go_wp2
    go_ret
    exact ⟨_, _, _, rfl, h1, ((Below.refl _ w).alloc (Nat.le_refl _) _).grown h2 (by simp) fun k hk => (World.ownsRow.lt h0 k hk).1⟩

set_option maxRecDepth 100000 in
theorem CloneS_any (l : List RawS) (v : Value) (B : Nat) (w : World) (hv : SmR.Sl w B v l) (hB : B ≤ w.heap.size) (hl : l.length ≤ 109951162) :
    Calls Tryz.prog 64 #[v] w fun e w' => ∃ a n c, e = .returned (.slice a n c) ∧ SmR.Own w' w.heap.size (.slice a n c) l ∧ Below w.heap.size w w' := by
  have hv0 := hv
  obtain ⟨ad, c, rfl, _, hn, _⟩ := hv0
  cases ad with
  | none =>
    have hc0 := hn rfl
    subst hc0
    have hm : l = [] := List.eq_nil_of_length_eq_zero (by omega)
    subst hm
    have hnil := fun W : World => Lib.run_eql_slice_nil (P := Tryz.prog) W 22 75 none 0 0 0 0 Tryz.underlying22
    go_enter Tryz.func64, Tryz.ntmps64
    go_wp2
    go_ret
    exact ⟨_, _, _, rfl, Rc.Own.nil _ _, Below.refl _ _⟩
  | some x =>
    have Hl : Hid (([] : List RawS).length + l.length ≤ 1099511627) := by show _ ≤ _; simp; omega
    clear hl
    have h0 : SmR.Own (w.alloc (.cells #[] 75)) w.heap.size (.slice (some ⟨w.heap.size, 0, none⟩) 0 0) [] := World.ownsRow_lit (size := 4) w #[] 0 (Nat.le_refl _) (by decide) rfl
    have hnil := fun W : World => Lib.run_eql_slice_nil (P := Tryz.prog) W 22 75 (some x) l.length c 0 0 Tryz.underlying22
    go_enter Tryz.func64, Tryz.ntmps64
    go_wp2_with (at_builtin; go_must (refine SmR.append rfl (.tmp 5) (.tmp 6) rfl w.heap.size B _ _ [] l rfl h0 rfl (hv.alloc hB _) Hl (by simp) ?_))
    intro v' w' h1 h2
    obtain ⟨a7, n7, c7, rfl⟩ := h1.isSl
    go_wp2
    go_ret
    exact ⟨_, _, _, rfl, h1, ((Below.refl _ w).alloc (Nat.le_refl _) _).grown h2 (by simp) fun k hk => (World.ownsRow.lt h0 k hk).1⟩

end Go.Proofs.YtnobmgkdieaclaaGreatDoor

namespace Go.Proofs.YtnobmgkdieaclaaGreatDoor
open Go.RowKit

variable {w w' : World} {O : List Nat} {x : RP} {s : Ip.St}
theorem RunS.free (h : RunS w O x s) (j : Nat) : w.frozen? ⟨x.p, j, none⟩ = false := h.row.free j
theorem RunS.c0 (h : RunS w O x s) : w.cell? ⟨x.p, 0, none⟩ = some (.slice x.ta x.tn x.tc) := h.row.cell 0
theorem RunS.c1 (h : RunS w O x s) : w.cell? ⟨x.p, 1, none⟩ = some (.int .i64 (s.fuel : Int)) := h.row.cell 1
theorem RunS.c2 (h : RunS w O x s) : w.cell? ⟨x.p, 2, none⟩ = some (.int .i64 (s.used : Int)) := h.row.cell 2
theorem RunS.c3 (h : RunS w O x s) : w.cell? ⟨x.p, 3, none⟩ = some (.slice x.oa x.on x.oc) := h.row.cell 3
theorem RunS.c4 (h : RunS w O x s) : w.cell? ⟨x.p, 4, none⟩ = some (.bool s.begun) := h.row.cell 4
theorem RunS.c5 (h : RunS w O x s) : w.cell? ⟨x.p, 5, none⟩ = some (.string (str s.buffer)) := h.row.cell 5
theorem RunS.c6 (h : RunS w O x s) : w.cell? ⟨x.p, 6, none⟩ = some (.map (some x.mt)) := h.row.cell 6
theorem RunS.c7 (h : RunS w O x s) : w.cell? ⟨x.p, 7, none⟩ = some (.map (some x.mw)) := h.row.cell 7
theorem RunS.c8 (h : RunS w O x s) : w.cell? ⟨x.p, 8, none⟩ = some (.slice x.na x.nn x.nc) := h.row.cell 8
theorem RunS.c9 (h : RunS w O x s) : w.cell? ⟨x.p, 9, none⟩ = some (.int .i64 (s.ev.kind : Int)) := h.row.cell 9
theorem RunS.c10 (h : RunS w O x s) : w.cell? ⟨x.p, 10, none⟩ = some (.string (str s.ev.path)) := h.row.cell 10
theorem RunS.c11 (h : RunS w O x s) : w.cell? ⟨x.p, 11, none⟩ = some (.int .i64 (s.ev.why : Int)) := h.row.cell 11
theorem RunS.c12 (h : RunS w O x s) : w.cell? ⟨x.p, 12, none⟩ = some (.string (str s.ev.text)) := h.row.cell 12
theorem RunS.drewN (h : RunS w O x s) (q : Nat) : RunS (w.drewN q) O x s := h.turn (T := []) ((Turn.refl [] w).drewN q) (by simp) (by simp)
/-- an event is laid -/
def evW (w : World) (p : Nat) (e : Ip.Ev) : World := (((w.setCell ⟨p, 9, none⟩ (.int .i64 (e.kind : Int))).setCell ⟨p, 10, none⟩ (.string (str e.path))).setCell ⟨p, 11, none⟩ (.int .i64 (e.why : Int))).setCell ⟨p, 12, none⟩ (.string (str e.text))
theorem evW_turn (w : World) (p : Nat) (e : Ip.Ev) : Turn [p] w (evW w p e) := ((((Turn.refl [p] w).set (fun _ => by simp) _).set (fun _ => by simp) _).set (fun _ => by simp) _).set (fun _ => by simp) _
theorem RunS.event (h : RunS w O x s) (e : Ip.Ev) (he : e.kind = 1 → s.ev.kind = 1) : RunS (evW w x.p e) O x { s with ev := e } := by
  refine h.set (evW_turn _ _ _) ?_ rfl rfl rfl rfl rfl he
  exact (((h.row.set 9 (.int .i64 (e.kind : Int)) (by simp [runCs])).set 10 (.string (str e.path)) (by simp [runCs])).set 11 (.int .i64 (e.why : Int)) (by simp [runCs])).set 12 (.string (str e.text)) (by simp [runCs])
theorem RunS.setUsed (h : RunS w O x s) (u : Nat) : RunS (w.setCell ⟨x.p, 2, none⟩ (.int .i64 (u : Int))) O x { s with used := u } :=
  h.set (Turn.put1 _ _ _ _) (h.row.set 2 _ (by simp [runCs])) rfl rfl rfl rfl rfl id
theorem RunS.setBuffer (h : RunS w O x s) (b : Ip.B) : RunS (w.setCell ⟨x.p, 5, none⟩ (.string (str b))) O x { s with buffer := b } :=
  h.set (Turn.put1 _ _ _ _) (h.row.set 5 _ (by simp [runCs])) rfl rfl rfl rfl rfl id
theorem RunS.setBegun (h : RunS w O x s) (b : Bool) : RunS (w.setCell ⟨x.p, 4, none⟩ (.bool b)) O x { s with begun := b } :=
  h.set (Turn.put1 _ _ _ _) (h.row.set 4 _ (by simp [runCs])) rfl rfl rfl rfl rfl id

set_option maxRecDepth 100000 in
theorem fail_any (why : Nat) (text : List UInt8) (w : World) (O : List Nat) (x : RP) (s : Ip.St) (h : RunS w O x s) :
    Calls Tryz.prog 52 #[.pointer (some ⟨x.p, 0, none⟩), .int .i64 (why : Int), .string (str text)] w fun e w' => e = .returned (.tuple #[]) ∧ RunS w' O x (s.fail why text) ∧ Turn [x.p] w w' := by
  have hE := h.event ⟨3, [], why, text⟩ (fun e => by cases e)
  have hT := evW_turn w x.p ⟨3, [], why, text⟩
  have f := h.free
  have k9 := h.c9
  have k10 := h.c10
  have k11 := h.c11
  have k12 := h.c12
  have HE : Hid (RunS (evW w x.p ⟨3, [], why, text⟩) O x (s.fail why text) ∧ Turn [x.p] w (evW w x.p ⟨3, [], why, text⟩)) := ⟨hE, hT⟩
  clear hE hT h
  unfold evW at HE
  dsimp only at HE
  generalize str text = S at *
  generalize str s.ev.path = P at *
  generalize str s.ev.text = T at *
  go_enter Tryz.func52, Tryz.ntmps52
  go_wp2
  go_end0
  exact ⟨rfl, HE.out⟩

set_option maxRecDepth 100000 in
theorem pay_any (n : Nat) (w : World) (O : List Nat) (x : RP) (s : Ip.St) (h : RunS w O x s) (hu : s.used ≤ s.fuel) (hf : s.fuel ≤ 65536) (hn : n ≤ 1000000000) :
    Calls Tryz.prog 83 #[.pointer (some ⟨x.p, 0, none⟩), .int .i64 (n : Int)] w fun e w' => e = .returned (.bool (s.can n)) ∧ RunS w' O x (s.pay n) ∧ Turn [x.p] w w' := by
  have f := h.free
  have k1 := h.c1
  have k2 := h.c2
  have ub : (s.used : Int) ≤ (s.fuel : Int) := by omega
  have fb : (s.fuel : Int) ≤ 65536 := by omega
  have nb : (n : Int) ≤ 1000000000 := by omega
  by_cases hc : n ≤ s.fuel - s.used
  · have g1 : ¬ (s.fuel : Int) - (s.used : Int) < (n : Int) := by omega
    have d1 : decide ((s.fuel : Int) - (s.used : Int) < (n : Int)) = false := decide_eq_false g1
    have HX := fun q => (h.drewN q).setUsed (s.used + n)
    have hcan : s.can n = true := decide_eq_true hc
    have HE : Hid (∀ q, RunS ((w.drewN q).setCell ⟨x.p, 2, none⟩ (.int .i64 ((s.used : Int) + (n : Int)))) O x (s.pay n)) := by
      show ∀ q, RunS _ _ _ _
      intro q
      have HX := HX q
      unfold Ip.St.pay
      rw [if_pos hcan]
      have e : ((s.used + n : Nat) : Int) = (s.used : Int) + (n : Int) := by omega
      rw [e] at HX
      exact HX
    rw [hcan]
    have HT : Hid (∀ q, Turn [x.p] w ((w.drewN q).setCell ⟨x.p, 2, none⟩ (.int .i64 ((s.used : Int) + (n : Int))))) := fun q => ((Turn.refl _ w).drewN q).set (fun _ => by simp) _
    have vb : (s.used : Int) + (n : Int) ≤ 65536 := by omega
    clear HX hcan h hc hu hf hn
    go_enter Tryz.func83, Tryz.ntmps83
    go_wp2
    go_quiet (fail)
    go_wp2
    go_ret
    exact ⟨rfl, HE.out _, HT.out _⟩
  · have g1 : (s.fuel : Int) - (s.used : Int) < (n : Int) := by omega
    have d1 : decide ((s.fuel : Int) - (s.used : Int) < (n : Int)) = true := decide_eq_true g1
    have hX := fun q => (h.drewN q).setUsed s.fuel
    have hcan : s.can n = false := decide_eq_false hc
    have hF := fun q => fail_any 143 [] _ O x _ (hX q)
    have HE : Hid (s.pay n = Ip.St.fail { s with used := s.fuel } 143 []) := by
      show _ = _
      unfold Ip.St.pay
      rw [hcan]
      rfl
    rw [hcan]
    have HT : Hid (∀ q, Turn [x.p] w ((w.drewN q).setCell ⟨x.p, 2, none⟩ (.int .i64 (s.fuel : Int)))) := fun q => ((Turn.refl _ w).drewN q).set (fun _ => by simp) _
    clear hX hcan h hc hu hf hn
    change ∀ q, Calls _ _ #[_, .int .i64 143, .string ⟨#[]⟩] _ _ at hF
    go_enter Tryz.func83, Tryz.ntmps83
    go_wp2
    go_quiet (fail)
    go_wp2_with (first | (go_at_call 52; refine (hF _).mono ?_; rintro e w1 ⟨rfl, h1, h2⟩) | fail)
    go_ret
    rw [HE.out]
    exact ⟨rfl, h1, (HT.out _).trans h2 (fun _ hx _ => hx)⟩

set_option maxRecDepth 100000 in
theorem mayPut_any (n : Nat) (w : World) (O : List Nat) (x : RP) (s : Ip.St) (h : RunS w O x s) (hu : s.used ≤ s.fuel) (hf : s.fuel ≤ 65536) (hn : n ≤ 1000000000) (hb : s.buffer.length ≤ 256) :
    Calls Tryz.prog 99 #[.pointer (some ⟨x.p, 0, none⟩), .int .i64 (n : Int)] w fun e w' => e = .returned (.bool (s.canPut n)) ∧ RunS w' O x (s.mayPut n) ∧ Turn [x.p] w w' := by
  have k5 := h.c5
  have hz := str_size s.buffer
  have nb : (n : Int) ≤ 1000000000 := by omega
  have bb : ((str s.buffer).size : Int) ≤ 256 := by omega
  by_cases hc : s.buffer.length + n ≤ 256
  · have g1 : ¬ (256 : Int) < ((str s.buffer).size : Int) + (n : Int) := by omega
    have hP := pay_any n w O x s h hu hf hn
    have HE : Hid (s.mayPut n = s.pay n) := by show _ = _; unfold Ip.St.mayPut; rw [if_pos hc]
    have hcp : s.canPut n = s.can n := by unfold Ip.St.canPut; rw [decide_eq_true hc, Bool.true_and]
    rw [hcp]
    clear h hu hf hn hb hc hz hcp
    generalize str s.buffer = S at *
    go_enter Tryz.func99, Tryz.ntmps99
    go_wp2_with (first | (go_at_call 83; refine hP.mono ?_; rintro e w1 ⟨rfl, h1, h2⟩) | fail)
    go_ret
    rw [HE.out]
    exact ⟨rfl, h1, h2⟩
  · have g1 : (256 : Int) < ((str s.buffer).size : Int) + (n : Int) := by omega
    have hF := fail_any 146 [] w O x s h
    change Calls _ _ #[_, .int .i64 146, .string ⟨#[]⟩] _ _ at hF
    have HE : Hid (s.mayPut n = s.fail 146 []) := by show _ = _; unfold Ip.St.mayPut; rw [if_neg hc]
    have hcp : s.canPut n = false := by unfold Ip.St.canPut; rw [decide_eq_false hc, Bool.false_and]
    rw [hcp]
    clear h hu hf hn hb hc hz hcp
    generalize str s.buffer = S at *
    go_enter Tryz.func99, Tryz.ntmps99
    go_wp2_with (first | (go_at_call 52; refine hF.mono ?_; rintro e w1 ⟨rfl, h1, h2⟩) | fail)
    go_ret
    rw [HE.out]
    exact ⟨rfl, h1, h2⟩

end Go.Proofs.YtnobmgkdieaclaaGreatDoor
