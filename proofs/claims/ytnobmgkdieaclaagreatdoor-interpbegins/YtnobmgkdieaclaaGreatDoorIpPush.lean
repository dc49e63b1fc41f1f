/-
  WHAT enterRounds, changeLines DO; the bounds that a run keeps to.
-/
import Derived.Test.YtnobmgkdieaclaaGreatDoorIpMove
import Derived.Test.YtnobmgkdieaclaaGreatDoorBd
import Derived.Test.YtnobmgkdieaclaaGreatDoorIpAsk
namespace Go.Proofs.YtnobmgkdieaclaaGreatDoor
open Go.RowKit

/-- the run's row of bodies: whatever its cells are -/
theorem RunS.opened {w : World} {O : List Nat} {x : RP} {s : Ip.St} (h : RunS w O x s) : ∃ rs, BoR.Own w 7 (.slice x.oa x.on x.oc) rs ∧ BoRow w (fun b => b < w.heap.size ∧ b ∉ O) s.stack.reverse rs ∧ rs.length = s.stack.length := by
  obtain ⟨rs, o1, o2⟩ := h.op
  refine ⟨rs, o1, o2, ?_⟩
  have := o2.len
  rwa [List.length_reverse] at this
theorem BoR.lit1 (W : World) (r : RawB) (a c : Value) (l : ByteArray) (n : Int) (ha : a = r.code) (hc : c = r.rounds) (hl : l = str r.line) (hn : n = (r.next : Int)) : BoR.Sl (W.alloc (.cells #[a, .int .i64 n, .string l, c] 86)) (W.heap.size + 1) (.slice (some ⟨W.heap.size, 0, none⟩) 1 1) [r] := by
  subst ha hc hl hn
  exact Rc.lit (R := BoR) W r _ rfl

set_option maxRecDepth 100000 in
set_option maxHeartbeats 1000000 in
theorem enterRounds_any (code : Ac.Fo) (rounds : List (List UInt8)) (ca : Option Addr) (cn cc : Nat) (ra : Option Addr) (rn rc : Nat) (w : World) (O : List Nat) (x : RP) (s : Ip.St) (h : RunS w O x s)
    (hc : FoP w (fun b => b < w.heap.size ∧ b ∉ O) (.slice ca cn cc) code) (hr : TxR.SlP w (fun b => b < w.heap.size ∧ b ∉ O) (.slice ra rn rc) rounds) (hs : s.stack.length ≤ 1000000) (hl : code.len ≤ 1000000) :
    Calls Tryz.prog 107 #[.pointer (some ⟨x.p, 0, none⟩), .slice ca cn cc, .slice ra rn rc] w fun e w' => e = .returned (.tuple #[]) ∧ Went w O x (s.push ⟨code, code.len, [], rounds⟩) w' := by
  have k3 := h.c3
  obtain ⟨rs, o1, o2, o3⟩ := h.opened
  have hcl : cn = code.len := by
    obtain ⟨ad, c, e, -⟩ := (hc.foS (B := w.heap.size) (fun b hb => hb.1)).shape
    simp only [Value.slice.injEq] at e
    exact e.2.1
  have hL := BoR.lit1 w ⟨ca, cn, cc, cn, [], ra, rn, rc⟩ (.slice ca cn cc) (.slice ra rn rc) ⟨#[]⟩ (cn : Int) rfl rfl rfl rfl
  have hO := o1.alloc (.cells #[.slice ca cn cc, .int .i64 (cn : Int), .string ⟨#[]⟩, .slice ra rn rc] 86)
  have HLn : Hid (rs.length + [(⟨ca, cn, cc, cn, [], ra, rn, rc⟩ : RawB)].length ≤ 1099511627) := by show _ ≤ _; simp; omega
  have h7 : 7 ≤ w.heap.size := by have := h.low _ x.p_own; have := h.row.lt; omega
  have HB : Hid (BoIs w (fun b => b < w.heap.size ∧ b ∉ O) ⟨code, code.len, [], rounds⟩ ⟨ca, cn, cc, cn, [], ra, rn, rc⟩) := ⟨hcl, rfl, hc, hr⟩
  have cb : (cn : Int) ≤ 1000000 := by omega
  clear hc hr hs hl hcl o3
  go_enter Tryz.func107, Tryz.ntmps107
  go_wp2_with (at_builtin; go_must (refine BoR.append_at rfl _ _ rfl 7 (w.heap.size + 1) _ _ rs [⟨ca, cn, cc, cn, [], ra, rn, rc⟩] rfl hO rfl hL (by simp) HLn (by rw [size_alloc]; omega) ?_))
  intro g cap w4 hO5 hg5 hw5 hlt5
  have hW := h.pushed o2 hO5 hg5 (hw5.imp id (fun e => by rw [size_alloc]; exact e)) HB.out
  have hr4 := h.row_push hg5
  have q3 : w4.cell? ⟨x.p, 3, none⟩ = some (.slice x.oa x.on x.oc) := hr4.cell 3
  have qf := hr4.free 3
  have HW : Hid _ := hW
  clear hW hr4 hO5 hg5 hw5 hL hO HLn
  go_wp2
  go_end0
  exact ⟨rfl, HW.out⟩

namespace Ip
/-- the bytes of lines, a byte 10 behind each -/
def tot (l : List B) : Nat := (l.map fun s => s.length + 1).sum
theorem joined_len : ∀ l : List B, (joined l).length = tot l
  | [] => rfl
  | a :: r => by
    have h := joined_len r
    unfold joined tot at h ⊢
    rw [List.flatMap_cons, List.length_append, h, List.map_cons, List.sum_cons, List.length_append, List.length_singleton]
theorem tot_perm {a b : List B} (h : a.Perm b) : tot a = tot b := (h.map _).sum_nat
theorem tot_sub {a b : List B} (h : a.Sublist b) : tot a ≤ tot b := by
  unfold tot
  induction h with
  | slnil => exact Nat.le_refl _
  | cons x _ ih => rw [List.map_cons, List.sum_cons]; omega
  | cons_cons x _ ih => rw [List.map_cons, List.map_cons, List.sum_cons, List.sum_cons]; omega
theorem tot_cut : ∀ s : B, tot (cutN s) = s.length + 1
  | [] => rfl
  | c :: r => by
    have h := tot_cut r
    have hn := cutN_ne r
    rw [cutN]
    by_cases hc : c = 10
    · rw [if_pos hc, List.length_cons, ← h]
      simp [tot]
      omega
    · rw [if_neg hc]
      cases hr : cutN r with
      | nil => exact absurd hr hn
      | cons p q =>
        rw [hr] at h
        simp [tot] at h ⊢
        omega
theorem tot_lines (s : B) : tot (linesOf s) ≤ s.length + 1 := by
  unfold linesOf
  split
  · rw [← tot_cut s]; exact tot_sub (List.dropLast_sublist _)
  · rw [tot_cut]; exact Nat.le_refl _
theorem len_tot (l : List B) : l.length ≤ tot l := by
  induction l with
  | nil => exact Nat.le_refl _
  | cons a r ih => simp [tot] at ih ⊢; omega
theorem sorted_perm (l : List B) : (sorted l).Perm l := List.mergeSort_perm l le
theorem unlike_sub (l : List B) : (unlike l).Sublist l := by
  unfold unlike Lib.compact Lib.compactUpTo
  have h := Lib.range_map_get l.toArray
  have h2 : (List.filter (Lib.keeps l.toArray) (List.range l.length)).Sublist (List.range l.length) := List.filter_sublist
  have h3 := h2.map (fun i => l.toArray[i]!)
  have h4 : (List.range l.length).map (fun i => l.toArray[i]!) = l := h
  rwa [h4] at h3
theorem digits_few {n : Nat} (h : n ≤ 1000) : (Ac.digits n).length ≤ 4 := by
  have : ∀ k : Fin 1001, (Ac.digits k.1).length ≤ 4 := by decide +kernel
  exact this ⟨n, by omega⟩
theorem tot_change (op : Int) (s : B) (hs : s.length ≤ 256) : tot (change op (linesOf s)) ≤ 1001 := by
  have h := tot_lines s
  have hl := len_tot (linesOf s)
  unfold change
  split
  · rw [tot_perm (sorted_perm _)]; omega
  · split
    · have := tot_sub (unlike_sub (linesOf s)); omega
    · have := digits_few (n := (linesOf s).length) (by omega)
      simp [tot]
      omega
end Ip

set_option maxRecDepth 100000 in
set_option maxHeartbeats 1000000 in
theorem changeLines_5 (w : World) (O : List Nat) (x : RP) (s : Ip.St) (h : RunS w O x s) (hb : s.buffer.length ≤ 256) (_ : Laid w) :
    Calls Tryz.prog 103 #[.pointer (some ⟨x.p, 0, none⟩), .func (.func 119) #[] #[]] w fun e w' => e = .returned (.tuple #[]) ∧ RunS w' O x (s.lay (Ip.change 5 (Ip.linesOf s.buffer))) ∧ Turn [x.p] w w' := by
  have k5 := h.c5
  have hLi := linesOf_any s.buffer w (by omega)
  have ht := Ip.tot_lines s.buffer
  have hl := Ip.len_tot (Ip.linesOf s.buffer)
  have htc := Ip.tot_change 5 s.buffer (by omega)
  have hjl := Ip.joined_len (Ip.change 5 (Ip.linesOf s.buffer))
  have hCh : ∀ v W, TxR.Own W w.heap.size v (Ip.linesOf s.buffer) → Below w.heap.size w W → Calls Tryz.prog 119 #[v] W fun e w' => ∃ v', e = .returned v' ∧ TxR.Own w' W.heap.size v' (Ip.change 5 (Ip.linesOf s.buffer)) ∧ Below W.heap.size W w' := by
    intro v W h1 h2
    exact sorted_any _ v W _ h1 (by omega)
  have hJ := fun v W B h1 h2 => joined_any (Ip.change 5 (Ip.linesOf s.buffer)) v W B h1 h2 (by omega)
  have HR : Hid (s.lay (Ip.change 5 (Ip.linesOf s.buffer)) = if (Ip.joined (Ip.change 5 (Ip.linesOf s.buffer))).length ≤ 256 then { s with buffer := Ip.joined (Ip.change 5 (Ip.linesOf s.buffer)) } else s.fail 146 []) := rfl
  generalize s.lay (Ip.change 5 (Ip.linesOf s.buffer)) = R at *
  generalize Ip.change 5 (Ip.linesOf s.buffer) = LC at *
  generalize Ip.joined LC = J at *
  have hz := str_size J
  have jb : ((str J).size : Int) ≤ 1001 := by omega
  have HP : Hid _ := h
  by_cases hc : J.length ≤ 256
  · rw [if_pos hc] at HR
    have g1 : ¬ (256 : Int) < ((str J).size : Int) := by omega
    have hfin : ∀ W, RunS W O x s → RunS (W.setCell ⟨x.p, 5, none⟩ (.string (str J))) O x { s with buffer := J } ∧ Turn [x.p] W (W.setCell ⟨x.p, 5, none⟩ (.string (str J))) ∧ W.cell? ⟨x.p, 5, none⟩ = some (.string (str s.buffer)) ∧ W.frozen? ⟨x.p, 5, none⟩ = false := fun W hW => ⟨hW.setBuffer J, Turn.put1 _ _ _ _, hW.c5, hW.free 5⟩
    clear hb ht hl htc hjl hc hz h
    generalize str J = SJ at *
    generalize str s.buffer = SB at *
    go_enter Tryz.func103, Tryz.ntmps103
    go_wp2_with (first | (go_at_call 109; refine hLi.mono ?_; rintro e w1 ⟨⟨c1, rfl, h1⟩, h2⟩) | (go_at_call 119; refine (hCh _ _ h1 h2).mono ?_; rintro e w2 ⟨v2, rfl, h3, h4⟩) | (go_at_call 118; refine (hJ _ _ _ h3.sl (Nat.le_refl _)).mono ?_; rintro e w3 ⟨rfl, h5⟩; have hB := (h2.trans (h4.mono h2.size)).trans (h5.mono (Nat.le_trans h2.size h4.size)); obtain ⟨f1, f2, f3, f4⟩ := hfin w3 (HP.out.below hB)) | fail)
    go_end0
    rw [HR.out]
    exact ⟨rfl, f1, ((Turn.of_below hB).mono (by simp)).trans f2 (fun _ hx _ => hx)⟩
  · rw [if_neg hc] at HR
    have g1 : (256 : Int) < ((str J).size : Int) := by omega
    have hF := fun W hh => fail_any 146 [] W O x s hh
    change ∀ W hh, Calls _ _ #[_, .int .i64 146, .string ⟨#[]⟩] _ _ at hF
    clear hb ht hl htc hjl hc hz h
    generalize str J = SJ at *
    generalize str s.buffer = SB at *
    go_enter Tryz.func103, Tryz.ntmps103
    go_wp2_with (first | (go_at_call 109; refine hLi.mono ?_; rintro e w1 ⟨⟨c1, rfl, h1⟩, h2⟩) | (go_at_call 119; refine (hCh _ _ h1 h2).mono ?_; rintro e w2 ⟨v2, rfl, h3, h4⟩) | (go_at_call 118; refine (hJ _ _ _ h3.sl (Nat.le_refl _)).mono ?_; rintro e w3 ⟨rfl, h5⟩; have hB := (h2.trans (h4.mono h2.size)).trans (h5.mono (Nat.le_trans h2.size h4.size)); have hF3 := hF w3 (HP.out.below hB)) | (go_at_call 52; refine hF3.mono ?_; rintro e w4 ⟨rfl, h6, h7⟩) | fail)
    refine bodyPost_ret (results_none rfl _ _ _) rfl ?_
    rw [HR.out]
    exact ⟨rfl, h6, ((Turn.of_below hB).mono (by simp)).trans h7 (fun _ hx _ => hx)⟩

set_option maxRecDepth 100000 in
set_option maxHeartbeats 1000000 in
theorem changeLines_6 (w : World) (O : List Nat) (x : RP) (s : Ip.St) (h : RunS w O x s) (hb : s.buffer.length ≤ 256) (_ : Laid w) :
    Calls Tryz.prog 103 #[.pointer (some ⟨x.p, 0, none⟩), .func (.func 120) #[] #[]] w fun e w' => e = .returned (.tuple #[]) ∧ RunS w' O x (s.lay (Ip.change 6 (Ip.linesOf s.buffer))) ∧ Turn [x.p] w w' := by
  have k5 := h.c5
  have hLi := linesOf_any s.buffer w (by omega)
  have ht := Ip.tot_lines s.buffer
  have hl := Ip.len_tot (Ip.linesOf s.buffer)
  have htc := Ip.tot_change 6 s.buffer (by omega)
  have hjl := Ip.joined_len (Ip.change 6 (Ip.linesOf s.buffer))
  have hCh : ∀ v W, TxR.Own W w.heap.size v (Ip.linesOf s.buffer) → Below w.heap.size w W → Calls Tryz.prog 120 #[v] W fun e w' => ∃ v', e = .returned v' ∧ TxR.Own w' W.heap.size v' (Ip.change 6 (Ip.linesOf s.buffer)) ∧ Below W.heap.size W w' := by
    intro v W h1 h2
    exact unlike_any _ v W _ h1 (by omega)
  have hJ := fun v W B h1 h2 => joined_any (Ip.change 6 (Ip.linesOf s.buffer)) v W B h1 h2 (by omega)
  have HR : Hid (s.lay (Ip.change 6 (Ip.linesOf s.buffer)) = if (Ip.joined (Ip.change 6 (Ip.linesOf s.buffer))).length ≤ 256 then { s with buffer := Ip.joined (Ip.change 6 (Ip.linesOf s.buffer)) } else s.fail 146 []) := rfl
  generalize s.lay (Ip.change 6 (Ip.linesOf s.buffer)) = R at *
  generalize Ip.change 6 (Ip.linesOf s.buffer) = LC at *
  generalize Ip.joined LC = J at *
  have hz := str_size J
  have jb : ((str J).size : Int) ≤ 1001 := by omega
  have HP : Hid _ := h
  by_cases hc : J.length ≤ 256
  · rw [if_pos hc] at HR
    have g1 : ¬ (256 : Int) < ((str J).size : Int) := by omega
    have hfin : ∀ W, RunS W O x s → RunS (W.setCell ⟨x.p, 5, none⟩ (.string (str J))) O x { s with buffer := J } ∧ Turn [x.p] W (W.setCell ⟨x.p, 5, none⟩ (.string (str J))) ∧ W.cell? ⟨x.p, 5, none⟩ = some (.string (str s.buffer)) ∧ W.frozen? ⟨x.p, 5, none⟩ = false := fun W hW => ⟨hW.setBuffer J, Turn.put1 _ _ _ _, hW.c5, hW.free 5⟩
    clear hb ht hl htc hjl hc hz h
    generalize str J = SJ at *
    generalize str s.buffer = SB at *
    go_enter Tryz.func103, Tryz.ntmps103
    go_wp2_with (first | (go_at_call 109; refine hLi.mono ?_; rintro e w1 ⟨⟨c1, rfl, h1⟩, h2⟩) | (go_at_call 120; refine (hCh _ _ h1 h2).mono ?_; rintro e w2 ⟨v2, rfl, h3, h4⟩) | (go_at_call 118; refine (hJ _ _ _ h3.sl (Nat.le_refl _)).mono ?_; rintro e w3 ⟨rfl, h5⟩; have hB := (h2.trans (h4.mono h2.size)).trans (h5.mono (Nat.le_trans h2.size h4.size)); obtain ⟨f1, f2, f3, f4⟩ := hfin w3 (HP.out.below hB)) | fail)
    go_end0
    rw [HR.out]
    exact ⟨rfl, f1, ((Turn.of_below hB).mono (by simp)).trans f2 (fun _ hx _ => hx)⟩
  · rw [if_neg hc] at HR
    have g1 : (256 : Int) < ((str J).size : Int) := by omega
    have hF := fun W hh => fail_any 146 [] W O x s hh
    change ∀ W hh, Calls _ _ #[_, .int .i64 146, .string ⟨#[]⟩] _ _ at hF
    clear hb ht hl htc hjl hc hz h
    generalize str J = SJ at *
    generalize str s.buffer = SB at *
    go_enter Tryz.func103, Tryz.ntmps103
    go_wp2_with (first | (go_at_call 109; refine hLi.mono ?_; rintro e w1 ⟨⟨c1, rfl, h1⟩, h2⟩) | (go_at_call 120; refine (hCh _ _ h1 h2).mono ?_; rintro e w2 ⟨v2, rfl, h3, h4⟩) | (go_at_call 118; refine (hJ _ _ _ h3.sl (Nat.le_refl _)).mono ?_; rintro e w3 ⟨rfl, h5⟩; have hB := (h2.trans (h4.mono h2.size)).trans (h5.mono (Nat.le_trans h2.size h4.size)); have hF3 := hF w3 (HP.out.below hB)) | (go_at_call 52; refine hF3.mono ?_; rintro e w4 ⟨rfl, h6, h7⟩) | fail)
    refine bodyPost_ret (results_none rfl _ _ _) rfl ?_
    rw [HR.out]
    exact ⟨rfl, h6, ((Turn.of_below hB).mono (by simp)).trans h7 (fun _ hx _ => hx)⟩

set_option maxRecDepth 100000 in
set_option maxHeartbeats 1000000 in
theorem changeLines_7 (w : World) (O : List Nat) (x : RP) (s : Ip.St) (h : RunS w O x s) (hb : s.buffer.length ≤ 256) (hLd : Laid w) :
    Calls Tryz.prog 103 #[.pointer (some ⟨x.p, 0, none⟩), .func (.func 121) #[] #[]] w fun e w' => e = .returned (.tuple #[]) ∧ RunS w' O x (s.lay (Ip.change 7 (Ip.linesOf s.buffer))) ∧ Turn [x.p] w w' := by
  have k5 := h.c5
  have hLi := linesOf_any s.buffer w (by omega)
  have ht := Ip.tot_lines s.buffer
  have hl := Ip.len_tot (Ip.linesOf s.buffer)
  have htc := Ip.tot_change 7 s.buffer (by omega)
  have hjl := Ip.joined_len (Ip.change 7 (Ip.linesOf s.buffer))
  have hCh : ∀ v W, TxR.Own W w.heap.size v (Ip.linesOf s.buffer) → Below w.heap.size w W → Calls Tryz.prog 121 #[v] W fun e w' => ∃ v', e = .returned v' ∧ TxR.Own w' W.heap.size v' (Ip.change 7 (Ip.linesOf s.buffer)) ∧ Below W.heap.size W w' := by
    intro v W h1 h2
    exact counted_any _ v W _ h1 (by omega) (hLd.below h2 (Nat.le_trans hLd.size (Nat.le_refl _)))
  have hJ := fun v W B h1 h2 => joined_any (Ip.change 7 (Ip.linesOf s.buffer)) v W B h1 h2 (by omega)
  have HR : Hid (s.lay (Ip.change 7 (Ip.linesOf s.buffer)) = if (Ip.joined (Ip.change 7 (Ip.linesOf s.buffer))).length ≤ 256 then { s with buffer := Ip.joined (Ip.change 7 (Ip.linesOf s.buffer)) } else s.fail 146 []) := rfl
  generalize s.lay (Ip.change 7 (Ip.linesOf s.buffer)) = R at *
  generalize Ip.change 7 (Ip.linesOf s.buffer) = LC at *
  generalize Ip.joined LC = J at *
  have hz := str_size J
  have jb : ((str J).size : Int) ≤ 1001 := by omega
  have HP : Hid _ := h
  by_cases hc : J.length ≤ 256
  · rw [if_pos hc] at HR
    have g1 : ¬ (256 : Int) < ((str J).size : Int) := by omega
    have hfin : ∀ W, RunS W O x s → RunS (W.setCell ⟨x.p, 5, none⟩ (.string (str J))) O x { s with buffer := J } ∧ Turn [x.p] W (W.setCell ⟨x.p, 5, none⟩ (.string (str J))) ∧ W.cell? ⟨x.p, 5, none⟩ = some (.string (str s.buffer)) ∧ W.frozen? ⟨x.p, 5, none⟩ = false := fun W hW => ⟨hW.setBuffer J, Turn.put1 _ _ _ _, hW.c5, hW.free 5⟩
    clear hb ht hl htc hjl hc hz h
    generalize str J = SJ at *
    generalize str s.buffer = SB at *
    go_enter Tryz.func103, Tryz.ntmps103
    go_wp2_with (first | (go_at_call 109; refine hLi.mono ?_; rintro e w1 ⟨⟨c1, rfl, h1⟩, h2⟩) | (go_at_call 121; refine (hCh _ _ h1 h2).mono ?_; rintro e w2 ⟨v2, rfl, h3, h4⟩) | (go_at_call 118; refine (hJ _ _ _ h3.sl (Nat.le_refl _)).mono ?_; rintro e w3 ⟨rfl, h5⟩; have hB := (h2.trans (h4.mono h2.size)).trans (h5.mono (Nat.le_trans h2.size h4.size)); obtain ⟨f1, f2, f3, f4⟩ := hfin w3 (HP.out.below hB)) | fail)
    go_end0
    rw [HR.out]
    exact ⟨rfl, f1, ((Turn.of_below hB).mono (by simp)).trans f2 (fun _ hx _ => hx)⟩
  · rw [if_neg hc] at HR
    have g1 : (256 : Int) < ((str J).size : Int) := by omega
    have hF := fun W hh => fail_any 146 [] W O x s hh
    change ∀ W hh, Calls _ _ #[_, .int .i64 146, .string ⟨#[]⟩] _ _ at hF
    clear hb ht hl htc hjl hc hz h
    generalize str J = SJ at *
    generalize str s.buffer = SB at *
    go_enter Tryz.func103, Tryz.ntmps103
    go_wp2_with (first | (go_at_call 109; refine hLi.mono ?_; rintro e w1 ⟨⟨c1, rfl, h1⟩, h2⟩) | (go_at_call 121; refine (hCh _ _ h1 h2).mono ?_; rintro e w2 ⟨v2, rfl, h3, h4⟩) | (go_at_call 118; refine (hJ _ _ _ h3.sl (Nat.le_refl _)).mono ?_; rintro e w3 ⟨rfl, h5⟩; have hB := (h2.trans (h4.mono h2.size)).trans (h5.mono (Nat.le_trans h2.size h4.size)); have hF3 := hF w3 (HP.out.below hB)) | (go_at_call 52; refine hF3.mono ?_; rintro e w4 ⟨rfl, h6, h7⟩) | fail)
    refine bodyPost_ret (results_none rfl _ _ _) rfl ?_
    rw [HR.out]
    exact ⟨rfl, h6, ((Turn.of_below hB).mono (by simp)).trans h7 (fun _ hx _ => hx)⟩

end Go.Proofs.YtnobmgkdieaclaaGreatDoor
