/-
  WHAT THE LAWS' OWN Find, files DO.
-/
import Derived.Test.YtnobmgkdieaclaaGreatDoorIpTexts
namespace Go.Proofs.YtnobmgkdieaclaaGreatDoor
open Go.RowKit

/-- rows of files -/
def FiR : Rc (Ip.B × Ip.B) where
  e := 100
  st := 54
  k := 2
  bytes := 32
  z := .agg #[.string .empty, .string .empty]
  enc x := [.string (str x.1), .string (str x.2)]
  pos := by decide
  len _ := rfl
  one f u hu := by
    simp only [List.mem_cons, List.not_mem_nil, or_false] at hu
    rcases hu with rfl | rfl <;> rfl
  info := by kernel_rfl
  under := Tryz.underlying54
  zk := rfl
  small := by decide
/-- a path's content, the first file that has it -/
def Ip.find : List (Ip.B × Ip.B) → Ip.B → Option Ip.B
  | [], _ => none
  | a :: r, p => if a.1 = p then some a.2 else Ip.find r p
theorem FiR.at {w : World} {B : Nat} {v : Value} {l : List (Ip.B × Ip.B)} (h : FiR.Sl w B v l) {k : Nat} (hk : k < l.length) :
    ∃ g o c, v = .slice (some ⟨g, o, none⟩) l.length c ∧ g < B ∧ w.cell? ⟨g, o + k * 2, none⟩ = some (.string (str l[k].1)) ∧ w.cell? ⟨g, o + k * 2 + 1, none⟩ = some (.string (str l[k].2)) := by
  obtain ⟨g, o, c, e1, hg, hc⟩ := h.cells k hk
  exact ⟨g, o, c, e1, hg, hc 0 _ (by decide) rfl, hc 1 _ (by decide) rfl⟩
theorem results_an {fn : Func} {p : Tmp} (h : fn.results = #[.cell p 52]) (tmps : Array Value) (W : World) {g : Nat} {cs : Array Value} (hR : Rw W g cs 52) (hz : cs.size = 2) (hp : tmps.getD p undef = .pointer (some ⟨g, 0, none⟩)) :
    (results fn tmps).run Tryz.prog W = .ok (.agg cs) W := by
  have hp' : tmps[p]?.getD undef = .pointer (some ⟨g, 0, none⟩) := by simpa using hp
  simp [results, h, hp', asAddr, run_loadVar_row W g _ 52 cs (0, 0) _ hR Tryz.underlying52 rfl (by rw [hz]; kernel_rfl)]
/-- an answer as a value -/
def ansV (a : Option Ip.B) : Value := .agg #[.string (str (a.getD [])), .bool a.isSome]
set_option maxRecDepth 100000 in
set_option maxHeartbeats 1000000 in
theorem Find_any (l : List (Ip.B × Ip.B)) (v : Value) (p : Ip.B) (w : World) (B : Nat) (h : FiR.Sl w B v l) (hB : B ≤ w.heap.size) (hl : l.length ≤ 140737488351232) :
    Calls Tryz.prog 34 #[v, .string (str p)] w fun e w' => e = .returned (ansV (Ip.find l p)) ∧ Below w.heap.size w w' := by
  obtain ⟨ad, c, rfl, hle⟩ := h.shape
  have lb : (l.length : Int) ≤ 140737488351232 := by omega
  have r0 := Rw.new w #[.string ⟨#[]⟩, .bool false] 52
  have hb := (Below.refl w.heap.size w).alloc (Nat.le_refl _) (.cells #[.string ⟨#[]⟩, .bool false] 52)
  have h' := h.below hb hB
  obtain ⟨R, hR⟩ : ∃ R, Ip.find l p = R := ⟨_, rfl⟩
  rw [hR]
  have HR : Hid (Ip.find (l.drop 0) p = R) := hR
  clear hR h
  go_enter Tryz.func34, Tryz.ntmps34
  go_upto_region 1 with fail
  generalize w.alloc (.cells #[.string ⟨#[]⟩, .bool false] 52) = Y at *
  have c0 := r0.cell 0
  have c1 := r0.cell 1
  have f0 := r0.free 0
  have f1 := r0.free 1
  go_wp2
  go_loop [5] (fun i => ∃ k : Nat, k ≤ l.length ∧ i = .int .i64 (k : Int) ∧ Hid (Ip.find (l.drop k) p = R)) (fun i => l.length - (intOf i).toNat)
  case atStart => exact ⟨0, Nat.zero_le _, rfl, HR⟩
  case round =>
    obtain ⟨k, hk, rfl, HK⟩ := hrel
    by_cases hlt : k < l.length
    · have i1 : (k : Int) < (l.length : Int) := by omega
      obtain ⟨g, o, c', e1, hg, p1, p2⟩ := FiR.at h' hlt
      simp only [Value.slice.injEq] at e1
      obtain ⟨e1, -, -⟩ := e1
      have hK := HK.out
      rw [List.drop_eq_getElem_cons hlt, Ip.find] at hK
      have hbq := beq_str l[k].1 p
      rw [e1] at *
      by_cases he : l[k].1 = p
      · rw [if_pos he] at hK
        rw [decide_eq_true he] at hbq
        have HF : Hid (R = some l[k].2) := hK.symm
        have q2 := r0.put2 (.string (str l[k].2)) (.bool true)
        have hT2 := Turn.put2 Y w.heap.size (.string (str l[k].2)) (.bool true)
        have HB : Hid (Below w.heap.size w Y) := hb
        clear hK he HK HR
        generalize str l[k].1 = S1 at *
        generalize str p = P at *
        obtain ⟨S2, hS2⟩ : ∃ S2, str l[k].2 = S2 := ⟨_, rfl⟩
        rw [hS2] at p2 q2 hT2
        go_wp2
        refine bodyPost_ret (results_an Tryz.results34 _ _ q2 rfl rfl) rfl ⟨?_, hT2.bel HB.out (by simp)⟩
        rw [HF.out]
        unfold ansV
        simp only [Option.getD_some, Option.isSome_some]
        rw [hS2]
      · rw [if_neg he] at hK
        rw [decide_eq_false he] at hbq
        have HN : Hid _ := hK
        clear hK he HK HR
        generalize str l[k].1 = S1 at *
        generalize str p = P at *
        go_wp2
        exact ⟨⟨k + 1, by omega, by go_num, HN⟩, by simp [intOf]; omega⟩
    · obtain rfl : k = l.length := by omega
      have i1 : ¬ (l.length : Int) < (l.length : Int) := by omega
      have hK := HK.out
      rw [List.drop_length, Ip.find] at hK
      have HF : Hid (R = none) := hK.symm
      have q2 := r0.put2 (.string ⟨#[]⟩) (.bool false)
      have hT2 := Turn.put2 Y w.heap.size (.string ⟨#[]⟩) (.bool false)
      have HB : Hid (Below w.heap.size w Y) := hb
      clear hK HK HR
      go_wp2
      refine bodyPost_ret (results_an Tryz.results34 _ _ q2 rfl rfl) rfl ⟨?_, hT2.bel HB.out (by simp)⟩
      rw [HF.out]
      rfl
/-- what the files' closure keeps to -/
def FileJ (B0 bx : Nat) (v : Value) (l : List (Ip.B × Ip.B)) (_ : List Ip.B) (D : List Nat) (W : World) : Prop := D = [] ∧ Rw W bx #[v] 54 ∧ bx < B0 ∧ FiR.Sl W B0 v l ∧ B0 ≤ W.heap.size
theorem file_keeps (B0 bx : Nat) (v : Value) (l : List (Ip.B × Ip.B)) : Keeps B0 (FileJ B0 bx v l) where
  keep := by
    rintro qs D W W' S ⟨rfl, h1, h2, h3, h4⟩ hT hS
    have hb : Below B0 W W' := hT.below' h4 (fun b hb => (hS b hb).1)
    exact ⟨rfl, h1.below hb h2, h2, h3.below hb (Nat.le_refl _), Nat.le_trans h4 hb.size⟩
  lt := by
    rintro qs D W ⟨rfl, -⟩ b hb
    cases hb
set_option maxRecDepth 100000 in
theorem file_ask (B0 bx : Nat) (v : Value) (l : List (Ip.B × Ip.B)) (hl : l.length ≤ 140737488351232) (hz : ∀ a ∈ l, a.2.length ≤ 140737488351232) : AskC 57 #[.pointer (some ⟨bx, 0, none⟩)] (Ip.find l) (FileJ B0 bx v l) where
  enter := enters_of Tryz.func57 (by kernel_rfl) rfl
  call := by
    rintro W qs D p ⟨rfl, h1, h2, h3, h4⟩ - -
    have hF := Find_any l v p W B0 h3 h4 hl
    have b0 := h1.cell 0
    have HE : Hid (∀ w', Below W.heap.size W w' → ∃ D', FileJ B0 bx v l (qs ++ [p]) D' w' ∧ (∀ b ∈ D', b ∈ ([] : List Nat) ∨ W.heap.size ≤ b) ∧ Turn [] W w') := fun w' hb => ⟨[], ⟨rfl, h1.below hb h1.lt, h2, (h3.below hb h4), Nat.le_trans h4 hb.size⟩, by simp, Turn.of_below hb⟩
    unfold ansV at hF
    clear h1 h2 h3 h4
    generalize str ((Ip.find l p).getD []) = S at *
    generalize (Ip.find l p).isSome = Q at *
    generalize str p = P at *
    show Calls Tryz.prog 57 #[.string P, .pointer (some ⟨bx, 0, none⟩)] W _
    go_enter Tryz.func57, Tryz.ntmps57
    go_upto_region 2 with (first | (go_at_call 34; refine hF.mono ?_; rintro e w1 ⟨rfl, hb1⟩) | fail)
    have r2 := Rw.new w1 #[.string S, .bool Q] 52
    have hb2 := hb1.alloc hb1.size (.cells #[.string S, .bool Q] 52)
    generalize w1.alloc (.cells #[.string S, .bool Q] 52) = V at *
    have c0 := r2.cell 0
    have c1 := r2.cell 1
    go_quiet (fail)
    go_wp2
    go_ret2
    exact ⟨rfl, HE.out _ ((Turn.of_below hb2).drewN _ |>.below (by simp))⟩
  short := by
    intro p c hc
    induction l with
    | nil => cases hc
    | cons a r ih =>
      rw [Ip.find] at hc
      split at hc
      · cases hc; exact hz a (List.mem_cons_self ..)
      · exact ih (by rw [List.length_cons] at hl; omega) (fun b hb => hz b (List.mem_cons_of_mem _ hb)) hc
set_option maxRecDepth 100000 in
theorem files_any (a : Option Addr) (n c : Nat) (w : World) : Calls Tryz.prog 28 #[.slice a n c] w fun e w' => e = .returned (.func (.func 57) #[] #[.pointer (some ⟨w.heap.size, 0, none⟩)]) ∧ w' = w.alloc (.cells #[.slice a n c] 54) := by
  go_enter Tryz.func28, Tryz.ntmps28
  go_wp2
  go_ret
  exact ⟨rfl, rfl⟩
end Go.Proofs.YtnobmgkdieaclaaGreatDoor

namespace Go.Proofs.YtnobmgkdieaclaaGreatDoor
open Go.RowKit

/-- a job that comes in -/
structure JobS (w : World) (B : Nat) (va : Option Addr) (vn vc : Nat) (ta : Option Addr) (tn tc : Nat) (f : Ac.Fo) (ts : List (List UInt8)) : Prop where
  code : FoS w B (.slice va vn vc) f
  tgs : TxR.Sl w B (.slice ta tn tc) ts
  low : B ≤ w.heap.size
  len : f.len ≤ reachBytes
  sz : Ac.SzE f
  many : ts.length ≤ reachBytes
  wide : ∀ s ∈ ts, s.length ≤ reachBytes
variable {w w' : World} {B : Nat} {va : Option Addr} {vn vc : Nat} {ta : Option Addr} {tn tc : Nat} {f : Ac.Fo} {ts : List (List UInt8)}
theorem JobS.below (h : JobS w B va vn vc ta tn tc f ts) (hb : Below w.heap.size w w') : JobS w' B va vn vc ta tn tc f ts := ⟨h.code.below hb h.low, h.tgs.below hb h.low, Nat.le_trans h.low hb.size, h.len, h.sz, h.many, h.wide⟩
theorem JobS.handed (h : JobS w B va vn vc ta tn tc f ts) : Handed w B (.slice va vn vc) (.slice ta tn tc) f ts := Handed.of h.code h.tgs h.low h.len h.sz h.many h.wide
def jobV (va : Option Addr) (vn vc : Nat) (ta : Option Addr) (tn tc : Nat) (fuel : Int) : Value := .agg #[.slice va vn vc, .slice ta tn tc, .int .i64 fuel]
set_option maxRecDepth 100000 in
set_option maxHeartbeats 1000000 in
theorem great_any (fuel : Int) (h : JobS w B va vn vc ta tn tc f ts) :
    Calls Tryz.prog 13 #[jobV va vn vc ta tn tc fuel] w fun e w' => (e = .returned (.bool true) ∨ (e = .returned (.bool false) ∧ Ac.wgt f ≤ 4000)) ∧ Below w.heap.size w w' := by
  have r0 := Rw.new w #[.slice va vn vc, .slice ta tn tc, .int .i64 fuel] 25
  have hb := (Below.refl w.heap.size w).alloc (Nat.le_refl _) (.cells #[.slice va vn vc, .slice ta tn tc, .int .i64 fuel] 25)
  have h' := h.below hb
  obtain ⟨_, _, e1, -⟩ := h'.tgs.shape
  simp only [Value.slice.injEq] at e1
  obtain ⟨-, rfl, -⟩ := e1
  have hW := weight_any f _ _ B 0 4000 h'.code h'.len h'.sz (by omega) (by omega) (by omega)
  have lb : (ts.length : Int) ≤ 140737488351232 := by have := h.many; have := reach_is; omega
  have HW : Hid (∀ s ∈ ts, s.length ≤ 140737488351232) := fun s hs => by have := h.wide s hs; have := reach_is; omega
  have hT := h'.tgs
  unfold jobV
  clear h h'
  go_enter Tryz.func13, Tryz.ntmps13
  go_upto_region 1 with fail
  generalize w.alloc (.cells #[.slice va vn vc, .slice ta ts.length tc, .int .i64 fuel] 25) = Y at *
  have c0 := r0.cell 0
  have c1 := r0.cell 1
  go_wp2
  go_loop [3, 4] (fun n i => ∃ (k : Nat) (m : Int), k ≤ ts.length ∧ i = .int .i64 (k : Int) ∧ n = .int .i64 m ∧ 0 ≤ m ∧ m ≤ 140737488360000) (fun _ i => ts.length - (intOf i).toNat)
  case atStart => exact ⟨0, 0, Nat.zero_le _, rfl, rfl, by omega, by omega⟩
  case round =>
    obtain ⟨k, m, hk, rfl, rfl, m0, m1⟩ := hrel
    by_cases hlt : k < ts.length
    · have i1 : (k : Int) < (ts.length : Int) := by omega
      by_cases hm : m < 4000
      · obtain ⟨g, o, c', e1, hg, p1⟩ := TxR.at hT hlt
        simp only [Value.slice.injEq] at e1
        obtain ⟨e1, -, -⟩ := e1
        have hs := HW.out _ (List.getElem_mem hlt)
        have hz := str_size ts[k]
        have hzb : ((str ts[k]).size : Int) ≤ 140737488351232 := by omega
        subst e1
        clear hs hz
        generalize str ts[k] = S at *
        go_wp2
        exact ⟨⟨k + 1, m + (1 + (S.size : Int)), by omega, by go_num, rfl, by omega, by omega⟩, by simp [intOf]; omega⟩
      · have m2 : (4000 : Int) ≤ m := by omega
        go_wp2
        go_ret
        exact ⟨.inl rfl, hb⟩
    · obtain rfl : k = ts.length := by omega
      have i1 : ¬ (ts.length : Int) < (ts.length : Int) := by omega
      by_cases hm : m < 4000
      · have m2 : ¬ (4000 : Int) ≤ m := by omega
        go_wp2_with (first | (go_at_call 42; refine hW.mono ?_; rintro e w1 ⟨⟨r', rfl, hr'⟩, hw⟩; rw [hw]; clear hw) | fail)
        go_ret
        refine ⟨?_, hb⟩
        by_cases hr : (4000 : Int) ≤ r'
        · left
          rw [decide_eq_true hr]
          rfl
        · right
          rw [decide_eq_false hr]
          have := (hr'.all (by omega)).1
          exact ⟨rfl, by omega⟩
      · have m2 : (4000 : Int) ≤ m := by omega
        go_wp2
        go_ret
        exact ⟨.inl rfl, hb⟩
end Go.Proofs.YtnobmgkdieaclaaGreatDoor

namespace Go.Proofs.YtnobmgkdieaclaaGreatDoor
open Go.RowKit

/-- fuel that is short enough -/
def shortF (fuel : Int) : Int := if 20000 < fuel ∧ fuel ≤ 65536 then fuel.tmod 20000 else fuel
theorem results_job {fn : Func} {p : Tmp} (h : fn.results = #[.cell p 25]) (tmps : Array Value) (W : World) {g : Nat} {cs : Array Value} (hR : Rw W g cs 25) (hz : cs.size = 3) (hp : tmps.getD p undef = .pointer (some ⟨g, 0, none⟩)) :
    (results fn tmps).run Tryz.prog W = .ok (.agg cs) W := by
  have hp' : tmps[p]?.getD undef = .pointer (some ⟨g, 0, none⟩) := by simpa using hp
  simp [results, h, hp', asAddr, run_loadVar_row W g _ 25 cs (0, 0) _ hR Tryz.underlying25 rfl (by rw [hz]; kernel_rfl)]
theorem Rw.put3 {W : World} {g : Nat} {t : TypeId} {x0 x1 x2 : Value} (h : Rw W g #[x0, x1, x2] t) (a0 a1 a2 : Value) : Rw (((W.setCell ⟨g, 0, none⟩ a0).setCell ⟨g, 1, none⟩ a1).setCell ⟨g, 2, none⟩ a2) g #[a0, a1, a2] t := ((h.set 0 a0 (by simp)).set 1 a1 (by simp)).set 2 a2 (by simp)
theorem Turn.put3 (W : World) (g : Nat) (a0 a1 a2 : Value) : Turn [g] W (((W.setCell ⟨g, 0, none⟩ a0).setCell ⟨g, 1, none⟩ a1).setCell ⟨g, 2, none⟩ a2) := (((Turn.refl [g] W).set (fun _ => by simp) _).set (fun _ => by simp) _).set (fun _ => by simp) _
set_option maxRecDepth 100000 in
set_option maxHeartbeats 1000000 in
theorem short_any (va : Option Addr) (vn vc : Nat) (ta : Option Addr) (tn tc : Nat) (fuel : Int) (w : World) :
    Calls Tryz.prog 22 #[jobV va vn vc ta tn tc fuel] w fun e w' => e = .returned (jobV va vn vc ta tn tc (shortF fuel)) ∧ Below w.heap.size w w' := by
  obtain ⟨r0, r1, hb, hz⟩ := Rw.two w #[.slice va vn vc, .slice ta tn tc, .int .i64 fuel] #[.slice none 0 0, .slice none 0 0, .int .i64 0] 25 25
  unfold jobV
  go_enter Tryz.func22, Tryz.ntmps22
  go_upto_region 1 with fail
  generalize (w.alloc (.cells #[.slice va vn vc, .slice ta tn tc, .int .i64 fuel] 25)).alloc (.cells #[.slice none 0 0, .slice none 0 0, .int .i64 0] 25) = Y at *
  have c0 := r0.cell 0
  have c1 := r0.cell 1
  have c2 := r0.cell 2
  have d0 := r1.cell 0
  have d1 := r1.cell 1
  have d2 := r1.cell 2
  have f0 := r1.free 0
  have f1 := r1.free 1
  have f2 := r1.free 2
  have k2 := r0.free 2
  by_cases h1 : 20000 < fuel
  · by_cases h2 : fuel ≤ 65536
    · have hF : Hid (shortF fuel = fuel.tmod 20000) := by show _ = _; unfold shortF; rw [if_pos ⟨h1, h2⟩]
      obtain ⟨Q, hQ⟩ : ∃ Q, fuel.tmod 20000 = Q := ⟨_, rfl⟩
      rw [hQ] at hF
      have q1 := (r1.turn (Turn.put1 Y w.heap.size 2 (.int .i64 Q)) (by simp)).put3 (.slice va vn vc) (.slice ta tn tc) (.int .i64 Q)
      have hT1 := (Turn.put1 Y w.heap.size 2 (.int .i64 Q))
      have hT2 := Turn.put3 (Y.setCell ⟨w.heap.size, 2, none⟩ (.int .i64 Q)) (w.heap.size + 1) (.slice va vn vc) (.slice ta tn tc) (.int .i64 Q)
      have hbb := hT2.bel (hT1.bel hb (by simp)) (by simp)
      clear hT1 hT2
      go_wp2
      refine bodyPost_ret (results_job Tryz.results22 _ _ q1 rfl rfl) rfl ⟨?_, hbb⟩
      rw [hF.out]
    · have hF : Hid (shortF fuel = fuel) := by show _ = _; unfold shortF; rw [if_neg (by omega)]
      have q1 := r1.put3 (.slice va vn vc) (.slice ta tn tc) (.int .i64 fuel)
      have hT2 := Turn.put3 Y (w.heap.size + 1) (.slice va vn vc) (.slice ta tn tc) (.int .i64 fuel)
      have hbb := hT2.bel hb (by simp)
      clear hT2
      go_wp2
      refine bodyPost_ret (results_job Tryz.results22 _ _ q1 rfl rfl) rfl ⟨?_, hbb⟩
      rw [hF.out]
  · have hF : Hid (shortF fuel = fuel) := by show _ = _; unfold shortF; rw [if_neg (by omega)]
    have q1 := r1.put3 (.slice va vn vc) (.slice ta tn tc) (.int .i64 fuel)
    have hT2 := Turn.put3 Y (w.heap.size + 1) (.slice va vn vc) (.slice ta tn tc) (.int .i64 fuel)
    have hbb := hT2.bel hb (by simp)
    clear hT2
    go_wp2
    refine bodyPost_ret (results_job Tryz.results22 _ _ q1 rfl rfl) rfl ⟨?_, hbb⟩
    rw [hF.out]
end Go.Proofs.YtnobmgkdieaclaaGreatDoor

namespace Go.Proofs.YtnobmgkdieaclaaGreatDoor
open Go.RowKit

/-- what a whole run comes to: nothing, where it may not be begun -/
def Ip.whole (f : Ac.Fo) (ts : List Ip.B) (fuel : Int) (af : Ip.B → Option Ip.B) : Option Rn := if Ip.mayNew f ts fuel = true then some (Ip.St.done af (Ip.new f ts fuel.toNat).step).rn else none
def Rn.zero : Rn := ⟨Ip.Ev.zero, [], [], 0⟩
/-- what Do answers -/
def wholeR (o : Option Rn) : Rn := o.getD Rn.zero
def wholeE (o : Option Rn) : Int := if o.isSome then 0 else 2
theorem rn_outs (s : Ip.St) : s.rn.outs = s.outs := rfl
set_option maxRecDepth 100000 in
/-- Do, asked with whoever keeps to J -/
theorem Do_ask {w : World} {B : Nat} {va : Option Addr} {vn vc : Nat} {ta : Option Addr} {tn tc : Nat} {f : Ac.Fo} {ts : List (List UInt8)} (h : JobS w B va vn vc ta tn tc f ts) (hL : Laid w) (fuel : Int) (h1 : -9223372036854775808 ≤ fuel) (h2 : fuel ≤ 9223372036854775807) (hw : Ac.wgt f ≤ 4000) (av : Value) (af : Ip.B → Option Ip.B) (J : List Ip.B → List Nat → World → Prop) (D0 : List Nat)
    (hA : AnsC av af w.heap.size J) (hK : Keeps w.heap.size J) (hJ : J [] D0 w) (hD7 : ∀ b ∈ D0, 7 ≤ b) :
    Calls Tryz.prog 15 #[.slice va vn vc, .slice ta tn tc, .int .i64 fuel, av] w fun e w' => (∃ oa on oc na nn nc, e = .returned (.tuple #[ranV (wholeR (Ip.whole f ts fuel af)).ev (.slice oa on oc) (.slice na nn nc) (wholeR (Ip.whole f ts fuel af)).used, .int .i64 (wholeE (Ip.whole f ts fuel af))]) ∧ TxR.Own w' w.heap.size (.slice oa on oc) (wholeR (Ip.whole f ts fuel af)).outs ∧ TxR.Own w' w.heap.size (.slice na nn nc) (wholeR (Ip.whole f ts fuel af)).needs) ∧
      (∃ D', J (wholeR (Ip.whole f ts fuel af)).needs D' w' ∧ ∀ b ∈ D', b ∈ D0 ∨ w.heap.size ≤ b) ∧ Turn D0 w w' := by
  unfold Ip.whole
  cases hy : Ip.mayNew f ts fuel with
  | true =>
    refine (Do_yes av af J f ts fuel _ _ w B D0 h.handed hL h1 h2 hy (Ip.new_ok hy hw) hA hK hJ hD7).mono ?_
    rintro e w' ⟨⟨oa, on, oc, na, nn, nc, rfl, p1, p2⟩, ⟨D', q1, q2⟩, hT⟩
    exact ⟨⟨oa, on, oc, na, nn, nc, rfl, p1, p2⟩, ⟨D', q1, q2⟩, hT⟩
  | false =>
    refine (Do_no av f ts fuel _ _ w B h.handed hL h1 h2 hy).mono ?_
    rintro e w' ⟨rfl, hb⟩
    exact ⟨⟨none, 0, 0, none, 0, 0, rfl, Rc.Own.nil _ _, Rc.Own.nil _ _⟩, ⟨D0, hK.keep hJ (Turn.of_below hb) (by simp), fun b hb => .inl hb⟩, (Turn.of_below hb).mono (by simp)⟩
/-- .. with files -/
theorem Do_files {w : World} {B : Nat} {va : Option Addr} {vn vc : Nat} {ta : Option Addr} {tn tc : Nat} {f : Ac.Fo} {ts : List (List UInt8)} (h : JobS w B va vn vc ta tn tc f ts) (hL : Laid w) (fuel : Int) (h1 : -9223372036854775808 ≤ fuel) (h2 : fuel ≤ 9223372036854775807) (hw : Ac.wgt f ≤ 4000) (bx : Nat) (v : Value) (l : List (Ip.B × Ip.B)) (hb : Rw w bx #[v] 54) (hl : FiR.Sl w w.heap.size v l) (hn : l.length ≤ 140737488351232) (hz : ∀ a ∈ l, a.2.length ≤ 140737488351232) :
    Calls Tryz.prog 15 #[.slice va vn vc, .slice ta tn tc, .int .i64 fuel, .func (.func 57) #[] #[.pointer (some ⟨bx, 0, none⟩)]] w fun e w' => ∃ oa on oc na nn nc, e = .returned (.tuple #[ranV (wholeR (Ip.whole f ts fuel (Ip.find l))).ev (.slice oa on oc) (.slice na nn nc) (wholeR (Ip.whole f ts fuel (Ip.find l))).used, .int .i64 (wholeE (Ip.whole f ts fuel (Ip.find l)))]) ∧ TxR.Own w' w.heap.size (.slice oa on oc) (wholeR (Ip.whole f ts fuel (Ip.find l))).outs ∧ TxR.Own w' w.heap.size (.slice na nn nc) (wholeR (Ip.whole f ts fuel (Ip.find l))).needs ∧ Below w.heap.size w w' := by
  have hK := file_keeps w.heap.size bx v l
  refine (Do_ask h hL fuel h1 h2 hw _ (Ip.find l) (FileJ w.heap.size bx v l) [] (answer_some (file_ask w.heap.size bx v l hn hz) hK) hK ⟨rfl, hb, hb.lt, hl, Nat.le_refl _⟩ (by simp)).mono ?_
  rintro e w' ⟨⟨oa, on, oc, na, nn, nc, rfl, p1, p2⟩, -, hT⟩
  exact ⟨oa, on, oc, na, nn, nc, rfl, p1, p2, hT.below (by simp)⟩
end Go.Proofs.YtnobmgkdieaclaaGreatDoor
