/-
  WHAT New DOES.
-/
import Derived.Test.YtnobmgkdieaclaaGreatDoorIpClon
import Derived.Test.YtnobmgkdieaclaaGreatDoorIpMay
namespace Go.Proofs.YtnobmgkdieaclaaGreatDoor
open Go.RowKit Go.MapKept Go.Maps

theorem Rc.Own.litI {α : Type} {R : Rc α} (w : World) (base n : Nat) (cs : Array Value) (l : List α) (hb : base ≤ w.heap.size) (hn : n = l.length) (hm : n ≤ 1099511627) (hcs : cs.toList = R.vals l) : R.Own (w.alloc (.cells cs R.e)) base (.slice (some ⟨w.heap.size, 0, none⟩) n n) l := by
  subst hn
  have h := World.ownsRow_lit (base := base) (e := R.e) (size := R.k) w cs l.length hb (by unfold maxLen; omega) (by rw [← Array.length_toList, hcs, R.vals_length])
  unfold Rc.Own
  rw [← hcs]
  exact h
/-- what New is handed -/
structure Handed (w : World) (B : Nat) (vc vt : Value) (f : Ac.Fo) (ts : List (List UInt8)) : Prop where
  code : FoS w B vc f
  tgs : TxR.Sl w B vt ts
  low : B ≤ w.heap.size
  len : f.len ≤ 140737488351232
  wid : Ac.wid f
  lite : Ac.may f = true → f.len ≤ 1000000 ∧ Ac.lite f
  many : ts.length ≤ 140737488351232
  wide : ∀ s ∈ ts, s.length ≤ 140737488351232
theorem Handed.below {w w' : World} {B : Nat} {vc vt : Value} {f : Ac.Fo} {ts : List (List UInt8)} (h : Handed w B vc vt f ts) (hb : Below w.heap.size w w') : Handed w' B vc vt f ts := ⟨h.code.below hb h.low, h.tgs.below hb h.low, Nat.le_trans h.low hb.size, h.len, h.wid, h.lite, h.many, h.wide⟩
set_option maxRecDepth 100000 in
set_option maxHeartbeats 1000000 in
theorem New_no (f : Ac.Fo) (ts : List (List UInt8)) (fuel : Int) (vc vt : Value) (w : World) (B : Nat) (h : Handed w B vc vt f ts) (hL : Laid w) (h1 : -9223372036854775808 ≤ fuel) (h2 : fuel ≤ 9223372036854775807) (hno : Ip.mayNew f ts fuel = false) :
    Calls Tryz.prog 14 #[vc, vt, .int .i64 fuel] w fun e w' => e = .returned (.tuple #[.pointer none, .int .i64 2]) ∧ Below w.heap.size w w' := by
  have hM := May_any f vc w B h.code h.low hL h.len h.wid
  have hT := fun W hW => mayTargets_any ts vt W B ((h.below hW).tgs) (h.below hW).low h.many h.wide
  clear h
  unfold Ip.mayNew at hno
  cases hm : Ac.may f with
  | false =>
    rw [hm] at hM
    clear hno hm
    go_enter Tryz.func14, Tryz.ntmps14
    go_wp2_with (first | (go_at_call 43; refine hM.mono ?_; rintro e w1 ⟨rfl, hb1⟩) | fail)
    go_ret2
    exact ⟨rfl, hb1⟩
  | true =>
    rw [hm, Bool.true_and] at hno
    rw [hm] at hM
    cases ht : Ip.mayT ts with
    | false =>
      rw [ht] at hT
      clear hno ht hm
      go_enter Tryz.func14, Tryz.ntmps14
      go_wp2_with (first | (go_at_call 43; refine hM.mono ?_; rintro e w1 ⟨rfl, hb1⟩) | (go_at_call 44; refine (hT _ hb1).mono ?_; rintro e w2 ⟨rfl, hb2⟩) | fail)
      go_ret2
      exact ⟨rfl, hb1.trans (hb2.mono hb1.size)⟩
    | true =>
      rw [ht, Bool.true_and, decide_eq_false_iff_not] at hno
      rw [ht] at hT
      clear ht hm
      by_cases hf : fuel < 0
      · clear hno
        go_enter Tryz.func14, Tryz.ntmps14
        go_wp2_with (first | (go_at_call 43; refine hM.mono ?_; rintro e w1 ⟨rfl, hb1⟩) | (go_at_call 44; refine (hT _ hb1).mono ?_; rintro e w2 ⟨rfl, hb2⟩) | fail)
        go_ret2
        exact ⟨rfl, hb1.trans (hb2.mono hb1.size)⟩
      · have hf2 : 65536 < fuel := by omega
        clear hno
        go_enter Tryz.func14, Tryz.ntmps14
        go_wp2_with (first | (go_at_call 43; refine hM.mono ?_; rintro e w1 ⟨rfl, hb1⟩) | (go_at_call 44; refine (hT _ hb1).mono ?_; rintro e w2 ⟨rfl, hb2⟩) | fail)
        go_ret2
        exact ⟨rfl, hb1.trans (hb2.mono hb1.size)⟩
set_option maxRecDepth 100000 in
set_option maxHeartbeats 1000000 in
theorem New_yes (f : Ac.Fo) (ts : List (List UInt8)) (fuel : Int) (vc vt : Value) (w : World) (B : Nat) (O : List Nat) (h : Handed w B vc vt f ts) (hL : Laid w) (h1 : -9223372036854775808 ≤ fuel) (h2 : fuel ≤ 9223372036854775807) (hyes : Ip.mayNew f ts fuel = true) (hO : ∀ b ∈ O, b < w.heap.size) :
    Calls Tryz.prog 14 #[vc, vt, .int .i64 fuel] w fun e w' => ∃ x, e = .returned (.tuple #[.pointer (some ⟨x.p, 0, none⟩), .int .i64 0]) ∧ RunS w' (x.own ++ O) x (Ip.new f ts fuel.toNat) ∧ (∀ b ∈ x.own, w.heap.size ≤ b) ∧ Below w.heap.size w w' := by
  have hM := May_any f vc w B h.code h.low hL h.len h.wid
  have hT := fun W hW => mayTargets_any ts vt W B ((h.below hW).tgs) (h.below hW).low h.many h.wide
  unfold Ip.mayNew at hyes
  simp only [Bool.and_eq_true, decide_eq_true_eq] at hyes
  obtain ⟨⟨hm, ht⟩, hf1, hf2⟩ := hyes
  rw [hm] at hM
  rw [ht] at hT
  have hln : ts.length ≤ 4 := by
    unfold Ip.mayT at ht
    simp only [Bool.and_eq_true, decide_eq_true_eq] at ht
    omega
  obtain ⟨l1, l2⟩ := h.lite hm
  have hCt := fun W hW => CloneT_any ts vt B W ((h.below hW).tgs) (h.below hW).low (by omega)
  have hCc := fun W hW => cloneCode_any f vc W B ((h.below hW).code) (h.below hW).low l1 l2
  have nf1 : ¬ fuel < 0 := by omega
  have nf2 : ¬ 65536 < fuel := by omega
  clear h ht hm
  go_enter Tryz.func14, Tryz.ntmps14
  go_upto_region 3 with (first | (go_at_call 43; refine hM.mono ?_; rintro e w1 ⟨rfl, hb1⟩) | (go_at_call 44; refine (hT _ hb1).mono ?_; rintro e w2 ⟨rfl, hb2⟩) | fail)
  have hbw := hb1.trans (hb2.mono hb1.size)
  have hmm := @run_makeMap Tryz.prog
  go_wp2_with (first | (go_at_call 45; refine (hCt _ hbw).mono ?_; rintro e w3 ⟨a3, n3, c3, rfl, p3, hb3⟩; have hbx := hbw.trans (hb3.mono hbw.size)) | (go_at_call 46; refine (hCc _ hbx).mono ?_; rintro e w4 ⟨a4, n4, c4, rfl, p4, hb4⟩) | fail)
  go_ret2
  obtain ⟨fu, rfl⟩ : ∃ fu : Nat, fuel = (fu : Int) := ⟨fuel.toNat, by omega⟩
  rw [Int.toNat_natCast]
  have s1 := size_alloc w4 (.cells #[.slice a4 n4 c4, .int .i64 0, .string ⟨#[]⟩, .slice none 0 0] 86)
  have b1 := (Below.refl w4.heap.size w4).alloc (Nat.le_refl _) (.cells #[.slice a4 n4 c4, .int .i64 0, .string ⟨#[]⟩, .slice none 0 0] 86)
  have o1 := Rc.Own.litI (R := BoR) w4 7 1 #[.slice a4 n4 c4, .int .i64 0, .string ⟨#[]⟩, .slice none 0 0] [⟨a4, n4, c4, 0, [], none, 0, 0⟩] (by have := hL.size; have := hbx.size; have := hb4.size; omega) rfl (by omega) rfl
  change BoR.Own (w4.alloc (.cells #[.slice a4 n4 c4, .int .i64 0, .string ⟨#[]⟩, .slice none 0 0] 86)) _ _ _ at o1
  generalize w4.alloc (.cells #[.slice a4 n4 c4, .int .i64 0, .string ⟨#[]⟩, .slice none 0 0] 86) = A1 at *
  have s2 := size_alloc A1 (.map #[] 0)
  have b2 := (Below.refl A1.heap.size A1).alloc (Nat.le_refl _) (.map #[] 0)
  have m1 := MapV.made heldV A1
  generalize A1.alloc (.map #[] 0) = A2 at *
  have s3 := size_alloc A2 (.map #[] 0)
  have b3 := (Below.refl A2.heap.size A2).alloc (Nat.le_refl _) (.map #[] 0)
  have m2 := MapV.made heldV A2
  generalize A2.alloc (.map #[] 0) = A3 at *
  have r4 := Rw.new A3 #[.slice a3 n3 c3, .int .i64 (fu : Int), .int .i64 0, .slice (some ⟨w4.heap.size, 0, none⟩) 1 1, .bool false, .string ⟨#[]⟩, .map (some (w4.heap.size + 1)), .map (some (w4.heap.size + 1 + 1)), .slice none 0 0, .int .i64 0, .string ⟨#[]⟩, .int .i64 0, .string ⟨#[]⟩] 62
  have b4 := (Below.refl A3.heap.size A3).alloc (Nat.le_refl _) (.cells #[.slice a3 n3 c3, .int .i64 (fu : Int), .int .i64 0, .slice (some ⟨w4.heap.size, 0, none⟩) 1 1, .bool false, .string ⟨#[]⟩, .map (some (w4.heap.size + 1)), .map (some (w4.heap.size + 1 + 1)), .slice none 0 0, .int .i64 0, .string ⟨#[]⟩, .int .i64 0, .string ⟨#[]⟩] 62)
  have s4 := size_alloc A3 (.cells #[.slice a3 n3 c3, .int .i64 (fu : Int), .int .i64 0, .slice (some ⟨w4.heap.size, 0, none⟩) 1 1, .bool false, .string ⟨#[]⟩, .map (some (w4.heap.size + 1)), .map (some (w4.heap.size + 1 + 1)), .slice none 0 0, .int .i64 0, .string ⟨#[]⟩, .int .i64 0, .string ⟨#[]⟩] 62)
  generalize A3.alloc (.cells #[.slice a3 n3 c3, .int .i64 (fu : Int), .int .i64 0, .slice (some ⟨w4.heap.size, 0, none⟩) 1 1, .bool false, .string ⟨#[]⟩, .map (some (w4.heap.size + 1)), .map (some (w4.heap.size + 1 + 1)), .slice none 0 0, .int .i64 0, .string ⟨#[]⟩, .int .i64 0, .string ⟨#[]⟩] 62) = A4 at *
  have bA : Below w4.heap.size w4 A4 := b1.trans (((b2.trans (b3.mono (by omega))).trans (b4.mono (by omega))).mono (by omega))
  have b14 : Below A1.heap.size A1 A4 := (b2.trans (b3.mono (by omega))).trans (b4.mono (by omega))
  have b24 : Below A2.heap.size A2 A4 := b3.trans (b4.mono (by omega))
  have z4 := hb4.size
  have z3 := hbx.size
  have z7 := hL.size
  have hb : ∀ b ∈ (⟨A3.heap.size, A1.heap.size, A2.heap.size, a3, n3, c3, some ⟨w4.heap.size, 0, none⟩, 1, 1, none, 0, 0⟩ : RP).own, w4.heap.size ≤ b ∧ b < A4.heap.size := by
    intro b hb
    rcases RP.own_cases hb with rfl | rfl | rfl | e | e
    · exact ⟨by show w4.heap.size ≤ A3.heap.size; omega, by show A3.heap.size < _; omega⟩
    · exact ⟨by show w4.heap.size ≤ A1.heap.size; omega, by show A1.heap.size < _; omega⟩
    · exact ⟨by show w4.heap.size ≤ A2.heap.size; omega, by show A2.heap.size < _; omega⟩
    · obtain rfl : w4.heap.size = b := Option.some.inj e
      exact ⟨Nat.le_refl _, by omega⟩
    · cases e
  have hnd : (⟨A3.heap.size, A1.heap.size, A2.heap.size, a3, n3, c3, some ⟨w4.heap.size, 0, none⟩, 1, 1, none, 0, 0⟩ : RP).own.Nodup := by
    show (A3.heap.size :: A1.heap.size :: A2.heap.size :: ([w4.heap.size] ++ [])).Nodup
    simp
    omega
  have hO2 : ∀ b, w.heap.size ≤ b → b < w4.heap.size → b < A4.heap.size ∧ b ∉ (⟨A3.heap.size, A1.heap.size, A2.heap.size, a3, n3, c3, some ⟨w4.heap.size, 0, none⟩, 1, 1, none, 0, 0⟩ : RP).own ++ O := fun b h1 h2 => ⟨by omega, fun hx => by
    rcases List.mem_append.1 hx with hx | hx
    · have := hb b hx; omega
    · have := hO b hx; omega⟩
  have e1 : w4.heap.size + 1 = A1.heap.size := s1.symm
  have e2 : w4.heap.size + 1 + 1 = A2.heap.size := by omega
  have e3 : w4.heap.size + 1 + 1 + 1 = A3.heap.size := by omega
  rw [e2, e1] at r4
  have hz2 := hbw.size
  refine ⟨⟨A3.heap.size, A1.heap.size, A2.heap.size, a3, n3, c3, some ⟨w4.heap.size, 0, none⟩, 1, 1, none, 0, 0⟩, by rw [e3]; rfl, ⟨r4, ?_, ?_, ⟨0, MapV.of_block m1 (b24.block _ (by show A1.heap.size < A2.heap.size; omega)), Nat.le_refl _⟩, ⟨0, MapV.of_block m2 (b4.block _ (by show A2.heap.size < A3.heap.size; omega)), Nat.zero_le _⟩, Rc.Own.nil _ _, hnd, fun b hx => List.mem_append_left _ hx, fun b hx => by have := hb b hx; omega, fun b hx => ?_⟩, fun b hx => by have := hb b hx; omega, (hbx.trans (hb4.mono hbx.size)).trans (bA.mono (by omega))⟩
  · exact p3.slP.keep (fun b hx => (hb4.trans (bA.mono hb4.size)).block b (p3.lt b hx).2) (fun b hx => hO2 b (by have := (p3.lt b hx).1; omega) (by have := (p3.lt b hx).2; omega))
  · refine ⟨_, o1.below b14 (Nat.le_refl _), _, [], rfl, ⟨rfl, rfl, ?_, ?_⟩, rfl⟩
    · exact (p4.foP (P := fun q => w3.heap.size ≤ q ∧ q < w4.heap.size) (fun _ h1 h2 => ⟨h1, h2⟩)).keep (fun b hx => bA.block b hx.2) (fun b hx => hO2 b (by omega) hx.2)
    · exact ⟨none, 0, rfl, Nat.le_refl _, fun _ => rfl, fun h => absurd rfl h⟩
  · rcases List.mem_append.1 hx with hx | hx
    · exact (hb b hx).2
    · have := hO b hx; omega
end Go.Proofs.YtnobmgkdieaclaaGreatDoor
