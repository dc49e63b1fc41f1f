/-
  WHAT THE LANDED CODE's ownLine DOES.
-/
import Derived.Test.YtfgdlnidfkjbdaaDoorLiOwn
import Derived.Test.YtfgdlnidfkjbdaaDoorAMay
namespace Go.Proofs.YtfgdlnidfkjbdaaDoor
open Go.RowKit

set_option maxRecDepth 100000 in
set_option maxHeartbeats 1000000 in
theorem ownLine_in (k : Nat) (h1 : 1 ≤ k) (h2 : k ≤ 12) (n : Nat) (hn : n ≤ 1000) (a : List (List UInt8)) (aa : Option Addr) (ac : Nat) (ba : Option Addr) (bn bc B : Nat) (w : World) (hL : Laid w) (hs : TxR.Sl w B (.slice aa a.length ac) a) (hB : B ≤ w.heap.size) (ha : a.length ≤ 1099511600) :
    Calls Tryd.prog 47 #[.agg #[.int .i64 (k : Int), .slice aa a.length ac, .int .i64 (n : Int), .slice ba bn bc]] w fun e w' => (∃ va, e = .returned va ∧ TxR.Own w' w.heap.size va ([Ac.kw k] ++ (if Ac.kn k = true then [Ac.digits n] else []) ++ a)) ∧ Below w.heap.size w w' := by
  have hbe := (Below.refl w.heap.size w).alloc (Nat.le_refl _) (.cells #[.int .i64 (k : Int), .slice aa a.length ac, .int .i64 (n : Int), .slice ba bn bc] 34)
  have hYn := Rw.new w #[.int .i64 (k : Int), .slice aa a.length ac, .int .i64 (n : Int), .slice ba bn bc] 34
  have hLY := hL.alloc (.cells #[.int .i64 (k : Int), .slice aa a.length ac, .int .i64 (n : Int), .slice ba bn bc] 34)
  have HK : Hid (∀ Z, Laid Z → ∀ f, f < 5 → ∀ u, (Ac.kRow k)[f]? = some u → Z.cell? ⟨0, k * 5 + f, none⟩ = some u) := fun Z h f hf u hu => h.kinds _ _ ((Ac.kCells_at k (by omega) f hf).trans hu)
  unfold Ac.kRow at HK
  obtain ⟨KW, hKW⟩ : ∃ KW : ByteArray, (⟨(Ac.kw k).toArray⟩ : ByteArray) = KW := ⟨_, rfl⟩
  rw [hKW] at HK
  have HKW : Hid (KW = ⟨(Ac.kw k).toArray⟩) := hKW.symm
  have HA : Hid _ := ha
  clear hKW ha
  generalize Ac.kl k = KL at *
  generalize Ac.km k = KM at *
  generalize Ac.kn k = KN at *
  generalize Ac.kb k = KB at *
  have j1 : ¬ (k : Int) ≤ 0 := by omega
  have j2 : ¬ (13 : Int) ≤ (k : Int) := by omega
  have j3 : (0 : Int) ≤ (k : Int) := by omega
  have j4 : (k : Int) < 13 := by omega
  clear h1 h2
  cases KN with
  | false =>
    go_enter Tryd.func47, Tryd.ntmps47
    go_upto_region 1 with fail
    generalize w.alloc (.cells #[.int .i64 (k : Int), .slice aa a.length ac, .int .i64 (n : Int), .slice ba bn bc] 34) = Y at hbe hYn hLY ⊢
    have t0 : Y.cell? ⟨w.heap.size, 0, none⟩ = some (.int .i64 (k : Int)) := hYn.cell 0
    have q0 := HK.out Y hLY 0 (by omega) _ rfl
    have q1 := HK.out Y hLY 1 (by omega) _ rfl
    have q2 := HK.out Y hLY 2 (by omega) _ rfl
    have q3 := HK.out Y hLY 3 (by omega) _ rfl
    have q4 := HK.out Y hLY 4 (by omega) _ rfl
    rw [Nat.add_zero] at q0
    have hZn := Rw.new Y #[.string KW, .int .i64 KL, .int .i64 KM, .bool false, .bool KB] 86
    have hZb := hbe.alloc hbe.size (.cells #[.string KW, .int .i64 KL, .int .i64 KM, .bool false, .bool KB] 86)
    have hYn2 := hYn.alloc (.cells #[.string KW, .int .i64 KL, .int .i64 KM, .bool false, .bool KB] 86)
    go_upto_region 2 with fail
    generalize Y.alloc (.cells #[.string KW, .int .i64 KL, .int .i64 KM, .bool false, .bool KB] 86) = Z at hZn hZb hYn2 ⊢
    have u0 : Z.cell? ⟨Y.heap.size, 0, none⟩ = some (.string KW) := hZn.cell 0
    clear q0 q1 q2 q3 q4
    have hZz := hZb.size
    have hVb := hZb.alloc hZb.size (.cells #[.string KW] 9)
    have hZn2 := hZn.alloc (.cells #[.string KW] 9)
    have hYn3 := hYn2.alloc (.cells #[.string KW] 9)
    have hO := Own.litN (R := TxR) Z w.heap.size 1 #[.string KW] [Ac.kw k] hZz rfl (by decide) (by rw [HKW.out]; rfl)
    go_upto_region 3 with fail
    have hO2 : TxR.Own (Z.alloc (.cells #[.string KW] 9)) w.heap.size (.slice (some ⟨Z.heap.size, 0, none⟩) 1 1) [Ac.kw k] := hO
    generalize Z.alloc (.cells #[.string KW] 9) = V at hVb hZn2 hYn3 hO2 ⊢
    clear hO
    have u3 : V.cell? ⟨Y.heap.size, 3, none⟩ = some (.bool false) := hZn2.cell 3
    have t2 : V.cell? ⟨w.heap.size, 2, none⟩ = some (.int .i64 (n : Int)) := hYn3.cell 2
    have t1 : V.cell? ⟨w.heap.size, 1, none⟩ = some (.slice aa a.length ac) := hYn3.cell 1
    have hVs := hVb.size
    have hSl := hs.below hVb hB
    have HLn : Hid ([Ac.kw k].length + a.length ≤ 1099511627) := by show _ ≤ _; have := HA.out; simp only [List.length_cons, List.length_nil]; omega
    go_wp2_with (at_builtin; go_must (refine TxR.append rfl _ _ rfl w.heap.size B _ _ ([Ac.kw k]) a rfl hO2 rfl hSl HLn hVb.size ?_))
    intro v9 W9 hO9 hG9
    go_wp2
    go_ret
    refine ⟨⟨v9, rfl, ?_⟩, (Turn.of_grown hG9).bel hVb fun x hx => ?_⟩
    · exact hO9
    · simp [Value.ownBlock] at hx
      omega
  | true =>
    have hI := fun W (h : Below w.heap.size w W) => Itoa_any n W (hL.below h hL.size) hn
    obtain ⟨D, hD⟩ : ∃ D, str (Ac.digits n) = D := ⟨_, rfl⟩
    rw [hD] at hI
    have HD : Hid _ := hD
    clear hD
    go_enter Tryd.func47, Tryd.ntmps47
    go_upto_region 1 with fail
    generalize w.alloc (.cells #[.int .i64 (k : Int), .slice aa a.length ac, .int .i64 (n : Int), .slice ba bn bc] 34) = Y at hbe hYn hLY ⊢
    have t0 : Y.cell? ⟨w.heap.size, 0, none⟩ = some (.int .i64 (k : Int)) := hYn.cell 0
    have q0 := HK.out Y hLY 0 (by omega) _ rfl
    have q1 := HK.out Y hLY 1 (by omega) _ rfl
    have q2 := HK.out Y hLY 2 (by omega) _ rfl
    have q3 := HK.out Y hLY 3 (by omega) _ rfl
    have q4 := HK.out Y hLY 4 (by omega) _ rfl
    rw [Nat.add_zero] at q0
    have hZn := Rw.new Y #[.string KW, .int .i64 KL, .int .i64 KM, .bool true, .bool KB] 86
    have hZb := hbe.alloc hbe.size (.cells #[.string KW, .int .i64 KL, .int .i64 KM, .bool true, .bool KB] 86)
    have hYn2 := hYn.alloc (.cells #[.string KW, .int .i64 KL, .int .i64 KM, .bool true, .bool KB] 86)
    go_upto_region 2 with fail
    generalize Y.alloc (.cells #[.string KW, .int .i64 KL, .int .i64 KM, .bool true, .bool KB] 86) = Z at hZn hZb hYn2 ⊢
    have u0 : Z.cell? ⟨Y.heap.size, 0, none⟩ = some (.string KW) := hZn.cell 0
    clear q0 q1 q2 q3 q4
    have hZz := hZb.size
    have hVb := hZb.alloc hZb.size (.cells #[.string KW] 9)
    have hZn2 := hZn.alloc (.cells #[.string KW] 9)
    have hYn3 := hYn2.alloc (.cells #[.string KW] 9)
    have hO := Own.litN (R := TxR) Z w.heap.size 1 #[.string KW] [Ac.kw k] hZz rfl (by decide) (by rw [HKW.out]; rfl)
    go_upto_region 3 with fail
    have hO2 : TxR.Own (Z.alloc (.cells #[.string KW] 9)) w.heap.size (.slice (some ⟨Z.heap.size, 0, none⟩) 1 1) [Ac.kw k] := hO
    generalize Z.alloc (.cells #[.string KW] 9) = V at hVb hZn2 hYn3 hO2 ⊢
    clear hO
    have u3 : V.cell? ⟨Y.heap.size, 3, none⟩ = some (.bool true) := hZn2.cell 3
    have t2 : V.cell? ⟨w.heap.size, 2, none⟩ = some (.int .i64 (n : Int)) := hYn3.cell 2
    have t1 : V.cell? ⟨w.heap.size, 1, none⟩ = some (.slice aa a.length ac) := hYn3.cell 1
    have hVs := hVb.size
    have HLn0 : Hid (([Ac.kw k] : List (List UInt8)).length + [Ac.digits n].length ≤ 1099511627) := by show _ ≤ _; simp
    go_wp2_with (first
      | (go_at_call 59; refine (hI V hVb).mono ?_; rintro e w1 ⟨rfl, hb1⟩; have hO3 := hO2.below hb1 (Nat.le_refl _); have hO7 := hO3.alloc (.cells #[.string D] 9); have hLit := Rc.lit (R := TxR) w1 (Ac.digits n) #[.string D] (by rw [← HD.out]; rfl); have hb1w := hVb.trans (hb1.mono hVs); have hb2w := hb1w.alloc hb1w.size (.cells #[.string D] 9); have hY4 := (hYn3.below hb1 hYn3.lt).alloc (.cells #[.string D] 9))
      | (at_builtin; go_must (refine TxR.append_at rfl _ _ rfl w.heap.size (w1.heap.size + 1) _ _ [Ac.kw k] [Ac.digits n] rfl hO7 rfl hLit (by simp) HLn0 hb2w.size ?_))
      | fail)
    intro g8 c8 X8 hO8 hG8 hg8 hl8
    have hlz : w.heap.size < Z.heap.size := hYn2.lt
    have hT8 := Turn.of_grown hG8
    have hb8 := hT8.bel hb2w fun x hx => by simp [Value.ownBlock] at hx; omega
    have hY5 := hY4.turn hT8 (by simp [Value.ownBlock]; omega)
    have t1b : X8.cell? ⟨w.heap.size, 1, none⟩ = some (.slice aa a.length ac) := hY5.cell 1
    clear hO3 hO7 hLit hb1w hb2w hY4 t1 t2 hG8 hT8
    have hSl := hs.below hb8 hB
    have HLn : Hid ([Ac.kw k, Ac.digits n].length + a.length ≤ 1099511627) := by show _ ≤ _; have := HA.out; simp only [List.length_cons, List.length_nil]; omega
    go_wp2_with (at_builtin; go_must (refine TxR.append rfl _ _ rfl w.heap.size B _ _ ([Ac.kw k, Ac.digits n]) a rfl hO8 rfl hSl HLn hb8.size ?_))
    intro v9 W9 hO9 hG9
    go_wp2
    go_ret
    refine ⟨⟨v9, rfl, hO9⟩, (Turn.of_grown hG9).bel hb8 fun x hx => ?_⟩
    simp [Value.ownBlock] at hx
    have := (hO8.lt g8 rfl).1
    omega
theorem Ac.line_kw {k : Nat} (h1 : 1 ≤ k) (h2 : k ≤ 12) (a : List (List UInt8)) (n : Nat) (h : k = 10 → a = []) : Ac.lineOf (k : Int) a (n : Int) = [Ac.kw k] ++ (if Ac.kn k = true then [Ac.digits n] else []) ++ a := by
  have hw : Ac.kw k = Ac.word (k : Int) := by rw [Ac.kw, if_neg (by omega)]
  rw [Ac.lineOf, hw]
  by_cases hk : k = 10
  · rw [h hk, if_pos (by omega), if_pos (by unfold Ac.kn; simp [hk])]
    simp
  · rw [if_neg (by omega), if_neg (by unfold Ac.kn; simp [hk])]
    simp
/-- a statement as the table says, and its line -/
theorem ownLine_any {op n : Int} {a : List (List UInt8)} (hok : Ac.ok1 op a n = true) (aa : Option Addr) (ac : Nat) (ba : Option Addr) (bn bc B : Nat) (w : World) (hL : Laid w) (hs : TxR.Sl w B (.slice aa a.length ac) a) (hB : B ≤ w.heap.size) (ha : a.length ≤ 1099511600) :
    Calls Tryd.prog 47 #[.agg #[.int .i64 op, .slice aa a.length ac, .int .i64 n, .slice ba bn bc]] w fun e w' => (∃ va, e = .returned va ∧ TxR.Own w' w.heap.size va (Ac.lineOf op a n)) ∧ Below w.heap.size w w' := by
  unfold Ac.ok1 at hok
  simp only [Bool.and_eq_true, decide_eq_true_eq] at hok
  obtain ⟨⟨⟨k1, k2⟩, k3, k4⟩, k5⟩ := hok
  have hr := Ac.word_of k1
  obtain ⟨k, rfl⟩ : ∃ k : Nat, op = (k : Int) := ⟨op.toNat, by omega⟩
  obtain ⟨m, rfl⟩ : ∃ m : Nat, n = (m : Int) := ⟨n.toNat, by omega⟩
  rw [Ac.line_kw (by omega) (by omega) a m (fun h => by subst h; unfold Ac.argsOk at k2; simpa using k2)]
  exact ownLine_in k (by omega) (by omega) m (by omega) a aa ac ba bn bc B w hL hs hB ha

end Go.Proofs.YtfgdlnidfkjbdaaDoor
