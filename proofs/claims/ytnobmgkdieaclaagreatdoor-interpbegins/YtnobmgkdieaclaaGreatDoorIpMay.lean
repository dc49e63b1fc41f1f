/-
  WHAT THE LANDED CODE's may, May DO.
-/
import Derived.Test.YtnobmgkdieaclaaGreatDoorIpMayA
namespace Go.Proofs.YtnobmgkdieaclaaGreatDoor
open Go.RowKit

/-- how wide statements can be -/
def Ac.wid : Ac.Fo → Prop
  | .nil => True
  | .cons _ a _ b t => a.length ≤ 140737488351232 ∧ b.len ≤ 140737488351232 ∧ Ac.wid b ∧ Ac.wid t
theorem Ac.wid_at : ∀ {f : Ac.Fo} {k : Nat} {o : Int} {a : List (List UInt8)} {n : Int} {b r : Ac.Fo}, Ac.wid f → f.drop k = .cons o a n b r → a.length ≤ 140737488351232 ∧ b.len ≤ 140737488351232 ∧ Ac.wid b
  | .nil, k, _, _, _, _, _, _, e => by rw [Ac.Fo.drop_nil] at e; cases e
  | .cons _ _ _ _ _, 0, _, _, _, _, _, h, e => by
    simp only [Ac.Fo.drop, Ac.Fo.cons.injEq] at e
    obtain ⟨rfl, rfl, rfl, rfl, rfl⟩ := e
    exact ⟨h.1, h.2.1, h.2.2.1⟩
  | .cons _ _ _ _ _, k + 1, _, _, _, _, _, h, e => Ac.wid_at (k := k) h.2.2.2 e
/-- how the asking ends: how many are left, or it may not be -/
def MyEnd (w : World) (gl : Nat) (e : Ending) : Option Nat → Prop
  | none => e = .returned (.bool false)
  | some m => e = .returned (.bool true) ∧ Rw w gl #[.int .i64 (m : Int)] 3
theorem FoS.turn {w w' : World} {B : Nat} {v : Value} {f : Ac.Fo} {S : List Nat} (h : FoS w B v f) (hT : Turn S w w') (hB : B ≤ w.heap.size) (hS : ∀ x ∈ S, B ≤ x) : FoS w' B v f := h.below (hT.below' hB hS) (Nat.le_refl _)

set_option maxRecDepth 100000 in
set_option maxHeartbeats 1000000 in
theorem may_any : ∀ (f : Ac.Fo) (v : Value) (w : World) (B k m gl : Nat), FoS w B v f → B ≤ gl → 7 ≤ gl → Laid w → Rw w gl #[.int .i64 (m : Int)] 3 → k ≤ 8 → m ≤ 256 → f.len ≤ 140737488351232 → Ac.wid f →
    Calls Tryz.prog 62 #[v, .int .i64 (k : Int), .pointer (some ⟨gl, 0, none⟩)] w fun e w' => MyEnd w' gl e (Ac.mayL f k m) ∧ Turn [gl] w w' := by
  refine Ac.fo_ind fun f ih => ?_
  intro v w B k m gl h hBg hg7 hL hR hk hm hsz hnar
  obtain ⟨ad, c, rfl, hle⟩ := h.shape
  have HI : Hid _ := ih
  clear ih
  obtain ⟨X, hX⟩ : ∃ X, Ac.mayL f k m = X := ⟨_, rfl⟩
  rw [hX]
  have HX : Hid _ := hX
  clear hX
  have hBw : B ≤ w.heap.size := by have := hR.lt; omega
  go_enter Tryz.func62, Tryz.ntmps62
  go_wp2
  go_loopw [11] (fun i w' => ∃ j m' : Nat, j ≤ f.len ∧ i = .int .i64 (j : Int) ∧ m' ≤ 256 ∧ Hid (Ac.mayL (f.drop j) k m' = X) ∧ Rw w' gl #[.int .i64 (m' : Int)] 3 ∧ Turn [gl] w w') (fun i _ => f.len - (intOf i).toNat)
  case atStart => exact ⟨0, m, Nat.zero_le _, rfl, hm, HX.out, hR, Turn.refl _ _⟩
  case round =>
    obtain ⟨j, m', hj, rfl, hm', HM, hrw, hT⟩ := hrel
    have b2 : (f.len : Int) ≤ 140737488351232 := by omega
    have mb : (m' : Int) ≤ 256 := by omega
    by_cases hlt : j < f.len
    · have i1 : (j : Int) < (f.len : Int) := by omega
      obtain ⟨o, a, n, b, r, e⟩ := Ac.Fo.drop_lt hlt
      obtain ⟨g, og, c', aa, ac, ba, bc, e1, hg, c0, c1, c2, c3, -, hbd⟩ := (h.turn hT hBw (by simp; exact hBg)).at e hlt
      simp only [Value.slice.injEq] at e1
      obtain ⟨rfl, -, rfl⟩ := e1
      have h1 := HM.out
      rw [e, Ac.mayL] at h1
      have h2 := Ac.Fo.drop_next e
      obtain ⟨hna, hnl, hnb⟩ := Ac.wid_at hnar e
      have hLr := hL.turn hT (by simp; exact hg7)
      have hZn := Rw.new wr #[.int .i64 o, .slice aa a.length ac, .int .i64 n, .slice ba b.len bc] 75
      have hZb := (Below.refl wr.heap.size wr).alloc (Nat.le_refl _) (.cells #[.int .i64 o, .slice aa a.length ac, .int .i64 n, .slice ba b.len bc] 75)
      have hA := fun W (hW : Below wr.heap.size wr W) => mayAlone_any o n a b aa ac ba bc W (hLr.below hW hLr.size) hna
      by_cases hm0 : m' = 0
      · rw [if_pos (.inl hm0)] at h1
        have HX2 : Hid _ := h1.symm
        have mm : ((m' : Int) == 0) = true := by rw [beq_iff_eq]; omega
        clear HM h1 h2 e hbd HI hnar HX hm0
        go_upto_region 4 with fail
        generalize wr.alloc (.cells #[.int .i64 o, .slice aa a.length ac, .int .i64 n, .slice ba b.len bc] 75) = Z at hZn hZb ⊢
        have rZ := hrw.below hZb hrw.lt
        have l0 : Z.cell? ⟨gl, 0, none⟩ = some (.int .i64 (m' : Int)) := rZ.cell 0
        have t0 : Z.cell? ⟨wr.heap.size, 0, none⟩ = some (.int .i64 o) := hZn.cell 0
        have t1 : Z.cell? ⟨wr.heap.size, 1, none⟩ = some (.slice aa a.length ac) := hZn.cell 1
        have t2 : Z.cell? ⟨wr.heap.size, 2, none⟩ = some (.int .i64 n) := hZn.cell 2
        have t3 : Z.cell? ⟨wr.heap.size, 3, none⟩ = some (.slice ba b.len bc) := hZn.cell 3
        go_wp2
        go_ret
        rw [HX2.out]
        exact ⟨rfl, hT.belowTrans hZb⟩
      · have mm : ((m' : Int) == 0) = false := by rw [beq_eq_false_iff_ne]; omega
        have m0 : (0 : Int) < (m' : Int) := by omega
        cases ha : Ac.alone o a n b with
        | false =>
          rw [if_pos (.inr ha)] at h1
          rw [ha] at hA
          have HX2 : Hid _ := h1.symm
          clear HM h1 h2 e hbd HI hnar HX ha
          go_upto_region 4 with fail
          generalize wr.alloc (.cells #[.int .i64 o, .slice aa a.length ac, .int .i64 n, .slice ba b.len bc] 75) = Z at hZn hZb ⊢
          have rZ := hrw.below hZb hrw.lt
          have l0 : Z.cell? ⟨gl, 0, none⟩ = some (.int .i64 (m' : Int)) := rZ.cell 0
          have t0 : Z.cell? ⟨wr.heap.size, 0, none⟩ = some (.int .i64 o) := hZn.cell 0
          have t1 : Z.cell? ⟨wr.heap.size, 1, none⟩ = some (.slice aa a.length ac) := hZn.cell 1
          have t2 : Z.cell? ⟨wr.heap.size, 2, none⟩ = some (.int .i64 n) := hZn.cell 2
          have t3 : Z.cell? ⟨wr.heap.size, 3, none⟩ = some (.slice ba b.len bc) := hZn.cell 3
          go_wp2_with (first | (go_at_call 87; refine (hA Z hZb).mono ?_; rintro e w1 ⟨rfl, hb1⟩) | fail)
          go_ret
          rw [HX2.out]
          exact ⟨rfl, (hT.belowTrans hZb).belowTrans hb1⟩
        | true =>
          rw [if_neg (by simp [hm0, ha])] at h1
          rw [ha] at hA
          have hop : 1 ≤ o ∧ o ≤ 12 := by
            have : ¬ (o ≤ 0 ∨ 13 ≤ o) := fun hh => by rw [Ac.alone_out hh] at ha; cases ha
            omega
          obtain ⟨ko, rfl⟩ : ∃ ko : Nat, o = (ko : Int) := ⟨o.toNat, by omega⟩
          have j3 : (0 : Int) ≤ (ko : Int) := by omega
          have j4 : (ko : Int) < 13 := by omega
          have HKB : Hid (∀ Z, Laid Z → Z.cell? ⟨0, ko * 5 + 4, none⟩ = some (.bool (Ac.opens (ko : Int)))) := fun Z h => h.kinds _ _ ((Ac.kCells_at ko (by omega) 4 (by omega)).trans (by rw [show Ac.opens (ko : Int) = Ac.kb ko by unfold Ac.opens Ac.kb; congr 1; rw [eq_iff_iff]; omega]; rfl))
          cases hopn : Ac.opens (ko : Int) with
          | false =>
            rw [hopn, if_neg (by simp)] at h1
            rw [hopn] at HKB
            have HN : Hid (Ac.mayL (f.drop (j + 1)) k (m' - 1) = X) := by show _ = _; rw [h2]; exact h1
            clear HM h1 h2 e hbd HI hnar HX ha hopn
            go_upto_region 4 with fail
            generalize wr.alloc (.cells #[.int .i64 (ko : Int), .slice aa a.length ac, .int .i64 n, .slice ba b.len bc] 75) = Z at hZn hZb ⊢
            have rZ := hrw.below hZb hrw.lt
            have l0 : Z.cell? ⟨gl, 0, none⟩ = some (.int .i64 (m' : Int)) := rZ.cell 0
            have t0 : Z.cell? ⟨wr.heap.size, 0, none⟩ = some (.int .i64 (ko : Int)) := hZn.cell 0
            have t1 : Z.cell? ⟨wr.heap.size, 1, none⟩ = some (.slice aa a.length ac) := hZn.cell 1
            have t2 : Z.cell? ⟨wr.heap.size, 2, none⟩ = some (.int .i64 n) := hZn.cell 2
            have t3 : Z.cell? ⟨wr.heap.size, 3, none⟩ = some (.slice ba b.len bc) := hZn.cell 3
            go_upto_region 6 with (first | (go_at_call 87; refine (hA Z hZb).mono ?_; rintro e w1 ⟨rfl, hb1⟩) | fail)
            have rW := rZ.below hb1 rZ.lt
            have l1 : w1.cell? ⟨gl, 0, none⟩ = some (.int .i64 (m' : Int)) := rW.cell 0
            have f1 : w1.frozen? ⟨gl, 0, none⟩ = false := rW.free 0
            have hTW := (hT.belowTrans hZb).belowTrans hb1
            have hTS := hTW.trans (Turn.put1 w1 gl 0 (.int .i64 ((m' : Int) - 1))) (fun _ hx _ => hx)
            have rS : Rw (w1.setCell ⟨gl, 0, none⟩ (.int .i64 ((m' : Int) - 1))) gl #[.int .i64 ((m' : Int) - 1)] 3 := rW.set 0 _ (by simp)
            have me : ((m' - 1 : Nat) : Int) = (m' : Int) - 1 := by omega
            have kk := HKB.out _ (hL.turn hTS (by simp; exact hg7))
            have tS := (hZn.below hb1 hZn.lt).turn (Turn.put1 w1 gl 0 (.int .i64 ((m' : Int) - 1))) (by have := hrw.lt; simp; omega)
            go_upto_region 7 with fail
            generalize w1.setCell ⟨gl, 0, none⟩ (.int .i64 ((m' : Int) - 1)) = V at hTS rS kk tS ⊢
            have v0 : V.cell? ⟨wr.heap.size, 0, none⟩ = some (.int .i64 (ko : Int)) := tS.cell 0
            have HRS : Hid (Rw V gl #[.int .i64 ((m' - 1 : Nat) : Int)] 3) := by show Rw _ _ _ _; rw [me]; exact rS
            clear me rS
            go_wp2
            exact ⟨⟨j + 1, m' - 1, by omega, by go_num, by omega, HN.out, HRS.out, hTS⟩, by simp [intOf]; omega⟩
          | true =>
            rw [hopn, if_pos rfl] at h1
            rw [hopn] at HKB
            by_cases hk0 : k = 0
            · rw [if_pos hk0] at h1
              have HX2 : Hid _ := h1.symm
              have k0 : ((k : Int) == 0) = true := by rw [beq_iff_eq]; omega
              clear HM h1 h2 e hbd HI hnar HX ha hopn hk0
              go_upto_region 4 with fail
              generalize wr.alloc (.cells #[.int .i64 (ko : Int), .slice aa a.length ac, .int .i64 n, .slice ba b.len bc] 75) = Z at hZn hZb ⊢
              have rZ := hrw.below hZb hrw.lt
              have l0 : Z.cell? ⟨gl, 0, none⟩ = some (.int .i64 (m' : Int)) := rZ.cell 0
              have t0 : Z.cell? ⟨wr.heap.size, 0, none⟩ = some (.int .i64 (ko : Int)) := hZn.cell 0
              have t1 : Z.cell? ⟨wr.heap.size, 1, none⟩ = some (.slice aa a.length ac) := hZn.cell 1
              have t2 : Z.cell? ⟨wr.heap.size, 2, none⟩ = some (.int .i64 n) := hZn.cell 2
              have t3 : Z.cell? ⟨wr.heap.size, 3, none⟩ = some (.slice ba b.len bc) := hZn.cell 3
              go_upto_region 6 with (first | (go_at_call 87; refine (hA Z hZb).mono ?_; rintro e w1 ⟨rfl, hb1⟩) | fail)
              have rW := rZ.below hb1 rZ.lt
              have l1 : w1.cell? ⟨gl, 0, none⟩ = some (.int .i64 (m' : Int)) := rW.cell 0
              have f1 : w1.frozen? ⟨gl, 0, none⟩ = false := rW.free 0
              have hTW := (hT.belowTrans hZb).belowTrans hb1
              have hTS := hTW.trans (Turn.put1 w1 gl 0 (.int .i64 ((m' : Int) - 1))) (fun _ hx _ => hx)
              have kk := HKB.out _ (hL.turn hTS (by simp; exact hg7))
              have tS := (hZn.below hb1 hZn.lt).turn (Turn.put1 w1 gl 0 (.int .i64 ((m' : Int) - 1))) (by have := hrw.lt; simp; omega)
              go_upto_region 7 with fail
              generalize w1.setCell ⟨gl, 0, none⟩ (.int .i64 ((m' : Int) - 1)) = V at hTS kk tS ⊢
              have v0 : V.cell? ⟨wr.heap.size, 0, none⟩ = some (.int .i64 (ko : Int)) := tS.cell 0
              go_wp2
              go_ret
              rw [HX2.out]
              exact ⟨rfl, hTS⟩
            · rw [if_neg hk0] at h1
              have k0 : ((k : Int) == 0) = false := by rw [beq_eq_false_iff_ne]; omega
              have kb8 : (k : Int) ≤ 8 := by omega
              have k01 : (0 : Int) < (k : Int) := by omega
              have ke : ((k - 1 : Nat) : Int) = (k : Int) - 1 := by omega
              have hc := fun W (hW : Turn [gl] wr W) (hr : Rw W gl #[.int .i64 ((m' - 1 : Nat) : Int)] 3) => HI.out j (ko : Int) a n b r e (.slice ba b.len bc) W B (k - 1) (m' - 1) gl (hbd.turn hW (by have := hrw.lt; omega) (by simp; exact hBg)) hBg hg7 (hLr.turn hW (by simp; exact hg7)) hr (by omega) (by omega) hnl hnb
              rw [ke] at hc
              cases hin : Ac.mayL b (k - 1) (m' - 1) with
              | none =>
                rw [hin] at hc h1
                have HX2 : Hid (X = none) := h1.symm
                clear HM h1 h2 e hbd HI hnar HX ha hopn hk0 ke hin
                go_upto_region 4 with fail
                generalize wr.alloc (.cells #[.int .i64 (ko : Int), .slice aa a.length ac, .int .i64 n, .slice ba b.len bc] 75) = Z at hZn hZb ⊢
                have rZ := hrw.below hZb hrw.lt
                have l0 : Z.cell? ⟨gl, 0, none⟩ = some (.int .i64 (m' : Int)) := rZ.cell 0
                have t0 : Z.cell? ⟨wr.heap.size, 0, none⟩ = some (.int .i64 (ko : Int)) := hZn.cell 0
                have t1 : Z.cell? ⟨wr.heap.size, 1, none⟩ = some (.slice aa a.length ac) := hZn.cell 1
                have t2 : Z.cell? ⟨wr.heap.size, 2, none⟩ = some (.int .i64 n) := hZn.cell 2
                have t3 : Z.cell? ⟨wr.heap.size, 3, none⟩ = some (.slice ba b.len bc) := hZn.cell 3
                go_upto_region 6 with (first | (go_at_call 87; refine (hA Z hZb).mono ?_; rintro e w1 ⟨rfl, hb1⟩) | fail)
                have rW := rZ.below hb1 rZ.lt
                have l1 : w1.cell? ⟨gl, 0, none⟩ = some (.int .i64 (m' : Int)) := rW.cell 0
                have f1 : w1.frozen? ⟨gl, 0, none⟩ = false := rW.free 0
                have hTW := (hT.belowTrans hZb).belowTrans hb1
                have hTS := hTW.trans (Turn.put1 w1 gl 0 (.int .i64 ((m' : Int) - 1))) (fun _ hx _ => hx)
                have hTr : Turn [gl] wr (w1.setCell ⟨gl, 0, none⟩ (.int .i64 ((m' : Int) - 1))) := (((Turn.of_below hZb).belowTrans hb1).mono (S' := [gl]) (by simp)).trans (Turn.put1 w1 gl 0 (.int .i64 ((m' : Int) - 1))) (fun _ hx _ => hx)
                have rS : Rw (w1.setCell ⟨gl, 0, none⟩ (.int .i64 ((m' : Int) - 1))) gl #[.int .i64 ((m' : Int) - 1)] 3 := rW.set 0 _ (by simp)
                have me : ((m' - 1 : Nat) : Int) = (m' : Int) - 1 := by omega
                rw [me] at hc
                have kk := HKB.out _ (hL.turn hTS (by simp; exact hg7))
                have tS := (hZn.below hb1 hZn.lt).turn (Turn.put1 w1 gl 0 (.int .i64 ((m' : Int) - 1))) (by have := hrw.lt; simp; omega)
                go_upto_region 7 with fail
                generalize w1.setCell ⟨gl, 0, none⟩ (.int .i64 ((m' : Int) - 1)) = V at hTS hTr rS kk tS ⊢
                have v0 : V.cell? ⟨wr.heap.size, 0, none⟩ = some (.int .i64 (ko : Int)) := tS.cell 0
                have v3 : V.cell? ⟨wr.heap.size, 3, none⟩ = some (.slice ba b.len bc) := tS.cell 3
                clear me
                go_wp2_with (first | (go_at_call 62; refine (hc V hTr rS).mono ?_; rintro e w2 ⟨he2, hT2⟩; change e = _ at he2; subst he2) | fail)
                go_ret
                rw [HX2.out]
                exact ⟨rfl, hTS.trans hT2 (fun _ hx _ => hx)⟩
              | some m2 =>
                rw [hin] at hc h1
                have hm2 : m2 ≤ 256 := by
                  rw [Ac.mayL_eq] at hin
                  split at hin
                  · simp only [Option.some.injEq] at hin; omega
                  · cases hin
                have HN : Hid (Ac.mayL (f.drop (j + 1)) k m2 = X) := by show _ = _; rw [h2]; exact h1
                clear HM h1 h2 e hbd HI hnar HX ha hopn hk0 ke hin
                go_upto_region 4 with fail
                generalize wr.alloc (.cells #[.int .i64 (ko : Int), .slice aa a.length ac, .int .i64 n, .slice ba b.len bc] 75) = Z at hZn hZb ⊢
                have rZ := hrw.below hZb hrw.lt
                have l0 : Z.cell? ⟨gl, 0, none⟩ = some (.int .i64 (m' : Int)) := rZ.cell 0
                have t0 : Z.cell? ⟨wr.heap.size, 0, none⟩ = some (.int .i64 (ko : Int)) := hZn.cell 0
                have t1 : Z.cell? ⟨wr.heap.size, 1, none⟩ = some (.slice aa a.length ac) := hZn.cell 1
                have t2 : Z.cell? ⟨wr.heap.size, 2, none⟩ = some (.int .i64 n) := hZn.cell 2
                have t3 : Z.cell? ⟨wr.heap.size, 3, none⟩ = some (.slice ba b.len bc) := hZn.cell 3
                go_upto_region 6 with (first | (go_at_call 87; refine (hA Z hZb).mono ?_; rintro e w1 ⟨rfl, hb1⟩) | fail)
                have rW := rZ.below hb1 rZ.lt
                have l1 : w1.cell? ⟨gl, 0, none⟩ = some (.int .i64 (m' : Int)) := rW.cell 0
                have f1 : w1.frozen? ⟨gl, 0, none⟩ = false := rW.free 0
                have hTW := (hT.belowTrans hZb).belowTrans hb1
                have hTS := hTW.trans (Turn.put1 w1 gl 0 (.int .i64 ((m' : Int) - 1))) (fun _ hx _ => hx)
                have hTr : Turn [gl] wr (w1.setCell ⟨gl, 0, none⟩ (.int .i64 ((m' : Int) - 1))) := (((Turn.of_below hZb).belowTrans hb1).mono (S' := [gl]) (by simp)).trans (Turn.put1 w1 gl 0 (.int .i64 ((m' : Int) - 1))) (fun _ hx _ => hx)
                have rS : Rw (w1.setCell ⟨gl, 0, none⟩ (.int .i64 ((m' : Int) - 1))) gl #[.int .i64 ((m' : Int) - 1)] 3 := rW.set 0 _ (by simp)
                have me : ((m' - 1 : Nat) : Int) = (m' : Int) - 1 := by omega
                rw [me] at hc
                have kk := HKB.out _ (hL.turn hTS (by simp; exact hg7))
                have tS := (hZn.below hb1 hZn.lt).turn (Turn.put1 w1 gl 0 (.int .i64 ((m' : Int) - 1))) (by have := hrw.lt; simp; omega)
                go_upto_region 7 with fail
                generalize w1.setCell ⟨gl, 0, none⟩ (.int .i64 ((m' : Int) - 1)) = V at hTS hTr rS kk tS ⊢
                have v0 : V.cell? ⟨wr.heap.size, 0, none⟩ = some (.int .i64 (ko : Int)) := tS.cell 0
                have v3 : V.cell? ⟨wr.heap.size, 3, none⟩ = some (.slice ba b.len bc) := tS.cell 3
                clear me
                go_wp2_with (first | (go_at_call 62; refine (hc V hTr rS).mono ?_; rintro e w2 ⟨⟨rfl, hr2⟩, hT2⟩) | fail)
                exact ⟨⟨j + 1, m2, by omega, by go_num, hm2, HN.out, hr2, hTS.trans hT2 (fun _ hx _ => hx)⟩, by simp [intOf]; omega⟩
    · obtain rfl : j = f.len := by omega
      have i1 : ¬ (f.len : Int) < (f.len : Int) := by omega
      have HF : Hid (X = some m') := by
        have := HM.out
        rw [Ac.Fo.drop_len, Ac.mayL] at this
        exact this.symm
      clear HM HI HX
      go_wp2
      go_ret
      rw [HF.out]
      exact ⟨⟨rfl, hrw⟩, hT⟩

set_option maxRecDepth 100000 in
theorem May_any (f : Ac.Fo) (v : Value) (w : World) (B : Nat) (h : FoS w B v f) (hB : B ≤ w.heap.size) (hL : Laid w) (hs : f.len ≤ 140737488351232) (hn : Ac.wid f) :
    Calls Tryz.prog 43 #[v] w fun e w' => e = .returned (.bool (Ac.may f)) ∧ Below w.heap.size w w' := by
  obtain ⟨ad, c, rfl, hle⟩ := h.shape
  have r0 := Rw.new w #[.int .i64 256] 3
  have hb := (Below.refl w.heap.size w).alloc (Nat.le_refl _) (.cells #[.int .i64 256] 3)
  have hc := fun W h1 h2 => may_any f (.slice ad f.len c) W B 8 256 w.heap.size h1 hB hL.size h2
  have hmm := Ac.mayL_may f
  have hc : ∀ W, FoS W B (.slice ad f.len c) f → Laid W → Rw W w.heap.size #[.int .i64 256] 3 → Calls Tryz.prog 62 #[.slice ad f.len c, .int .i64 8, .pointer (some ⟨w.heap.size, 0, none⟩)] W fun e w' => e = .returned (.bool (Ac.may f)) ∧ Turn [w.heap.size] W w' := by
    intro W h1 h2 h3
    refine (hc W h1 h2 h3 (Nat.le_refl _) (Nat.le_refl _) hs hn).mono ?_
    rintro e w' ⟨h4, h5⟩
    cases hm : Ac.mayL f 8 256 with
    | none =>
      rw [hm] at h4 hmm
      rw [← hmm]
      exact ⟨h4, h5⟩
    | some x =>
      rw [hm] at h4 hmm
      rw [← hmm]
      exact ⟨h4.1, h5⟩
  generalize Ac.may f = R at *
  clear hmm
  have hL2 := hL.below hb hL.size
  have h2 := h.below hb hB
  go_enter Tryz.func43, Tryz.ntmps43
  go_wp2_with (first | (go_at_call 62; refine (hc _ h2 hL2 r0).mono ?_; rintro e w1 ⟨rfl, hT1⟩) | fail)
  go_ret
  exact ⟨rfl, hT1.bel hb (by simp)⟩

end Go.Proofs.YtnobmgkdieaclaaGreatDoor
