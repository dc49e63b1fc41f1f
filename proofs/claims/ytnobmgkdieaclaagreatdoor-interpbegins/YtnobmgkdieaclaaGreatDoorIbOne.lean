/-
  WHAT THE DOCUMENT's one DOES.
-/
import Derived.Test.YtnobmgkdieaclaaGreatDoorPBs
import Derived.Test.YtnobmgkdieaclaaGreatDoorIpGreat
import Derived.BigQuiet
import Derived.Test.YtnobmgkdieaclaaGreatDoorIpFuelP
import Derived.Test.YtnobmgkdieaclaaGreatDoorIbH2
import Derived.Test.YtnobmgkdieaclaaGreatDoorIbH3
import Derived.Test.YtnobmgkdieaclaaGreatDoorIbH4
import Derived.Test.YtnobmgkdieaclaaGreatDoorIbH5
import Derived.Test.YtnobmgkdieaclaaGreatDoorIbH6
import Derived.Deep.RegionHeld3
namespace Go.Proofs.YtnobmgkdieaclaaGreatDoor
open Go.RowKit

theorem below_dN {B : Nat} {a w : World} (h : Below B a w) (n : Nat) : Below B a (w.drewN n) := ⟨h.os, h.tape, h.output, h.size, h.block⟩
theorem Ac.one_drop {f : Ac.Fo} {k : Nat} {o : Int} {a : List (List UInt8)} {n : Int} {b r : Ac.Fo} (e : f.drop k = .cons o a n b r) : Ac.one (f.drop k) = (Ac.ok1 o a n && (Ac.opens o || decide (b = .nil)) && Ac.one b && Ac.one r) := by rw [e, Ac.one]
set_option maxRecDepth 100000 in
set_option maxHeartbeats 40000000 in
theorem OneT_any : ∀ (f : Ac.Fo) (v : Value) (w : World) (B : Nat), FoS w B v f → B ≤ w.heap.size → Ac.size f ≤ 1000000 → Calls Tryz.prog 65 #[v] w fun e w' => e = .returned (.bool (Ac.one f)) ∧ Below w.heap.size w w' := by
  refine Ac.fo_ind fun f ih => ?_
  intro v w B h hB hs
  obtain ⟨ad, c, rfl, hle⟩ := h.shape
  have hfl : f.len ≤ Ac.size f := Ac.len_size f
  have HI : Hid _ := ih
  clear ih
  have lb : (f.len : Int) ≤ 1000000 := by omega
  go_enter Tryz.func65, Tryz.ntmps65
  go_wp2
  go_loopw [3, 4] (fun i x wr => ∃ k : Nat, k ≤ f.len ∧ i = .int .i64 (k : Int) ∧ Hid (Ac.one (f.drop k) = Ac.one f) ∧ Below w.heap.size w wr) (fun i _ _ => f.len - (intOf i).toNat)
  case atStart => exact ⟨0, Nat.zero_le _, rfl, by show _ = _; rw [Ac.Fo.drop], Below.refl _ _⟩
  case round =>
    obtain ⟨k, hk, rfl, HO, hbr⟩ := hrel
    by_cases hlt : k < f.len
    · have i1 : (k : Int) < (f.len : Int) := by omega
      obtain ⟨o, a, n, b, r, e⟩ := Ac.Fo.drop_lt hlt
      obtain ⟨g, og, c', aa, ac, ba, bc, e1, hg, c0, c1, c2, c3, -, hb⟩ := (h.below hbr hB).at e hlt
      simp only [Value.slice.injEq] at e1
      obtain ⟨rfl, -, rfl⟩ := e1
      have hone := Ac.one_drop e
      have hnx := Ac.Fo.drop_next e
      have hbs := Ac.size_body e
      have hrec := fun W (hW : Below wr.heap.size wr W) => HI.out k o a n b r e (.slice ba b.len bc) W B (hb.below hW (Nat.le_trans hB hbr.size)) (Nat.le_trans (Nat.le_trans hB hbr.size) hW.size) (by omega)
      rw [hone] at HO
      have HR : Hid (∀ W, Below wr.heap.size wr W → _) := hrec
      have r4 := Rw.new wr #[.int .i64 o, .slice aa a.length ac, .int .i64 n, .slice ba b.len bc] 75
      have hb4 := hbr.alloc hbr.size (.cells #[.int .i64 o, .slice aa a.length ac, .int .i64 n, .slice ba b.len bc] 75)
      have hbx := (Below.refl wr.heap.size wr).alloc (Nat.le_refl _) (.cells #[.int .i64 o, .slice aa a.length ac, .int .i64 n, .slice ba b.len bc] 75)
      go_upto_region 5 with fail
      generalize wr.alloc (.cells #[.int .i64 o, .slice aa a.length ac, .int .i64 n, .slice ba b.len bc] 75) = W4 at *
      have x0 := r4.cell 0
      have x1 := r4.cell 1
      have x2 := r4.cell 2
      have x3 := r4.cell 3
      clear c0 c1 c2 c3 e hb
      have hWq : ∀ q, Calls Tryz.prog 89 #[.int .i64 o] (W4.drewN q) fun e w' => e = .returned (.string (str (Ac.word o))) ∧ ∃ m, w' = (W4.drewN q).drewN m := fun q => (WordT_any o _).mono fun e w' h => ⟨h.1, 0, h.2⟩
      have hAq : ∀ q, Calls Tryz.prog 90 #[.int .i64 o] (W4.drewN q) fun e w' => e = .returned (.int .i64 (Ac.argsN o)) ∧ ∃ m, w' = (W4.drewN q).drewN m := fun q => (ArgsT_any o _).mono fun e w' h => ⟨h.1, 0, h.2⟩
      have hOq : ∀ q, Calls Tryz.prog 91 #[.int .i64 o] (W4.drewN q) fun e w' => e = .returned (.bool (Ac.opens o)) ∧ ∃ m, w' = (W4.drewN q).drewN m := fun q => (OpensT_any o _).mono fun e w' h => ⟨h.1, 0, h.2⟩
      have hW0 := fun W => WordT_any o W
      have hA0 := fun W => ArgsT_any o W
      have hO0 := fun W => OpensT_any o W
      have hbd : Below wr.heap.size wr W4.drew := hbx.drew
      have HX : Hid (f.drop (k + 1) = r) := hnx
      have HX : Hid (f.drop (k + 1) = r ∧ True) := ⟨HX.out, trivial⟩
      clear hone hnx hbs hrec
      by_cases hw : Ac.word o = []
      · rw [hw] at hWq
        change ∀ q, Calls _ _ _ _ fun e w' => e = .returned (.string ⟨#[]⟩) ∧ _ at hWq
        have HF : Hid (Ac.one f = false) := by
          show _ = _
          rw [← HO.out]
          unfold Ac.ok1
          rw [decide_eq_false (by simpa using hw)]
          rfl
        clear HR HI HO HX
        go_quiet (first | (go_at_call 89; exact Calls.quiet_of (hWq _)) | (go_at_call 90; exact Calls.quiet_of (hAq _)) | (go_at_call 91; exact Calls.quiet_of (hOq _)) | fail)
        go_wp2
        go_ret
        rw [HF.out]
        exact ⟨rfl, below_dN hb4 _⟩

      have HW : Hid (Ac.word o ≠ []) := hw
      have s1 : (str (Ac.word o)).toList.isEmpty = false := by
        cases h : Ac.word o with
        | nil => exact absurd h hw
        | cons c r => simp [str, ByteArray.toList_eq]
      obtain ⟨S, hS⟩ : ∃ S, str (Ac.word o) = S := ⟨_, rfl⟩
      rw [hS] at hWq hW0 s1
      clear hw hS
      obtain ⟨AN, hAN⟩ : ∃ AN, Ac.argsN o = AN := ⟨_, rfl⟩
      rw [hAN] at hAq hA0
      by_cases hneg : AN < 0
      · have dA : decide (0 ≤ AN) = false := decide_eq_false (by omega)
        have iA : ¬ (0 : Int) ≤ AN := by omega
        have hok : Ac.argsOk o a.length = true := by rw [Ac.argsOk_N, hAN]; simp [hneg]
        have HOK : Hid (Ac.argsOk o a.length = true) := hok
        clear hok
        by_cases hn0 : n < 0
        · have d0 : decide (n < 0) = true := decide_eq_true hn0
          have HF : Hid (Ac.one f = false) := by
            show _ = _
            rw [← HO.out]
            unfold Ac.ok1
            rw [decide_eq_false (show ¬ (0 ≤ n ∧ n ≤ 1000) by omega)]
            simp
          clear HR HI HO HX
          go_quiet (first | (go_at_call 89; exact Calls.quiet_of (hWq _)) | (go_at_call 90; exact Calls.quiet_of (hAq _)) | (go_at_call 91; exact Calls.quiet_of (hOq _)) | fail)
          go_wp2
          go_ret
          rw [HF.out]
          exact ⟨rfl, below_dN hb4 _⟩

        have d0 : decide (n < 0) = false := decide_eq_false hn0
        by_cases hn1 : 1000 < n
        · have d1 : decide (1000 < n) = true := decide_eq_true hn1
          have HF : Hid (Ac.one f = false) := by
            show _ = _
            rw [← HO.out]
            unfold Ac.ok1
            rw [decide_eq_false (show ¬ (0 ≤ n ∧ n ≤ 1000) by omega)]
            simp
          clear HR HI HO HX
          go_quiet (first | (go_at_call 89; exact Calls.quiet_of (hWq _)) | (go_at_call 90; exact Calls.quiet_of (hAq _)) | (go_at_call 91; exact Calls.quiet_of (hOq _)) | fail)
          go_wp2
          go_ret
          rw [HF.out]
          exact ⟨rfl, below_dN hb4 _⟩

        have d1 : decide (1000 < n) = false := decide_eq_false hn1
        have HN : Hid (0 ≤ n ∧ n ≤ 1000) := ⟨by omega, by omega⟩
        clear hn0 hn1
        by_cases h10 : o = 10
        · have b10 : (o == 10) = true := by rw [beq_iff_eq]; exact h10
          have e10 : (o != 10) = false := by simp [h10]
          have g10 : decide (o = 10) = true := decide_eq_true h10
          have H10 : Hid (o = 10 ∨ n = 0) := .inl h10
          have ho : Ac.opens o = true := by rw [h10]; rfl
          have HOP : Hid (Ac.opens o = true ∨ b = .nil) := .inl ho
          rw [ho] at hOq hO0
          clear h10
          have HX : Hid (f.drop (k + 1) = r ∧ True ∧ (Ac.ok1 o a n && (Ac.opens o || decide (b = .nil))) = true) := ⟨HX.out.1, trivial, by
            unfold Ac.ok1
            rw [decide_eq_true HW.out, HOK.out, decide_eq_true HN.out, decide_eq_true H10.out]
            simpa using HOP.out⟩
          clear HW HOK HN H10 HOP
          clear HI
          have HRd : Hid (Calls Tryz.prog 65 #[.slice ba b.len bc] W4.drew fun e w' => e = .returned (.bool (Ac.one b)) ∧ Below W4.heap.size W4 w') := (HR.out _ hbd).mono fun e w' h => ⟨h.1, (Below.refl W4.heap.size W4).drew.trans h.2⟩
          have HF1 : Hid (Ac.one b = true → Ac.one (f.drop (k + 1)) = Ac.one f) := fun hb => by
            rw [HX.out.1, ← HO.out, HX.out.2.2, hb]
            simp
          have HF2 : Hid (Ac.one b = false → Ac.one f = false) := fun hb => by
            rw [← HO.out, hb]
            simp
          obtain ⟨RB, hRB⟩ : ∃ RB, Ac.one b = RB := ⟨_, rfl⟩
          rw [hRB] at HRd HF1 HF2
          refine one_h1 o n AN a.length b.len wr.heap.size ac bc aa ba S RB W4 s1 d0 d1 dA iA b10 e10 g10 r4 hW0 hA0 hO0 HRd _ _ _ _ _ _ _ _ _ _ _ _ _ _ _ _ _ _ _ _ _ _ _ _ _ _ _ _ _ _ _ _ _ _ _ _ _ _ _ _ _ _ _ _ _ _ _ _ _ _ _ _ _ _ _ _ _ _ _ _ _ _ _ _ _ _ _ _ _ _ _ _ (fun _ _ _ _ _ h => h) ?_
          intro v15 v16 v17 v18 v19 v20 v21 v22 v23 v24 v25 v26 v27 v28 v29 v30 v31 v32 v33 v34 v35 v36 v37 v38 v39 v40 v41 v42 v43 v44 v45 v46 v47 v48 v49 v50 v51 v52 v53 v54 v55 v56 v57 v58 v59 v60 v61 v62 v63 v64 v65 v66 v67 v68 v69 v70 w5 hb5
          have hbe := hb4.trans (hb5.mono hb4.size)
          clear HRd HX HO HR hRB
          cases RB with
          | true =>
            have HY3 : Hid _ := HF1.out rfl
            clear HF1 HF2
            go_wp2
            exact ⟨⟨k + 1, by omega, by go_num, HY3, hbe⟩, by simp [intOf]; omega⟩
          | false =>
            have HZ3 : Hid _ := HF2.out rfl
            clear HF1 HF2
            go_wp2
            go_ret
            rw [HZ3.out]
            exact ⟨rfl, hbe⟩

        have b10 : (o == 10) = false := by rw [beq_eq_false_iff_ne]; exact h10
        have e10 : (o != 10) = true := by simp [h10]
        have g10 : decide (o = 10) = false := decide_eq_false h10
        by_cases hz : n = 0
        rotate_left
        · have bz : (n == 0) = false := by rw [beq_eq_false_iff_ne]; exact hz
          have ez : (n != 0) = true := by simp [hz]
          have gz : decide (n = 0) = false := decide_eq_false hz
          have HF : Hid (Ac.one f = false) := by
            show _ = _
            rw [← HO.out]
            unfold Ac.ok1
            rw [decide_eq_false (show ¬ (o = 10 ∨ n = 0) by simp [h10, hz])]
            simp
          clear HR HI HO HX
          go_quiet (first | (go_at_call 89; exact Calls.quiet_of (hWq _)) | (go_at_call 90; exact Calls.quiet_of (hAq _)) | (go_at_call 91; exact Calls.quiet_of (hOq _)) | fail)
          go_wp2
          go_ret
          rw [HF.out]
          exact ⟨rfl, below_dN hb4 _⟩

        have bz : (n == 0) = true := by rw [beq_iff_eq]; exact hz
        have ez : (n != 0) = false := by simp [hz]
        have gz : decide (n = 0) = true := decide_eq_true hz
        have H10 : Hid (o = 10 ∨ n = 0) := .inr hz
        clear hz
        cases ho : Ac.opens o with
        | true =>
          have HOP : Hid (Ac.opens o = true ∨ b = .nil) := .inl ho
          rw [ho] at hOq hO0
          clear h10 ho
          have HX : Hid (f.drop (k + 1) = r ∧ True ∧ (Ac.ok1 o a n && (Ac.opens o || decide (b = .nil))) = true) := ⟨HX.out.1, trivial, by
            unfold Ac.ok1
            rw [decide_eq_true HW.out, HOK.out, decide_eq_true HN.out, decide_eq_true H10.out]
            simpa using HOP.out⟩
          clear HW HOK HN H10 HOP
          clear HI
          have HRd : Hid (Calls Tryz.prog 65 #[.slice ba b.len bc] W4.drew fun e w' => e = .returned (.bool (Ac.one b)) ∧ Below W4.heap.size W4 w') := (HR.out _ hbd).mono fun e w' h => ⟨h.1, (Below.refl W4.heap.size W4).drew.trans h.2⟩
          have HF1 : Hid (Ac.one b = true → Ac.one (f.drop (k + 1)) = Ac.one f) := fun hb => by
            rw [HX.out.1, ← HO.out, HX.out.2.2, hb]
            simp
          have HF2 : Hid (Ac.one b = false → Ac.one f = false) := fun hb => by
            rw [← HO.out, hb]
            simp
          obtain ⟨RB, hRB⟩ : ∃ RB, Ac.one b = RB := ⟨_, rfl⟩
          rw [hRB] at HRd HF1 HF2
          refine one_h2 o n AN a.length b.len wr.heap.size ac bc aa ba S RB W4 s1 d0 d1 dA iA b10 e10 g10 bz ez gz r4 hW0 hA0 hO0 HRd _ _ _ _ _ _ _ _ _ _ _ _ _ _ _ _ _ _ _ _ _ _ _ _ _ _ _ _ _ _ _ _ _ _ _ _ _ _ _ _ _ _ _ _ _ _ _ _ _ _ _ _ _ _ _ _ _ _ _ _ _ _ _ _ _ _ _ _ _ _ _ _ (fun _ _ _ _ _ h => h) ?_
          intro v15 v16 v17 v18 v19 v20 v21 v22 v23 v24 v25 v26 v27 v28 v29 v30 v31 v32 v33 v34 v35 v36 v37 v38 v39 v40 v41 v42 v43 v44 v45 v46 v47 v48 v49 v50 v51 v52 v53 v54 v55 v56 v57 v58 v59 v60 v61 v62 v63 v64 v65 v66 v67 v68 v69 v70 w5 hb5
          have hbe := hb4.trans (hb5.mono hb4.size)
          clear HRd HX HO HR hRB
          cases RB with
          | true =>
            have HY3 : Hid _ := HF1.out rfl
            clear HF1 HF2
            go_wp2
            exact ⟨⟨k + 1, by omega, by go_num, HY3, hbe⟩, by simp [intOf]; omega⟩
          | false =>
            have HZ3 : Hid _ := HF2.out rfl
            clear HF1 HF2
            go_wp2
            go_ret
            rw [HZ3.out]
            exact ⟨rfl, hbe⟩

        | false =>
          by_cases hbl : b = .nil
          rotate_left
          · have hpos : 0 < b.len := by
              cases b with
              | nil => exact absurd rfl hbl
              | cons _ _ _ _ _ => rw [Ac.Fo.len]; omega
            have dl : decide ((0 : Int) < (b.len : Int)) = true := decide_eq_true (by omega)
            have dl2 : decide (0 < b.len) = true := decide_eq_true hpos
            have i5 : (0 : Int) < (b.len : Int) := by omega
            have ho2 := ho
            rw [ho] at hOq hO0
            have HF : Hid (Ac.one f = false) := by
              show _ = _
              rw [← HO.out]
              rw [ho2, decide_eq_false hbl]
              simp
            clear HR HI HO HX
            go_quiet (first | (go_at_call 89; exact Calls.quiet_of (hWq _)) | (go_at_call 90; exact Calls.quiet_of (hAq _)) | (go_at_call 91; exact Calls.quiet_of (hOq _)) | fail)
            go_wp2
            go_ret
            rw [HF.out]
            exact ⟨rfl, below_dN hb4 _⟩

          have HOP : Hid (Ac.opens o = true ∨ b = .nil) := .inr hbl
          have hbz : b.len = 0 := by rw [hbl]; rfl
          have dl : decide ((0 : Int) < (b.len : Int)) = false := decide_eq_false (by omega)
          have dl2 : decide (0 < b.len) = false := decide_eq_false (by omega)
          have i5 : ¬ (0 : Int) < (b.len : Int) := by omega
          rw [ho] at hOq hO0
          clear h10 ho hbl hbz
          have HX : Hid (f.drop (k + 1) = r ∧ True ∧ (Ac.ok1 o a n && (Ac.opens o || decide (b = .nil))) = true) := ⟨HX.out.1, trivial, by
            unfold Ac.ok1
            rw [decide_eq_true HW.out, HOK.out, decide_eq_true HN.out, decide_eq_true H10.out]
            simpa using HOP.out⟩
          clear HW HOK HN H10 HOP
          clear HI
          have HRd : Hid (Calls Tryz.prog 65 #[.slice ba b.len bc] W4.drew fun e w' => e = .returned (.bool (Ac.one b)) ∧ Below W4.heap.size W4 w') := (HR.out _ hbd).mono fun e w' h => ⟨h.1, (Below.refl W4.heap.size W4).drew.trans h.2⟩
          have HF1 : Hid (Ac.one b = true → Ac.one (f.drop (k + 1)) = Ac.one f) := fun hb => by
            rw [HX.out.1, ← HO.out, HX.out.2.2, hb]
            simp
          have HF2 : Hid (Ac.one b = false → Ac.one f = false) := fun hb => by
            rw [← HO.out, hb]
            simp
          obtain ⟨RB, hRB⟩ : ∃ RB, Ac.one b = RB := ⟨_, rfl⟩
          rw [hRB] at HRd HF1 HF2
          refine one_h3 o n AN a.length b.len wr.heap.size ac bc aa ba S RB W4 s1 d0 d1 dA iA b10 e10 g10 bz ez gz dl dl2 i5 r4 hW0 hA0 hO0 HRd _ _ _ _ _ _ _ _ _ _ _ _ _ _ _ _ _ _ _ _ _ _ _ _ _ _ _ _ _ _ _ _ _ _ _ _ _ _ _ _ _ _ _ _ _ _ _ _ _ _ _ _ _ _ _ _ _ _ _ _ _ _ _ _ _ _ _ _ _ _ _ _ (fun _ _ _ _ _ h => h) ?_
          intro v15 v16 v17 v18 v19 v20 v21 v22 v23 v24 v25 v26 v27 v28 v29 v30 v31 v32 v33 v34 v35 v36 v37 v38 v39 v40 v41 v42 v43 v44 v45 v46 v47 v48 v49 v50 v51 v52 v53 v54 v55 v56 v57 v58 v59 v60 v61 v62 v63 v64 v65 v66 v67 v68 v69 v70 w5 hb5
          have hbe := hb4.trans (hb5.mono hb4.size)
          clear HRd HX HO HR hRB
          cases RB with
          | true =>
            have HY3 : Hid _ := HF1.out rfl
            clear HF1 HF2
            go_wp2
            exact ⟨⟨k + 1, by omega, by go_num, HY3, hbe⟩, by simp [intOf]; omega⟩
          | false =>
            have HZ3 : Hid _ := HF2.out rfl
            clear HF1 HF2
            go_wp2
            go_ret
            rw [HZ3.out]
            exact ⟨rfl, hbe⟩


      have dA : decide (0 ≤ AN) = true := decide_eq_true (by omega)
      have iA : (0 : Int) ≤ AN := by omega
      by_cases heq : AN = (a.length : Int)
      rotate_left
      · have bA : (AN == (a.length : Int)) = false := by rw [beq_eq_false_iff_ne]; exact heq
        have eA : (AN != (a.length : Int)) = true := by simp [heq]
        have gA : decide (AN = (a.length : Int)) = false := decide_eq_false heq
        have HF : Hid (Ac.one f = false) := by
          show _ = _
          rw [← HO.out]
          unfold Ac.ok1
          have : Ac.argsOk o a.length = false := by rw [Ac.argsOk_N, hAN]; simp [heq, hneg]
          rw [this]
          simp
        clear HR HI HO HX
        go_quiet (first | (go_at_call 89; exact Calls.quiet_of (hWq _)) | (go_at_call 90; exact Calls.quiet_of (hAq _)) | (go_at_call 91; exact Calls.quiet_of (hOq _)) | fail)
        go_wp2
        go_ret
        rw [HF.out]
        exact ⟨rfl, below_dN hb4 _⟩

      have bA : (AN == (a.length : Int)) = true := by rw [beq_iff_eq]; exact heq
      have hok : Ac.argsOk o a.length = true := by rw [Ac.argsOk_N, hAN]; simp [heq]
      have HOK : Hid (Ac.argsOk o a.length = true) := hok
      clear hok
      by_cases hn0 : n < 0
      · have d0 : decide (n < 0) = true := decide_eq_true hn0
        have HF : Hid (Ac.one f = false) := by
          show _ = _
          rw [← HO.out]
          unfold Ac.ok1
          rw [decide_eq_false (show ¬ (0 ≤ n ∧ n ≤ 1000) by omega)]
          simp
        clear HR HI HO HX
        go_quiet (first | (go_at_call 89; exact Calls.quiet_of (hWq _)) | (go_at_call 90; exact Calls.quiet_of (hAq _)) | (go_at_call 91; exact Calls.quiet_of (hOq _)) | fail)
        go_wp2
        go_ret
        rw [HF.out]
        exact ⟨rfl, below_dN hb4 _⟩

      have d0 : decide (n < 0) = false := decide_eq_false hn0
      by_cases hn1 : 1000 < n
      · have d1 : decide (1000 < n) = true := decide_eq_true hn1
        have HF : Hid (Ac.one f = false) := by
          show _ = _
          rw [← HO.out]
          unfold Ac.ok1
          rw [decide_eq_false (show ¬ (0 ≤ n ∧ n ≤ 1000) by omega)]
          simp
        clear HR HI HO HX
        go_quiet (first | (go_at_call 89; exact Calls.quiet_of (hWq _)) | (go_at_call 90; exact Calls.quiet_of (hAq _)) | (go_at_call 91; exact Calls.quiet_of (hOq _)) | fail)
        go_wp2
        go_ret
        rw [HF.out]
        exact ⟨rfl, below_dN hb4 _⟩

      have d1 : decide (1000 < n) = false := decide_eq_false hn1
      have HN : Hid (0 ≤ n ∧ n ≤ 1000) := ⟨by omega, by omega⟩
      clear hn0 hn1
      by_cases h10 : o = 10
      · have b10 : (o == 10) = true := by rw [beq_iff_eq]; exact h10
        have e10 : (o != 10) = false := by simp [h10]
        have g10 : decide (o = 10) = true := decide_eq_true h10
        have H10 : Hid (o = 10 ∨ n = 0) := .inl h10
        have ho : Ac.opens o = true := by rw [h10]; rfl
        have HOP : Hid (Ac.opens o = true ∨ b = .nil) := .inl ho
        rw [ho] at hOq hO0
        clear h10
        have HX : Hid (f.drop (k + 1) = r ∧ True ∧ (Ac.ok1 o a n && (Ac.opens o || decide (b = .nil))) = true) := ⟨HX.out.1, trivial, by
          unfold Ac.ok1
          rw [decide_eq_true HW.out, HOK.out, decide_eq_true HN.out, decide_eq_true H10.out]
          simpa using HOP.out⟩
        clear HW HOK HN H10 HOP
        subst heq
        clear HI
        have HRd : Hid (Calls Tryz.prog 65 #[.slice ba b.len bc] W4.drew fun e w' => e = .returned (.bool (Ac.one b)) ∧ Below W4.heap.size W4 w') := (HR.out _ hbd).mono fun e w' h => ⟨h.1, (Below.refl W4.heap.size W4).drew.trans h.2⟩
        have HF1 : Hid (Ac.one b = true → Ac.one (f.drop (k + 1)) = Ac.one f) := fun hb => by
          rw [HX.out.1, ← HO.out, HX.out.2.2, hb]
          simp
        have HF2 : Hid (Ac.one b = false → Ac.one f = false) := fun hb => by
          rw [← HO.out, hb]
          simp
        obtain ⟨RB, hRB⟩ : ∃ RB, Ac.one b = RB := ⟨_, rfl⟩
        rw [hRB] at HRd HF1 HF2
        refine one_h4 o n a.length b.len wr.heap.size ac bc aa ba S RB W4 s1 d0 d1 dA iA b10 e10 g10 r4 hW0 hA0 hO0 HRd _ _ _ _ _ _ _ _ _ _ _ _ _ _ _ _ _ _ _ _ _ _ _ _ _ _ _ _ _ _ _ _ _ _ _ _ _ _ _ _ _ _ _ _ _ _ _ _ _ _ _ _ _ _ _ _ _ _ _ _ _ _ _ _ _ _ _ _ _ _ _ _ (fun _ _ _ _ _ h => h) ?_
        intro v15 v16 v17 v18 v19 v20 v21 v22 v23 v24 v25 v26 v27 v28 v29 v30 v31 v32 v33 v34 v35 v36 v37 v38 v39 v40 v41 v42 v43 v44 v45 v46 v47 v48 v49 v50 v51 v52 v53 v54 v55 v56 v57 v58 v59 v60 v61 v62 v63 v64 v65 v66 v67 v68 v69 v70 w5 hb5
        have hbe := hb4.trans (hb5.mono hb4.size)
        clear HRd HX HO HR hRB
        cases RB with
        | true =>
          have HY3 : Hid _ := HF1.out rfl
          clear HF1 HF2
          go_wp2
          exact ⟨⟨k + 1, by omega, by go_num, HY3, hbe⟩, by simp [intOf]; omega⟩
        | false =>
          have HZ3 : Hid _ := HF2.out rfl
          clear HF1 HF2
          go_wp2
          go_ret
          rw [HZ3.out]
          exact ⟨rfl, hbe⟩

      have b10 : (o == 10) = false := by rw [beq_eq_false_iff_ne]; exact h10
      have e10 : (o != 10) = true := by simp [h10]
      have g10 : decide (o = 10) = false := decide_eq_false h10
      by_cases hz : n = 0
      rotate_left
      · have bz : (n == 0) = false := by rw [beq_eq_false_iff_ne]; exact hz
        have ez : (n != 0) = true := by simp [hz]
        have gz : decide (n = 0) = false := decide_eq_false hz
        have HF : Hid (Ac.one f = false) := by
          show _ = _
          rw [← HO.out]
          unfold Ac.ok1
          rw [decide_eq_false (show ¬ (o = 10 ∨ n = 0) by simp [h10, hz])]
          simp
        clear HR HI HO HX
        go_quiet (first | (go_at_call 89; exact Calls.quiet_of (hWq _)) | (go_at_call 90; exact Calls.quiet_of (hAq _)) | (go_at_call 91; exact Calls.quiet_of (hOq _)) | fail)
        go_wp2
        go_ret
        rw [HF.out]
        exact ⟨rfl, below_dN hb4 _⟩

      have bz : (n == 0) = true := by rw [beq_iff_eq]; exact hz
      have ez : (n != 0) = false := by simp [hz]
      have gz : decide (n = 0) = true := decide_eq_true hz
      have H10 : Hid (o = 10 ∨ n = 0) := .inr hz
      clear hz
      cases ho : Ac.opens o with
      | true =>
        have HOP : Hid (Ac.opens o = true ∨ b = .nil) := .inl ho
        rw [ho] at hOq hO0
        clear h10 ho
        have HX : Hid (f.drop (k + 1) = r ∧ True ∧ (Ac.ok1 o a n && (Ac.opens o || decide (b = .nil))) = true) := ⟨HX.out.1, trivial, by
          unfold Ac.ok1
          rw [decide_eq_true HW.out, HOK.out, decide_eq_true HN.out, decide_eq_true H10.out]
          simpa using HOP.out⟩
        clear HW HOK HN H10 HOP
        subst heq
        clear HI
        have HRd : Hid (Calls Tryz.prog 65 #[.slice ba b.len bc] W4.drew fun e w' => e = .returned (.bool (Ac.one b)) ∧ Below W4.heap.size W4 w') := (HR.out _ hbd).mono fun e w' h => ⟨h.1, (Below.refl W4.heap.size W4).drew.trans h.2⟩
        have HF1 : Hid (Ac.one b = true → Ac.one (f.drop (k + 1)) = Ac.one f) := fun hb => by
          rw [HX.out.1, ← HO.out, HX.out.2.2, hb]
          simp
        have HF2 : Hid (Ac.one b = false → Ac.one f = false) := fun hb => by
          rw [← HO.out, hb]
          simp
        obtain ⟨RB, hRB⟩ : ∃ RB, Ac.one b = RB := ⟨_, rfl⟩
        rw [hRB] at HRd HF1 HF2
        refine one_h5 o n a.length b.len wr.heap.size ac bc aa ba S RB W4 s1 d0 d1 dA iA b10 e10 g10 bz ez gz r4 hW0 hA0 hO0 HRd _ _ _ _ _ _ _ _ _ _ _ _ _ _ _ _ _ _ _ _ _ _ _ _ _ _ _ _ _ _ _ _ _ _ _ _ _ _ _ _ _ _ _ _ _ _ _ _ _ _ _ _ _ _ _ _ _ _ _ _ _ _ _ _ _ _ _ _ _ _ _ _ (fun _ _ _ _ _ h => h) ?_
        intro v15 v16 v17 v18 v19 v20 v21 v22 v23 v24 v25 v26 v27 v28 v29 v30 v31 v32 v33 v34 v35 v36 v37 v38 v39 v40 v41 v42 v43 v44 v45 v46 v47 v48 v49 v50 v51 v52 v53 v54 v55 v56 v57 v58 v59 v60 v61 v62 v63 v64 v65 v66 v67 v68 v69 v70 w5 hb5
        have hbe := hb4.trans (hb5.mono hb4.size)
        clear HRd HX HO HR hRB
        cases RB with
        | true =>
          have HY3 : Hid _ := HF1.out rfl
          clear HF1 HF2
          go_wp2
          exact ⟨⟨k + 1, by omega, by go_num, HY3, hbe⟩, by simp [intOf]; omega⟩
        | false =>
          have HZ3 : Hid _ := HF2.out rfl
          clear HF1 HF2
          go_wp2
          go_ret
          rw [HZ3.out]
          exact ⟨rfl, hbe⟩

      | false =>
        by_cases hbl : b = .nil
        rotate_left
        · have hpos : 0 < b.len := by
            cases b with
            | nil => exact absurd rfl hbl
            | cons _ _ _ _ _ => rw [Ac.Fo.len]; omega
          have dl : decide ((0 : Int) < (b.len : Int)) = true := decide_eq_true (by omega)
          have dl2 : decide (0 < b.len) = true := decide_eq_true hpos
          have i5 : (0 : Int) < (b.len : Int) := by omega
          have ho2 := ho
          rw [ho] at hOq hO0
          have HF : Hid (Ac.one f = false) := by
            show _ = _
            rw [← HO.out]
            rw [ho2, decide_eq_false hbl]
            simp
          clear HR HI HO HX
          go_quiet (first | (go_at_call 89; exact Calls.quiet_of (hWq _)) | (go_at_call 90; exact Calls.quiet_of (hAq _)) | (go_at_call 91; exact Calls.quiet_of (hOq _)) | fail)
          go_wp2
          go_ret
          rw [HF.out]
          exact ⟨rfl, below_dN hb4 _⟩

        have HOP : Hid (Ac.opens o = true ∨ b = .nil) := .inr hbl
        have hbz : b.len = 0 := by rw [hbl]; rfl
        have dl : decide ((0 : Int) < (b.len : Int)) = false := decide_eq_false (by omega)
        have dl2 : decide (0 < b.len) = false := decide_eq_false (by omega)
        have i5 : ¬ (0 : Int) < (b.len : Int) := by omega
        rw [ho] at hOq hO0
        clear h10 ho hbl hbz
        have HX : Hid (f.drop (k + 1) = r ∧ True ∧ (Ac.ok1 o a n && (Ac.opens o || decide (b = .nil))) = true) := ⟨HX.out.1, trivial, by
          unfold Ac.ok1
          rw [decide_eq_true HW.out, HOK.out, decide_eq_true HN.out, decide_eq_true H10.out]
          simpa using HOP.out⟩
        clear HW HOK HN H10 HOP
        subst heq
        clear HI
        have HRd : Hid (Calls Tryz.prog 65 #[.slice ba b.len bc] W4.drew fun e w' => e = .returned (.bool (Ac.one b)) ∧ Below W4.heap.size W4 w') := (HR.out _ hbd).mono fun e w' h => ⟨h.1, (Below.refl W4.heap.size W4).drew.trans h.2⟩
        have HF1 : Hid (Ac.one b = true → Ac.one (f.drop (k + 1)) = Ac.one f) := fun hb => by
          rw [HX.out.1, ← HO.out, HX.out.2.2, hb]
          simp
        have HF2 : Hid (Ac.one b = false → Ac.one f = false) := fun hb => by
          rw [← HO.out, hb]
          simp
        obtain ⟨RB, hRB⟩ : ∃ RB, Ac.one b = RB := ⟨_, rfl⟩
        rw [hRB] at HRd HF1 HF2
        refine one_h6 o n a.length b.len wr.heap.size ac bc aa ba S RB W4 s1 d0 d1 dA iA b10 e10 g10 bz ez gz dl dl2 i5 r4 hW0 hA0 hO0 HRd _ _ _ _ _ _ _ _ _ _ _ _ _ _ _ _ _ _ _ _ _ _ _ _ _ _ _ _ _ _ _ _ _ _ _ _ _ _ _ _ _ _ _ _ _ _ _ _ _ _ _ _ _ _ _ _ _ _ _ _ _ _ _ _ _ _ _ _ _ _ _ _ (fun _ _ _ _ _ h => h) ?_
        intro v15 v16 v17 v18 v19 v20 v21 v22 v23 v24 v25 v26 v27 v28 v29 v30 v31 v32 v33 v34 v35 v36 v37 v38 v39 v40 v41 v42 v43 v44 v45 v46 v47 v48 v49 v50 v51 v52 v53 v54 v55 v56 v57 v58 v59 v60 v61 v62 v63 v64 v65 v66 v67 v68 v69 v70 w5 hb5
        have hbe := hb4.trans (hb5.mono hb4.size)
        clear HRd HX HO HR hRB
        cases RB with
        | true =>
          have HY3 : Hid _ := HF1.out rfl
          clear HF1 HF2
          go_wp2
          exact ⟨⟨k + 1, by omega, by go_num, HY3, hbe⟩, by simp [intOf]; omega⟩
        | false =>
          have HZ3 : Hid _ := HF2.out rfl
          clear HF1 HF2
          go_wp2
          go_ret
          rw [HZ3.out]
          exact ⟨rfl, hbe⟩

    · obtain rfl : k = f.len := by omega
      have i1 : ¬ (f.len : Int) < (f.len : Int) := by omega
      have HF : Hid (Ac.one f = true) := by
        show _ = _
        rw [← HO.out, Ac.Fo.drop_len]; rfl
      clear HO HI
      go_wp2
      go_ret
      rw [HF.out]
      exact ⟨rfl, hbr⟩
end Go.Proofs.YtnobmgkdieaclaaGreatDoor
