/-
  THE WALK OF PathSides.
-/
import Derived.Test.YtnfdjgpephoomaaLWorks
import Derived.Test.YtnfdjgpephoomaaPXG
import Derived.Deep.CutRange
namespace Go.Proofs.Ytnfdjgpephoomaa
open Go.RowKit

theorem add_none (a : ByteArray) : a ++ ⟨#[]⟩ = a := bs_inj (by rw [bs_append]; exact List.append_nil _)
theorem glob_yes {p s : Pm.B} : Pm.glob p s = true ↔ Pm.Fits (Pm.toks p) s := by unfold Pm.glob; split <;> simp_all
theorem glob_no {p s : Pm.B} : Pm.glob p s = false ↔ ¬ Pm.Fits (Pm.toks p) s := by unfold Pm.glob; split <;> simp_all

set_option maxRecDepth 100000 in
set_option maxHeartbeats 4000000 in
theorem sides_walk (a b x y : ByteArray) (w : World) :
    Calls Try.prog 9 #[.agg #[.string a, .string b, .string x, .string y]] w fun e w' => e = .returned (.bool true) ∧ Below w.heap.size w w' := by
  go_enter Try.func9, Try.ntmps9
  go_wp2_with fail
  refine (works_true _).mono ?_
  rintro e w1 ⟨rfl, hB1⟩
  have hsz : (w.alloc (.cells #[.string a, .string b, .string x, .string y] 44)).heap.size = w.heap.size + 1 := Array.size_push ..
  rw [hsz] at hB1
  have hBw : Below w.heap.size w w1 := ((Below.refl _ _).alloc (Nat.le_refl _) _).trans (hB1.mono (by omega))
  have hbk := (hB1.block w.heap.size (by omega)).trans (heap_alloc_new w _)
  have k0 := cell_of_row w1 w.heap.size 0 _ 44 (0, 0) hbk
  have k1 := cell_of_row w1 w.heap.size 1 _ 44 (0, 0) hbk
  have k2 := cell_of_row w1 w.heap.size 2 _ 44 (0, 0) hbk
  have k3 := cell_of_row w1 w.heap.size 3 _ 44 (0, 0) hbk
  simp only [List.getElem?_toArray, List.getElem?_cons_zero, List.getElem?_cons_succ] at k0 k1 k2 k3
  clear hbk hB1 hsz
  go_wp2_with fail
  go_quiet (fail)
  clear k0 k1 k2 k3
  have hB2 : Below w.heap.size w (w1.drewN nq) := below_drewN hBw _
  generalize w1.drewN nq = w2 at *
  clear hBw
  by_cases h1 : (200 : Int) < (a.size : Int)
  · go_wp2
    go_ret
    exact ⟨rfl, hB2⟩
  by_cases h2 : (200 : Int) < (b.size : Int)
  · go_wp2
    go_ret
    exact ⟨rfl, hB2⟩
  by_cases h3 : (200 : Int) < (x.size : Int)
  · go_wp2
    go_ret
    exact ⟨rfl, hB2⟩
  by_cases h4 : (200 : Int) < (y.size : Int)
  · go_wp2
    go_ret
    exact ⟨rfl, hB2⟩
  go_upto_region 6 with fail
  go_cut [54] (fun t wx => t = .bool false ∧ Below w.heap.size w wx)
  case first =>
    go_wp2_with fail
    refine (Glob_any a x _ (by omega) (by omega)).mono ?_
    rintro e w3 ⟨rfl, hB3⟩
    have hC3 := hB2.trans (hB3.mono hB2.size)
    cases g1 : Pm.glob (bs a) (bs x)
    · go_wp2
      go_meet
      exact ⟨rfl, hC3⟩
    go_wp2_with fail
    refine (Glob_any b y _ (by omega) (by omega)).mono ?_
    rintro e w4 ⟨rfl, hB4⟩
    have hC4 := hC3.trans (hB4.mono hC3.size)
    cases g2 : Pm.glob (bs b) (bs y)
    · go_wp2
      go_meet
      exact ⟨rfl, hC4⟩
    have f1 : ¬ 9223372036854775807 < a.size + b.size := by omega
    have f2 : ¬ 9223372036854775807 < x.size + y.size := by omega
    go_wp2_with fail
    refine (Glob_any (a ++ b) (x ++ y) _ (by rw [ByteArray.size_append]; omega) (by rw [ByteArray.size_append]; omega)).mono ?_
    rintro e w5 ⟨rfl, hB5⟩
    have hC5 := hC4.trans (hB5.mono hC4.size)
    have g3 : Pm.glob (bs (a ++ b)) (bs (x ++ y)) = true := by
      rw [bs_append, bs_append]
      exact glob_yes.2 (Pm.glob_two (glob_yes.1 g1) (glob_yes.1 g2))
    rw [g3]
    go_wp2
    go_meet
    exact ⟨rfl, hC5⟩
  case rest =>
    obtain ⟨rfl, hBc⟩ := hcut
    clear hB2
    go_wp2_with fail
    go_loopw [7, 8] (fun v i wr => ∃ (k : Nat) (pl : Bool), k ≤ x.size ∧ i = .int .i64 (k : Int) ∧ v = .bool pl ∧ (pl = true ↔ ∀ c ∈ (bs x).take k, c ≠ 42 ∧ c ≠ 63) ∧ Below w.heap.size w wr) (fun _ i _ => x.size - (intOf i).toNat)
    case atStart => exact ⟨0, true, Nat.zero_le _, rfl, rfl, by simp, hBc⟩
    case round =>
      obtain ⟨k, pl, hk, rfl, rfl, hpl, hBe⟩ := hrel
      have HPL : Hid _ := hpl
      clear hpl
      by_cases hlt : k < x.size
      · have i1 : (k : Int) < (x.size : Int) := by omega
        have ht : (bs x).take (k + 1) = (bs x).take k ++ [x[k]] := by
          rw [List.take_succ_eq_append_getElem (by rw [bs_length]; exact hlt)]
          congr 2
        have HT : Hid _ := ht
        clear ht
        have q1 : ((x[k].toNat : Int) != 42) = !decide (x[k] = 42) := congrArg not (beq_lit x[k] 42)
        have q2 : ((x[k].toNat : Int) != 63) = !decide (x[k] = 63) := congrArg not (beq_lit x[k] 63)
        cases pl with
        | false =>
          clear q1 q2
          go_wp2
          refine ⟨⟨k + 1, false, by omega, by go_num, rfl, ?_, hBe⟩, by simp [intOf]; omega⟩
          rw [HT.out]
          refine ⟨fun h => by simp at h, fun h => HPL.out.2 fun c hc => h c (List.mem_append_left _ hc)⟩
        | true =>
          by_cases c1 : x[k] = 42
          · rw [decide_eq_true c1] at q1
            have C1 : Hid _ := c1
            clear c1 q2
            go_wp2
            refine ⟨⟨k + 1, false, by omega, by go_num, rfl, ?_, hBe⟩, by simp [intOf]; omega⟩
            rw [HT.out]
            refine ⟨fun h => by simp at h, fun h => absurd C1.out (h _ (List.mem_append_right _ (List.mem_singleton.2 rfl))).1⟩
          rw [decide_eq_false c1] at q1
          by_cases c2 : x[k] = 63
          · rw [decide_eq_true c2] at q2
            have C2 : Hid _ := c2
            clear c1 c2
            go_wp2
            refine ⟨⟨k + 1, false, by omega, by go_num, rfl, ?_, hBe⟩, by simp [intOf]; omega⟩
            rw [HT.out]
            refine ⟨fun h => by simp at h, fun h => absurd C2.out (h _ (List.mem_append_right _ (List.mem_singleton.2 rfl))).2⟩
          rw [decide_eq_false c2] at q2
          have C1 : Hid _ := c1
          have C2 : Hid _ := c2
          clear c1 c2
          go_wp2
          refine ⟨⟨k + 1, true, by omega, by go_num, rfl, ?_, hBe⟩, by simp [intOf]; omega⟩
          rw [HT.out]
          refine ⟨fun _ c hc => ?_, fun _ => rfl⟩
          rcases List.mem_append.1 hc with h | h
          · exact HPL.out.1 rfl c h
          · rw [List.mem_singleton.1 h]; exact ⟨C1.out, C2.out⟩
      · obtain rfl : k = x.size := by omega
        have i1 : ¬ (x.size : Int) < (x.size : Int) := by omega
        rw [List.take_of_length_le (by rw [bs_length]; exact Nat.le_refl _)] at HPL
        go_wp2_with fail
        refine (Glob_any ⟨#[42, 42]⟩ x _ (by decide) (by omega)).mono ?_
        rintro e w6 ⟨rfl, hB6⟩
        have hC6 := hBe.trans (hB6.mono hBe.size)
        rw [show Pm.glob (bs ⟨#[42, 42]⟩) (bs x) = true from glob_yes.2 (Pm.glob_all _)]
        have HF : Hid (∀ W W' : World, Below w.heap.size w W → Below W.heap.size W W' → Below w.heap.size w W') := fun W W' h1 h2 => h1.trans (h2.mono h1.size)
        obtain ⟨ga, hga⟩ : ∃ ga, Pm.glob (bs a) (bs x) = ga := ⟨_, rfl⟩
        have hg0 : (ga == ga) = true := by simp
        have HA : Hid _ := hga
        clear hga
        cases pl with
        | false =>
          clear HPL
          go_wp2_with fail
          refine (Glob_any a x _ (by omega) (by omega)).mono ?_
          rintro e w7 ⟨rfl, hB7⟩
          have hC7 := HF.out _ _ hC6 hB7
          rw [HA.out]
          go_wp2_with fail
          refine (Glob_any _ x _ (by rw [add_none]; omega) (by omega)).mono ?_
          rw [add_none]
          rintro e w8 ⟨rfl, hB8⟩
          have hC8 := HF.out _ _ hC7 hB8
          rw [HA.out]
          go_wp2
          go_ret
          exact ⟨rfl, hC8⟩
        | true =>
          have g1 := glob_yes.2 ((Pm.glob_plain (bs x) (HPL.out.1 rfl) (bs x)).2 rfl)
          go_wp2_with fail
          refine (Glob_any x x _ (by omega) (by omega)).mono ?_
          rintro e w7 ⟨rfl, hB7⟩
          have hC7 := HF.out _ _ hC6 hB7
          rw [g1]
          clear g1
          go_wp2_with fail
          refine (Glob_any x y _ (by omega) (by omega)).mono ?_
          rintro e w8 ⟨rfl, hB8⟩
          have hC8 := HF.out _ _ hC7 hB8
          have e1 : Pm.glob (bs x) (bs y) = (x.toList == y.toList) := by
            by_cases hxy : x = y
            · subst hxy
              rw [glob_yes.2 ((Pm.glob_plain (bs x) (HPL.out.1 (by simp)) (bs x)).2 rfl)]
              simp
            · rw [glob_no.2 fun h => hxy (bs_inj ((Pm.glob_plain (bs x) (HPL.out.1 (by simp)) (bs y)).1 h))]
              symm
              rw [beq_eq_false_iff_ne]
              intro h
              apply hxy
              rw [ByteArray.toList_eq, ByteArray.toList_eq] at h
              exact bs_inj h
          rw [e1]
          clear e1
          have e2 : ((x.toList == y.toList) == (x.toList == y.toList)) = true := beq_self_eq_true _
          go_wp2_with fail
          refine (Glob_any a x _ (by omega) (by omega)).mono ?_
          rintro e w9 ⟨rfl, hB9⟩
          have hC9 := HF.out _ _ hC8 hB9
          rw [HA.out]
          go_wp2_with fail
          refine (Glob_any _ x _ (by rw [add_none]; omega) (by omega)).mono ?_
          rw [add_none]
          rintro e w10 ⟨rfl, hB10⟩
          have hC10 := HF.out _ _ hC9 hB10
          rw [HA.out]
          go_wp2
          go_ret
          exact ⟨rfl, hC10⟩

end Go.Proofs.Ytnfdjgpephoomaa
