/-
  THE WALK OF PathStems.
-/
import Derived.Test.YtnfdjgpephoomaaDoorLWorks
import Derived.Test.YtnfdjgpephoomaaDoorPXM
import Derived.Test.YtnfdjgpephoomaaDoorPXF
import Derived.Test.YtnfdjgpephoomaaDoorStrB
namespace Go.Proofs.YtnfdjgpephoomaaDoor
open Go.RowKit

theorem beq_nil (s : ByteArray) : (s.toList == []) = decide (bs s = []) := by
  rw [ByteArray.toList_eq]
  show (bs s == []) = _
  cases bs s <;> simp

set_option maxRecDepth 100000 in
set_option maxHeartbeats 4000000 in
theorem stems_walk (a b st s : ByteArray) (w : World) (ha : a.size ≤ 2305843009213693951) (hb : b.size ≤ 2305843009213693951) (hst : st.size ≤ 2305843009213693951) (hs : s.size ≤ 2305843009213693951) :
    Calls Tryd.prog 4 #[.agg #[.string a, .string b, .string st, .string s]] w fun e w' => e = .returned (.bool true) ∧ Below w.heap.size w w' := by
  go_enter Tryd.func4, Tryd.ntmps4
  go_wp2_with fail
  refine (works_true _).mono ?_
  rintro e w1 ⟨rfl, hB1⟩
  have hsz : (w.alloc (.cells #[.string a, .string b, .string st, .string s] 26)).heap.size = w.heap.size + 1 := Array.size_push ..
  rw [hsz] at hB1
  have hBw : Below w.heap.size w w1 := ((Below.refl _ _).alloc (Nat.le_refl _) _).trans (hB1.mono (by omega))
  have hbk := (hB1.block w.heap.size (by omega)).trans (heap_alloc_new w _)
  have k0 := cell_of_row w1 w.heap.size 0 _ 26 (0, 0) hbk
  have k1 := cell_of_row w1 w.heap.size 1 _ 26 (0, 0) hbk
  have k2 := cell_of_row w1 w.heap.size 2 _ 26 (0, 0) hbk
  have k3 := cell_of_row w1 w.heap.size 3 _ 26 (0, 0) hbk
  simp only [List.getElem?_toArray, List.getElem?_cons_zero, List.getElem?_cons_succ] at k0 k1 k2 k3
  clear hbk hB1 hsz
  go_wp2_with fail
  go_quiet (fail)
  clear k0 k1 k2 k3
  have hB2 : Below w.heap.size w (w1.drewN nq) := below_drewN hBw _
  generalize w1.drewN nq = w2 at *
  clear hBw
  by_cases h1 : (1000 : Int) < (a.size : Int) + (b.size : Int) + (st.size : Int) + (s.size : Int)
  · go_wp2
    go_ret
    exact ⟨rfl, hB2⟩
  have f1 : ¬ 9223372036854775807 < a.size + b.size := by omega
  obtain ⟨c, w3, hcv, hB3, hsz3, hcell⟩ := str_byts w2 (a ++ b)
  have hC3 := hB2.trans (hB3.mono hB2.size)
  have HC : Hid _ := hcell
  have hXs : (a ++ b).size = a.size + b.size := ByteArray.size_append
  clear hcell hB3
  go_wp2_with fail
  go_loopw [8, 40] (fun v i wr => ∃ (k : Nat), k ≤ (a ++ b).size ∧ i = .int .i64 (k : Int) ∧ (∀ x ∈ (bs (a ++ b)).take k, x ≠ 37) ∧ wr = w3) (fun _ i _ => (a ++ b).size - (intOf i).toNat)
  case atStart => exact ⟨0, Nat.zero_le _, rfl, by simp, rfl⟩
  case round =>
    obtain ⟨k, hk, rfl, hall, rfl⟩ := hrel
    have HALL : Hid _ := hall
    clear hall
    by_cases hlt : k < (a ++ b).size
    · have i1 : (k : Int) < ((a ++ b).size : Int) := by omega
      have c0 := HC.out k hlt
      obtain ⟨y, hy⟩ : ∃ y, (a ++ b).data.toList.getD k 0 = y := ⟨_, rfl⟩
      rw [hy] at c0
      have q1 : ((y.toNat : Int) == 37) = decide (y = 37) := beq_lit y 37
      have HT : Hid ((bs (a ++ b)).take (k + 1) = (bs (a ++ b)).take k ++ [y]) := by
        show _ = _
        rw [List.take_succ_eq_append_getElem (by rw [bs_length]; exact hlt), ← hy, List.getD_eq_getElem?_getD, List.getElem?_eq_getElem (by exact (bs_length (a ++ b)).symm ▸ hlt)]
        rfl
      clear hy
      by_cases hy37 : y = 37
      · rw [decide_eq_true hy37] at q1
        clear hy37
        go_wp2
        go_ret
        exact ⟨rfl, hC3⟩
      · rw [decide_eq_false hy37] at q1
        have HY : Hid _ := hy37
        clear hy37
        go_wp2
        refine ⟨⟨k + 1, by omega, by go_num, ?_, trivial⟩, by simp [intOf]; omega⟩
        rw [HT.out]
        intro x hx
        rcases List.mem_append.1 hx with h | h
        · exact HALL.out x h
        · rw [List.mem_singleton.1 h]; exact HY.out
    · obtain rfl : k = (a ++ b).size := by omega
      rw [List.take_of_length_le (by rw [bs_length]; exact Nat.le_refl _), bs_append] at HALL
      have na : (37 : UInt8) ∉ bs a := fun h => HALL.out _ (List.mem_append_left _ h) rfl
      have nb : (37 : UInt8) ∉ bs b := fun h => HALL.out _ (List.mem_append_right _ h) rfl
      have i1 : ¬ ((a ++ b).size : Int) < ((a ++ b).size : Int) := by omega
      have HX : Hid (bs (a ++ (⟨#[37]⟩ : ByteArray) ++ b) = bs a ++ 37 :: bs b) := by
        show _ = _
        rw [bs_append, bs_append, List.append_assoc]; rfl
      have hPs : (a ++ (⟨#[37]⟩ : ByteArray) ++ b).size = a.size + 1 + b.size := by rw [ByteArray.size_append, ByteArray.size_append]; rfl
      have NA : Hid _ := na
      have NB : Hid _ := nb
      clear na nb HALL HC
      have f2 : ¬ 9223372036854775807 < a.size + 1 := by omega
      have f3 : ¬ 9223372036854775807 < a.size + 1 + b.size := by omega
      go_wp2_with fail
      generalize a ++ (⟨#[37]⟩ : ByteArray) ++ b = P at *
      refine (Fill_any _ _ _ (by omega) (by omega)).mono ?_
      rintro e w4 ⟨t, rfl, ht, hB4⟩
      have hC4 := hC3.trans (hB4.mono hC3.size)
      rw [HX.out, Pm.fill_one _ _ _ NA.out NB.out] at ht
      have hts : t.size = a.size + st.size + b.size := by
        have := congrArg List.length ht
        simpa only [List.length_append, bs_length] using this
      have HTt : Hid _ := ht
      clear ht
      go_wp2_with fail
      refine (Match_any _ _ _ (by omega) (by omega)).mono ?_
      rintro e w5 ⟨⟨g, rfl, hg⟩, hB5⟩
      have hC5 := hC4.trans (hB5.mono hC4.size)
      obtain ⟨gb, hgb⟩ : ∃ gb, (Pm.matchP (bs P) (bs t)).2 = gb := ⟨_, rfl⟩
      rw [hgb]
      have hst0 := beq_nil st
      have hgo : bs g = bs st ∧ gb = !decide (bs st = []) := by
        rw [HX.out] at hg hgb
        rcases Pm.match_one (bs a) (bs b) (bs t) NA.out NB.out with ⟨st', n1, e1, e2⟩ | ⟨n1, e2⟩
        · rw [HTt.out, List.append_assoc, List.append_assoc, List.append_cancel_left_eq, List.append_cancel_right_eq] at e1
          rw [e2] at hg hgb
          subst e1
          exact ⟨hg, by rw [decide_eq_false n1]; exact hgb.symm⟩
        · rw [e2] at hg hgb
          by_cases h0 : bs st = []
          · rw [h0]; exact ⟨hg, hgb.symm⟩
          · exact absurd HTt.out (n1 _ h0)
      obtain ⟨hg1, rfl⟩ := hgo
      have b1 : (t.toList == (a ++ st ++ b).toList) = true := beq_of_bs (by rw [bs_append, bs_append]; exact HTt.out)
      have b2 : (g.toList == st.toList) = true := beq_of_bs hg1
      clear hg hgb hg1 HTt
      have f4 : ¬ 9223372036854775807 < a.size + st.size := by omega
      have f5 : ¬ 9223372036854775807 < a.size + st.size + b.size := by omega
      generalize decide (bs st = []) = z at *
      go_upto_region 15 with fail
      go_cut [77] (fun t wx => t = .bool false ∧ wx = w5)
      case first =>
        cases z
        · go_wp2
          go_meet
          exact ⟨rfl, rfl⟩
        · go_wp2
          go_meet
          exact ⟨rfl, rfl⟩
      case rest =>
        obtain ⟨rfl, rfl⟩ := hcut
        clear b1 b2 hst0 f4 f5
        go_wp2_with fail
        refine (Match_any _ _ _ (by omega) (by omega)).mono ?_
        rintro e w6 ⟨⟨m, rfl, hm⟩, hB6⟩
        have hC6 := hC5.trans (hB6.mono hC5.size)
        obtain ⟨mb, hmb⟩ : ∃ mb, (Pm.matchP (bs P) (bs s)).2 = mb := ⟨_, rfl⟩
        rw [hmb]
        have hm0 := beq_nil m
        rw [HX.out] at hm hmb
        rcases Pm.match_one (bs a) (bs b) (bs s) NA.out NB.out with ⟨st', n1, e1, e2⟩ | ⟨n1, e2⟩
        · rw [e2] at hm hmb
          subst hmb
          rw [decide_eq_false (by rw [hm]; exact n1)] at hm0
          have hms : m.size ≤ 1000 := by
            have := congrArg List.length e1
            rw [← show bs m = st' from hm] at this
            simp only [List.length_append, bs_length] at this
            omega
          have HE : Hid (bs s = bs a ++ bs m ++ bs b) := by show _ = _; rw [hm]; exact e1
          clear hm e1 e2 n1
          go_wp2_with fail
          refine (Fill_any _ _ _ (by omega) (by omega)).mono ?_
          rintro e w7 ⟨u, rfl, hu, hB7⟩
          rw [HX.out, Pm.fill_one _ _ _ NA.out NB.out] at hu
          have b5 : (u.toList == s.toList) = true := beq_of_bs (hu.trans HE.out.symm)
          clear hu
          go_wp2
          go_ret
          exact ⟨rfl, hC6.trans (hB7.mono hC6.size)⟩
        · rw [e2] at hm hmb
          subst hmb
          rw [decide_eq_true hm] at hm0
          clear hm n1 e2
          go_wp2
          go_ret
          exact ⟨rfl, hC6⟩

end Go.Proofs.YtnfdjgpephoomaaDoor
