/-
  WHAT THE PROGRAM's readable, mayWords, mayCode, mayItem, May DO.
-/
import Derived.Test.YthpipbkbldlfjaaDRd
import Derived.Test.YthpipbkbldlfjaaRSame
import Derived.Test.YthpipbkbldlfjaaZText
namespace Go.Proofs.Ythpipbkbldlfjaa
open Go.RowKit

set_option maxRecDepth 100000 in
theorem readable_any (v : Lx.V) (w : World) (hs : v.text.length ≤ 1099511627) : Calls Try.prog 72 #[wdV v] w fun e w' => e = .returned (.bool (Rl.okW true v)) ∧ Below w.heap.size w w' := by
  have hB : ∀ o, Below w.heap.size w (w.alloc o) := below_box w
  have HI : Hid (Rl.okW true v = if v.mark = true then !v.quoted && (((str v.text).toList == [58]) || ((str v.text).toList == [61])) else v.quoted || Lx.plain (bs (str v.text))) := by
    show _ = _
    unfold Rl.okW
    rw [str_list, bs_str, beq_dec, beq_dec, Bool.true_and]
  have hs' : (str v.text).size ≤ 1099511627 := by rw [str_size]; exact hs
  generalize Rl.okW true v = K at *
  obtain ⟨t, l, c, q, m⟩ := v
  simp only at HI hs'
  unfold wdV
  simp only
  clear hs
  generalize (str t) = T at *
  go_enter Try.func72, Try.ntmps72
  cases m with
  | true =>
    generalize hE : (T.toList == [58]) = E at *
    generalize hF : (T.toList == [61]) = F at *
    cases q <;> go_wp2
    all_goals (go_ret; rw [HI.out]; first | exact ⟨rfl, hB _⟩ | (cases E <;> cases F <;> first | exact ⟨rfl, hB _⟩ | (simp at *; done)) | fail)
  | false =>
    cases q with
    | true =>
      go_wp2
      go_ret
      rw [HI.out]
      exact ⟨rfl, hB _⟩
    | false =>
      go_wp2_with fail
      refine (Plain_any T _ hs').mono ?_
      rintro e w1 ⟨rfl, rfl⟩
      go_wp2
      go_ret
      rw [HI.out]
      exact ⟨rfl, hB _⟩

theorem Rl.okW_nomark {v : Lx.V} (h : v.mark = false) : Rl.okW false v = Rl.okW true v := by
  unfold Rl.okW
  rw [h]
  rfl
theorem Rl.all_marks : ∀ (l : List Lx.V), l.all (Rl.okW false) = (decide (Rl.fm l = l.length) && l.all (Rl.okW true))
  | [] => rfl
  | v :: l => by
    rw [List.all_cons, List.all_cons, Rl.all_marks l, Rl.fm_cons, List.length_cons]
    cases hm : v.mark with
    | true =>
      have : Rl.okW false v = false := by unfold Rl.okW; rw [hm]; rfl
      rw [this]
      simp
    | false =>
      rw [Rl.okW_nomark hm]
      simp only [Bool.false_eq_true, if_false, Nat.add_right_cancel_iff]
      cases Rl.okW true v <;> cases decide (Rl.fm l = l.length) <;> rfl

set_option maxRecDepth 100000 in
set_option maxHeartbeats 1000000 in
theorem mayWords_any (v : Value) (l : List Lx.V) (w : World) (B : Nat) (h : WdR.Sl w B v l) (hBw : B ≤ w.heap.size) (hl : l.length ≤ 1099511627) (ht : ∀ u ∈ l, u.text.length ≤ 1099511627) : Calls Try.prog 42 #[v] w fun e w' => e = .returned (.bool (l.all (Rl.okW false))) ∧ Below w.heap.size w w' := by
  have hfm := firstMark_any v l w B h hBw hl
  have hfl := Rl.fm_le l
  rw [Rl.all_marks]
  obtain ⟨ad, c, rfl, hle⟩ := h.shape
  have HTX : Hid _ := ht
  clear ht
  have HT : Hid ((∀ i (h : i < l.length), Rl.okW true l[i] = true) → l.all (Rl.okW true) = true) := fun h => by
    rw [List.all_eq_true]
    intro x hx
    obtain ⟨i, hi, rfl⟩ := List.getElem_of_mem hx
    exact h i hi
  have HF : Hid (∀ i (h : i < l.length), Rl.okW true l[i] = false → l.all (Rl.okW true) = false) := fun i h hf => by
    rw [List.all_eq_false]
    exact ⟨l[i], List.getElem_mem h, by rw [hf]; simp⟩
  generalize l.all (Rl.okW true) = K at *
  generalize Rl.fm l = k at *
  by_cases hk : k < l.length
  · rw [decide_eq_false (by omega), Bool.false_and]
    have i1 : (k : Int) < (l.length : Int) := by omega
    clear hk hfl
    go_enter Try.func42, Try.ntmps42
    go_wp2_with fail
    refine hfm.mono ?_
    rintro e w1 ⟨rfl, hB1⟩
    go_wp2
    go_ret
    exact ⟨rfl, hB1⟩
  rw [decide_eq_true (by omega), Bool.true_and]
  have i1 : decide ((k : Int) < (l.length : Int)) = false := decide_eq_false (by omega)
  clear hfl
  go_enter Try.func42, Try.ntmps42
  go_wp2_with fail
  refine hfm.mono ?_
  rintro e w1 ⟨rfl, hB1⟩
  clear hfm
  go_wp2
  go_loopw [12] (fun k wr => ∃ i : Nat, i ≤ l.length ∧ k = .int .i64 (i : Int) ∧ Hid (∀ j (h : j < l.length), j < i → Rl.okW true l[j] = true) ∧ Below w.heap.size w wr) (fun k _ => l.length - (intOf k).toNat)
  case atStart => exact ⟨0, Nat.zero_le _, rfl, fun j _ h => absurd h (Nat.not_lt_zero _), hB1⟩
  case round =>
    obtain ⟨i, hi, rfl, HA, hD⟩ := hrel
    by_cases hlt : i < l.length
    · have i1 : (i : Int) < (l.length : Int) := by omega
      obtain ⟨b2, o2, cc2, e, -, r0, r1, r2, r3, r4⟩ := WdR.at (h.below hD hBw) i hlt
      simp only [Value.slice.injEq] at e
      obtain ⟨rfl, -, rfl⟩ := e
      obtain ⟨u, hu⟩ : ∃ u, l.getD i Lx.noV = u := ⟨_, rfl⟩
      have hui : l[i] = u := by rw [← hu]; simp [List.getD, List.getElem?_eq_getElem hlt]
      rw [hu] at r0 r1 r2 r3 r4
      have htx := HTX.out u (by rw [← hui]; exact List.getElem_mem hlt)
      have HU : Hid _ := hui
      clear hu hui
      have hc := fun W => readable_any u W htx
      unfold wdV at hc
      have hD2 := hD.alloc hD.size (.cells #[.string (str u.text), .int .i64 u.line, .int .i64 u.col, .bool u.quoted, .bool u.mark] 36)
      go_wp2_with fail
      refine (hc _).mono ?_
      rintro e w2 ⟨rfl, hB2⟩
      have hD1 : Below w.heap.size w w2 := hD2.trans (hB2.mono hD2.size)
      cases hg : Rl.okW true u with
      | true =>
        have HG : Hid _ := hg
        clear hg
        go_wp2
        refine ⟨⟨i + 1, by omega, by go_num, fun j h hj => ?_, hD1⟩, by simp [intOf]; omega⟩
        rcases Nat.lt_or_ge j i with hji | hji
        · exact HA.out j h hji
        · obtain rfl : j = i := by omega
          rw [HU.out]
          exact HG.out
      | false =>
        have HG : Hid _ := hg
        clear hg
        go_wp2
        go_ret
        rw [HF.out i hlt (by rw [HU.out]; exact HG.out)]
        exact ⟨rfl, hD1⟩
    · obtain rfl : i = l.length := by omega
      have i1 : ¬ (l.length : Int) < (l.length : Int) := by omega
      go_wp2
      go_ret
      rw [HT.out fun j h => HA.out j h h]
      exact ⟨rfl, hD⟩

set_option maxRecDepth 100000 in
set_option maxHeartbeats 2000000 in
theorem mayCode_any (v : Value) (L : List Lx.L) (w : World) (B : Nat) (h : LnsS w B v L) (hBw : B ≤ w.heap.size) (hl : L.length ≤ 1099511627) (hw : ∀ x ∈ L, x.words.length ≤ 1099511627) (ht : ∀ x ∈ L, ∀ u ∈ x.words, u.text.length ≤ 1099511627) : Calls Try.prog 43 #[v] w fun e w' => e = .returned (.bool (L.all Rl.okL)) ∧ Below w.heap.size w w' := by
  obtain ⟨ad, c, rfl, hle⟩ := h.shape
  have HTX : Hid _ := ht
  have HWL : Hid _ := hw
  clear ht hw
  have HT : Hid ((∀ i (h : i < L.length), Rl.okL L[i] = true) → L.all Rl.okL = true) := fun h => by
    rw [List.all_eq_true]
    intro x hx
    obtain ⟨i, hi, rfl⟩ := List.getElem_of_mem hx
    exact h i hi
  have HF : Hid (∀ i (h : i < L.length), Rl.okL L[i] = false → L.all Rl.okL = false) := fun i h hf => by
    rw [List.all_eq_false]
    exact ⟨L[i], List.getElem_mem h, by rw [hf]; simp⟩
  generalize L.all Rl.okL = K at *
  go_enter Try.func43, Try.ntmps43
  go_wp2
  go_loopw [9] (fun k wr => ∃ i : Nat, i ≤ L.length ∧ k = .int .i64 (i : Int) ∧ Hid (∀ j (h : j < L.length), j < i → Rl.okL L[j] = true) ∧ Below w.heap.size w wr) (fun k _ => L.length - (intOf k).toNat)
  case atStart => exact ⟨0, Nat.zero_le _, rfl, fun j _ h => absurd h (Nat.not_lt_zero _), Below.refl _ _⟩
  case round =>
    obtain ⟨i, hi, rfl, HA, hD⟩ := hrel
    by_cases hlt : i < L.length
    · have i1 : (i : Int) < (L.length : Int) := by omega
      obtain ⟨b2, o2, cc2, ad2, c2, e, -, r0, r1, r2, hW⟩ := (h.below hD hBw).at i hlt
      simp only [Value.slice.injEq] at e
      obtain ⟨rfl, -, rfl⟩ := e
      obtain ⟨x, hx⟩ : ∃ x, L.getD i Lx.noL = x := ⟨_, rfl⟩
      have hxi : L[i] = x := by rw [← hx]; simp [List.getD, List.getElem?_eq_getElem hlt]
      rw [hx] at r0 r1 r2 hW
      have hmem : x ∈ L := by rw [← hxi]; exact List.getElem_mem hlt
      have hwl := HWL.out x hmem
      have HTX2 : Hid _ := HTX.out x hmem
      have HF2 : Hid (Rl.okL x = false → K = false) := fun hf => HF.out i hlt (by rw [hxi]; exact hf)
      have HA2 : Hid (Rl.okL x = true → ∀ j (h : j < L.length), j < i + 1 → Rl.okL L[j] = true) := fun ht j h hj => by
        rcases Nat.lt_or_ge j i with hji | hji
        · exact HA.out j h hji
        · obtain rfl : j = i := by omega
          rw [hxi]; exact ht
      clear hx hxi hmem
      obtain ⟨num, ind, ws⟩ := x
      simp only at r0 r1 r2 hW hwl
      have hD2 := hD.alloc hD.size (.cells #[.int .i64 num, .bool ind, .slice ad2 ws.length c2] 48)
      have hnew := heap_alloc_new wr (.cells #[.int .i64 num, .bool ind, .slice ad2 ws.length c2] 48)
      have hW2 := hW.below (below_box wr (.cells #[.int .i64 num, .bool ind, .slice ad2 ws.length c2] 48)) (Nat.le_trans hBw hD.size)
      cases ind with
      | false =>
        have HE : Hid (K = false) := HF2.out rfl
        go_wp2
        go_ret
        rw [HE.out]
        exact ⟨rfl, hD2⟩
      | true =>
        by_cases hne : ws = []
        · have HE : Hid (K = false) := HF2.out (by rw [hne]; rfl)
          have i2 : ((ws.length : Int) == 0) = true := by rw [hne]; rfl
          clear hne
          go_wp2
          go_ret
          rw [HE.out]
          exact ⟨rfl, hD2⟩
        · have i2 : ((ws.length : Int) == 0) = false := by rw [beq_eq_false_iff_ne]; have := List.length_pos_iff.2 hne; omega
          have HOK : Hid (Rl.okL ⟨num, true, ws⟩ = ws.all (Rl.okW true)) := by
            show _ = _
            unfold Rl.okL
            cases ws with
            | nil => exact absurd rfl hne
            | cons _ _ => rfl
          have HT3 : Hid ((∀ i (h : i < ws.length), Rl.okW true ws[i] = true) → Rl.okL ⟨num, true, ws⟩ = true) := fun h => by
            rw [HOK.out, List.all_eq_true]
            intro x hx
            obtain ⟨i, hi, rfl⟩ := List.getElem_of_mem hx
            exact h i hi
          have HF3 : Hid (∀ i (h : i < ws.length), Rl.okW true ws[i] = false → K = false) := fun i h hf => HF2.out (by
            rw [HOK.out, List.all_eq_false]
            exact ⟨ws[i], List.getElem_mem h, by rw [hf]; simp⟩)
          clear hne
          go_upto_region 6 with fail
          generalize wr.alloc (.cells #[.int .i64 num, .bool true, .slice ad2 ws.length c2] 48) = Y at *
          have y2 : Y.cell? ⟨wr.heap.size, 2, none⟩ = some (.slice ad2 ws.length c2) := by rw [cell_of_row Y _ 2 _ _ _ hnew]; rfl
          clear hnew r0 r1 r2 hW
          have HSY : Hid (wr.heap.size ≤ Y.heap.size) := hD2.size |> fun _ => by
            show _ ≤ _
            exact Nat.le_of_lt (World.block_lt_of_cell? Y ⟨wr.heap.size, 2, none⟩ y2)
          generalize wr.heap.size = gg at *
          have hBY : B ≤ Y.heap.size := Nat.le_trans hBw hD2.size
          go_wp2
          go_loopw [25] (fun k X => ∃ j : Nat, j ≤ ws.length ∧ k = .int .i64 (j : Int) ∧ Hid (∀ q (h : q < ws.length), q < j → Rl.okW true ws[q] = true) ∧ Below Y.heap.size Y X) (fun k _ => ws.length - (intOf k).toNat)
          case atStart => exact ⟨0, Nat.zero_le _, rfl, fun j _ h => absurd h (Nat.not_lt_zero _), Below.refl _ _⟩
          case round =>
            obtain ⟨j, hj, rfl, HB, hE⟩ := hrel
            have hDE : Below w.heap.size w wr := hD2.trans (hE.mono hD2.size)
            by_cases hjl : j < ws.length
            · have j1 : (j : Int) < (ws.length : Int) := by omega
              obtain ⟨b3, o3, cc3, e, -, s0, s1, s2, s3, s4⟩ := WdR.at (hW2.below hE hBY) j hjl
              simp only [Value.slice.injEq] at e
              obtain ⟨rfl, -, rfl⟩ := e
              obtain ⟨u, hu⟩ : ∃ u, ws.getD j Lx.noV = u := ⟨_, rfl⟩
              have hui : ws[j] = u := by rw [← hu]; simp [List.getD, List.getElem?_eq_getElem hjl]
              rw [hu] at s0 s1 s2 s3 s4
              have htx := HTX2.out u (by rw [← hui]; exact List.getElem_mem hjl)
              have HU : Hid _ := hui
              clear hu hui
              have hc := fun W => readable_any u W htx
              unfold wdV at hc
              have hE2 := hE.alloc hE.size (.cells #[.string (str u.text), .int .i64 u.line, .int .i64 u.col, .bool u.quoted, .bool u.mark] 36)
              go_wp2_with fail
              refine (hc _).mono ?_
              rintro e w2 ⟨rfl, hB2⟩
              have hE3 : Below Y.heap.size Y w2 := hE2.trans (hB2.mono hE2.size)
              cases hg : Rl.okW true u with
              | true =>
                have HG : Hid _ := hg
                clear hg
                go_wp2
                refine ⟨⟨j + 1, by omega, by go_num, fun q h hq => ?_, hE3⟩, by simp [intOf]; omega⟩
                rcases Nat.lt_or_ge q j with hqj | hqj
                · exact HB.out q h hqj
                · obtain rfl : q = j := by omega
                  rw [HU.out]
                  exact HG.out
              | false =>
                have HG : Hid _ := hg
                clear hg
                go_wp2
                go_ret
                rw [HF3.out j hjl (by rw [HU.out]; exact HG.out)]
                exact ⟨rfl, hD2.trans (hE3.mono hD2.size)⟩
            · obtain rfl : j = ws.length := by omega
              have j1 : ¬ (ws.length : Int) < (ws.length : Int) := by omega
              have HA3 : Hid _ := HA2.out (HT3.out fun q h => HB.out q h h)
              go_wp2
              exact ⟨⟨i + 1, by omega, by go_num, HA3, hDE⟩, by simp [intOf]; omega⟩
    · obtain rfl : i = L.length := by omega
      have i1 : ¬ (L.length : Int) < (L.length : Int) := by omega
      go_wp2
      go_ret
      rw [HT.out fun j h => HA.out j h h]
      exact ⟨rfl, hD⟩

/-- what mayItem asks -/
def Rl.mayK (x : Rl.It) : Bool :=
  if x.kind = 1 then Rl.name x.name && decide (x.targets.length = 0) && decide (x.code.length = 0)
  else if x.kind = 2 then decide (x.name = []) && decide (x.targets.length = 0) && decide (x.words.length = 1) && decide (x.code.length = 0)
  else if x.kind = 3 then decide (x.name = []) && decide (0 < x.targets.length)
  else false
theorem Rl.mayI_is (x : Rl.It) : Rl.mayI x = (Rl.mayK x && x.targets.all (Rl.okW false) && x.words.all (Rl.okW false) && x.code.all Rl.okL) := by
  obtain ⟨kind, line, name, targets, words, code⟩ := x
  unfold Rl.mayI Rl.mayK
  simp only
  by_cases h1 : kind = 1
  · rw [if_pos h1, if_pos h1]
    cases targets <;> cases code <;> simp [Bool.and_comm]
  · rw [if_neg h1, if_neg h1]
    by_cases h2 : kind = 2
    · rw [if_pos h2, if_pos h2]
      cases name <;> cases targets <;> cases code <;> simp [Bool.and_comm]
    · rw [if_neg h2, if_neg h2]
      by_cases h3 : kind = 3
      · rw [if_pos h3, if_pos h3]
        cases name <;> cases targets <;> simp [Bool.and_comm]
      · rw [if_neg h3, if_neg h3]
        simp

set_option maxRecDepth 100000 in
set_option maxHeartbeats 1000000 in
theorem mayItem_any (x : Rl.It) (ta : Option Addr) (tc : Nat) (wa : Option Addr) (wc_ : Nat) (ca : Option Addr) (cc : Nat) (w : World) :
    Calls Try.prog 41 #[.agg (itCs x ta tc wa wc_ ca cc)] w fun e w' => e = .returned (.bool (Rl.mayK x)) ∧ Below w.heap.size w w' := by
  have hB : ∀ o, Below w.heap.size w (w.alloc o) := below_box w
  have hnm := fun W => Name_any (str x.name) W
  rw [bs_str] at hnm
  have he : ((str x.name).toList == []) = decide (x.name = []) := by rw [str_list, beq_dec]
  have he2 : (str x.name).toList.isEmpty = decide (x.name = []) := by rw [str_list]; cases x.name <;> rfl
  have HK : Hid (Rl.mayK x = if x.kind = 1 then Rl.name x.name && decide (x.targets.length = 0) && decide (x.code.length = 0)
    else if x.kind = 2 then decide (x.name = []) && decide (x.targets.length = 0) && decide (x.words.length = 1) && decide (x.code.length = 0)
    else if x.kind = 3 then decide (x.name = []) && decide (0 < x.targets.length) else false) := rfl
  generalize Rl.mayK x = K at *
  unfold itCs
  generalize x.targets.length = a at *
  generalize x.words.length = b at *
  generalize x.code.length = d at *
  generalize x.kind = k at *
  generalize Rl.name x.name = nm at *
  generalize hE : decide (x.name = []) = E at *
  generalize str x.name = S at *
  go_enter Try.func41, Try.ntmps41
  by_cases hk1 : k = 1
  · have q1 : (k == 1) = true := by rw [beq_iff_eq]; exact hk1
    have HKX : Hid (K = (nm && decide (a = 0) && decide (d = 0))) := by show _ = _; rw [HK.out, if_pos hk1]
    clear hk1 HK
    go_wp2_with fail
    refine (hnm _).mono ?_
    rintro e w1 ⟨rfl, rfl⟩
    cases nm
    · go_wp2
      go_ret
      rw [HKX.out]
      exact ⟨rfl, hB _⟩
    · rw [Bool.true_and] at HKX
      by_cases ha : a = 0
      · have ha1 : ((a : Int) == 0) = true := by rw [beq_iff_eq]; omega
        rw [decide_eq_true ha] at HKX
        clear ha
        rw [Bool.true_and] at HKX
        by_cases hd : d = 0
        · have hd1 : ((d : Int) == 0) = true := by rw [beq_iff_eq]; omega
          rw [decide_eq_true hd] at HKX
          clear hd
          go_wp2
          go_ret
          rw [HKX.out]
          exact ⟨rfl, hB _⟩
        · have hd1 : ((d : Int) == 0) = false := by rw [beq_eq_false_iff_ne]; omega
          rw [decide_eq_false hd] at HKX
          clear hd
          go_wp2
          go_ret
          rw [HKX.out]
          exact ⟨rfl, hB _⟩
      · have ha1 : ((a : Int) == 0) = false := by rw [beq_eq_false_iff_ne]; omega
        rw [decide_eq_false ha] at HKX
        clear ha
        go_wp2
        go_ret
        rw [HKX.out]
        simp only [Bool.false_and]
        exact ⟨rfl, hB _⟩
  have q1 : (k == 1) = false := by rw [beq_eq_false_iff_ne]; exact hk1
  by_cases hk2 : k = 2
  · have q2 : (k == 2) = true := by rw [beq_iff_eq]; exact hk2
    have HKX : Hid (K = (E && decide (a = 0) && decide (b = 1) && decide (d = 0))) := by show _ = _; rw [HK.out, if_neg hk1, if_pos hk2]
    clear hk1 hk2 HK hE
    cases E
    · go_wp2
      go_ret
      rw [HKX.out]
      exact ⟨rfl, hB _⟩
    · rw [Bool.true_and] at HKX
      by_cases ha : a = 0
      · have ha1 : ((a : Int) == 0) = true := by rw [beq_iff_eq]; omega
        rw [decide_eq_true ha] at HKX
        clear ha
        rw [Bool.true_and] at HKX
        by_cases hbb : b = 1
        · have hbb1 : ((b : Int) == 1) = true := by rw [beq_iff_eq]; omega
          rw [decide_eq_true hbb] at HKX
          clear hbb
          rw [Bool.true_and] at HKX
          by_cases hd : d = 0
          · have hd1 : ((d : Int) == 0) = true := by rw [beq_iff_eq]; omega
            rw [decide_eq_true hd] at HKX
            clear hd
            go_wp2
            go_ret
            rw [HKX.out]
            exact ⟨rfl, hB _⟩
          · have hd1 : ((d : Int) == 0) = false := by rw [beq_eq_false_iff_ne]; omega
            rw [decide_eq_false hd] at HKX
            clear hd
            go_wp2
            go_ret
            rw [HKX.out]
            exact ⟨rfl, hB _⟩
        · have hbb1 : ((b : Int) == 1) = false := by rw [beq_eq_false_iff_ne]; omega
          rw [decide_eq_false hbb] at HKX
          clear hbb
          go_wp2
          go_ret
          rw [HKX.out]
          simp only [Bool.false_and]
          exact ⟨rfl, hB _⟩
      · have ha1 : ((a : Int) == 0) = false := by rw [beq_eq_false_iff_ne]; omega
        rw [decide_eq_false ha] at HKX
        clear ha
        go_wp2
        go_ret
        rw [HKX.out]
        simp only [Bool.false_and]
        exact ⟨rfl, hB _⟩
  have q2 : (k == 2) = false := by rw [beq_eq_false_iff_ne]; exact hk2
  by_cases hk3 : k = 3
  · have q3 : (k == 3) = true := by rw [beq_iff_eq]; exact hk3
    have HKX : Hid (K = (E && decide (0 < a))) := by show _ = _; rw [HK.out, if_neg hk1, if_neg hk2, if_pos hk3]
    clear hk1 hk2 hk3 HK hE
    cases E
    · go_wp2
      go_ret
      rw [HKX.out]
      exact ⟨rfl, hB _⟩
    · rw [Bool.true_and] at HKX
      by_cases ha : 0 < a
      · have ha1 : (0 : Int) < (a : Int) := by omega
        rw [decide_eq_true ha] at HKX
        go_wp2
        go_ret
        rw [HKX.out]
        exact ⟨rfl, hB _⟩
      · have ha1 : ¬ (0 : Int) < (a : Int) := by omega
        rw [decide_eq_false ha] at HKX
        obtain rfl : a = 0 := by omega
        go_wp2
        go_ret
        rw [HKX.out]
        exact ⟨rfl, hB _⟩
  have q3 : (k == 3) = false := by rw [beq_eq_false_iff_ne]; exact hk3
  have HKX : Hid (K = false) := by show _ = _; rw [HK.out, if_neg hk1, if_neg hk2, if_neg hk3]
  clear hk1 hk2 hk3 HK
  go_wp2
  go_ret
  rw [HKX.out]
  exact ⟨rfl, hB _⟩

set_option maxRecDepth 100000 in
set_option maxHeartbeats 4000000 in
theorem May_any (va : Value) (A : List Rl.It) (w : World) (B : Nat) (ha : ItsS w B va A) (hBw : B ≤ w.heap.size) (hAl : A.length ≤ 1099511627) (hf : ∀ x ∈ A, Rl.Few x) :
    Calls Try.prog 21 #[va] w fun e w' => e = .returned (.bool (Rl.may A)) ∧ Below w.heap.size w w' := by
  obtain ⟨ad, c, rfl, hle⟩ := ha.shape
  have HFW : Hid _ := hf
  clear hf
  obtain ⟨D, hDD⟩ : ∃ D, Rl.may A = D := ⟨_, rfl⟩
  rw [hDD]
  have HNE : Hid (∀ i (h : i < A.length), Rl.mayI A[i] = false → D = false) := fun i h h2 => by
    rw [← hDD]
    unfold Rl.may
    rw [List.all_eq_false]
    exact ⟨A[i], List.getElem_mem h, by rw [h2]; simp⟩
  have HEQ : Hid ((∀ i (h : i < A.length), Rl.mayI A[i] = true) → D = true) := fun h => by
    rw [← hDD]
    unfold Rl.may
    rw [List.all_eq_true]
    intro x hx
    obtain ⟨i, hi, rfl⟩ := List.getElem_of_mem hx
    exact h i hi
  clear hDD
  go_enter Try.func21, Try.ntmps21
  go_wp2
  go_loopw [7] (fun k wr => ∃ i : Nat, i ≤ A.length ∧ k = .int .i64 (i : Int) ∧ Hid (∀ j (h : j < A.length), j < i → Rl.mayI A[j] = true) ∧ Below w.heap.size w wr) (fun k _ => A.length - (intOf k).toNat)
  case atStart => exact ⟨0, Nat.zero_le _, rfl, fun j _ h => absurd h (Nat.not_lt_zero _), Below.refl _ _⟩
  case round =>
    obtain ⟨i, hi, rfl, HA, hD⟩ := hrel
    by_cases hlt : i < A.length
    · have i1 : (i : Int) < (A.length : Int) := by omega
      obtain ⟨b, o, c1, ta, tc, wa, wc_, ca, cc, e, hb1, hc, hX1, hX2, hX3⟩ := (ha.below hD hBw).at i hlt
      simp only [Value.slice.injEq] at e
      obtain ⟨rfl, -, rfl⟩ := e
      obtain ⟨x, hx⟩ : ∃ x, A.getD i Rl.noI = x := ⟨_, rfl⟩
      have hxi : A[i] = x := by rw [← hx]; simp [List.getD, List.getElem?_eq_getElem hlt]
      rw [hx] at hc hX1 hX2 hX3
      have hfew := HFW.out x (by rw [← hxi]; exact List.getElem_mem hlt)
      have HF2 : Hid (Rl.mayI x = false → D = false) := fun h => HNE.out i hlt (by rw [hxi]; exact h)
      have HA2 : Hid (Rl.mayI x = true → ∀ j (h : j < A.length), j < i + 1 → Rl.mayI A[j] = true) := fun ht j h hj => by
        rcases Nat.lt_or_ge j i with hji | hji
        · exact HA.out j h hji
        · obtain rfl : j = i := by omega
          rw [hxi]; exact ht
      have HMI : Hid _ := Rl.mayI_is x
      clear hx hxi
      have p0 : wr.cell? ⟨b, o + i * 6, none⟩ = some (.int .i64 x.kind) := hc 0 _ rfl
      have p1 : wr.cell? ⟨b, o + i * 6 + 1, none⟩ = some (.int .i64 x.line) := hc 1 _ rfl
      have p2 : wr.cell? ⟨b, o + i * 6 + 2, none⟩ = some (.string (str x.name)) := hc 2 _ rfl
      have p3 : wr.cell? ⟨b, o + i * 6 + 3, none⟩ = some (.slice ta x.targets.length tc) := hc 3 _ rfl
      have p4 : wr.cell? ⟨b, o + i * 6 + 4, none⟩ = some (.slice wa x.words.length wc_) := hc 4 _ rfl
      have p5 : wr.cell? ⟨b, o + i * 6 + 5, none⟩ = some (.slice ca x.code.length cc) := hc 5 _ rfl
      have hD2 := hD.alloc hD.size (.cells #[.int .i64 x.kind, .int .i64 x.line, .string (str x.name), .slice ta x.targets.length tc, .slice wa x.words.length wc_, .slice ca x.code.length cc] 33)
      have hnew := heap_alloc_new wr (.cells #[.int .i64 x.kind, .int .i64 x.line, .string (str x.name), .slice ta x.targets.length tc, .slice wa x.words.length wc_, .slice ca x.code.length cc] 33)
      have hbb := below_box wr (.cells #[.int .i64 x.kind, .int .i64 x.line, .string (str x.name), .slice ta x.targets.length tc, .slice wa x.words.length wc_, .slice ca x.code.length cc] 33)
      have hBr : B ≤ wr.heap.size := Nat.le_trans hBw hD.size
      have hY1 := hX1.below hbb hBr
      have hY2 := hX2.below hbb hBr
      have hY3 := hX3.below hbb hBr
      go_upto_region 4 with fail
      clear hc p0 p1 p2 p3 p4 p5 hX1 hX2 hX3 hD
      generalize wr.alloc (.cells #[.int .i64 x.kind, .int .i64 x.line, .string (str x.name), .slice ta x.targets.length tc, .slice wa x.words.length wc_, .slice ca x.code.length cc] 33) = Y at *
      have hgY : wr.heap.size < Y.heap.size := (Array.getElem?_eq_some_iff.1 hnew).1
      have hBY : B ≤ Y.heap.size := by omega
      clear hbb
      generalize wr.heap.size = g at *
      have y0 : Y.cell? ⟨g, 0, none⟩ = some (.int .i64 x.kind) := by rw [cell_of_row Y _ 0 _ _ _ hnew]; rfl
      have y1 : Y.cell? ⟨g, 1, none⟩ = some (.int .i64 x.line) := by rw [cell_of_row Y _ 1 _ _ _ hnew]; rfl
      have y2 : Y.cell? ⟨g, 2, none⟩ = some (.string (str x.name)) := by rw [cell_of_row Y _ 2 _ _ _ hnew]; rfl
      have y3 : Y.cell? ⟨g, 3, none⟩ = some (.slice ta x.targets.length tc) := by rw [cell_of_row Y _ 3 _ _ _ hnew]; rfl
      have y4 : Y.cell? ⟨g, 4, none⟩ = some (.slice wa x.words.length wc_) := by rw [cell_of_row Y _ 4 _ _ _ hnew]; rfl
      have y5 : Y.cell? ⟨g, 5, none⟩ = some (.slice ca x.code.length cc) := by rw [cell_of_row Y _ 5 _ _ _ hnew]; rfl
      clear hnew
      have hmi := mayItem_any x ta tc wa wc_ ca cc Y
      unfold itCs at hmi
      have hm1 := fun (W : World) (h : Below Y.heap.size Y W) => mayWords_any _ x.targets W B (hY1.below h hBY) (Nat.le_trans hBY h.size) hfew.targets (fun u hu => by have := hfew.tt u hu; omega)
      have hm2 := fun (W : World) (h : Below Y.heap.size Y W) => mayWords_any _ x.words W B (hY2.below h hBY) (Nat.le_trans hBY h.size) hfew.words (fun u hu => by have := hfew.wt u hu; omega)
      have hm3 := fun (W : World) (h : Below Y.heap.size Y W) => mayCode_any _ x.code W B (hY3.below h hBY) (Nat.le_trans hBY h.size) hfew.code hfew.lines (fun l hl u hu => by have := hfew.ct l hl u hu; omega)
      generalize x.targets.all (Rl.okW false) = T1 at *
      generalize x.words.all (Rl.okW false) = T2 at *
      generalize x.code.all Rl.okL = T3 at *
      generalize Rl.mayK x = T0 at *
      clear hY1 hY2 hY3 hfew
      go_wp2_with fail
      refine hmi.mono ?_
      rintro e w1 ⟨rfl, hB1⟩
      clear hmi y0 y1 y2
      have hE1 := hD2.trans (hB1.mono hD2.size)
      cases T0 with
      | false =>
        have HE : Hid (D = false) := HF2.out (by rw [HMI.out]; rfl)
        go_wp2
        go_ret
        rw [HE.out]
        exact ⟨rfl, hE1⟩
      | true =>
        have z3 := (hB1.cell (p := ⟨g, 3, none⟩) hgY).trans y3
        go_wp2_with fail
        refine (hm1 _ hB1).mono ?_
        rintro e w2 ⟨rfl, hB2⟩
        have hF2 := hB1.trans (hB2.mono hB1.size)
        have hE2 := hD2.trans (hF2.mono hD2.size)
        clear hm1 z3 y3
        cases T1 with
        | false =>
          have HE : Hid (D = false) := HF2.out (by rw [HMI.out]; rfl)
          go_wp2
          go_ret
          rw [HE.out]
          exact ⟨rfl, hE2⟩
        | true =>
          have z4 := (hF2.cell (p := ⟨g, 4, none⟩) hgY).trans y4
          go_wp2_with fail
          refine (hm2 _ hF2).mono ?_
          rintro e w3 ⟨rfl, hB3⟩
          have hF3 := hF2.trans (hB3.mono hF2.size)
          have hE3 := hD2.trans (hF3.mono hD2.size)
          clear hm2 z4 y4
          cases T2 with
          | false =>
            have HE : Hid (D = false) := HF2.out (by rw [HMI.out]; rfl)
            go_wp2
            go_ret
            rw [HE.out]
            exact ⟨rfl, hE3⟩
          | true =>
            have z5 := (hF3.cell (p := ⟨g, 5, none⟩) hgY).trans y5
            go_wp2_with fail
            refine (hm3 _ hF3).mono ?_
            rintro e w4 ⟨rfl, hB4⟩
            have hF4 := hF3.trans (hB4.mono hF3.size)
            have hE4 := hD2.trans (hF4.mono hD2.size)
            clear hm3 z5 y5
            cases T3 with
            | false =>
              have HE : Hid (D = false) := HF2.out (by rw [HMI.out]; rfl)
              go_wp2
              go_ret
              rw [HE.out]
              exact ⟨rfl, hE4⟩
            | true =>
              have HA3 : Hid _ := HA2.out (by rw [HMI.out]; rfl)
              go_wp2
              exact ⟨⟨i + 1, by omega, by go_num, HA3, hE4⟩, by simp [intOf]; omega⟩
    · obtain rfl : i = A.length := by omega
      have i1 : ¬ (A.length : Int) < (A.length : Int) := by omega
      go_wp2
      go_ret
      rw [HEQ.out fun j h => HA.out j h h]
      exact ⟨rfl, hD⟩

end Go.Proofs.Ythpipbkbldlfjaa
