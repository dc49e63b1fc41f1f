/-
  THE WALKS OF isKey, isPage, isItem, kidsAgree, wellFormed.
-/
import Derived.Test.YtplfcpbjlhobeaaREq
import Derived.Test.YtplfcpbjlhobeaaRRight
namespace Go.Proofs.Ytplfcpbjlhobeaa
open Go.RowKit

theorem ret_bool {b c : Bool} (h : b = true ↔ c = true) : Ending.returned (.bool b) = .returned (.bool c) := by rw [Bool.eq_iff_iff.2 h]
theorem isKey_any (s : ByteArray) (w : World) : Calls Try.prog 60 #[.string s] w fun e w' => e = .returned (.bool (decide (Cm.OkK s))) ∧ w' = w := by
  obtain ⟨r, hr⟩ : ∃ r, r = decide (Cm.OkK s) := ⟨_, rfl⟩
  rw [← hr]
  have Hr : Hid _ := hr
  clear hr
  by_cases h1 : 1 ≤ s.size
  · have b1 : decide ((1 : Int) ≤ (s.size : Int)) = true := decide_eq_true (by omega)
    go_enter Try.func60, Try.ntmps60
    go_wp2
    go_ret
    refine ⟨ret_bool ?_, rfl⟩
    rw [Hr.out, decide_eq_true_iff, decide_eq_true_iff, Cm.OkK]
    omega
  · have b1 : decide ((1 : Int) ≤ (s.size : Int)) = false := decide_eq_false (by omega)
    go_enter Try.func60, Try.ntmps60
    go_wp2
    go_ret
    refine ⟨ret_bool ?_, rfl⟩
    rw [Hr.out, decide_eq_true_iff, Cm.OkK]
    simp [h1]
theorem isPage_any (k : Int) (w : World) : Calls Try.prog 73 #[.int .i64 k] w fun e w' => e = .returned (.bool (decide (Cm.KidOk k))) ∧ w' = w := by
  obtain ⟨r, hr⟩ : ∃ r, r = decide (Cm.KidOk k) := ⟨_, rfl⟩
  rw [← hr]
  have Hr : Hid _ := hr
  clear hr
  by_cases h1 : 1 ≤ k
  · have b1 : decide ((1 : Int) ≤ k) = true := decide_eq_true h1
    go_enter Try.func73, Try.ntmps73
    go_wp2
    go_ret
    refine ⟨ret_bool ?_, rfl⟩
    rw [Hr.out, decide_eq_true_iff, decide_eq_true_iff, Cm.KidOk]
    simp [h1]
  · have b1 : decide ((1 : Int) ≤ k) = false := decide_eq_false h1
    go_enter Try.func73, Try.ntmps73
    go_wp2
    go_ret
    refine ⟨ret_bool ?_, rfl⟩
    rw [Hr.out, decide_eq_true_iff, Cm.KidOk]
    simp
    omega

set_option maxRecDepth 100000 in
set_option maxHeartbeats 2000000 in
theorem isItem_any (leaf : Bool) (x : Cm.It) (w : World) : Calls Try.prog 55 #[.bool leaf, .agg (itA x)] w fun e w' => e = .returned (.bool (decide (Cm.OkK x.key ∧ Cm.OkI leaf x))) ∧ Below w.heap.size w w' := by
  obtain ⟨xk, xv, xp, xl⟩ := x
  simp only [itA]
  obtain ⟨r, hr⟩ : ∃ r, r = decide (Cm.OkK xk ∧ Cm.OkI leaf ⟨xk, xv, xp, xl⟩) := ⟨_, rfl⟩
  rw [← hr]
  have Hr : Hid _ := hr
  clear hr
  by_cases hk : Cm.OkK xk
  · have hK : ∀ W : World, Calls Try.prog 60 #[.string xk] W fun e w' => e = .returned (.bool true) ∧ w' = W := fun W => by
      have := isKey_any xk W
      rwa [decide_eq_true hk] at this
    replace Hr : Hid (r = true ↔ Cm.OkI leaf ⟨xk, xv, xp, xl⟩) := by
      have := Hr.out
      show _ ↔ _
      rw [this]
      simp [hk]
    clear hk
    cases leaf with
    | false =>
      have hsn := str_none xv
      by_cases hv0 : xv.size = 0
      · have hv1 : xv.toList = [] := hsn.2 hv0
        clear hsn
        go_enter Try.func55, Try.ntmps55
        go_wp2_with fail
        refine (hK _).mono ?_
        rintro e w1 ⟨rfl, rfl⟩
        go_wp2
        all_goals go_ret
        all_goals refine ⟨ret_bool ?_, (Below.refl _ w).alloc (Nat.le_refl _) _⟩
        all_goals rw [Hr.out]
        all_goals simp [Cm.OkI, Cm.Bare, *]
      · have hv1 : ¬ xv.toList = [] := fun e => hv0 (hsn.1 e)
        clear hsn
        go_enter Try.func55, Try.ntmps55
        go_wp2_with fail
        refine (hK _).mono ?_
        rintro e w1 ⟨rfl, rfl⟩
        go_wp2
        all_goals go_ret
        all_goals refine ⟨ret_bool ?_, (Below.refl _ w).alloc (Nat.le_refl _) _⟩
        all_goals rw [Hr.out]
        all_goals simp [Cm.OkI, Cm.Bare, *]
    | true =>
      have hsn := str_none xv
      go_enter Try.func55, Try.ntmps55
      go_wp2_with fail
      refine (hK _).mono ?_
      rintro e w1 ⟨rfl, rfl⟩
      by_cases hp : xp = 0
      · subst hp
        go_wp2
        all_goals go_ret
        all_goals refine ⟨ret_bool ?_, (Below.refl _ w).alloc (Nat.le_refl _) _⟩
        all_goals rw [Hr.out]
        all_goals first | (simp [Cm.OkI, Cm.Inline, Cm.Chain, *]; done) | (simp [Cm.OkI, Cm.Inline, Cm.Chain, *]; omega)
      · have hp' : (xp == 0) = false := by simp [hp]
        by_cases hv0 : xv.size = 0
        · have hv1 : xv.toList = [] := hsn.2 hv0
          clear hsn
          go_wp2_with fail
          refine (isPage_any xp _).mono ?_
          rintro e w1 ⟨rfl, rfl⟩
          go_wp2
          all_goals go_ret
          all_goals refine ⟨ret_bool ?_, (Below.refl _ w).alloc (Nat.le_refl _) _⟩
          all_goals rw [Hr.out]
          all_goals simp only [Cm.KidOk] at *
          all_goals first | (simp [Cm.OkI, Cm.Inline, Cm.Chain, *]; done) | (simp [Cm.OkI, Cm.Inline, Cm.Chain, *]; omega)
        · have hv1 : ¬ xv.toList = [] := fun e => hv0 (hsn.1 e)
          clear hsn
          go_wp2
          all_goals go_ret
          all_goals refine ⟨ret_bool ?_, (Below.refl _ w).alloc (Nat.le_refl _) _⟩
          all_goals rw [Hr.out]
          all_goals first | (simp [Cm.OkI, Cm.Inline, Cm.Chain, *]; done) | (simp [Cm.OkI, Cm.Inline, Cm.Chain, *]; omega)
  · have hK : ∀ W : World, Calls Try.prog 60 #[.string xk] W fun e w' => e = .returned (.bool false) ∧ w' = W := fun W => by
      have := isKey_any xk W
      rwa [decide_eq_false hk] at this
    have Hk : Hid (¬ Cm.OkK xk) := hk
    clear hk
    go_enter Try.func55, Try.ntmps55
    go_wp2_with fail
    refine (hK _).mono ?_
    rintro e w1 ⟨rfl, rfl⟩
    go_wp2
    go_ret
    refine ⟨ret_bool ?_, (Below.refl _ w).alloc (Nat.le_refl _) _⟩
    rw [Hr.out]
    simp [Hk.out]

/-- the kids that the node's kind and items ask for -/
def Cm.KidsOk (n : Cm.Nd) : Prop := if n.leaf = true then n.kids = [] else (∀ k ∈ n.kids, Cm.KidOk k) ∧ 1 ≤ n.items.length ∧ n.kids.length = n.items.length + 1
instance (n : Cm.Nd) : Decidable (Cm.KidsOk n) := by unfold Cm.KidsOk; infer_instance

set_option maxRecDepth 100000 in
set_option maxHeartbeats 2000000 in
theorem kidsAgree_any (n : Cm.Nd) (v : Value) (B : Nat) (w : World) (hv : NdS w B v n) (hB : B ≤ w.heap.size) (hl : n.items.length ≤ 1000000) (hk : n.kids.length ≤ 1000010) :
    Calls Try.prog 54 #[v] w fun e w' => e = .returned (.bool (decide (Cm.KidsOk n))) ∧ Below w.heap.size w w' := by
  obtain ⟨vi, vk, rfl, ⟨ad, c, rfl, hc, hn, hi⟩, ⟨kd, d, rfl, hd, hkn, hki⟩⟩ := hv
  have Hki : Hid _ := hki
  clear hi hki
  cases hlf : n.leaf with
  | true =>
    have E : Hid (decide (Cm.KidsOk n) = decide (n.kids.length = 0)) := by
      show _ = _
      congr 1
      unfold Cm.KidsOk
      rw [hlf, if_pos rfl]
      simp
    clear hlf
    go_enter Try.func54, Try.ntmps54
    go_wp2
    go_ret
    refine ⟨ret_bool ?_, (Below.refl _ w).alloc (Nat.le_refl _) _⟩
    rw [E.out]
    simp
  | false =>
    have E : Hid (decide (Cm.KidsOk n) = decide ((∀ k ∈ n.kids, Cm.KidOk k) ∧ 1 ≤ n.items.length ∧ n.kids.length = n.items.length + 1)) := by
      show _ = _
      congr 1
      unfold Cm.KidsOk
      rw [hlf]
      simp
    clear hlf
    go_enter Try.func54, Try.ntmps54
    go_wp2
    go_loopw [14] (fun i wr => ∃ k : Nat, k ≤ n.kids.length ∧ i = .int .i64 (k : Int) ∧ (∀ j, j < k → Cm.KidOk (n.kids.getD j 0)) ∧ wr.heap[w.heap.size]? = some (.cells #[.bool false, .slice ad n.items.length c, .slice kd n.kids.length d] 28 (0, 0)) ∧ Below w.heap.size w wr)
      (fun i _ => n.kids.length - (intOf i).toNat)
    case atStart => exact ⟨0, Nat.zero_le _, rfl, fun j hj => absurd hj (Nat.not_lt_zero _), heap_alloc_new w _, (Below.refl _ w).alloc (Nat.le_refl _) _⟩
    case round =>
      obtain ⟨k, hkl, rfl, hok, hbx, hbr⟩ := hrel
      obtain ⟨n0, n1, n2⟩ := cells3_of hbx
      have Hok : Hid _ := hok
      clear hok
      by_cases hlt : k < n.kids.length
      · obtain ⟨b, o, rfl, hbl, hcs⟩ := Hki.out (by intro h; rw [h] at hlt; simp at hlt)
        have c0 := (hbr.cell (p := ⟨b, o + k, none⟩) (Nat.lt_of_lt_of_le hbl hB)).trans (hcs k hlt)
        have hmem : n.kids.getD k 0 ∈ n.kids := by
          simp [List.getD, List.getElem?_eq_getElem hlt]
        obtain ⟨x, hx⟩ : ∃ x, n.kids.getD k 0 = x := ⟨_, rfl⟩
        rw [hx] at c0 hmem
        have Hx : Hid _ := hx
        have Hmem : Hid _ := hmem
        clear hx hmem hcs
        go_wp2_with fail
        refine (isPage_any x _).mono ?_
        rintro e w1 ⟨rfl, hw1⟩
        rw [hw1]
        clear hw1
        by_cases hp : Cm.KidOk x
        · rw [decide_eq_true hp]
          have Hp : Hid _ := hp
          clear hp
          go_wp2
          refine ⟨⟨k + 1, by omega, by go_num, fun j hj => ?_, hbx, hbr⟩, by simp [intOf]; omega⟩
          by_cases hjk : j < k
          · exact Hok.out j hjk
          · obtain rfl : j = k := by omega
            rw [Hx.out]; exact Hp.out
        · rw [decide_eq_false hp]
          have Hp : Hid _ := hp
          clear hp
          go_wp2
          go_ret
          refine ⟨?_, hbr⟩
          refine ret_bool ?_
          rw [E.out, decide_eq_true_iff]
          constructor
          · intro h; cases h
          intro h
          exfalso
          exact Hp.out (h.1 x Hmem.out)
      · obtain rfl : k = n.kids.length := by omega
        have hall : ∀ k ∈ n.kids, Cm.KidOk k := by
          intro x hx
          obtain ⟨i, hi, rfl⟩ := List.mem_iff_getElem.1 hx
          have := Hok.out i hi
          simpa [List.getD, List.getElem?_eq_getElem hi] using this
        have E2 : Hid (decide (Cm.KidsOk n) = decide (1 ≤ n.items.length ∧ n.kids.length = n.items.length + 1)) := by
          show _ = _
          rw [E.out]
          exact decide_eq_decide.2 ⟨fun h => h.2, fun h => ⟨hall, h⟩⟩
        clear hall E
        by_cases h1 : 0 < n.items.length
        · go_wp2
          all_goals go_ret
          all_goals refine ⟨ret_bool ?_, hbr⟩
          all_goals rw [E2.out]
          all_goals simp
          all_goals omega
        · go_wp2
          all_goals go_ret
          all_goals refine ⟨ret_bool ?_, hbr⟩
          all_goals rw [E2.out]
          all_goals simp
          all_goals omega

set_option maxRecDepth 100000 in
set_option maxHeartbeats 2000000 in
theorem wellFormed_any (n : Cm.Nd) (v : Value) (B : Nat) (w : World) (hv : NdS w B v n) (hB : B ≤ w.heap.size) (hl : n.items.length ≤ 1000000) (hk : n.kids.length ≤ 1000010) :
    Calls Try.prog 30 #[v] w fun e w' => e = .returned (.bool (decide (Cm.Right n))) ∧ Below w.heap.size w w' := by
  have hka := fun (W : World) (h : Below w.heap.size w W) => kidsAgree_any n v B W (hv.below h hB) (Nat.le_trans hB h.size) hl hk
  obtain ⟨vi, vk, rfl, ⟨ad, c, rfl, hc, hn, hi⟩, ⟨kd, d, rfl, hd, hkn, hki⟩⟩ := hv
  have Hi : Hid _ := hi
  have Hka : Hid (∀ W : World, Below w.heap.size w W → Calls Try.prog 54 #[.agg #[.bool n.leaf, .slice ad n.items.length c, .slice kd n.kids.length d]] W fun e w' => e = .returned (.bool (decide (Cm.KidsOk n))) ∧ Below W.heap.size W w') := hka
  clear hi hki hka
  obtain ⟨r, hr⟩ : ∃ r, r = decide (Cm.Right n) := ⟨_, rfl⟩
  rw [← hr]
  have Hr : Hid (r = true ↔ (∀ i, i < n.items.length → Cm.OkAt n i) ∧ Cm.KidsOk n) := by
    show _ ↔ _
    rw [hr, decide_eq_true_iff]
    rfl
  clear hr
  have hb0 := (Below.refl w.heap.size w).alloc (Nat.le_refl _) (.cells #[.bool n.leaf, .slice ad n.items.length c, .slice kd n.kids.length d] 28)
  have hx0 := heap_alloc_new w (.cells #[.bool n.leaf, .slice ad n.items.length c, .slice kd n.kids.length d] 28)
  go_enter Try.func30, Try.ntmps30
  go_wp2_with fail
  refine (Hka.out _ hb0).mono ?_
  rintro e w1 ⟨rfl, hb1⟩
  replace hx0 := (hb1.block w.heap.size (lt_of_heap hx0)).trans hx0
  replace hb0 := hb0.trans (hb1.mono hb0.size)
  clear hb1
  by_cases hka : Cm.KidsOk n
  · rw [decide_eq_true hka]
    replace Hr : Hid (r = true ↔ (∀ i, i < n.items.length → Cm.OkAt n i)) := by
      have := Hr.out
      show _ ↔ _
      rw [this]
      exact and_iff_left hka
    clear hka Hka
    obtain ⟨n0, n1, n2⟩ := cells3_of hx0
    go_wp2
    clear n0 n1 n2
    go_loopw [11] (fun i wr => ∃ k : Nat, k ≤ n.items.length ∧ i = .int .i64 (k : Int) ∧ (∀ j, j < k → Cm.OkAt n j) ∧ wr.heap[w.heap.size]? = some (.cells #[.bool n.leaf, .slice ad n.items.length c, .slice kd n.kids.length d] 28 (0, 0)) ∧ Below w.heap.size w wr)
      (fun i _ => n.items.length - (intOf i).toNat)
    case atStart => exact ⟨0, Nat.zero_le _, rfl, fun j hj => absurd hj (Nat.not_lt_zero _), hx0, hb0⟩
    case round =>
      obtain ⟨k, hkl, rfl, hok, hbx, hbr⟩ := hrel
      clear hx0 hb0
      obtain ⟨n0, n1, n2⟩ := cells3_of hbx
      have Hok : Hid _ := hok
      clear hok
      by_cases hlt : k < n.items.length
      · obtain ⟨b, o, rfl, hbl, hcs⟩ := Hi.out (by intro h; rw [h] at hlt; simp at hlt)
        have hbk := hbr.block b (Nat.lt_of_lt_of_le hbl hB)
        obtain ⟨c0, c1, c2, c3⟩ := hcs k hlt
        replace c0 := (World.cell?_of_block (a := ⟨b, o + k * 4, none⟩) hbk).trans c0
        replace c1 := (World.cell?_of_block (a := ⟨b, o + k * 4 + 1, none⟩) hbk).trans c1
        replace c2 := (World.cell?_of_block (a := ⟨b, o + k * 4 + 2, none⟩) hbk).trans c2
        replace c3 := (World.cell?_of_block (a := ⟨b, o + k * 4 + 3, none⟩) hbk).trans c3
        obtain ⟨pk, hpk⟩ : ∃ pk, (n.items.getD (k - 1) Cm.zero).key = pk := ⟨_, rfl⟩
        have cp : 0 < k → wr.cell? ⟨b, o + (k - 1) * 4, none⟩ = some (.string pk) := fun h0 => by
          rw [← hpk]; exact (World.cell?_of_block (a := ⟨b, o + (k - 1) * 4, none⟩) hbk).trans (hcs (k - 1) (by omega)).1
        obtain ⟨x, hx⟩ : ∃ x, n.items.getD k Cm.zero = x := ⟨_, rfl⟩
        rw [hx] at c0 c1 c2 c3
        have Hx : Hid _ := hx
        have Hpk : Hid _ := hpk
        obtain ⟨xk, xv, xp, xl⟩ := x
        simp only at c0 c1 c2 c3
        clear hx hpk hcs Hi hbk
        have Hat : Hid (Cm.OkAt n k ↔ (Cm.OkK xk ∧ Cm.OkI n.leaf ⟨xk, xv, xp, xl⟩) ∧ (0 < k → Cm.kl pk xk = true)) := by
          show _ ↔ _
          unfold Cm.OkAt; rw [Hx.out, Hpk.out]
          constructor
          · rintro ⟨h1, h2, h3⟩; exact ⟨⟨h1, h3⟩, h2⟩
          · rintro ⟨⟨h1, h3⟩, h2⟩; exact ⟨h1, h2, h3⟩
        have hI : ∀ W : World, Calls Try.prog 55 #[.bool n.leaf, .agg #[.string xk, .string xv, .int .i64 xp, .int .i64 xl]] W fun e w' => e = .returned (.bool (decide (Cm.OkK xk ∧ Cm.OkI n.leaf ⟨xk, xv, xp, xl⟩))) ∧ Below W.heap.size W w' := fun W => isItem_any n.leaf ⟨xk, xv, xp, xl⟩ W
        go_upto_region 6 with fail
        have hWx := heap_alloc_new wr (.cells #[.string xk, .string xv, .int .i64 xp, .int .i64 xl] 24)
        have hWb := hbr.alloc hbr.size (.cells #[.string xk, .string xv, .int .i64 xp, .int .i64 xl] 24)
        have hWn := (((Below.refl _ wr).alloc (Nat.le_refl _) (.cells #[.string xk, .string xv, .int .i64 xp, .int .i64 xl] 24)).block w.heap.size (lt_of_heap hbx)).trans hbx
        have cp2 : 0 < k → (wr.alloc (.cells #[.string xk, .string xv, .int .i64 xp, .int .i64 xl] 24)).cell? ⟨b, o + (k - 1) * 4, none⟩ = some (.string pk) := fun h0 =>
          (((Below.refl _ wr).alloc (Nat.le_refl _) (.cells #[.string xk, .string xv, .int .i64 xp, .int .i64 xl] 24)).cell (p := ⟨b, o + (k - 1) * 4, none⟩) (by have := hbr.size; show b < _; omega)).trans (cp h0)
        generalize wr.alloc (.cells #[.string xk, .string xv, .int .i64 xp, .int .i64 xl] 24) = W at *
        generalize wr.heap.size = X at *
        clear hbx n0 n1 n2 c0 c1 c2 c3 cp hbr
        obtain ⟨n0, n1, n2⟩ := cells3_of hWn
        obtain ⟨x0, x1, x2, x3⟩ := cells4_of hWx
        go_wp2_with fail
        refine (hI _).mono ?_
        rintro e w2 ⟨rfl, hb2⟩
        replace hWx := (hb2.block X (lt_of_heap hWx)).trans hWx
        replace hWn := (hb2.block w.heap.size (lt_of_heap hWn)).trans hWn
        have cp3 : 0 < k → w2.cell? ⟨b, o + (k - 1) * 4, none⟩ = some (.string pk) := fun h0 => (hb2.cell (p := ⟨b, o + (k - 1) * 4, none⟩) (by have := hWb.size; show b < _; omega)).trans (cp2 h0)
        replace hWb := hWb.trans (hb2.mono hWb.size)
        clear hb2 n0 n1 n2 x0 x1 x2 x3 cp2 hI
        obtain ⟨n0, n1, n2⟩ := cells3_of hWn
        obtain ⟨x0, x1, x2, x3⟩ := cells4_of hWx
        by_cases hit : Cm.OkK xk ∧ Cm.OkI n.leaf ⟨xk, xv, xp, xl⟩
        · rw [decide_eq_true hit]
          replace Hat : Hid (Cm.OkAt n k ↔ (0 < k → Cm.kl pk xk = true)) := by
            have := Hat.out
            show _ ↔ _
            rw [this]
            exact and_iff_right hit
          clear hit
          by_cases h3 : 0 < k
          · have cp' := cp3 h3
            have b3 : decide (0 < k) = true := decide_eq_true h3
            obtain ⟨m, hm⟩ : ∃ m, k = m + 1 := ⟨k - 1, by omega⟩
            have hm' : k - 1 = m := by omega
            rw [hm'] at cp'
            have i2 : (m : Int) < (n.items.length : Int) := by omega
            have i3 : (k : Int) - 1 = (m : Int) := by omega
            have H3 : Hid _ := h3
            clear cp3 h3 hm hm'
            cases hlx : Op.bytesLess pk.toList xk.toList with
            | true =>
              have Hlx : Hid (Cm.kl pk xk = true) := hlx
              go_upto_region 8 with fail
              go_quiet (fail)
              go_wp2
              refine ⟨⟨k + 1, by omega, by go_num, fun j hj => ?_, hWn, ⟨hWb.os, hWb.tape, hWb.output, hWb.size, hWb.block⟩⟩, by simp [intOf]; omega⟩
              by_cases hjk : j < k
              · exact Hok.out j hjk
              · obtain rfl : j = k := by omega
                exact Hat.out.2 fun _ => Hlx.out
            | false =>
              have Hlx : Hid (Cm.kl pk xk = false) := hlx
              go_upto_region 8 with fail
              go_quiet (fail)
              go_wp2
              go_ret
              refine ⟨ret_bool ?_, ⟨hWb.os, hWb.tape, hWb.output, hWb.size, hWb.block⟩⟩
              constructor
              · intro h; cases h
              · intro h
                have h4 := Hat.out.1 (Hr.out.1 h k hlt) H3.out
                rw [Hlx.out] at h4
                cases h4
          · have b3 : decide ((0 : Int) < (k : Int)) = false := decide_eq_false (by omega)
            clear cp3
            go_upto_region 8 with fail
            go_quiet (fail)
            go_wp2
            refine ⟨⟨k + 1, by omega, by go_num, fun j hj => ?_, hWn, ⟨hWb.os, hWb.tape, hWb.output, hWb.size, hWb.block⟩⟩, by simp [intOf]; omega⟩
            by_cases hjk : j < k
            · exact Hok.out j hjk
            · obtain rfl : j = k := by omega
              exact Hat.out.2 fun h => absurd h h3
        · rw [decide_eq_false hit]
          have Hit : Hid _ := hit
          clear hit cp3
          go_wp2
          go_ret
          refine ⟨ret_bool ?_, hWb⟩
          constructor
          · intro h; cases h
          · intro h
            exact absurd (Hat.out.1 (Hr.out.1 h k hlt)).1 Hit.out
      · obtain rfl : k = n.items.length := by omega
        go_wp2
        go_ret
        refine ⟨ret_bool ?_, hbr⟩
        simp only [true_iff]
        exact Hr.out.2 Hok.out
  · rw [decide_eq_false hka]
    have Hn : Hid _ := hka
    clear hka Hka
    go_wp2
    go_ret
    refine ⟨ret_bool ?_, hb0⟩
    constructor
    · intro h; cases h
    · intro h; exact absurd (Hr.out.1 h).2 Hn.out

end Go.Proofs.Ytplfcpbjlhobeaa
