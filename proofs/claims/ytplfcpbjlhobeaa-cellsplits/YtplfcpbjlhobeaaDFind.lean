/-
  THE WALKS OF strings.Compare, of Find's closure, of slices.BinarySearchFunc, of Find.
-/
import Derived.Test.YtplfcpbjlhobeaaDWell
import Derived.Test.YtplfcpbjlhobeaaRFind
import Derived.Test.YtplfcpbjlhobeaaCHalf
import Derived.Lib.Bytealg
namespace Go.Proofs.Ytplfcpbjlhobeaa
open Go.RowKit

theorem cmp_lt : ∀ (a b : List UInt8), decide (Lib.compareBytes a b < 0) = Op.bytesLess a b := by
  intro a
  induction a with
  | nil =>
    intro b
    cases b with
    | nil => rfl
    | cons y ys => rfl
  | cons x xs ih =>
    intro b
    cases b with
    | nil => rfl
    | cons y ys =>
      unfold Lib.compareBytes Op.bytesLess
      by_cases h1 : x < y
      · simp [h1]
      · rw [if_neg h1]
        by_cases h2 : y < x
        · rw [if_pos h2]
          have h3 : ¬ x = y := fun e => by subst e; exact h1 h2
          simp [h1, h3]
        · rw [if_neg h2, ih ys]
          have h3 : x = y := by
            have e1 : ¬ x.toNat < y.toNat := h1
            have e2 : ¬ y.toNat < x.toNat := h2
            exact UInt8.toNat_inj.1 (by omega)
          simp [h3]
theorem cmp_zero : ∀ (a b : List UInt8), (Lib.compareBytes a b = 0 ↔ a = b) := by
  intro a
  induction a with
  | nil =>
    intro b
    cases b with
    | nil => simp [Lib.compareBytes]
    | cons y ys => simp [Lib.compareBytes]
  | cons x xs ih =>
    intro b
    cases b with
    | nil => simp [Lib.compareBytes]
    | cons y ys =>
      unfold Lib.compareBytes
      by_cases h1 : x < y
      · rw [if_pos h1]
        have h3 : ¬ x = y := fun e => by subst e; exact absurd h1 (Nat.lt_irrefl x.toNat)
        simp [h3]
      · rw [if_neg h1]
        by_cases h2 : y < x
        · rw [if_pos h2]
          have h3 : ¬ x = y := fun e => by subst e; exact h1 h2
          simp [h3]
        · rw [if_neg h2, ih ys]
          have h3 : x = y := by
            have e1 : ¬ x.toNat < y.toNat := h1
            have e2 : ¬ y.toNat < x.toNat := h2
            exact UInt8.toNat_inj.1 (by omega)
          simp [h3]
/-- how two keys lie to each other: below 0, 0, above 0 -/
def Cm.cmp (a b : ByteArray) : Int := Lib.compareBytes a.data.toList b.data.toList
theorem Cm.cmp_lt (a b : ByteArray) : decide (Cm.cmp a b < 0) = Cm.kl a b := by
  unfold Cm.cmp Cm.kl
  rw [Go.Proofs.Ytplfcpbjlhobeaa.cmp_lt, ByteArray.toList_eq, ByteArray.toList_eq]
theorem Cm.cmp_eq (a b : ByteArray) : (Cm.cmp a b == 0) = decide (a = b) := by
  unfold Cm.cmp
  by_cases h : a = b
  · subst h
    rw [(cmp_zero _ _).2 rfl]
    simp
  · have : Lib.compareBytes a.data.toList b.data.toList ≠ 0 := fun e => h (bytes_eq ((cmp_zero _ _).1 e))
    simp [this, h]

set_option maxRecDepth 100000 in
theorem CompareString_any (a b : ByteArray) (w : World) : Calls Try.prog 56 #[.string a, .string b] w fun e w' => e = .returned (.int .i64 (Cm.cmp a b)) ∧ w' = w := by
  go_enter Try.func56, Try.ntmps56
  go_wp2
  rw [run_callFunc_extern Try.func74 (by kernel_rfl) (by kernel_rfl) (by kernel_rfl) (e := Extern.BytealgCompare.compare) (by kernel_rfl), Lib.run_compareString]
  simp only [Result.andThen]
  rw [Oper.upon_value]
  go_wp2
  go_ret
  exact ⟨rfl, rfl⟩
theorem Compare_any (a b : ByteArray) (w : World) : Calls Try.prog 33 #[.string a, .string b] w fun e w' => e = .returned (.int .i64 (Cm.cmp a b)) ∧ w' = w := by
  go_enter Try.func33, Try.ntmps33
  go_wp2_with fail
  refine (CompareString_any a b _).mono ?_
  rintro e w1 ⟨rfl, rfl⟩
  go_wp2
  go_ret
  exact ⟨rfl, rfl⟩
theorem findC_any (x : Cm.It) (key : ByteArray) (w : World) : Calls Try.prog 32 #[.agg (itA x), .string key] w fun e w' => e = .returned (.int .i64 (Cm.cmp x.key key)) ∧ Below w.heap.size w w' := by
  obtain ⟨xk, xv, xp, xl⟩ := x
  simp only [itA]
  go_enter Try.func32, Try.ntmps32
  go_wp2_with fail
  refine (Compare_any xk key _).mono ?_
  rintro e w1 ⟨rfl, rfl⟩
  go_wp2
  go_ret
  exact ⟨rfl, (Below.refl _ w).alloc (Nat.le_refl _) _⟩

/-- the place at which a key stands, or would -/
def Cm.Lb (l : List Cm.It) (key : ByteArray) (i : Nat) : Prop := i ≤ l.length ∧ (∀ a, a < i → Cm.kl (l.getD a Cm.zero).key key = true) ∧ (∀ a, i ≤ a → a < l.length → Cm.kl (l.getD a Cm.zero).key key = false)
def Cm.Rise (l : List Cm.It) : Prop := ∀ j i, i < j → j < l.length → Cm.kl (l.getD i Cm.zero).key (l.getD j Cm.zero).key = true

set_option maxRecDepth 100000 in
set_option maxHeartbeats 2000000 in
theorem search_any (l : List Cm.It) (key : ByteArray) (v : Value) (B : Nat) (w : World) (hv : Its w B v l) (hB : B ≤ w.heap.size) (hl : l.length ≤ 1000000) (hr : Cm.Rise l) :
    Calls Try.prog 31 #[v, .string key, .func (.func 32) #[] #[]] w fun e w' => ∃ i : Nat, e = .returned (.tuple #[.int .i64 (i : Int), .bool (decide (i < l.length ∧ (l.getD i Cm.zero).key = key))]) ∧ Cm.Lb l key i ∧ Below w.heap.size w w' := by
  obtain ⟨ad, c, rfl, hc, hn, hi⟩ := hv
  have Hi : Hid _ := hi
  have Hr : Hid (Cm.Rise l) := hr
  clear hi hr
  go_enter Try.func31, Try.ntmps31
  go_wp2
  go_loopw [9, 10] (fun i j wr => ∃ x y : Nat, i = .int .i64 (x : Int) ∧ j = .int .i64 (y : Int) ∧ x ≤ y ∧ y ≤ l.length ∧ (∀ a, a < x → Cm.kl (l.getD a Cm.zero).key key = true) ∧ (∀ a, y ≤ a → a < l.length → Cm.kl (l.getD a Cm.zero).key key = false) ∧ Below w.heap.size w wr)
    (fun i j _ => (intOf j).toNat - (intOf i).toNat)
  case atStart => exact ⟨0, l.length, rfl, rfl, Nat.zero_le _, Nat.le_refl _, fun a ha => absurd ha (Nat.not_lt_zero _), fun a h1 h2 => by omega, Below.refl _ _⟩
  case round =>
    obtain ⟨x, y, rfl, rfl, hxy, hyl, h1, h2, hbr⟩ := hrel
    have H1 : Hid _ := h1
    have H2 : Hid _ := h2
    clear h1 h2
    by_cases hlt : x < y
    · obtain ⟨m, hm⟩ : ∃ m, (x + y) / 2 = m := ⟨_, rfl⟩
      have hmi : ((x : Int) + (y : Int)) / 2 = (m : Int) := by omega
      have hmx : x ≤ m := by omega
      have hmy : m < y := by omega
      have him : (m : Int) < (l.length : Int) := by omega
      obtain ⟨b, o, rfl, hbl, hcs⟩ := Hi.out (by rintro rfl; simp at hyl; omega)
      have hbk := hbr.block b (Nat.lt_of_lt_of_le hbl hB)
      obtain ⟨c0, c1, c2, c3⟩ := hcs m (by omega)
      replace c0 := (World.cell?_of_block (a := ⟨b, o + m * 4, none⟩) hbk).trans c0
      replace c1 := (World.cell?_of_block (a := ⟨b, o + m * 4 + 1, none⟩) hbk).trans c1
      replace c2 := (World.cell?_of_block (a := ⟨b, o + m * 4 + 2, none⟩) hbk).trans c2
      replace c3 := (World.cell?_of_block (a := ⟨b, o + m * 4 + 3, none⟩) hbk).trans c3
      have hF := findC_any (l.getD m Cm.zero) key
      obtain ⟨q, hq⟩ : ∃ q, l.getD m Cm.zero = q := ⟨_, rfl⟩
      rw [hq] at c0 c1 c2 c3 hF
      have Hq : Hid _ := hq
      clear hcs hbk hq hm
      obtain ⟨qk, qv, qp, ql⟩ := q
      simp only [itA] at c0 c1 c2 c3 hF
      have HC := Cm.cmp_lt qk key
      obtain ⟨Z, hZ⟩ : ∃ Z, Cm.cmp qk key = Z := ⟨_, rfl⟩
      rw [hZ] at HC hF
      clear hZ
      go_wp2_with fail
      refine (hF _).mono ?_
      rintro e w2 ⟨rfl, hb2⟩
      have hw2 := hbr.trans (hb2.mono hbr.size)
      clear hF c0 c1 c2 c3
      cases hk : Cm.kl qk key with
      | true =>
        rw [hk] at HC
        have HK : Hid _ := hk
        have HZ : Z < 0 := of_decide_eq_true HC
        clear hk HC
        go_wp2
        refine ⟨⟨m + 1, y, by go_num, rfl, by omega, hyl, fun a ha => ?_, H2.out, hw2⟩, by simp [intOf]; omega⟩
        by_cases e : a = m
        · subst e
          rw [Hq.out]
          exact HK.out
        · have h3 := Hr.out m a (by omega) (by omega)
          rw [Hq.out] at h3
          exact Cm.kl_trans h3 HK.out
      | false =>
        rw [hk] at HC
        have HK : Hid _ := hk
        have HZ : ¬ Z < 0 := of_decide_eq_false HC
        clear hk HC
        go_wp2
        refine ⟨⟨x, m, rfl, rfl, by omega, by omega, H1.out, fun a ha1 ha2 => ?_, hw2⟩, by simp [intOf]; omega⟩
        by_cases e : a = m
        · subst e
          rw [Hq.out]
          exact HK.out
        · have h3 := Hr.out a m (by omega) ha2
          rw [Hq.out] at h3
          cases h4 : Cm.kl (l.getD a Cm.zero).key key with
          | false => rfl
          | true => have := Cm.kl_trans h3 h4; rw [HK.out] at this; cases this
    · obtain rfl : x = y := by omega
      have HL : Hid (Cm.Lb l key x) := ⟨hyl, H1.out, H2.out⟩
      by_cases hxl : x < l.length
      · have him : (x : Int) < (l.length : Int) := by omega
        obtain ⟨b, o, rfl, hbl, hcs⟩ := Hi.out (by rintro rfl; simp at hxl)
        have hbk := hbr.block b (Nat.lt_of_lt_of_le hbl hB)
        obtain ⟨c0, c1, c2, c3⟩ := hcs x hxl
        replace c0 := (World.cell?_of_block (a := ⟨b, o + x * 4, none⟩) hbk).trans c0
        replace c1 := (World.cell?_of_block (a := ⟨b, o + x * 4 + 1, none⟩) hbk).trans c1
        replace c2 := (World.cell?_of_block (a := ⟨b, o + x * 4 + 2, none⟩) hbk).trans c2
        replace c3 := (World.cell?_of_block (a := ⟨b, o + x * 4 + 3, none⟩) hbk).trans c3
        have hF := findC_any (l.getD x Cm.zero) key
        obtain ⟨q, hq⟩ : ∃ q, l.getD x Cm.zero = q := ⟨_, rfl⟩
        rw [hq] at c0 c1 c2 c3 hF
        have Hq : Hid _ := hq
        clear hcs hbk hq
        obtain ⟨qk, qv, qp, ql⟩ := q
        simp only [itA] at c0 c1 c2 c3 hF
        have HC := Cm.cmp_eq qk key
        obtain ⟨Z, hZ⟩ : ∃ Z, Cm.cmp qk key = Z := ⟨_, rfl⟩
        rw [hZ] at HC hF
        have HC2 : Hid (decide (x < l.length ∧ (l.getD x Cm.zero).key = key) = (Z == 0)) := by
          show _ = _
          rw [HC, Hq.out]
          simp [hxl]
        clear hZ HC
        go_wp2_with fail
        refine (hF _).mono ?_
        rintro e w2 ⟨rfl, hb2⟩
        have hw2 := hbr.trans (hb2.mono hbr.size)
        go_wp2
        go_ret2
        refine ⟨x, ?_, HL.out, hw2⟩
        rw [HC2.out]
        rfl
      · have HC2 : Hid (decide (x < l.length ∧ (l.getD x Cm.zero).key = key) = false) := by
          show _ = _
          simp [hxl]
        go_wp2
        go_ret2
        refine ⟨x, ?_, HL.out, hbr⟩
        rw [HC2.out]
        rfl

theorem lb_at {n : Cm.Nd} {key : ByteArray} {i : Nat} (hr : Cm.Right n) (hL : Cm.Lb n.items key i) : ∀ k, k ≤ n.items.length → (k ≤ i → Cm.placeTo n key k = k ∧ Cm.isTo n key k = false) ∧ (i < k → Cm.placeTo n key k = i + (if n.leaf = false ∧ (n.items.getD i Cm.zero).key = key then 1 else 0) ∧ Cm.isTo n key k = decide ((n.items.getD i Cm.zero).key = key)) := by
  intro k
  induction k with
  | zero => intro _; exact ⟨fun _ => ⟨rfl, rfl⟩, fun h => by omega⟩
  | succ k ih =>
    intro hk
    obtain ⟨ih1, ih2⟩ := ih (by omega)
    have hp := Cm.placeTo_succ n key k (by omega)
    have hs := Cm.isTo_succ n key k (by omega)
    refine ⟨fun h => ?_, fun h => ?_⟩
    · obtain ⟨e1, e2⟩ := ih1 (by omega)
      have h3 := hL.2.1 k (by omega)
      have h4 : ¬ (n.items.getD k Cm.zero).key = key := fun e => by rw [e, Cm.kl_irrefl] at h3; cases h3
      rw [hp, hs, e1, e2]
      unfold Cm.ahead
      rw [h3, decide_eq_false h4]
      exact ⟨rfl, rfl⟩
    · by_cases e : k = i
      · subst e
        obtain ⟨e1, e2⟩ := ih1 (Nat.le_refl _)
        have h3 := hL.2.2 k (Nat.le_refl _) (by omega)
        rw [hp, hs, e1, e2]
        refine ⟨?_, by simp⟩
        unfold Cm.ahead
        rw [h3]
        cases n.leaf <;> simp
      · obtain ⟨e1, e2⟩ := ih2 (by omega)
        have h3 := hL.2.2 k (by omega) (by omega)
        have h5 := hL.2.2 i (Nat.le_refl _) (by omega)
        have h4 : ¬ (n.items.getD k Cm.zero).key = key := fun e' => by
          have := Cm.rise hr k i (by omega) (by omega)
          rw [e', h5] at this
          cases this
        rw [hp, hs, e1, e2]
        unfold Cm.ahead
        rw [h3, decide_eq_false h4]
        simp
theorem lb_place {n : Cm.Nd} {key : ByteArray} {i : Nat} (hr : Cm.Right n) (hL : Cm.Lb n.items key i) : Cm.isIn n key = decide (i < n.items.length ∧ (n.items.getD i Cm.zero).key = key) ∧ Cm.place n key = i + (if n.leaf = false ∧ Cm.isIn n key = true then 1 else 0) := by
  have e1 : Cm.placeTo n key n.items.length = Cm.place n key := by unfold Cm.placeTo Cm.place; rw [List.take_length]
  have e2 : Cm.isTo n key n.items.length = Cm.isIn n key := by unfold Cm.isTo Cm.isIn; rw [List.take_length]
  obtain ⟨h1, h2⟩ := lb_at hr hL n.items.length (Nat.le_refl _)
  rw [e1, e2] at h1 h2
  by_cases hi : i < n.items.length
  · obtain ⟨h3, h4⟩ := h2 hi
    refine ⟨by rw [h4]; simp [hi], ?_⟩
    rw [h3, h4]
    simp
  · obtain ⟨h3, h4⟩ := h1 (by omega)
    have := hL.1
    refine ⟨by rw [h4]; simp [hi], ?_⟩
    rw [h3, h4]
    simp
    omega

set_option maxRecDepth 100000 in
set_option maxHeartbeats 1000000 in
theorem cfind_any (n : Cm.Nd) (key : ByteArray) (v : Value) (B : Nat) (w : World) (hv : NdS w B v n) (hB : B ≤ w.heap.size) (hl : n.items.length ≤ 1000000) (hk : n.kids.length ≤ 1000010) :
    Calls Try.prog 8 #[v, .string key] w fun e w' => e = .returned (.tuple #[.int .i64 ((if Cm.Right n then Cm.place n key else 0 : Nat) : Int), .bool (decide (Cm.Right n) && Cm.isIn n key)]) ∧ Below w.heap.size w w' := by
  have HW : Hid (∀ W : World, Below w.heap.size w W → Calls Try.prog 30 #[v] W fun e w' => e = .returned (.bool (decide (Cm.Right n))) ∧ Below W.heap.size W w') :=
    fun W h => wellFormed_any n v B W (hv.below h hB) (Nat.le_trans hB h.size) hl hk
  obtain ⟨P, hP⟩ : ∃ P, (if Cm.Right n then Cm.place n key else 0) = P := ⟨_, rfl⟩
  obtain ⟨Q, hQ⟩ : ∃ Q, (decide (Cm.Right n) && Cm.isIn n key) = Q := ⟨_, rfl⟩
  rw [hP, hQ]
  have HP : Hid _ := hP
  have HQ : Hid _ := hQ
  clear hP hQ
  obtain ⟨vi, vk, rfl, hI, ⟨kd, d, rfl, -⟩⟩ := hv
  have HS : Hid (Cm.Right n → ∀ W : World, Below w.heap.size w W → Calls Try.prog 31 #[vi, .string key, .func (.func 32) #[] #[]] W fun e w' => ∃ i : Nat, e = .returned (.tuple #[.int .i64 (i : Int), .bool (decide (i < n.items.length ∧ (n.items.getD i Cm.zero).key = key))]) ∧ Cm.Lb n.items key i ∧ Below W.heap.size W w') :=
    fun hr W h => search_any n.items key vi B W (hI.below h hB) (Nat.le_trans hB h.size) hl (fun j i h1 h2 => Cm.rise hr j i h1 h2)
  obtain ⟨ad, c, rfl, -⟩ := hI
  have hb0 := (Below.refl w.heap.size w).alloc (Nat.le_refl _) (.cells #[.bool n.leaf, .slice ad n.items.length c, .slice kd n.kids.length d] 28)
  have hx0 := heap_alloc_new w (.cells #[.bool n.leaf, .slice ad n.items.length c, .slice kd n.kids.length d] 28)
  go_enter Try.func8, Try.ntmps8
  go_wp2_with fail
  refine (HW.out _ hb0).mono ?_
  rintro e w1 ⟨rfl, hb1⟩
  replace hx0 := (hb1.block w.heap.size (lt_of_heap hx0)).trans hx0
  replace hb0 := hb0.trans (hb1.mono hb0.size)
  clear hb1
  obtain ⟨n0, n1, n2⟩ := cells3_of hx0
  by_cases hr : Cm.Right n
  · rw [decide_eq_true hr]
    have Hr : Hid (Cm.Right n) := hr
    clear hr
    go_wp2_with fail
    refine (HS.out Hr.out _ hb0).mono ?_
    rintro e w2 ⟨i, rfl, hL, hb2⟩
    have hx2 := (hb2.block w.heap.size (lt_of_heap hx0)).trans hx0
    have hw2 := hb0.trans (hb2.mono hb0.size)
    have hiL := hL.1
    obtain ⟨hin, hpl⟩ := lb_place Hr.out hL
    obtain ⟨b, hb⟩ : ∃ b, Cm.isIn n key = b := ⟨_, rfl⟩
    rw [← hin, hb]
    rw [hb] at hpl
    have Hb : Hid _ := hb
    have Hpl : Hid _ := hpl
    clear hL hin hpl hb hb2 hx0 hb0 n0 n1 n2 HW HS
    obtain ⟨n0, n1, n2⟩ := cells3_of hx2
    have HQ2 : Hid (Q = b) := by show _ = _; rw [← HQ.out, decide_eq_true Hr.out, Hb.out]; rfl
    replace Hpl : Hid (P = i + if n.leaf = false ∧ b = true then 1 else 0) := by show _ = _; rw [← HP.out, if_pos Hr.out]; exact Hpl.out
    clear HP HQ
    generalize n.leaf = lf at *
    cases b
    · have e1 : Hid (P = i) := by show _ = _; rw [Hpl.out]; simp
      go_wp2
      go_ret2
      exact ⟨by rw [e1.out, HQ2.out]; rfl, hw2⟩
    · cases lf
      · have e1 : Hid ((P : Int) = (i : Int) + 1) := by show _ = _; rw [Hpl.out]; simp
        go_wp2
        go_ret2
        exact ⟨by rw [e1.out, HQ2.out]; rfl, hw2⟩
      · have e1 : Hid (P = i) := by show _ = _; rw [Hpl.out]; simp
        go_wp2
        go_ret2
        exact ⟨by rw [e1.out, HQ2.out]; rfl, hw2⟩
  · rw [decide_eq_false hr]
    have e1 : Hid (P = 0) := by show _ = _; rw [← HP.out, if_neg hr]
    have e2 : Hid (Q = false) := by show _ = _; rw [← HQ.out, decide_eq_false hr]; rfl
    clear hr
    go_wp2
    go_ret2
    exact ⟨by rw [e1.out, e2.out]; rfl, hb0⟩

end Go.Proofs.Ytplfcpbjlhobeaa
