/-
  THE WALK OF read.
-/
import Derived.Test.YtplfcpbjlhobeaaDReadK
import Derived.Deep.RegionHeld3
import Derived.Deep.AppendLies
namespace Go.Proofs.Ytplfcpbjlhobeaa
open Go.RowKit

/-- what read answers: a node of new lists; is it what the bytes say -/
def RDone (w w' : World) (bs : List UInt8) (e : Ending) : Prop :=
  ∃ (n : Cm.Nd) (vi vk : Value) (ok : Bool), e = .returned (.tuple #[.agg #[.bool n.leaf, vi, vk], .bool ok]) ∧ OwnC w' w.heap.size vi n.items ∧ OwnN w' w.heap.size vk n.kids ∧ Below w.heap.size w w' ∧ n.items.length ≤ 240 ∧ n.kids.length ≤ 241 ∧ (ok = true → Cm.rd bs = some n) ∧ (ok = false → Cm.rd bs = .none)

/-- what the bytes say, by what is known ahead of the items -/
def Ahead (bs : List UInt8) (lf bad0 : Bool) (kind count : Nat) (rho0 : List UInt8) (pre : List Int) : Prop :=
  (bad0 = true → Cm.rd bs = .none) ∧ (bad0 = false → (Cm.ritems lf rho0 count = .none → Cm.rd bs = .none) ∧ ∀ l ks r3, Cm.ritems lf rho0 count = some (l, ks, r3) → Cm.rd bs = if kind ≠ 0 ∧ Cm.noughtsB r3 = true then some ⟨lf, l, pre ++ ks⟩ else .none)

theorem ahead_leaf (bs : List UInt8) {kind count : Nat} {r1 r2 : List UInt8} {b1 b2 : Bool} (h1 : Cm.num1 bs 2 = (kind, r1, b1)) (h2 : Cm.num1 r1 240 = (count, r2, b2)) (hk : kind = 1) : Ahead bs true (b1 || b2) kind count r2 [] := by
  unfold Cm.num1 at h1 h2
  unfold Ahead Cm.rd
  cases e1 : Cm.rnum bs 2 with
  | none =>
    rw [e1] at h1
    simp only [Prod.mk.injEq] at h1
    obtain ⟨rfl, rfl, rfl⟩ := h1
    omega
  | some q =>
    obtain ⟨a, b⟩ := q
    rw [e1] at h1
    simp only [Prod.mk.injEq] at h1
    obtain ⟨rfl, rfl, rfl⟩ := h1
    simp only [Bool.false_or]
    cases e2 : Cm.rnum b 240 with
    | none =>
      rw [e2] at h2
      simp only [Prod.mk.injEq] at h2
      obtain ⟨rfl, rfl, rfl⟩ := h2
      simp
    | some q =>
      obtain ⟨c, d⟩ := q
      rw [e2] at h2
      simp only [Prod.mk.injEq] at h2
      obtain ⟨rfl, rfl, rfl⟩ := h2
      simp only [hk, if_true]
      refine ⟨by simp, fun _ => ⟨fun h => by rw [h], fun l ks r3 h => ?_⟩⟩
      rw [h]
      have hks := (Cm.ritems_some h).2.1
      simp only [if_true] at hks
      have e0 : ks = [] := List.eq_nil_of_length_eq_zero hks
      subst e0
      simp
theorem ahead_inner (bs : List UInt8) {kind count : Nat} {r1 r2 r3 : List UInt8} {b1 b2 b3 : Bool} {k0 : Int} (h1 : Cm.num1 bs 2 = (kind, r1, b1)) (h2 : Cm.num1 r1 240 = (count, r2, b2)) (hk : kind ≠ 1) (h3 : Cm.page1 r2 (b1 || b2) = (k0, r3, b3)) : Ahead bs false b3 kind count r3 [k0] := by
  unfold Cm.num1 at h1 h2
  unfold Ahead Cm.rd
  cases e1 : Cm.rnum bs 2 with
  | none =>
    rw [e1] at h1
    simp only [Prod.mk.injEq] at h1
    obtain ⟨rfl, rfl, rfl⟩ := h1
    unfold Cm.page1 at h3
    rw [if_pos (.inl (by simp))] at h3
    simp only [Prod.mk.injEq] at h3
    obtain ⟨rfl, rfl, rfl⟩ := h3
    simp
  | some q =>
    obtain ⟨a, b⟩ := q
    rw [e1] at h1
    simp only [Prod.mk.injEq] at h1
    obtain ⟨rfl, rfl, rfl⟩ := h1
    simp only
    have ha := (Cm.rnum_some e1).1
    cases e2 : Cm.rnum b 240 with
    | none =>
      rw [e2] at h2
      simp only [Prod.mk.injEq] at h2
      obtain ⟨rfl, rfl, rfl⟩ := h2
      unfold Cm.page1 at h3
      rw [if_pos (.inl (by simp))] at h3
      simp only [Prod.mk.injEq] at h3
      obtain ⟨rfl, rfl, rfl⟩ := h3
      simp
    | some q =>
      obtain ⟨c, d⟩ := q
      rw [e2] at h2
      simp only [Prod.mk.injEq] at h2
      obtain ⟨rfl, rfl, rfl⟩ := h2
      simp only [hk, if_false]
      unfold Cm.page1 at h3
      by_cases hd : d.length < 2
      · rw [if_pos (.inr hd)] at h3
        simp only [Prod.mk.injEq] at h3
        obtain ⟨rfl, rfl, rfl⟩ := h3
        have hp : Cm.rpage d = .none := by unfold Cm.rpage Cm.rbytes; rw [if_neg (by omega)]
        rw [hp]
        simp
      · rw [if_neg (by simp; omega)] at h3
        simp only [Prod.mk.injEq] at h3
        obtain ⟨rfl, rfl, rfl⟩ := h3
        have hp : Cm.rpage d = some (Cm.pageOf (d.take 2), d.drop 2) := by unfold Cm.rpage Cm.rbytes; rw [if_pos (by omega)]
        rw [hp]
        simp only
        refine ⟨by simp, fun _ => ⟨fun h => by rw [h]; simp, fun l ks r3 h => ?_⟩⟩
        rw [h]
        simp only
        by_cases hk2 : a = 2
        · subst hk2
          simp
        · have hk0 : a = 0 := by omega
          subst hk0
          simp

/-- 'append(ks, k)' within a region that draws -/
theorem step_append_kid {ops : Array Oper} {o : Oper} {a : Act} {K : Act → World → Prop} {Q : Exit → Act → World → Prop} {E : Prop} {w : World} (hgd : o.guard = none) (s x : Operand) (ho : o.op = .call { callee := .builtin .append, args := #[s, x], argTypes := #[26, 26] })
    (base : Nat) (v : Value) (ks : List Int) (k : Int) (hs : a.eval s = v) (hown : OwnN w base v ks) (hx : a.eval x = .slice (some ⟨w.heap.size, 0, none⟩) 1 1) (hl : Hid (ks.length ≤ 1000)) (hbase : base ≤ w.heap.size)
    (h : ∀ g cap w', OwnN w' base (.slice (some ⟨g, 0, none⟩) (ks.length + 1) cap) (ks ++ [k]) → (w.alloc (.cells #[.int .i64 k] 3)).grownBy w' v.ownBlock → K (a.put o.dst (.slice (some ⟨g, 0, none⟩) (ks.length + 1) cap)) w') :
    if Region.wanted o (yielded ops a.tmps) = true then Oper.wp Try.prog o a (w.alloc (.cells #[.int .i64 k] 3)) K Q else E := by
  obtain ⟨i0, hi, hz0, hz1, hz2⟩ := info_parts infoN
  have hl' := hl.out
  refine step_append_lies _ hgd s x 26 ho base 3 i0 _ 1 8 Try.underlying26 hi hz0 hz1 hz2 rfl (by decide) v ks.length (intsV ks) hs (OwnN.alloc hown _) ⟨w.heap.size, 0, none⟩ 1 1 [.int .i64 k] hx rfl (cell_one_new _ _ _) (by simp [Value.oneCell']) (by omega) (by unfold maxLen; omega) (by omega) (by simp; omega) (w.heap.size + 1) (by simp) ?_
  intro g cap w' h1 h2 _ _
  refine h g cap w' ?_ h2
  unfold OwnN
  rw [List.length_append, show intsV (ks ++ [k]) = intsV ks ++ [.int .i64 k] by simp [intsV]]
  exact h1

theorem its_lit (w : World) (x : Cm.It) : Its (w.alloc (.cells (itA x) 24)) (w.heap.size + 1) (.slice (some ⟨w.heap.size, 0, none⟩) 1 1) [x] := by
  refine ⟨_, 1, rfl, Nat.le_refl _, (fun h => by cases h), fun _ => ⟨w.heap.size, 0, rfl, by omega, fun j hj => ?_⟩⟩
  have hj0 : j = 0 := by simpa using hj
  subst hj0
  obtain ⟨c0, c1, c2, c3⟩ := cells4_of (heap_alloc_new w (.cells (itA x) 24))
  exact ⟨c0, c1, c2, c3⟩

/-- what is known behind k items -/
def Upto (lf bad0 : Bool) (rho0 : List UInt8) (count k : Nat) (bad : Bool) (l : List Cm.It) (ks : List Int) (rho : List UInt8) : Prop :=
  (bad = false → bad0 = false ∧ Cm.ritems lf rho0 k = some (l, ks, rho)) ∧ (bad = true → bad0 = true ∨ Cm.ritems lf rho0 count = .none)
theorem Upto.start (lf bad0 : Bool) (rho0 : List UInt8) (count : Nat) : Upto lf bad0 rho0 count 0 bad0 [] [] rho0 := ⟨fun h => ⟨h, rfl⟩, fun h => .inl h⟩
theorem Upto.fails {lf bad0 : Bool} {rho0 : List UInt8} {count k : Nat} {bad : Bool} {l : List Cm.It} {ks : List Int} {rho : List UInt8} (h : Upto lf bad0 rho0 count k bad l ks rho) (hk : k < count) (hf : bad = true ∨ Cm.ritem lf rho = .none) (k' : Nat) (l' : List Cm.It) (ks' : List Int) (rho' : List UInt8) : Upto lf bad0 rho0 count k' true l' ks' rho' := by
  refine ⟨(fun h => by cases h), fun _ => ?_⟩
  cases bad with
  | true => exact h.2 rfl
  | false =>
    right
    have h1 := (h.1 rfl).2
    refine Cm.ritems_none lf rho0 (k := k + 1) ?_ count (by omega)
    rw [Cm.ritems, h1]
    rcases hf with hf | hf
    · cases hf
    · simp only
      rw [hf]
theorem Upto.goes {lf bad0 : Bool} {rho0 : List UInt8} {count k : Nat} {l : List Cm.It} {ks : List Int} {rho rho2 : List UInt8} {x : Cm.It} {kid : Int} (h : Upto lf bad0 rho0 count k false l ks rho) (hi : Cm.ritem lf rho = some (x, kid, rho2)) : Upto lf bad0 rho0 count (k + 1) false (l ++ [x]) (if lf = true then ks else ks ++ [kid]) rho2 := by
  have h1 := h.1 rfl
  refine ⟨fun _ => ⟨h1.1, ?_⟩, (fun h => by cases h)⟩
  rw [Cm.ritems, h1.2]
  simp only
  rw [hi]

theorem upto_end {bs : List UInt8} {lf bad0 bad : Bool} {kind count : Nat} {rho0 rho : List UInt8} {pre ks : List Int} {l : List Cm.It} (hA : Ahead bs lf bad0 kind count rho0 pre) (hU : Upto lf bad0 rho0 count count bad l ks rho) (ok : Bool) (hok : ok = (!bad && (decide (kind ≠ 0) && Cm.noughtsB rho))) :
    (ok = true → Cm.rd bs = some ⟨lf, l, pre ++ ks⟩) ∧ (ok = false → Cm.rd bs = .none) := by
  subst hok
  cases bad with
  | true =>
    refine ⟨(fun h => by simp at h), fun _ => ?_⟩
    rcases hU.2 rfl with h | h
    · exact hA.1 h
    · cases bad0 with
      | true => exact hA.1 rfl
      | false => exact (hA.2 rfl).1 h
  | false =>
    obtain ⟨h1, h2⟩ := hU.1 rfl
    have h3 := (hA.2 h1).2 _ _ _ h2
    rw [h3]
    by_cases hk : kind ≠ 0 ∧ Cm.noughtsB rho = true
    · rw [if_pos hk]
      simp [hk.1, hk.2]
    · rw [if_neg hk]
      refine ⟨fun h => ?_, fun _ => rfl⟩
      exfalso
      apply hk
      simpa using h

set_option maxRecDepth 100000 in
set_option maxHeartbeats 4000000 in
theorem read_any (v : Value) (bs : List UInt8) (B : Nat) (w : World) (hv : Byts w B v bs) (hB : B ≤ w.heap.size) (hl : bs.length = 240) :
    Calls Try.prog 29 #[v] w fun e w' => RDone w w' bs e := by
  have hv0 := hv
  obtain ⟨ad, c, rfl, -⟩ := hv0
  have Hl : Hid (bs.length = 240) := hl
  clear hl
  have hN : ∀ W : World, Below w.heap.size w W → Calls Try.prog 48 #[.slice ad bs.length c] W fun e w' => ∃ p v', e = .returned (.pointer (some ⟨p, 0, none⟩)) ∧ W.heap.size ≤ p ∧ HasCur w' p v' 0 ∧ Own w' W.heap.size v' bs ∧ Below W.heap.size W w' :=
    fun W h => New_any _ bs B W (hv.below h hB) (by have := Hl.out; omega)
  have hb0 := (Below.refl w.heap.size w).alloc (Nat.le_refl _) (.cells #[.bool false, .slice none 0 0, .slice none 0 0] 28)
  have hx0 := heap_alloc_new w (.cells #[.bool false, .slice none 0 0, .slice none 0 0] 28)
  have hs0 : (w.alloc (.cells #[.bool false, .slice none 0 0, .slice none 0 0] 28)).heap.size = w.heap.size + 1 := by simp
  go_enter Try.func29, Try.ntmps29
  go_wp2_with fail
  go_step3
  go_upto_region 1 with fail
  generalize w.alloc (.cells #[.bool false, .slice none 0 0, .slice none 0 0] 28) = W0 at *
  go_wp2_with fail
  refine (hN _ hb0).mono ?_
  rintro e w1 ⟨p, v', rfl, hp, hc1, ho1, hb1⟩
  have hx1 := (hb1.block w.heap.size (by omega)).trans hx0
  have hw1 := hb0.trans (hb1.mono (by omega))
  have hs1 := hb1.size
  have hby1 : Byts w1 w.heap.size (.slice ad bs.length c) bs := (hv.mono hB).below hw1 (Nat.le_refl _)
  clear hb0 hx0 hb1 hN
  go_upto_region 2 with fail
  have hR0 : RdS (w1.alloc (.cells #[.pointer (some ⟨p, 0, none⟩), .slice ad bs.length c, .bool false] 79)) w1.heap.size p w.heap.size bs false :=
    ⟨v', _, bs, 0, heap_alloc_new w1 _, hc1.alloc _, (ho1.low' (by omega)).alloc _, hby1.alloc (by omega) _, Nat.zero_le _, by have := Hl.out; omega, rfl, by omega, by omega⟩
  have hx2 := (((Below.refl _ w1).alloc (Nat.le_refl _) (.cells #[.pointer (some ⟨p, 0, none⟩), .slice ad bs.length c, .bool false] 79)).block w.heap.size (by omega)).trans hx1
  have hw2 := hw1.alloc (by omega) (.cells #[.pointer (some ⟨p, 0, none⟩), .slice ad bs.length c, .bool false] 79)
  generalize w1.alloc (.cells #[.pointer (some ⟨p, 0, none⟩), .slice ad bs.length c, .bool false] 79) = W2 at *
  have hr1 : w.heap.size < w1.heap.size := by omega
  have hp1 : w.heap.size < p := by omega
  generalize w1.heap.size = r at *
  clear hx1 hw1 hs1 hby1 ho1 hc1 hp
  obtain ⟨K1, hK1⟩ : ∃ K1, Cm.num1 bs 2 = K1 := ⟨_, rfl⟩
  have H1 := rnumber_any 2 r p w.heap.size bs false W2 hR0
  rw [hK1] at H1
  go_wp2_with fail
  refine H1.mono ?_
  clear H1
  obtain ⟨kind, r1, b1⟩ := K1
  simp only [Bool.false_or]
  rintro e w3 ⟨rfl, hR3, ht3⟩
  have hx3 := (ht3.block w.heap.size (lt_of_heap hx2) (by simp; omega)).trans hx2
  have hw3 : Below w.heap.size w w3 := hw2.trans ⟨ht3.os, ht3.tape, ht3.output, ht3.size, fun k hk => ht3.block k (by have := hw2.size; omega) (by simp; omega)⟩
  obtain ⟨K2, hK2⟩ : ∃ K2, Cm.num1 r1 240 = K2 := ⟨_, rfl⟩
  have H2 := rnumber_any 240 r p w.heap.size r1 b1 w3 hR3
  rw [hK2] at H2
  clear hx2 hw2 ht3 hR0
  go_wp2_with fail
  refine H2.mono ?_
  clear H2
  obtain ⟨count, r2, b2⟩ := K2
  simp only
  rintro e w4 ⟨rfl, hR4, ht4⟩
  have hx4 := (ht4.block w.heap.size (lt_of_heap hx3) (by simp; omega)).trans hx3
  have hw4 : Below w.heap.size w w4 := hw3.trans ⟨ht4.os, ht4.tape, ht4.output, ht4.size, fun k hk => ht4.block k (by have := hw3.size; omega) (by simp; omega)⟩
  clear hx3 hw3 ht4 hR3
  have hcl : count ≤ 240 := by
    unfold Cm.num1 at hK2
    cases e2 : Cm.rnum r1 240 with
    | none => rw [e2] at hK2; simp only [Prod.mk.injEq] at hK2; omega
    | some q =>
      obtain ⟨c', d'⟩ := q
      have := (Cm.rnum_some e2).1
      rw [e2] at hK2
      simp only [Prod.mk.injEq] at hK2
      omega
  have HA1 : Hid (kind = 1 → Ahead bs true (b1 || b2) kind count r2 []) := fun h => ahead_leaf bs hK1 hK2 h
  have HA2 : Hid (kind ≠ 1 → ∀ k0 r3 b3, Cm.page1 r2 (b1 || b2) = (k0, r3, b3) → Ahead bs false b3 kind count r3 [k0]) := fun h k0 r3 b3 h3 => ahead_inner bs hK1 hK2 h h3
  clear hK1 hK2
  generalize hbb : (b1 || b2) = b0 at *
  clear hbb
  obtain ⟨lf, hlf⟩ : ∃ lf, ((kind : Int) == 1) = lf := ⟨_, rfl⟩
  have HLf : Hid (lf = decide (kind = 1)) := by
    show _ = _
    rw [← hlf]
    by_cases h : kind = 1 <;> simp [h]
    omega
  have hnbl : w.heap.size < w4.heap.size := by have := lt_of_heap hx4; omega
  have hI : RInv w (w4.alloc (.cells #[.bool lf, .slice none 0 0, .slice none 0 0] 28)) r p w4.heap.size r2 b0 lf (.slice none 0 0) (.slice none 0 0) [] [] :=
    ⟨hR4.turn (S := []) ((Turn.refl [] w4).alloc _) (by simp) (by simp) (by simp), (((Below.refl _ w4).alloc (Nat.le_refl _) _).block w.heap.size hnbl).trans hx4, heap_alloc_new w4 _, OwnC.nil _ _, OwnN.nil _ _, hw4.alloc hw4.size _, hnbl⟩
  go_upto_region 5 with fail
  generalize w4.alloc (.cells #[.bool lf, .slice none 0 0, .slice none 0 0] 28) = W5 at *
  generalize w4.heap.size = nb at *
  clear hx4 hw4 hR4 hlf
  obtain ⟨n0, n1, n2⟩ := cells3_of hI.nd
  go_upto_if 20 with fail
  go_cut [20] (fun _ wx => ∃ p' vk pre rho0 bad0, RInv w wx r p' nb rho0 bad0 lf (.slice none 0 0) vk [] pre ∧ Ahead bs lf bad0 kind count rho0 pre ∧ pre.length ≤ 1)
  case first =>
    cases lf
    · have hk1 : kind ≠ 1 := by have := HLf.out; intro h; simp [h] at this
      obtain ⟨vk0, hI0⟩ : ∃ vk0, RInv w W5 r p nb r2 b0 false (.slice none 0 0) vk0 [] [] := ⟨_, hI⟩
      have HI : Hid (RInv w W5 r p nb r2 b0 false (.slice none 0 0) vk0 [] []) := hI0
      clear n0 n1 n2
      obtain ⟨n0, n1, n2⟩ := cells3_of hI0.nd
      obtain ⟨P1, hP1⟩ : ∃ P1, Cm.page1 r2 b0 = P1 := ⟨_, rfl⟩
      obtain ⟨k0, r3, b3⟩ := P1
      have HA3 : Hid _ := HA2.out hk1 k0 r3 b3 hP1
      have HP : Hid (∀ W : World, RdS W r p w.heap.size r2 b0 → Calls Try.prog 50 #[.pointer (some ⟨r, 0, none⟩)] W fun e w' => ∃ p', e = .returned (.int .i64 k0) ∧ (p' = p ∨ W.heap.size ≤ p') ∧ RdS w' r p' w.heap.size r3 b3 ∧ Turn [r] W w') := fun W h => by
        have := rpage_any r p w.heap.size r2 b0 W h
        rw [hP1] at this
        exact this
      have HKl : Hid (([] : List Int).length ≤ 1000) := by show _ ≤ _; simp
      clear hk1 hP1 hI hI0 HA1 HA2
      go_wp2_with fail
      refine wp_region_held_drew (S := fun _ => True) (by kernel_rfl) trivial (fun hHeld => ?_)
      refine wpAnyH_take (i := 0) (v := ?_) rfl (by kernel_rfl) (by kernel_rfl) (by kernel_rfl) (fun _ _ _ h => h) (Or.inl ⟨by rfl, ?_⟩) (hHeld) ?_
      rotate_left
      · (intro w hSw; (try dsimp only at hSw); ((go_simp) <;> (with_reducible rfl)))
      try simp only [Act.put, List.setIfInBounds_toArray]
      refine wpAnyH_ready (rs := [1, 2]) (by kernel_rfl) (by simp) ?_
      refine AllReadyH.cons rfl (fun K hK => ?_) (AllReadyH.cons rfl (fun K hK => ?_) AllReadyH.nil)
      · go_simp
        refine hK.out _ _ trivial (fun _ => ?_)
        clear hK K
        try simp only [Act.put, List.setIfInBounds_toArray, List.set_cons_zero, List.set_cons_succ]
        refine wpAnyH_ready (rs := [2]) (by kernel_rfl) (by simp) ?_
        refine AllReadyH.cons rfl (fun K hK => ?_) AllReadyH.nil
        go_simp
        refine (HP.out _ HI.out.drew.rd).mono ?_
        rintro e w6 ⟨p6, rfl, hp6, hR6, ht6⟩
        have hI6 := HI.out.drew.turn ht6 hR6 (by simp)
        obtain ⟨m0, m1, m2⟩ := cells3_of hI6.nd
        obtain ⟨m3, m4, m5⟩ := cells3_of (hI6.alloc (.cells #[.int .i64 k0] 3)).nd
        try go_wp2_with fail
        refine hK.out _ _ trivial (fun _ => ?_)
        clear hK K
        try simp only [Act.put, List.setIfInBounds_toArray, List.set_cons_zero, List.set_cons_succ]
        refine wpAnyH_ready (rs := [3]) (by kernel_rfl) (by simp) ?_
        refine AllReadyH.cons rfl (fun K hK => ?_) AllReadyH.nil
        go_simp
        refine hK.out _ _ trivial (fun _ => ?_)
        clear hK K
        try simp only [Act.put, List.setIfInBounds_toArray, List.set_cons_zero, List.set_cons_succ]
        refine wpAnyH_ready (rs := [4]) (by kernel_rfl) (by simp) ?_
        refine AllReadyH.cons rfl (fun K hK => ?_) AllReadyH.nil
        refine step_append_kid rfl (.tmp 22) (.tmp 24) rfl w.heap.size _ [] k0 rfl hI6.ids rfl HKl hI6.be.size ?_
        intro gg cap w7 hown7 hgrow7
        obtain ⟨hI7, c7, f7⟩ := (hI6.alloc (.cells #[.int .i64 k0] 3)).kids hgrow7 hown7
        refine hK.out _ _ trivial (fun _ => ?_)
        clear hK K
        try simp only [Act.put, List.setIfInBounds_toArray]
        refine wpAnyH_ready (rs := [5]) (by kernel_rfl) (by simp) ?_
        refine AllReadyH.cons rfl (fun K hK => ?_) AllReadyH.nil
        go_simp
        refine hK.out _ _ trivial (fun _ => ?_)
        clear hK K
        try simp only [Act.put, List.setIfInBounds_toArray, List.set_cons_zero, List.set_cons_succ]
        refine wpAnyH_ready (rs := [6]) (by kernel_rfl) (by simp) ?_
        refine AllReadyH.cons rfl (fun K hK => ?_) AllReadyH.nil
        go_simp
        refine hK.out _ _ trivial (fun _ => ?_)
        clear hK K
        try simp only [Act.put, List.setIfInBounds_toArray, List.set_cons_zero, List.set_cons_succ]
        refine wpAnyH_done (by kernel_rfl) ?_ _
        go_wp2
        go_meet
        exact ⟨p6, _, [k0], r3, b3, hI7, HA3.out, by simp⟩
      · go_simp
        refine (HP.out _ HI.out.drew.rd).mono ?_
        rintro e w6 ⟨p6, rfl, hp6, hR6, ht6⟩
        have hI6 := HI.out.drew.turn ht6 hR6 (by simp)
        obtain ⟨m0, m1, m2⟩ := cells3_of hI6.nd
        obtain ⟨m3, m4, m5⟩ := cells3_of (hI6.alloc (.cells #[.int .i64 k0] 3)).nd
        try go_wp2_with fail
        refine hK.out _ _ trivial (fun _ => ?_)
        clear hK K
        try simp only [Act.put, List.setIfInBounds_toArray, List.set_cons_zero, List.set_cons_succ]
        refine wpAnyH_ready (rs := [1, 3]) (by kernel_rfl) (by simp) ?_
        refine AllReadyH.cons rfl (fun K hK => ?_) (AllReadyH.cons rfl (fun K hK => ?_) AllReadyH.nil)
        · go_simp
          refine hK.out _ _ trivial (fun _ => ?_)
          clear hK K
          try simp only [Act.put, List.setIfInBounds_toArray, List.set_cons_zero, List.set_cons_succ]
          refine wpAnyH_ready (rs := [3]) (by kernel_rfl) (by simp) ?_
          refine AllReadyH.cons rfl (fun K hK => ?_) AllReadyH.nil
          go_simp
          refine hK.out _ _ trivial (fun _ => ?_)
          clear hK K
          try simp only [Act.put, List.setIfInBounds_toArray, List.set_cons_zero, List.set_cons_succ]
          refine wpAnyH_ready (rs := [4]) (by kernel_rfl) (by simp) ?_
          refine AllReadyH.cons rfl (fun K hK => ?_) AllReadyH.nil
          refine step_append_kid rfl (.tmp 22) (.tmp 24) rfl w.heap.size _ [] k0 rfl hI6.ids rfl HKl hI6.be.size ?_
          intro gg cap w7 hown7 hgrow7
          obtain ⟨hI7, c7, f7⟩ := (hI6.alloc (.cells #[.int .i64 k0] 3)).kids hgrow7 hown7
          refine hK.out _ _ trivial (fun _ => ?_)
          clear hK K
          try simp only [Act.put, List.setIfInBounds_toArray]
          refine wpAnyH_ready (rs := [5]) (by kernel_rfl) (by simp) ?_
          refine AllReadyH.cons rfl (fun K hK => ?_) AllReadyH.nil
          go_simp
          refine hK.out _ _ trivial (fun _ => ?_)
          clear hK K
          try simp only [Act.put, List.setIfInBounds_toArray, List.set_cons_zero, List.set_cons_succ]
          refine wpAnyH_ready (rs := [6]) (by kernel_rfl) (by simp) ?_
          refine AllReadyH.cons rfl (fun K hK => ?_) AllReadyH.nil
          go_simp
          refine hK.out _ _ trivial (fun _ => ?_)
          clear hK K
          try simp only [Act.put, List.setIfInBounds_toArray, List.set_cons_zero, List.set_cons_succ]
          refine wpAnyH_done (by kernel_rfl) ?_ _
          go_wp2
          go_meet
          exact ⟨p6, _, [k0], r3, b3, hI7, HA3.out, by simp⟩
        · go_simp
          refine hK.out _ _ trivial (fun _ => ?_)
          clear hK K
          try simp only [Act.put, List.setIfInBounds_toArray, List.set_cons_zero, List.set_cons_succ]
          refine wpAnyH_ready (rs := [1]) (by kernel_rfl) (by simp) ?_
          refine AllReadyH.cons rfl (fun K hK => ?_) AllReadyH.nil
          go_simp
          refine hK.out _ _ trivial (fun _ => ?_)
          clear hK K
          try simp only [Act.put, List.setIfInBounds_toArray, List.set_cons_zero, List.set_cons_succ]
          refine wpAnyH_ready (rs := [4]) (by kernel_rfl) (by simp) ?_
          refine AllReadyH.cons rfl (fun K hK => ?_) AllReadyH.nil
          refine step_append_kid rfl (.tmp 22) (.tmp 24) rfl w.heap.size _ [] k0 rfl hI6.ids rfl HKl hI6.be.size ?_
          intro gg cap w7 hown7 hgrow7
          obtain ⟨hI7, c7, f7⟩ := (hI6.alloc (.cells #[.int .i64 k0] 3)).kids hgrow7 hown7
          refine hK.out _ _ trivial (fun _ => ?_)
          clear hK K
          try simp only [Act.put, List.setIfInBounds_toArray]
          refine wpAnyH_ready (rs := [5]) (by kernel_rfl) (by simp) ?_
          refine AllReadyH.cons rfl (fun K hK => ?_) AllReadyH.nil
          go_simp
          refine hK.out _ _ trivial (fun _ => ?_)
          clear hK K
          try simp only [Act.put, List.setIfInBounds_toArray, List.set_cons_zero, List.set_cons_succ]
          refine wpAnyH_ready (rs := [6]) (by kernel_rfl) (by simp) ?_
          refine AllReadyH.cons rfl (fun K hK => ?_) AllReadyH.nil
          go_simp
          refine hK.out _ _ trivial (fun _ => ?_)
          clear hK K
          try simp only [Act.put, List.setIfInBounds_toArray, List.set_cons_zero, List.set_cons_succ]
          refine wpAnyH_done (by kernel_rfl) ?_ _
          go_wp2
          go_meet
          exact ⟨p6, _, [k0], r3, b3, hI7, HA3.out, by simp⟩
    · have hk1 : kind = 1 := by simpa using HLf.out
      go_wp2
      go_meet
      exact ⟨p, _, [], r2, b0, hI, HA1.out hk1, by simp⟩
  case rest =>
    obtain ⟨p0, vk0, pre, rho0, bad0, hI2, hA0, hpre⟩ := hcut
    have HA0 : Hid (Ahead bs lf bad0 kind count rho0 pre) := hA0
    clear hA0 hI n0 n1 n2 HA1 HA2
    go_wp2
    go_step3
    go_upto_block 0 with fail
    go_cut [28] (fun _ wx => ∃ p' rho bad vi vk l ks, RInv w wx r p' nb rho bad lf vi vk l (pre ++ ks) ∧ l.length ≤ 240 ∧ ks.length ≤ 240 ∧ Upto lf bad0 rho0 count count bad l ks rho)
    case first =>
      go_wp2
      go_loopw [28] (fun i wr => ∃ k p' rho bad vi vk l ks, k ≤ count ∧ i = .int .u64 ((k : Nat) : Int) ∧ RInv w wr r p' nb rho bad lf vi vk l (pre ++ ks) ∧ l.length = k ∧ ks.length ≤ k ∧ Upto lf bad0 rho0 count k bad l ks rho)
        (fun i _ => count - (intOf i).toNat)
      case atStart => exact ⟨0, p0, rho0, bad0, _, _, [], [], Nat.zero_le _, rfl, by simpa using hI2, rfl, Nat.le_refl _, Upto.start _ _ _ _⟩
      case round =>
        obtain ⟨k, p', rho, bad, vi, vk, l, ks, hkc, rfl, hIr, hll, hkl, hU⟩ := hrel
        clear hI2
        have HU : Hid (Upto lf bad0 rho0 count k bad l ks rho) := hU
        have Hll : Hid (l.length = k) := hll
        clear hU hll
        by_cases hlt : k < count
        · obtain ⟨T, hT⟩ : ∃ T, Cm.text1 rho 64 = T := ⟨_, rfl⟩
          obtain ⟨t, rho1, bt⟩ := T
          have HT := rtext_any 64 r p' w.heap.size (by omega) rho bad wr hIr.rd
          rw [hT] at HT
          have HTx : Hid ((bt = true → Cm.ritem lf rho = .none) ∧ (bt = false → Cm.rtext rho 64 = some (t, rho1))) := by
            unfold Cm.text1 at hT
            cases e : Cm.rtext rho 64 with
            | none =>
              rw [e] at hT
              simp only [Prod.mk.injEq] at hT
              obtain ⟨-, -, rfl⟩ := hT
              exact ⟨fun _ => by unfold Cm.ritem; rw [e], fun h => by cases h⟩
            | some q =>
              obtain ⟨a, b⟩ := q
              rw [e] at hT
              simp only [Prod.mk.injEq] at hT
              obtain ⟨rfl, rfl, rfl⟩ := hT
              exact ⟨(fun h => by cases h), fun _ => rfl⟩
          clear hT
          go_wp2_with fail
          refine HT.mono ?_
          clear HT
          rintro e w6 ⟨rfl, hR6, ht6⟩
          have hI6 : RInv w w6 r p' nb rho1 (bad || bt) lf vi vk l (pre ++ ks) := hIr.turn ht6 hR6 (by simp)
          clear hIr hR6 ht6
          have hIq := hI6.alloc (.cells #[.string (str t), .string ⟨#[]⟩, .int .i64 0, .int .i64 0] 24)
          have hcq := heap_alloc_new w6 (.cells #[.string (str t), .string ⟨#[]⟩, .int .i64 0, .int .i64 0] 24)
          have hvi : ∀ g, vi.ownBlock = some g → g < w6.heap.size := fun g hg => (World.ownsRow.lt hI6.its g hg).2
          have hvk : ∀ g, vk.ownBlock = some g → g < w6.heap.size := fun g hg => (World.ownsRow.lt hI6.ids g hg).2
          have hnb6 : nb < w6.heap.size := lt_of_heap hI6.nd
          clear hI6
          go_upto_block 2 with fail
          generalize w6.alloc (.cells #[.string (str t), .string ⟨#[]⟩, .int .i64 0, .int .i64 0] 24) = W6 at *
          generalize w6.heap.size = q at *
          have m0 := hIq.rd.bad
          obtain ⟨n0, n1, n2⟩ := cells3_of hIq.nd
          cases hbb : (bad || bt) with
          | true =>
            rw [hbb] at m0 hIq
            have Hf : Hid (bad = true ∨ Cm.ritem lf rho = .none) := by
              show _ ∨ _
              cases bad with
              | true => exact .inl rfl
              | false =>
                right
                exact HTx.out.1 (by simpa using hbb)
            clear hbb
            go_wp2
            go_meet
            exact ⟨p', rho1, true, vi, vk, l, ks, hIq, by have := Hll.out; omega, by omega, HU.out.fails hlt Hf.out _ _ _ _⟩
          | false =>
            rw [hbb] at m0 hIq
            have hb2 : bad = false ∧ bt = false := by simpa using hbb
            clear hbb
            obtain ⟨rfl, rfl⟩ := hb2
            have HTx2 : Hid (Cm.rtext rho 64 = some (t, rho1)) := HTx.out.2 rfl
            clear HTx
            go_cut [38] (fun _ wx => ∃ p2 rho2 bad2 vk2 x ks2, RInv w wx r p2 nb rho2 bad2 lf vi vk2 l (pre ++ ks2) ∧ wx.heap[q]? = some (.cells (itA x) 24 (0, 0)) ∧ ks2.length ≤ k + 1 ∧ Upto lf bad0 rho0 count (k + 1) bad2 (l ++ [x]) ks2 rho2)
            case first =>
              have hqne := hIq.rd.ne hcq (by decide) (by decide)
              cases lf
              · obtain ⟨P1, hP1⟩ : ∃ P1, Cm.page1 rho1 false = P1 := ⟨_, rfl⟩
                obtain ⟨k0, r3, b3⟩ := P1
                have HUp : Hid (Upto false bad0 rho0 count (k + 1) b3 (l ++ [⟨str t, .empty, 0, 0⟩]) (ks ++ [k0]) r3) := by
                  show Upto _ _ _ _ _ _ _ _ _
                  unfold Cm.page1 at hP1
                  by_cases hl2 : rho1.length < 2
                  · rw [if_pos (.inr hl2)] at hP1
                    simp only [Prod.mk.injEq] at hP1
                    obtain ⟨rfl, rfl, rfl⟩ := hP1
                    refine HU.out.fails hlt (.inr ?_) _ _ _ _
                    unfold Cm.ritem Cm.rpage Cm.rbytes
                    rw [HTx2.out]
                    simp [show ¬ 2 ≤ rho1.length by omega]
                  · rw [if_neg (by simp; omega)] at hP1
                    simp only [Prod.mk.injEq] at hP1
                    obtain ⟨rfl, rfl, rfl⟩ := hP1
                    refine HU.out.goes (kid := Cm.pageOf (rho1.take 2)) ?_
                    unfold Cm.ritem Cm.rpage Cm.rbytes
                    rw [HTx2.out]
                    simp [show 2 ≤ rho1.length by omega]
                have HP : Hid (∀ W : World, RdS W r p' w.heap.size rho1 false → Calls Try.prog 50 #[.pointer (some ⟨r, 0, none⟩)] W fun e w' => ∃ p6, e = .returned (.int .i64 k0) ∧ (p6 = p' ∨ W.heap.size ≤ p6) ∧ RdS w' r p6 w.heap.size r3 b3 ∧ Turn [r] W w') := fun W h => by
                  have := rpage_any r p' w.heap.size rho1 false W h
                  rw [hP1] at this
                  exact this
                have HI : Hid (RInv w W6 r p' nb rho1 false false vi vk l (pre ++ ks)) := hIq
                have HKl : Hid ((pre ++ ks).length ≤ 1000) := by show _ ≤ _; rw [List.length_append]; omega
                have HQ6 : Hid (W6.drew.heap[q]? = some (.cells #[.string (str t), .string ⟨#[]⟩, .int .i64 0, .int .i64 0] 24 (0, 0))) := hcq
                have HQn : Hid (q ≠ nb ∧ q ≠ r) := ⟨by omega, hqne.1⟩
                clear hP1 hIq hcq HU HTx2 hqne hvi hvk
                go_wp2_with fail
                refine wp_region_held_drew (S := fun _ => True) (by kernel_rfl) trivial (fun hHeld => ?_)
                refine wpAnyH_take (i := 0) (v := ?_) rfl (by kernel_rfl) (by kernel_rfl) (by kernel_rfl) (fun _ _ _ h => h) (Or.inl ⟨by rfl, ?_⟩) (hHeld) ?_
                rotate_left
                · (intro w hSw; (try dsimp only at hSw); ((go_simp) <;> (with_reducible rfl)))
                try simp only [Act.put, List.setIfInBounds_toArray]
                refine wpAnyH_ready (rs := [1, 2]) (by kernel_rfl) (by simp) ?_
                refine AllReadyH.cons rfl (fun K hK => ?_) (AllReadyH.cons rfl (fun K hK => ?_) AllReadyH.nil)
                · go_simp
                  refine hK.out _ _ trivial (fun _ => ?_)
                  clear hK K
                  try simp only [Act.put, List.setIfInBounds_toArray, List.set_cons_zero, List.set_cons_succ]
                  refine wpAnyH_ready (rs := [2]) (by kernel_rfl) (by simp) ?_
                  refine AllReadyH.cons rfl (fun K hK => ?_) AllReadyH.nil
                  go_simp
                  refine (HP.out _ HI.out.drew.rd).mono ?_
                  rintro e w6 ⟨p6, rfl, hp6, hR6, ht6⟩
                  have hI6 := HI.out.drew.turn ht6 hR6 (by simp)
                  obtain ⟨m0, m1, m2⟩ := cells3_of hI6.nd
                  obtain ⟨m3, m4, m5⟩ := cells3_of (hI6.alloc (.cells #[.int .i64 k0] 3)).nd
                  try go_wp2_with fail
                  refine hK.out _ _ trivial (fun _ => ?_)
                  clear hK K
                  try simp only [Act.put, List.setIfInBounds_toArray, List.set_cons_zero, List.set_cons_succ]
                  refine wpAnyH_ready (rs := [3]) (by kernel_rfl) (by simp) ?_
                  refine AllReadyH.cons rfl (fun K hK => ?_) AllReadyH.nil
                  go_simp
                  refine hK.out _ _ trivial (fun _ => ?_)
                  clear hK K
                  try simp only [Act.put, List.setIfInBounds_toArray, List.set_cons_zero, List.set_cons_succ]
                  refine wpAnyH_ready (rs := [4]) (by kernel_rfl) (by simp) ?_
                  refine AllReadyH.cons rfl (fun K hK => ?_) AllReadyH.nil
                  refine step_append_kid rfl (.tmp 33) (.tmp 35) rfl w.heap.size _ (pre ++ ks) k0 rfl hI6.ids rfl HKl hI6.be.size ?_
                  intro gg cap w7 hown7 hgrow7
                  obtain ⟨hI7, c7, f7⟩ := (hI6.alloc (.cells #[.int .i64 k0] 3)).kids hgrow7 hown7
                  refine hK.out _ _ trivial (fun _ => ?_)
                  clear hK K
                  try simp only [Act.put, List.setIfInBounds_toArray]
                  refine wpAnyH_ready (rs := [5]) (by kernel_rfl) (by simp) ?_
                  refine AllReadyH.cons rfl (fun K hK => ?_) AllReadyH.nil
                  go_simp
                  refine hK.out _ _ trivial (fun _ => ?_)
                  clear hK K
                  try simp only [Act.put, List.setIfInBounds_toArray, List.set_cons_zero, List.set_cons_succ]
                  refine wpAnyH_ready (rs := [6]) (by kernel_rfl) (by simp) ?_
                  refine AllReadyH.cons rfl (fun K hK => ?_) AllReadyH.nil
                  go_simp
                  refine hK.out _ _ trivial (fun _ => ?_)
                  clear hK K
                  try simp only [Act.put, List.setIfInBounds_toArray, List.set_cons_zero, List.set_cons_succ]
                  refine wpAnyH_done (by kernel_rfl) ?_ _
                  go_wp2
                  go_meet
                  exact ⟨p6, r3, b3, _, ⟨str t, .empty, 0, 0⟩, ks ++ [k0], (by rw [← List.append_assoc]; rw [List.length_append] at hI7; exact hI7), RInv.kids_other (hI6.alloc (.cells #[.int .i64 k0] 3)) hgrow7 (heap_keep HQ6.out ht6 (by simpa using HQn.out.2) _) (by decide) HQn.out.1 _, by simp; omega, HUp.out⟩
                · go_simp
                  refine (HP.out _ HI.out.drew.rd).mono ?_
                  rintro e w6 ⟨p6, rfl, hp6, hR6, ht6⟩
                  have hI6 := HI.out.drew.turn ht6 hR6 (by simp)
                  obtain ⟨m0, m1, m2⟩ := cells3_of hI6.nd
                  obtain ⟨m3, m4, m5⟩ := cells3_of (hI6.alloc (.cells #[.int .i64 k0] 3)).nd
                  try go_wp2_with fail
                  refine hK.out _ _ trivial (fun _ => ?_)
                  clear hK K
                  try simp only [Act.put, List.setIfInBounds_toArray, List.set_cons_zero, List.set_cons_succ]
                  refine wpAnyH_ready (rs := [1, 3]) (by kernel_rfl) (by simp) ?_
                  refine AllReadyH.cons rfl (fun K hK => ?_) (AllReadyH.cons rfl (fun K hK => ?_) AllReadyH.nil)
                  · go_simp
                    refine hK.out _ _ trivial (fun _ => ?_)
                    clear hK K
                    try simp only [Act.put, List.setIfInBounds_toArray, List.set_cons_zero, List.set_cons_succ]
                    refine wpAnyH_ready (rs := [3]) (by kernel_rfl) (by simp) ?_
                    refine AllReadyH.cons rfl (fun K hK => ?_) AllReadyH.nil
                    go_simp
                    refine hK.out _ _ trivial (fun _ => ?_)
                    clear hK K
                    try simp only [Act.put, List.setIfInBounds_toArray, List.set_cons_zero, List.set_cons_succ]
                    refine wpAnyH_ready (rs := [4]) (by kernel_rfl) (by simp) ?_
                    refine AllReadyH.cons rfl (fun K hK => ?_) AllReadyH.nil
                    refine step_append_kid rfl (.tmp 33) (.tmp 35) rfl w.heap.size _ (pre ++ ks) k0 rfl hI6.ids rfl HKl hI6.be.size ?_
                    intro gg cap w7 hown7 hgrow7
                    obtain ⟨hI7, c7, f7⟩ := (hI6.alloc (.cells #[.int .i64 k0] 3)).kids hgrow7 hown7
                    refine hK.out _ _ trivial (fun _ => ?_)
                    clear hK K
                    try simp only [Act.put, List.setIfInBounds_toArray]
                    refine wpAnyH_ready (rs := [5]) (by kernel_rfl) (by simp) ?_
                    refine AllReadyH.cons rfl (fun K hK => ?_) AllReadyH.nil
                    go_simp
                    refine hK.out _ _ trivial (fun _ => ?_)
                    clear hK K
                    try simp only [Act.put, List.setIfInBounds_toArray, List.set_cons_zero, List.set_cons_succ]
                    refine wpAnyH_ready (rs := [6]) (by kernel_rfl) (by simp) ?_
                    refine AllReadyH.cons rfl (fun K hK => ?_) AllReadyH.nil
                    go_simp
                    refine hK.out _ _ trivial (fun _ => ?_)
                    clear hK K
                    try simp only [Act.put, List.setIfInBounds_toArray, List.set_cons_zero, List.set_cons_succ]
                    refine wpAnyH_done (by kernel_rfl) ?_ _
                    go_wp2
                    go_meet
                    exact ⟨p6, r3, b3, _, ⟨str t, .empty, 0, 0⟩, ks ++ [k0], (by rw [← List.append_assoc]; rw [List.length_append] at hI7; exact hI7), RInv.kids_other (hI6.alloc (.cells #[.int .i64 k0] 3)) hgrow7 (heap_keep HQ6.out ht6 (by simpa using HQn.out.2) _) (by decide) HQn.out.1 _, by simp; omega, HUp.out⟩
                  · go_simp
                    refine hK.out _ _ trivial (fun _ => ?_)
                    clear hK K
                    try simp only [Act.put, List.setIfInBounds_toArray, List.set_cons_zero, List.set_cons_succ]
                    refine wpAnyH_ready (rs := [1]) (by kernel_rfl) (by simp) ?_
                    refine AllReadyH.cons rfl (fun K hK => ?_) AllReadyH.nil
                    go_simp
                    refine hK.out _ _ trivial (fun _ => ?_)
                    clear hK K
                    try simp only [Act.put, List.setIfInBounds_toArray, List.set_cons_zero, List.set_cons_succ]
                    refine wpAnyH_ready (rs := [4]) (by kernel_rfl) (by simp) ?_
                    refine AllReadyH.cons rfl (fun K hK => ?_) AllReadyH.nil
                    refine step_append_kid rfl (.tmp 33) (.tmp 35) rfl w.heap.size _ (pre ++ ks) k0 rfl hI6.ids rfl HKl hI6.be.size ?_
                    intro gg cap w7 hown7 hgrow7
                    obtain ⟨hI7, c7, f7⟩ := (hI6.alloc (.cells #[.int .i64 k0] 3)).kids hgrow7 hown7
                    refine hK.out _ _ trivial (fun _ => ?_)
                    clear hK K
                    try simp only [Act.put, List.setIfInBounds_toArray]
                    refine wpAnyH_ready (rs := [5]) (by kernel_rfl) (by simp) ?_
                    refine AllReadyH.cons rfl (fun K hK => ?_) AllReadyH.nil
                    go_simp
                    refine hK.out _ _ trivial (fun _ => ?_)
                    clear hK K
                    try simp only [Act.put, List.setIfInBounds_toArray, List.set_cons_zero, List.set_cons_succ]
                    refine wpAnyH_ready (rs := [6]) (by kernel_rfl) (by simp) ?_
                    refine AllReadyH.cons rfl (fun K hK => ?_) AllReadyH.nil
                    go_simp
                    refine hK.out _ _ trivial (fun _ => ?_)
                    clear hK K
                    try simp only [Act.put, List.setIfInBounds_toArray, List.set_cons_zero, List.set_cons_succ]
                    refine wpAnyH_done (by kernel_rfl) ?_ _
                    go_wp2
                    go_meet
                    exact ⟨p6, r3, b3, _, ⟨str t, .empty, 0, 0⟩, ks ++ [k0], (by rw [← List.append_assoc]; rw [List.length_append] at hI7; exact hI7), RInv.kids_other (hI6.alloc (.cells #[.int .i64 k0] 3)) hgrow7 (heap_keep HQ6.out ht6 (by simpa using HQn.out.2) _) (by decide) HQn.out.1 _, by simp; omega, HUp.out⟩
              · have hS : ∀ y, y ∈ [r, p', q] → y = r ∨ y = p' ∨ (w.heap.size < y ∧ y ≠ nb ∧ vi.ownBlock ≠ some y ∧ vk.ownBlock ≠ some y) := fun y hy => by
                  simp only [List.mem_cons, List.not_mem_nil, or_false] at hy
                  rcases hy with h | h | h
                  · exact .inl h
                  · exact .inr (.inl h)
                  · subst h
                    exact .inr (.inr ⟨by omega, by omega, fun e => by have := hvi _ e; omega, fun e => by have := hvk _ e; omega⟩)
                have HS : Hid _ := hS
                clear hS hvi hvk
                go_wp2_with fail
                refine (rvalue_any r p' q w.heap.size rho1 (str t) W6 hIq.rd hcq (by omega)).mono ?_
                rintro e w7 ⟨rfl, p7, rho7, val, pg, ln, hp7, ht7, hq7, hv7⟩
                have HE : Hid (∃ bad7 rho8, RInv w w7 r p7 nb rho8 bad7 true vi vk l (pre ++ ks) ∧ Upto true bad0 rho0 count (k + 1) bad7 (l ++ [⟨str t, str val, pg, ln⟩]) ks rho8) := by
                  show ∃ _ _, _
                  unfold RvS at hv7
                  cases hrv : Cm.rval rho1 with
                  | none =>
                    rw [hrv] at hv7
                    refine ⟨true, rho7, hIq.turn ht7 hv7 HS.out, HU.out.fails hlt (.inr ?_) _ _ _ _⟩
                    unfold Cm.ritem
                    rw [HTx2.out]
                    simp [hrv]
                  | some xr =>
                    obtain ⟨x, r2⟩ := xr
                    rw [hrv] at hv7
                    obtain ⟨rfl, hv7⟩ := hv7
                    refine ⟨false, r2, hIq.turn ht7 hv7 HS.out, HU.out.goes (kid := 0) ?_⟩
                    unfold Cm.ritem
                    rw [HTx2.out]
                    simp [hrv]
                clear hv7
                go_wp2
                go_meet
                obtain ⟨bad7, rho8, h1, h2⟩ := HE.out
                exact ⟨p7, rho8, bad7, vk, ⟨str t, str val, pg, ln⟩, ks, h1, hq7, by omega, h2⟩
            case rest =>
              obtain ⟨p2, rho2, bad2, vk2, x, ks2, hI8, hq8, hk8, hU8⟩ := hcut
              have HU8 : Hid (Upto lf bad0 rho0 count (k + 1) bad2 (l ++ [x]) ks2 rho2) := hU8
              clear hU8 hIq hcq m0 n0 n1 n2 HU
              obtain ⟨n0, n1, n2⟩ := cells3_of hI8.nd
              obtain ⟨x0, x1, x2, x3⟩ := cells4_of hq8
              have HLn : Hid (l.length + [x].length ≤ 1099511627) := by have := Hll.out; show _ ≤ _; simp; omega
              have hbe8 : w.heap.size ≤ (wc.alloc (.cells (itA x) 24)).heap.size := by have := hI8.be.size; simp; omega
              go_wp2_with (at_builtin; go_must (refine wpList_append_its rfl (.tmp 46) (.tmp 48) rfl w.heap.size (wc.heap.size + 1) _ _ l [x] rfl (OwnC.alloc hI8.its _) rfl (its_lit wc x) HLn hbe8 ?_))
              intro v9 w9 ho9 hg9
              obtain ⟨ad9, c9, rfl, -⟩ := ho9.its
              obtain ⟨hI9, c91, f91⟩ := (hI8.alloc (.cells (itA x) 24)).items hg9 ho9
              go_wp2
              simp only [List.length_append, List.length_cons, List.length_nil, Nat.zero_add] at hI9
              refine ⟨⟨k + 1, p2, rho2, bad2, _, vk2, l ++ [x], ks2, by omega, by go_num, hI9, by have := Hll.out; simp; omega, hk8, HU8.out⟩, by simp [intOf]; omega⟩
        · obtain rfl : k = count := by omega
          go_wp2
          go_meet
          exact ⟨p', rho, bad, vi, vk, l, ks, hIr, by have := Hll.out; omega, by omega, HU.out⟩
    case rest =>
      obtain ⟨p', rho, bad, vi, vk, l, ks, hIe, hll, hkl, hU⟩ := hcut
      obtain ⟨adi, ci, hvi, -⟩ := hIe.its.its
      obtain ⟨adk, ck, hvk, -⟩ := hIe.ids.ints
      subst hvi
      subst hvk
      have HE : Hid (∀ ok : Bool, ok = (!bad && (decide (kind ≠ 0) && Cm.noughtsB rho)) → (ok = true → Cm.rd bs = some ⟨lf, l, pre ++ ks⟩) ∧ (ok = false → Cm.rd bs = .none)) := fun ok h => upto_end HA0.out hU ok h
      have Hfin : Hid _ := fun (Wf : World) => hIe.fin (Wf := Wf)
      have HfinN : Hid _ := fun (q : Nat) (Wf : World) => (hIe.drewN q).fin (Wf := Wf)
      have hR := fun W (h : ∃ q, W = wc.drewN q) => onlyNoughts_any r p' w.heap.size rho bad W (by obtain ⟨q, rfl⟩ := h; exact hIe.rd)
      obtain ⟨n0, n1, n2⟩ := cells3_of hIe.nd
      have m0 := hIe.rd.bad
      obtain ⟨z0, z1, z2⟩ := cells3_of hIe.res
      have zf := fun j => frozen_of_row wc w.heap.size j _ _ hIe.res
      have hne1 : nb ≠ w.heap.size := by omega
      have hne2 : r ≠ w.heap.size := by omega
      clear hI2 HA0 hU
      generalize (pre ++ ks).length = N2 at *
      have hS3 : ∀ a b c, (((wc.setCell ⟨w.heap.size, 0, none⟩ a).setCell ⟨w.heap.size, 1, none⟩ b).setCell ⟨w.heap.size, 2, none⟩ c).cell? ⟨nb, 0, none⟩ = some (.bool lf) ∧ (((wc.setCell ⟨w.heap.size, 0, none⟩ a).setCell ⟨w.heap.size, 1, none⟩ b).setCell ⟨w.heap.size, 2, none⟩ c).cell? ⟨nb, 1, none⟩ = some (.slice adi l.length ci) ∧
          (((wc.setCell ⟨w.heap.size, 0, none⟩ a).setCell ⟨w.heap.size, 1, none⟩ b).setCell ⟨w.heap.size, 2, none⟩ c).cell? ⟨nb, 2, none⟩ = some (.slice adk N2 ck) ∧ (((wc.setCell ⟨w.heap.size, 0, none⟩ a).setCell ⟨w.heap.size, 1, none⟩ b).setCell ⟨w.heap.size, 2, none⟩ c).cell? ⟨r, 2, none⟩ = some (.bool bad) := fun a b c => by
        have ht : Turn [w.heap.size] wc (((wc.setCell ⟨w.heap.size, 0, none⟩ a).setCell ⟨w.heap.size, 1, none⟩ b).setCell ⟨w.heap.size, 2, none⟩ c) := (((Turn.refl [w.heap.size] wc).set (by simp) _).set (by simp) _).set (by simp) _
        exact ⟨(ht.cell (p := ⟨nb, 0, none⟩) (lt_of_heap hIe.nd) (by simpa using hne1)).trans n0, (ht.cell (p := ⟨nb, 1, none⟩) (lt_of_heap hIe.nd) (by simpa using hne1)).trans n1, (ht.cell (p := ⟨nb, 2, none⟩) (lt_of_heap hIe.nd) (by simpa using hne1)).trans n2, (ht.cell (p := ⟨r, 2, none⟩) hIe.rd.lt.1 (by simpa using hne2)).trans m0⟩
      cases bad with
      | true =>
        go_wp2_with fail
        refine wp_region_held_drew (S := (fun W : World => W.cell? ⟨nb, 0, none⟩ = some (.bool lf) ∧ W.cell? ⟨nb, 1, none⟩ = some (.slice adi l.length ci) ∧ W.cell? ⟨nb, 2, none⟩ = some (.slice adk N2 ck) ∧ W.cell? ⟨r, 2, none⟩ = some (.bool true))) (by kernel_rfl) ⟨n0, n1, n2, m0⟩ (fun hHeld => ?_)
        refine wpAnyH_take (i := 0) (v := ?_) rfl (by kernel_rfl) (by kernel_rfl) (by kernel_rfl) (fun _ _ _ h => h) (Or.inl ⟨(by simp [Region.wanted]), ?_⟩) (hHeld) ?_
        rotate_left
        · (intro w hSw; (try dsimp only at hSw); ((go_simp) <;> (with_reducible rfl)))
        try simp only [Act.put, List.setIfInBounds_toArray]
        refine wpAnyH_take (i := 1) (v := ?_) rfl (by kernel_rfl) (by kernel_rfl) (by kernel_rfl) (fun _ _ _ h => h) (Or.inl ⟨(by simp [Region.wanted]), ?_⟩) (hHeld) ?_
        rotate_left
        · (intro w hSw; (try dsimp only at hSw); ((go_simp) <;> (with_reducible rfl)))
        try simp only [Act.put]
        refine wpAnyH_take (i := 2) (v := ?_) rfl (by kernel_rfl) (by kernel_rfl) (by kernel_rfl) (fun _ _ _ h => h) (Or.inl ⟨(by simp [Region.wanted]), ?_⟩) (hHeld) ?_
        rotate_left
        · (intro w hSw; (try dsimp only at hSw); ((go_simp) <;> (with_reducible rfl)))
        try simp only [Act.put]
        refine wpAnyH_take (i := 3) (v := ?_) rfl (by kernel_rfl) (by kernel_rfl) (by kernel_rfl) (fun _ _ _ h => h) (Or.inl ⟨(by simp [Region.wanted]), ?_⟩) (hHeld) ?_
        rotate_left
        · (intro w hSw; (try dsimp only at hSw); ((go_simp) <;> (with_reducible rfl)))
        try simp only [Act.put]
        refine wpAnyH_take (i := 4) (v := ?_) rfl (by kernel_rfl) (by kernel_rfl) (by kernel_rfl) (fun _ _ _ h => h) (Or.inl ⟨(by simp [Region.wanted]), ?_⟩) (hHeld) ?_
        rotate_left
        · (intro w hSw; (try dsimp only at hSw); ((go_simp) <;> (with_reducible rfl)))
        try simp only [Act.put]
        refine wpAnyH_take (i := 5) (v := undef) rfl (by kernel_rfl) (by kernel_rfl) (by kernel_rfl) (fun _ _ _ h => h) (Or.inr ⟨(by simp [Region.wanted, yielded]), rfl⟩) (hHeld) ?_
        try simp only [Act.put]
        refine wpAnyH_take (i := 6) (v := undef) rfl (by kernel_rfl) (by kernel_rfl) (by kernel_rfl) (fun _ _ _ h => h) (Or.inr ⟨(by simp [Region.wanted, yielded]), rfl⟩) (hHeld) ?_
        try simp only [Act.put]
        refine wpAnyH_take (i := 7) (v := ?_) rfl (by kernel_rfl) (by kernel_rfl) (by kernel_rfl) (fun _ _ _ h => h) (Or.inl ⟨(by simp [Region.wanted]), ?_⟩) (hHeld) ?_
        rotate_left
        · (intro w hSw; (try dsimp only at hSw); ((go_simp) <;> (with_reducible rfl)))
        try simp only [Act.put]
        refine wpAnyH_take (i := 8) (v := ?_) rfl (by kernel_rfl) (by kernel_rfl) (by kernel_rfl) (fun _ _ _ h => h) (Or.inl ⟨(by simp [Region.wanted]), ?_⟩) (hHeld) ?_
        rotate_left
        · (intro w hSw; (try dsimp only at hSw); ((go_simp) <;> (with_reducible rfl)))
        try simp only [Act.put]
        refine wpAnyH_take (i := 9) (v := undef) rfl (by kernel_rfl) (by kernel_rfl) (by kernel_rfl) (fun _ _ _ h => h) (Or.inr ⟨(by simp [Region.wanted, yielded]), rfl⟩) (hHeld) ?_
        try simp only [Act.put]
        refine wpAnyH_take (i := 10) (v := ?_) rfl (by kernel_rfl) (by kernel_rfl) (by kernel_rfl) (fun _ _ _ h => h) (Or.inl ⟨(by simp [Region.wanted]), ?_⟩) (hHeld) ?_
        rotate_left
        · (intro w hSw; (try dsimp only at hSw); ((go_simp) <;> (with_reducible rfl)))
        try simp only [Act.put]
        refine wpAnyH_ready (rs := [11]) (by kernel_rfl) (by simp) ?_
        refine AllReadyH.cons rfl (fun K hK => ?_) AllReadyH.nil
        go_simp
        refine hK.out _ _ (hS3 _ _ _) (fun hHeld => ?_)
        clear hK K
        try simp only [Act.put, List.setIfInBounds_toArray, List.set_cons_zero, List.set_cons_succ]
        refine wpAnyH_ready (rs := [12]) (by kernel_rfl) (by simp) ?_
        refine AllReadyH.cons rfl (fun K hK => ?_) AllReadyH.nil
        go_simp
        refine hK.out _ _ (hS3 _ _ _) (fun hHeld => ?_)
        clear hK K
        try simp only [Act.put, List.setIfInBounds_toArray, List.set_cons_zero, List.set_cons_succ]
        refine wpAnyH_done (by kernel_rfl) ?_ _
        go_wp2
        try rw [Exit.noGoto_ret]
        obtain ⟨hf0, hf1, hf2, hf3⟩ := Hfin.out _ rfl
        obtain ⟨y0, y1, y2⟩ := cells3_of hf0
        change bodyPost Try.prog Try.f29 (fun e w' => RDone w w' bs e) _ _ _
        simp only [bodyPost, results, Try.results29]
        simp [go_sem, y0, y1, y2]
        exact ⟨⟨lf, l, pre ++ ks⟩, _, _, false, rfl, hf1, hf2, ⟨hf3.os, hf3.tape, hf3.output, hf3.size, hf3.block⟩, hll, (by rw [List.length_append]; omega), HE.out _ rfl⟩
      | false =>
        by_cases hk0 : kind = 0
        · have hk1 : ((kind : Int) != 0) = false := by simp [hk0]
          have Hk0 : Hid (kind = 0) := hk0
          clear hk0
          go_wp2_with fail
          refine wp_region_held_drew (S := (fun W : World => W.cell? ⟨nb, 0, none⟩ = some (.bool lf) ∧ W.cell? ⟨nb, 1, none⟩ = some (.slice adi l.length ci) ∧ W.cell? ⟨nb, 2, none⟩ = some (.slice adk N2 ck) ∧ W.cell? ⟨r, 2, none⟩ = some (.bool false))) (by kernel_rfl) ⟨n0, n1, n2, m0⟩ (fun hHeld => ?_)
          refine wpAnyH_take (i := 0) (v := ?_) rfl (by kernel_rfl) (by kernel_rfl) (by kernel_rfl) (fun _ _ _ h => h) (Or.inl ⟨(by simp [Region.wanted]), ?_⟩) (hHeld) ?_
          rotate_left
          · (intro w hSw; (try dsimp only at hSw); ((go_simp) <;> (with_reducible rfl)))
          try simp only [Act.put, List.setIfInBounds_toArray]
          refine wpAnyH_take (i := 1) (v := ?_) rfl (by kernel_rfl) (by kernel_rfl) (by kernel_rfl) (fun _ _ _ h => h) (Or.inl ⟨(by simp [Region.wanted]), ?_⟩) (hHeld) ?_
          rotate_left
          · (intro w hSw; (try dsimp only at hSw); ((go_simp) <;> (with_reducible rfl)))
          try simp only [Act.put]
          refine wpAnyH_take (i := 2) (v := ?_) rfl (by kernel_rfl) (by kernel_rfl) (by kernel_rfl) (fun _ _ _ h => h) (Or.inl ⟨(by simp [Region.wanted]), ?_⟩) (hHeld) ?_
          rotate_left
          · (intro w hSw; (try dsimp only at hSw); ((go_simp) <;> (with_reducible rfl)))
          try simp only [Act.put]
          refine wpAnyH_take (i := 3) (v := ?_) rfl (by kernel_rfl) (by kernel_rfl) (by kernel_rfl) (fun _ _ _ h => h) (Or.inl ⟨(by simp [Region.wanted]), ?_⟩) (hHeld) ?_
          rotate_left
          · (intro w hSw; (try dsimp only at hSw); ((go_simp) <;> (with_reducible rfl)))
          try simp only [Act.put]
          refine wpAnyH_take (i := 4) (v := ?_) rfl (by kernel_rfl) (by kernel_rfl) (by kernel_rfl) (fun _ _ _ h => h) (Or.inl ⟨(by simp [Region.wanted]), ?_⟩) (hHeld) ?_
          rotate_left
          · (intro w hSw; (try dsimp only at hSw); ((go_simp) <;> (with_reducible rfl)))
          try simp only [Act.put]
          refine wpAnyH_take (i := 5) (v := ?_) rfl (by kernel_rfl) (by kernel_rfl) (by kernel_rfl) (fun _ _ _ h => h) (Or.inl ⟨(by simp [Region.wanted, yielded]), ?_⟩) (hHeld) ?_
          rotate_left
          · (intro w hSw; (try dsimp only at hSw); ((go_simp) <;> (with_reducible rfl)))
          try simp only [Act.put]
          refine wpAnyH_take (i := 6) (v := ?_) rfl (by kernel_rfl) (by kernel_rfl) (by kernel_rfl) (fun _ _ _ h => h) (Or.inl ⟨(by simp [Region.wanted, yielded]), ?_⟩) (hHeld) ?_
          rotate_left
          · (intro w hSw; (try dsimp only at hSw); ((go_simp) <;> (with_reducible rfl)))
          try simp only [Act.put]
          refine wpAnyH_take (i := 7) (v := ?_) rfl (by kernel_rfl) (by kernel_rfl) (by kernel_rfl) (fun _ _ _ h => h) (Or.inl ⟨(by simp [Region.wanted]), ?_⟩) (hHeld) ?_
          rotate_left
          · (intro w hSw; (try dsimp only at hSw); ((go_simp) <;> (with_reducible rfl)))
          try simp only [Act.put]
          refine wpAnyH_take (i := 8) (v := ?_) rfl (by kernel_rfl) (by kernel_rfl) (by kernel_rfl) (fun _ _ _ h => h) (Or.inl ⟨(by simp [Region.wanted]), ?_⟩) (hHeld) ?_
          rotate_left
          · (intro w hSw; (try dsimp only at hSw); ((go_simp) <;> (with_reducible rfl)))
          try simp only [Act.put]
          refine wpAnyH_take (i := 9) (v := undef) rfl (by kernel_rfl) (by kernel_rfl) (by kernel_rfl) (fun _ _ _ h => h) (Or.inr ⟨(by simp [Region.wanted, yielded]), rfl⟩) (hHeld) ?_
          try simp only [Act.put]
          refine wpAnyH_take (i := 10) (v := ?_) rfl (by kernel_rfl) (by kernel_rfl) (by kernel_rfl) (fun _ _ _ h => h) (Or.inl ⟨(by simp [Region.wanted]), ?_⟩) (hHeld) ?_
          rotate_left
          · (intro w hSw; (try dsimp only at hSw); ((go_simp) <;> (with_reducible rfl)))
          try simp only [Act.put]
          refine wpAnyH_ready (rs := [11]) (by kernel_rfl) (by simp) ?_
          refine AllReadyH.cons rfl (fun K hK => ?_) AllReadyH.nil
          go_simp
          refine hK.out _ _ (hS3 _ _ _) (fun hHeld => ?_)
          clear hK K
          try simp only [Act.put, List.setIfInBounds_toArray, List.set_cons_zero, List.set_cons_succ]
          refine wpAnyH_ready (rs := [12]) (by kernel_rfl) (by simp) ?_
          refine AllReadyH.cons rfl (fun K hK => ?_) AllReadyH.nil
          go_simp
          refine hK.out _ _ (hS3 _ _ _) (fun hHeld => ?_)
          clear hK K
          try simp only [Act.put, List.setIfInBounds_toArray, List.set_cons_zero, List.set_cons_succ]
          refine wpAnyH_done (by kernel_rfl) ?_ _
          go_wp2
          try rw [Exit.noGoto_ret]
          obtain ⟨hf0, hf1, hf2, hf3⟩ := Hfin.out _ rfl
          obtain ⟨y0, y1, y2⟩ := cells3_of hf0
          change bodyPost Try.prog Try.f29 (fun e w' => RDone w w' bs e) _ _ _
          simp only [bodyPost, results, Try.results29]
          simp [go_sem, y0, y1, y2]
          exact ⟨⟨lf, l, pre ++ ks⟩, _, _, false, rfl, hf1, hf2, ⟨hf3.os, hf3.tape, hf3.output, hf3.size, hf3.block⟩, hll, (by rw [List.length_append]; omega), HE.out _ (by simp [Hk0.out])⟩
        · have hk1 : ((kind : Int) != 0) = true := by simp [hk0]
          have Hk0 : Hid (kind ≠ 0) := hk0
          clear hk0
          go_wp2_with fail
          refine wp_region_held_drew (S := (fun W : World => W.cell? ⟨nb, 0, none⟩ = some (.bool lf) ∧ W.cell? ⟨nb, 1, none⟩ = some (.slice adi l.length ci) ∧ W.cell? ⟨nb, 2, none⟩ = some (.slice adk N2 ck) ∧ W.cell? ⟨r, 2, none⟩ = some (.bool false))) (by kernel_rfl) ⟨n0, n1, n2, m0⟩ (fun hHeld => ?_)
          refine wpAnyH_take (i := 0) (v := ?_) rfl (by kernel_rfl) (by kernel_rfl) (by kernel_rfl) (fun _ _ _ h => h) (Or.inl ⟨(by simp [Region.wanted]), ?_⟩) (hHeld) ?_
          rotate_left
          · (intro w hSw; (try dsimp only at hSw); ((go_simp) <;> (with_reducible rfl)))
          try simp only [Act.put, List.setIfInBounds_toArray]
          refine wpAnyH_take (i := 1) (v := ?_) rfl (by kernel_rfl) (by kernel_rfl) (by kernel_rfl) (fun _ _ _ h => h) (Or.inl ⟨(by simp [Region.wanted]), ?_⟩) (hHeld) ?_
          rotate_left
          · (intro w hSw; (try dsimp only at hSw); ((go_simp) <;> (with_reducible rfl)))
          try simp only [Act.put]
          refine wpAnyH_take (i := 2) (v := ?_) rfl (by kernel_rfl) (by kernel_rfl) (by kernel_rfl) (fun _ _ _ h => h) (Or.inl ⟨(by simp [Region.wanted]), ?_⟩) (hHeld) ?_
          rotate_left
          · (intro w hSw; (try dsimp only at hSw); ((go_simp) <;> (with_reducible rfl)))
          try simp only [Act.put]
          refine wpAnyH_take (i := 3) (v := ?_) rfl (by kernel_rfl) (by kernel_rfl) (by kernel_rfl) (fun _ _ _ h => h) (Or.inl ⟨(by simp [Region.wanted]), ?_⟩) (hHeld) ?_
          rotate_left
          · (intro w hSw; (try dsimp only at hSw); ((go_simp) <;> (with_reducible rfl)))
          try simp only [Act.put]
          refine wpAnyH_take (i := 4) (v := ?_) rfl (by kernel_rfl) (by kernel_rfl) (by kernel_rfl) (fun _ _ _ h => h) (Or.inl ⟨(by simp [Region.wanted]), ?_⟩) (hHeld) ?_
          rotate_left
          · (intro w hSw; (try dsimp only at hSw); ((go_simp) <;> (with_reducible rfl)))
          try simp only [Act.put]
          refine wpAnyH_take (i := 5) (v := ?_) rfl (by kernel_rfl) (by kernel_rfl) (by kernel_rfl) (fun _ _ _ h => h) (Or.inl ⟨(by simp [Region.wanted, yielded]), ?_⟩) (hHeld) ?_
          rotate_left
          · (intro w hSw; (try dsimp only at hSw); ((go_simp) <;> (with_reducible rfl)))
          try simp only [Act.put]
          refine wpAnyH_take (i := 6) (v := ?_) rfl (by kernel_rfl) (by kernel_rfl) (by kernel_rfl) (fun _ _ _ h => h) (Or.inl ⟨(by simp [Region.wanted, yielded]), ?_⟩) (hHeld) ?_
          rotate_left
          · (intro w hSw; (try dsimp only at hSw); ((go_simp) <;> (with_reducible rfl)))
          try simp only [Act.put]
          refine wpAnyH_take (i := 7) (v := ?_) rfl (by kernel_rfl) (by kernel_rfl) (by kernel_rfl) (fun _ _ _ h => h) (Or.inl ⟨(by simp [Region.wanted]), ?_⟩) (hHeld) ?_
          rotate_left
          · (intro w hSw; (try dsimp only at hSw); ((go_simp) <;> (with_reducible rfl)))
          try simp only [Act.put]
          refine wpAnyH_take (i := 8) (v := ?_) rfl (by kernel_rfl) (by kernel_rfl) (by kernel_rfl) (fun _ _ _ h => h) (Or.inl ⟨(by simp [Region.wanted]), ?_⟩) (hHeld) ?_
          rotate_left
          · (intro w hSw; (try dsimp only at hSw); ((go_simp) <;> (with_reducible rfl)))
          try simp only [Act.put]
          refine wpAnyH_ready (rs := [9]) (by kernel_rfl) (by simp) ?_
          refine AllReadyH.cons rfl (fun K hK => ?_) AllReadyH.nil
          go_simp
          refine (hR _ ⟨1, rfl⟩).mono ?_
          rintro e w9 ⟨rfl, q9, rfl⟩
          try go_wp2_with fail
          refine hK.out _ _ ⟨n0, n1, n2, m0⟩ (fun hHeld => ?_)
          clear hK K
          try simp only [Act.put, List.setIfInBounds_toArray, List.set_cons_zero, List.set_cons_succ]
          refine wpAnyH_take (i := 10) (v := ?_) rfl (by kernel_rfl) (by kernel_rfl) (by kernel_rfl) (fun _ _ _ h => h) (Or.inl ⟨(by simp [Region.wanted]), ?_⟩) (hHeld) ?_
          rotate_left
          · (intro w hSw; (try dsimp only at hSw); ((go_simp) <;> (with_reducible rfl)))
          try simp only [Act.put, List.setIfInBounds_toArray]
          refine wpAnyH_ready (rs := [11]) (by kernel_rfl) (by simp) ?_
          refine AllReadyH.cons rfl (fun K hK => ?_) AllReadyH.nil
          go_simp
          refine hK.out _ _ (hS3 _ _ _) (fun hHeld => ?_)
          clear hK K
          try simp only [Act.put, List.setIfInBounds_toArray, List.set_cons_zero, List.set_cons_succ]
          refine wpAnyH_ready (rs := [12]) (by kernel_rfl) (by simp) ?_
          refine AllReadyH.cons rfl (fun K hK => ?_) AllReadyH.nil
          go_simp
          refine hK.out _ _ (hS3 _ _ _) (fun hHeld => ?_)
          clear hK K
          try simp only [Act.put, List.setIfInBounds_toArray, List.set_cons_zero, List.set_cons_succ]
          refine wpAnyH_done (by kernel_rfl) ?_ _
          go_wp2
          try rw [Exit.noGoto_ret]
          obtain ⟨hf0, hf1, hf2, hf3⟩ := HfinN.out (1 + q9) _ rfl
          obtain ⟨y0, y1, y2⟩ := cells3_of hf0
          change bodyPost Try.prog Try.f29 (fun e w' => RDone w w' bs e) _ _ _
          simp only [bodyPost, results, Try.results29]
          simp [go_sem, y0, y1, y2]
          exact ⟨⟨lf, l, pre ++ ks⟩, _, _, (Cm.noughtsB rho), rfl, hf1, hf2, ⟨hf3.os, hf3.tape, hf3.output, hf3.size, hf3.block⟩, hll, (by rw [List.length_append]; omega), HE.out _ (by simp [Hk0.out])⟩

end Go.Proofs.Ytplfcpbjlhobeaa
