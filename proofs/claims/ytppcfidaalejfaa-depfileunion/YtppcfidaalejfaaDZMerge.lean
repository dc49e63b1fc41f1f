/-
  THE LANDED Merge.
-/
import Derived.Test.YtppcfidaalejfaaDZOnce
import Derived.Test.YtppcfidaalejfaaDpOnce
import Derived.Test.YtppcfidaalejfaaDpC
import Derived.Deep.RegionHeld3
namespace Go.Proofs.Ytppcfidaalejfaa
open Go.RowKit

/-- a map of the deps of each target, each in a row of its own, none of them that of tv -/
def DepM (w : World) (m n base : Nat) (tv : Value) (A : List Dp.Rule) (f : ByteArray → Option Value) : Prop :=
  MapU w m n f ∧ (∀ x v, f x = some v → BR.Own w base v (Dp.dof (bs x) A)) ∧ (∀ x, (f x).isSome = decide (bs x ∈ A.map Prod.fst)) ∧ (∀ x y u v g, x ≠ y → f x = some u → f y = some v → u.ownBlock = some g → v.ownBlock ≠ some g) ∧ (∀ x v g, f x = some v → v.ownBlock = some g → tv.ownBlock ≠ some g)
theorem DepM.below {w w' : World} {m n base : Nat} {tv : Value} {A : List Dp.Rule} {f : ByteArray → Option Value} (h : DepM w m n base tv A f) (hb : Below w.heap.size w w') : DepM w' m n base tv A f :=
  ⟨h.1.below hb h.1.lt, fun x v hx => (h.2.1 x v hx).below hb (Nat.le_refl _), h.2.2⟩
/-- the value at a target -/
def atD (f : ByteArray → Option Value) (x : ByteArray) : Value := (f x).getD (.slice none 0 0)
theorem DepM.own {w : World} {m n base : Nat} {tv : Value} {A : List Dp.Rule} {f : ByteArray → Option Value} (h : DepM w m n base tv A f) (x : ByteArray) : BR.Own w base (atD f x) (Dp.dof (bs x) A) := by
  unfold atD
  cases hf : f x with
  | some v => exact h.2.1 x v hf
  | none =>
    have := h.2.2.1 x
    rw [hf] at this
    have hn : bs x ∉ A.map Prod.fst := by simpa using this
    rw [Dp.dof_none hn]
    exact Rc.Own.nil _ _
theorem DepM.look {w : World} {m n base : Nat} {tv : Value} {A : List Dp.Rule} {f : ByteArray → Option Value} (h : DepM w m n base tv A f) {x : ByteArray} (hx : x.size ≤ 1099511627) :
    (Instr.lookup 79 (.map (some m)) (.string x) false).run Try.prog w = .ok (atD f x) w :=
  h.1.look Try.underlying79 (z := .slice none 0 0) (by kernel_rfl) hx
/-- the row of targets grown -/
theorem DepM.grow {w w' : World} {m n base : Nat} {tv tv' : Value} {A : List Dp.Rule} {f : ByteArray → Option Value} (h : DepM w m n base tv A f) (hm : m < base) (hg : w.grownBy w' tv.ownBlock) (ht : ∀ g, tv.ownBlock = some g → base ≤ g) (hn : ∀ g, tv'.ownBlock = some g → tv.ownBlock = some g ∨ w.heap.size ≤ g) : DepM w' m n base tv' A f := by
  obtain ⟨h1, h2, h3, h4, h5⟩ := h
  refine ⟨h1.turn (Turn.of_grown hg) (fun hm' => by have := ht m (by simpa using hm'); omega), fun x v hx => World.ownsRow.kept (h2 x v hx) hg ?_, h3, h4, fun x v g hx hv e => ?_⟩
  · cases hv : v.ownBlock with
    | none => exact .inl rfl
    | some g => exact .inr fun e => h5 x v g hx hv e.symm
  · rcases hn g e with hh | hh
    · exact h5 x v g hx hv hh
    · have := ((h2 x v hx).lt g hv).2
      omega
/-- the deps of one more rule are put to its target's -/
theorem DepM.put {w w6 w7 : World} {m n n' base : Nat} {tv : Value} {A : List Dp.Rule} {f : ByteArray → Option Value} {st : ByteArray} {ds : List (List UInt8)} {v' : Value} (h : DepM w m n base tv A f) (hm : m < base)
    (hO : BR.Own w6 base v' (Dp.dof (bs st) A ++ ds)) (hg : w.grownBy w6 (atD f st).ownBlock) (hn : ∀ g, v'.ownBlock = some g → (atD f st).ownBlock = some g ∨ g = w.heap.size)
    (htv : ∀ g, tv.ownBlock = some g → g < w.heap.size)
    (hM : MapU w7 m n' (updU f st (some v'))) (hT : Turn [m] w6 w7) : DepM w7 m n' base tv (A ++ [(bs st, ds)]) (updU f st (some v')) := by
  have hown := h.own st
  obtain ⟨h1, h2, h3, h4, h5⟩ := h
  have keep : ∀ {u : Value} {l : List (List UInt8)}, BR.Own w6 base u l → BR.Own w7 base u l := fun ho => Row.turn ho hT fun g hg hmm => by rw [List.mem_singleton] at hmm; have := (ho.lt g hg).1; omega
  have cur : ∀ g, (atD f st).ownBlock = some g → f st = some (atD f st) := fun g hg => by
    unfold atD at hg ⊢
    cases hf : f st with
    | some v => rfl
    | none => rw [hf] at hg; simp [Value.ownBlock] at hg
  refine ⟨hM, fun x v hx => ?_, fun x => ?_, fun x y u v g hxy hu hv hug hvg => ?_, fun x v g hx hvg htg => ?_⟩
  · unfold updU at hx
    rw [Dp.dof_snoc]
    by_cases hxs : x = st
    · rw [if_pos hxs] at hx
      subst hxs
      rw [if_pos rfl]
      rw [← Option.some.inj hx]
      exact keep hO
    · rw [if_neg hxs] at hx
      rw [if_neg (fun e => hxs (bs_inj e.symm)), List.append_nil]
      refine keep (World.ownsRow.kept (h2 x v hx) hg ?_)
      cases hv : v.ownBlock with
      | none => exact .inl rfl
      | some g => exact .inr fun e => h4 x st v _ g hxs hx (cur g e.symm) hv e.symm
  · unfold updU
    rw [List.map_append, List.map_cons, List.map_nil]
    by_cases hxs : x = st
    · rw [if_pos hxs, hxs]; simp
    · rw [if_neg hxs, h3 x]
      have hne : ¬ bs x = bs st := fun e => hxs (bs_inj e)
      simp [hne]
  · unfold updU at hu hv
    by_cases hxs : x = st
    · rw [if_pos hxs] at hu
      rw [if_neg (fun e => hxy (hxs.trans e.symm))] at hv
      rw [← Option.some.inj hu] at hug
      rcases hn g hug with hh | hh
      · exact h4 st y _ v g (fun e => hxy (hxs.trans e)) (cur g hh) hv hh hvg
      · have := ((h2 y v hv).lt g hvg).2
        omega
    · rw [if_neg hxs] at hu
      by_cases hys : y = st
      · rw [if_pos hys] at hv
        rw [← Option.some.inj hv] at hvg
        rcases hn g hvg with hh | hh
        · exact h4 x st u _ g hxs hu (cur g hh) hug hh
        · have := ((h2 x u hu).lt g hug).2
          omega
      · rw [if_neg hys] at hv
        exact h4 x y u v g hxy hu hv hug hvg
  · unfold updU at hx
    by_cases hxs : x = st
    · rw [if_pos hxs] at hx
      rw [← Option.some.inj hx] at hvg
      rcases hn g hvg with hh | hh
      · exact h5 st _ g (cur g hh) hh htg
      · have := htv g htg
        omega
    · rw [if_neg hxs] at hx
      exact h5 x v g hx hvg htg

set_option maxRecDepth 100000 in
set_option maxHeartbeats 8000000 in
theorem mergeC : MergeC := by
  intro v A w B ha hB hV
  have hlA := Dp.vol_len A
  have hwl : ∀ x ∈ A, x.1.length ≤ 1000000 ∧ x.2.length ≤ 1000000 ∧ ∀ d ∈ x.2, d.length ≤ 1000000 := fun x hx => by
    have h1 := Dp.vol_mem hx
    have h2 := Dp.sum_len x.2
    exact ⟨by omega, by omega, fun d hd => by have := Dp.sum_mem hd; omega⟩
  have HWL : Hid _ := hwl
  have HDN : Hid (∀ t i, (Dp.dof t (A.take i)).length ≤ 1000000) := fun t i => by
    have h1 := Dp.dof_len t (A.take i)
    have h2 := Dp.dn_take A i
    have h3 := Dp.dn_vol A
    unfold Dp.dn at h2 h3
    omega
  have hbA : A.length ≤ 1000000 := by omega
  have HFIN : Hid (Dp.merge A = (Dp.adds [] ((A.take A.length).map Prod.fst)).map fun t => (t, Dp.adds [] (Dp.dof t (A.take A.length)))) := by
    show _ = _
    rw [List.take_length]
    exact Dp.merge_eq A
  obtain ⟨ad, c, rfl, hle⟩ := ha.shape
  clear hwl hlA hV
  generalize Dp.merge A = M at *
  have hM0 := MapU.made w
  have hb0 := below_new w (.map #[] 0)
  have hz0 : (w.alloc (.map #[] 0)).heap.size = w.heap.size + 1 := size_alloc _ _
  have hmm := @run_makeMap Try.prog
  have hD0 : ∃ f, DepM (w.alloc (.map #[] 0)) w.heap.size 0 (w.heap.size + 1) (.slice none 0 0) [] f := ⟨_, hM0, fun _ _ h => by (cases h), fun _ => rfl, fun _ _ _ _ _ _ h => by (cases h), fun _ _ _ h => by (cases h)⟩
  go_enter Try.func23, Try.ntmps23
  go_wp2
  go_loopw [3, 13] (fun tv k wr => ∃ (i n : Nat), i ≤ A.length ∧ n ≤ i ∧ k = .int .i64 (i : Int) ∧ BR.Own wr (w.heap.size + 1) tv ((A.take i).map Prod.fst) ∧ (∃ f, DepM wr w.heap.size n (w.heap.size + 1) tv (A.take i) f) ∧ Below w.heap.size w wr) (fun _ k _ => A.length - (intOf k).toNat)
  case atStart => exact ⟨0, 0, Nat.zero_le _, Nat.le_refl _, rfl, Rc.Own.nil _ _, hD0, hb0⟩
  case round =>
    clear hM0 hb0 hz0 hD0 hmm
    obtain ⟨i, n, hi, hni, rfl, hO, ⟨f, hD⟩, hBe⟩ := hrel
    have hwr : w.heap.size < wr.heap.size := hD.1.lt
    by_cases hlt : i < A.length
    · have i1 : (i : Int) < (A.length : Int) := by omega
      have ha1 := ha.below (hBe.mono hB) (Nat.le_refl _)
      obtain ⟨hw1, hw2, hw3⟩ := HWL.out (A.getD i Dp.noR) (by simp [List.getD, List.getElem?_eq_getElem hlt])
      obtain ⟨b, o, c1, ad1, c2, e, hb1, p0, p1, hW⟩ := ha1.at i hlt
      simp only [Value.slice.injEq] at e
      obtain ⟨rfl, -, rfl⟩ := e
      have HTK : Hid (A.take (i + 1) = A.take i ++ [A.getD i Dp.noR]) := by
        show _ = _
        rw [List.take_succ_eq_append_getElem hlt]
        simp [List.getD, List.getElem?_eq_getElem hlt]
      obtain ⟨x, hx⟩ : ∃ x, A.getD i Dp.noR = x := ⟨_, rfl⟩
      rw [hx] at p0 p1 hW hw1 hw2 hw3 HTK
      clear hx ha1 hw3
      obtain ⟨x1, x2⟩ := x
      simp only at hw1 hw2 p0 p1 hW
      have HDL : Hid _ := HDN.out x1 i
      have hKL : ((A.take i).map Prod.fst).length ≤ i := by rw [List.length_map, List.length_take]; omega
      generalize A.take i = K at *
      obtain ⟨st, hst⟩ : ∃ st, str x1 = st := ⟨_, rfl⟩
      have hbd : bs st = x1 := by rw [← hst, bs_str]
      have hss : st.size ≤ 1099511627 := by rw [← hst, str_size]; omega
      rw [hst] at p0
      obtain ⟨oa, oc, hov, hoc⟩ := hO.sl.shape
      rw [List.length_map] at hov hoc
      subst hov
      have hq0 := Rw.new wr #[.string st, .slice ad1 x2.length c2] 32
      have hbn := below_new wr (.cells #[.string st, .slice ad1 x2.length c2] 32)
      have hW1 := hW.below hbn (Nat.le_trans hB hBe.size)
      have hO1 := hO.alloc (.cells #[.string st, .slice ad1 x2.length c2] 32)
      have hD1 := hD.below hbn
      have hB1 := hBe.trans (hbn.mono hBe.size)
      have hz1 : (wr.alloc (.cells #[.string st, .slice ad1 x2.length c2] 32)).heap.size = wr.heap.size + 1 := size_alloc _ _
      go_upto_region 6 with fail
      clear p0 p1 hW hO hD hBe hbn
      generalize wr.alloc (.cells #[.string st, .slice ad1 x2.length c2] 32) = W1 at *
      generalize wr.heap.size = q at *
      have k0 : W1.cell? ⟨q, 0, none⟩ = some (.string st) := hq0.cell 0
      have hL := BR.lit W1 x1 #[.string st] (by rw [← hst]; rfl)
      rw [hz1] at hL
      have hbl := below_new W1 (.cells #[.string st] 9)
      have hO2 := hO1.alloc (.cells #[.string st] 9)
      have hD2 := hD1.below hbl
      have hW2 := hW1.below hbl (by omega)
      have hq2 := hq0.alloc (.cells #[.string st] 9)
      have hB2 := hB1.trans (hbl.mono hB1.size)
      have hz2 : (W1.alloc (.cells #[.string st] 9)).heap.size = q + 1 + 1 := by rw [size_alloc, hz1]
      have HLn : Hid ((K.map Prod.fst).length + [x1].length ≤ 1099511627) := by show _ ≤ _; simp only [List.length_cons, List.length_nil]; omega
      have hbs2 : w.heap.size + 1 ≤ (W1.alloc (.cells #[.string st] 9)).heap.size := by omega
      clear hO1 hD1 hW1 hq0 hB1 hbl
      go_wp2_with (at_builtin; go_must (refine BR.append_at rfl _ _ rfl (w.heap.size + 1) (q + 1 + 1) _ _ (K.map Prod.fst) [x1] rfl hO2 rfl hL (by simp) HLn hbs2 ?_))
      intro g cap w5 hO5 hg5 hw5 hlt5
      have hT5 := Turn.of_grown hg5
      have hD5 : DepM w5 w.heap.size n (w.heap.size + 1) (.slice (some ⟨g, 0, none⟩) (K.length + 1) cap) K f := hD2.grow (by omega) hg5 (fun g' h => (hO2.lt g' h).1) (fun g' h => by
        simp only [Value.ownBlock, Option.some.injEq] at h
        subst h
        rcases hw5 with hh | hh
        · exact .inl hh
        · exact .inr (by omega))
      have hq5 := hq2.turn hT5 (fun hm => Rw.ne_row hq2 hO2 (by decide) (by simpa using hm) rfl)
      have hB5 := hB2.trans (hT5.below' hB2.size (fun x hx => by have := (hO2.lt x (by simpa using hx)).1; omega))
      have hW5 := hW2.below (hT5.below' (B := w.heap.size) (by omega) (fun x hx => by have := (hO2.lt x (by simpa using hx)).1; omega)) hB
      have hz5 := hg5.size
      clear hO2 hD2 hW2 hq2 hB2 hL hT5 hg5 hw5
      have hO5' : BR.Own w5 (w.heap.size + 1) (.slice (some ⟨g, 0, none⟩) (K.length + 1) cap) ((K ++ [(bs st, x2)]).map Prod.fst) := by rw [List.map_append, hbd]; exact hO5
      have htv := fun g' h => (hO5.lt g' h).2
      clear hO5
      obtain ⟨tv, htvv⟩ : ∃ tv, (Value.slice (some ⟨g, 0, none⟩) (K.length + 1) cap) = tv := ⟨_, rfl⟩
      rw [htvv] at hD5 hO5' htv ⊢
      clear htvv hlt5
      have HTK2 : Hid (A.take (i + 1) = K ++ [(bs st, x2)]) := by show _ = _; rw [HTK.out, hbd]
      rw [← hbd] at HDL
      clear HTK hbd hst
      have HP : Hid (∀ v6 w6, BR.Own w6 (w.heap.size + 1) v6 (Dp.dof (bs st) K ++ x2) → w5.drew.grownBy w6 (atD f st).ownBlock → (∀ g, v6.ownBlock = some g → (atD f st).ownBlock = some g ∨ g = w5.drew.heap.size) → ∃ w7, (Instr.mapUpdate 79 (.map (some w.heap.size)) (.string st) v6).run Try.prog w6 = .ok () w7 ∧ w6.cell? ⟨q, 0, none⟩ = some (.string st) ∧ w6.cell? ⟨q, 1, none⟩ = some (.slice ad1 x2.length c2) ∧ w7.cell? ⟨q, 0, none⟩ = some (.string st) ∧ w7.cell? ⟨q, 1, none⟩ = some (.slice ad1 x2.length c2) ∧ (∃ n' f', n' ≤ n + 1 ∧ DepM w7 w.heap.size n' (w.heap.size + 1) tv (K ++ [(bs st, x2)]) f') ∧ BR.Own w7 (w.heap.size + 1) tv ((K ++ [(bs st, x2)]).map Prod.fst) ∧ Below w.heap.size w w7) := fun v6 w6 hO6 hg6 hn6 => by
        have hg6' : w5.grownBy w6 (atD f st).ownBlock := ⟨hg6.os, hg6.tape, hg6.output, hg6.size, hg6.block⟩
        have hT6 := Turn.of_grown hg6'
        have hown := hD5.own st
        have hM6 : MapU w6 w.heap.size n f := hD5.1.turn hT6 (fun hm => by have := (hown.lt w.heap.size (by simpa using hm)).1; omega)
        obtain ⟨w7, hst7, hM7, hT7⟩ := hM6.store Try.underlying79 (by omega) v6 hss
        have hq6 := hq5.turn hT6 (fun hm => Rw.ne_row hq5 hown (by decide) (by simpa using hm) rfl)
        have hO6t : BR.Own w6 (w.heap.size + 1) tv ((K ++ [(bs st, x2)]).map Prod.fst) := World.ownsRow.kept hO5' hg6' (by
          cases hb : tv.ownBlock with
          | none => exact .inl rfl
          | some g =>
            refine .inr fun e => ?_
            have hcur : f st = some (atD f st) := by
              unfold atD at e ⊢
              cases hf : f st with
              | some v => rfl
              | none => rw [hf] at e; simp [Value.ownBlock] at e
            exact hD5.2.2.2.2 st _ g hcur e.symm hb)
        have hB6 := hB5.trans (hT6.below' hB5.size (fun x hx => by have := (hown.lt x (by simpa using hx)).1; omega))
        have hq7 := hq6.turn hT7 (by simp; omega)
        refine ⟨w7, hst7, hq6.cell 0, hq6.cell 1, hq7.cell 0, hq7.cell 1, ⟨_, _, ?_, hD5.put (by omega) hO6 hg6' hn6 htv hM7 hT7⟩, Row.turn hO6t hT7 (fun g hg hm => by rw [List.mem_singleton] at hm; have := (hO6t.lt g hg).1; omega), hT7.bel hB6 (by simp)⟩
        split <;> omega
      have hlk : (Instr.lookup 79 (.map (some w.heap.size)) (.string st) false).run Try.prog w5.drew = .ok (atD f st) w5.drew := (hD5.below ((Below.refl _ w5).drew)).look hss
      have hOc : BR.Own w5.drew (w.heap.size + 1) (atD f st) (Dp.dof (bs st) K) := hD5.own st
      have hWd : BR.Sl w5.drew B (.slice ad1 x2.length c2) x2 := hW5.below ((Below.refl w5.heap.size w5).drew) (by omega)
      have HLd : Hid ((Dp.dof (bs st) K).length + x2.length ≤ 1099511627) := by have := HDL.out; show _ ≤ _; omega
      have hbs5 : w.heap.size + 1 ≤ w5.drew.heap.size := by show _ ≤ w5.heap.size; omega
      have k0 : w5.drew.cell? ⟨q, 0, none⟩ = some (.string st) := hq5.cell 0
      have k1 : w5.drew.cell? ⟨q, 1, none⟩ = some (.slice ad1 x2.length c2) := hq5.cell 1
      have k0' : w5.cell? ⟨q, 0, none⟩ = some (.string st) := hq5.cell 0
      have k1' : w5.cell? ⟨q, 1, none⟩ = some (.slice ad1 x2.length c2) := hq5.cell 1
      clear hD5 hq5 hB5 hW5 hO5' htv HDL
      generalize Dp.dof (bs st) K = DK at *
      generalize atD f st = cur at *
      go_upto_region 7 with fail
      go_region_held3 (fun X : World => X.cell? ⟨q, 0, none⟩ = some (.string st) ∧ X.cell? ⟨q, 1, none⟩ = some (.slice ad1 x2.length c2))
        (first | exact ⟨by assumption, by assumption⟩ | assumption)
        (first | (refine Rc.step_any BR ?_ (.tmp 28) (.tmp 30) ?_ (w.heap.size + 1) B cur (.slice ad1 x2.length c2) DK x2 ?_ hOc ?_ hWd HLd hbs5 ?_; (next => rfl); (next => rfl); (next => rfl); (next => rfl); intro v6 w6 hO6 hg6 hn6; obtain ⟨w7, hst7, y0, y1, z0, z1, HD7, hO7, hB7⟩ := HP.out v6 w6 hO6 hg6 hn6) | fail)
      obtain ⟨n', f', hn', hD7⟩ := HD7
      rw [← HTK2.out] at hD7 hO7
      clear hlk HP k0 k1 k0' k1' y0 y1 z0 z1 hOc hWd
      go_wp2
      exact ⟨⟨i + 1, n', by omega, by omega, by go_num, hO7, ⟨f', hD7⟩, hB7⟩, by simp [intOf]; omega⟩
    · obtain rfl : i = A.length := by omega
      have i1 : ¬ (A.length : Int) < (A.length : Int) := by omega
      have HKM : Hid (∀ u ∈ A.take A.length, u ∈ A) := fun u hu => by rwa [List.take_length] at hu
      have HDL : Hid (∀ t, (Dp.dof t (A.take A.length)).length ≤ 1000000) := fun t => HDN.out t A.length
      have hKL : (A.take A.length).length ≤ 1000000 := by rw [List.take_length]; exact hbA
      generalize A.take A.length = K at *
      have hone := once_any _ (K.map Prod.fst) wr wr.heap.size hO.sl (Nat.le_refl _) (by rw [List.length_map]; omega) (fun x hx => by
        obtain ⟨u, hu, rfl⟩ := List.mem_map.1 hx
        have := (HWL.out u (HKM.out u hu)).1
        omega)
      go_wp2_with fail
      refine hone.mono ?_
      rintro e W8 ⟨v8, rfl, hO8, hB8⟩
      have hD8 := hD.below hB8
      have hBe8 := hBe.trans (hB8.mono hBe.size)
      have hz8 := hB8.size
      have HMM : Hid (∀ t ∈ Dp.adds [] (K.map Prod.fst), t ∈ K.map Prod.fst) := fun t ht => by
        rw [Dp.mem_adds] at ht
        exact ht.elim (fun h => by cases h) id
      have HTL : Hid (∀ t ∈ Dp.adds [] (K.map Prod.fst), t.length ≤ 1000000) := fun t ht => by
        obtain ⟨u, hu, rfl⟩ := List.mem_map.1 (HMM.out t ht)
        exact (HWL.out u (HKM.out u hu)).1
      have hTl : (Dp.adds [] (K.map Prod.fst)).length ≤ 1000000 := by
        have := Dp.adds_len [] (K.map Prod.fst)
        rw [List.length_map] at this
        simp only [List.length_nil] at this
        omega
      clear hO hD hBe hone hB8 HMM
      generalize Dp.adds [] (K.map Prod.fst) = T at *
      have HFT : Hid (M = (T.take T.length).map fun t => (t, Dp.adds [] (Dp.dof t K))) := by show _ = _; rw [List.take_length]; exact HFIN.out
      clear HFIN
      obtain ⟨ta, tc, rfl, htc⟩ := hO8.sl.shape
      have HKEEP : Hid (∀ W, Below W8.heap.size W8 W → BR.Sl W W8.heap.size (.slice ta T.length tc) T ∧ Below w.heap.size w W ∧ ∀ t, t.length ≤ 1000000 → (Instr.lookup 79 (.map (some w.heap.size)) (.string (str t)) false).run Try.prog W = .ok (atD f (str t)) W ∧ BR.Sl W W8.heap.size (atD f (str t)) (Dp.dof t K)) := fun W hW => by
        refine ⟨hO8.sl.below hW (Nat.le_refl _), hBe8.trans (hW.mono hBe8.size), fun t ht => ?_⟩
        have hDW := hD8.below hW
        have h1 := hDW.look (x := str t) (by rw [str_size]; omega)
        have h2 := (hD8.own (str t)).sl.below hW (Nat.le_refl _)
        rw [bs_str] at h2
        exact ⟨h1, h2⟩
      clear hD8 hO8 hBe8
      go_wp2
      go_loopw [7, 36] (fun vo k wr => ∃ (j : Nat) (ps : List (RawD × Dp.Rule)), j ≤ T.length ∧ k = .int .i64 (j : Int) ∧ Drs wr W8.heap.size vo ps ∧ Hid (ps.map Prod.snd = (T.take j).map fun t => (t, Dp.adds [] (Dp.dof t K))) ∧ Below W8.heap.size W8 wr) (fun _ k _ => T.length - (intOf k).toNat)
      case atStart => exact ⟨0, [], Nat.zero_le _, rfl, Drs.nil _ _, rfl, Below.refl _ _⟩
      case round =>
        obtain ⟨j, ps, hj, rfl, hDr, HPS, hBq⟩ := hrel
        obtain ⟨hTs, hBw, hAt⟩ := HKEEP.out _ hBq
        obtain ⟨oa, oc, hov0, hoc⟩ := hDr.row.sl.shape
        rw [List.length_map] at hov0 hoc
        subst hov0
        by_cases hjl : j < T.length
        · have j1 : (j : Int) < (T.length : Int) := by omega
          obtain ⟨b2, o2, cc2, e, hb2, r0⟩ := BR.ix hTs hjl
          simp only [Value.slice.injEq] at e
          obtain ⟨rfl, -, rfl⟩ := e
          have htl := HTL.out T[j] (List.getElem_mem hjl)
          have hpl : ps.length ≤ j := by
            have := congrArg List.length HPS.out
            rw [List.length_map, List.length_map, List.length_take] at this
            omega
          have HTJ : Hid ((T.take (j + 1)).map (fun t => (t, Dp.adds [] (Dp.dof t K))) = ps.map Prod.snd ++ [(T[j], Dp.adds [] (Dp.dof T[j] K))]) := by
            show _ = _
            rw [List.take_succ_eq_append_getElem hjl, List.map_append, HPS.out]
            rfl
          obtain ⟨hlk, hrw⟩ := hAt T[j] htl
          have hdl := HDL.out T[j]
          have hon := once_any _ (Dp.dof T[j] K) wr W8.heap.size hrw hBq.size (by omega) (fun x hx => by
            obtain ⟨u, hu, hxu⟩ := Dp.dof_mem hx
            have := (HWL.out u (HKM.out u hu)).2.2 x hxu
            omega)
          generalize T[j] = t at *
          obtain ⟨st, hst⟩ : ∃ st, str t = st := ⟨_, rfl⟩
          rw [hst] at r0 hlk hon
          have HST : Hid (str t = st) := hst
          clear hAt hrw hst hTs HPS
          generalize atD f st = cur at *
          generalize Dp.adds [] (Dp.dof t K) = D at *
          go_wp2_with fail
          refine hon.mono ?_
          rintro e W9 ⟨v9, rfl, hO9, hB9⟩
          obtain ⟨va, vc, rfl, hvc⟩ := hO9.sl.shape
          have hDr9 := hDr.below hB9 (Nat.le_refl _)
          have HAP : Hid (∀ g, (Value.slice va D.length vc).ownBlock = some g → ∀ p ∈ ps, p.1.deps.ownBlock ≠ some g) := fun g hg p hp e => by
            have h1 := (hO9.lt g hg).1
            have h2 := (hDr.lt hp e).2
            omega
          have hBq9 := hBq.trans (hB9.mono hBq.size)
          have hz9 := hBq.size
          have hL := DrR.lit W9 ⟨t, va, D.length, vc⟩ #[.string st, .slice va D.length vc] (by rw [← HST.out]; rfl)
          have hD4 := hDr9.alloc (.cells #[.string st, .slice va D.length vc] 32)
          have hO4 := hO9.alloc (.cells #[.string st, .slice va D.length vc] 32)
          have hB4 := hBq9.alloc hBq9.size (.cells #[.string st, .slice va D.length vc] 32)
          have hrow4 : DrR.Own (W9.alloc (.cells #[.string st, .slice va D.length vc] 32)) W8.heap.size (.slice oa ps.length oc) (ps.map Prod.fst) := hD4.row
          have HLn : Hid ((ps.map Prod.fst).length + [(⟨t, va, D.length, vc⟩ : RawD)].length ≤ 1099511627) := by show _ ≤ _; simp only [List.length_map, List.length_cons, List.length_nil]; omega
          have HY : Hid (∀ v5 w5, DrR.Own w5 W8.heap.size v5 (ps.map Prod.fst ++ [⟨t, va, D.length, vc⟩]) → (W9.alloc (.cells #[.string st, .slice va D.length vc] 32)).grownBy w5 (Value.slice oa ps.length oc).ownBlock → Below W8.heap.size W8 w5 ∧ Drs w5 W8.heap.size v5 (ps ++ [((⟨t, va, D.length, vc⟩ : RawD), ((t, D) : Dp.Rule))])) := fun v5 w5 hO5 hg5 => by
            have hT5 := Turn.of_grown hg5
            refine ⟨hB4.trans (hT5.below' hB4.size (fun x hx => (hrow4.lt x (by simpa using hx)).1)), hD4.push (by rw [List.map_append]; exact hO5) hg5 ⟨rfl, ?_⟩ HAP⟩
            exact Rc.Own.low (World.ownsRow.kept hO4 hg5 (own_apart hO4 hrow4 (by decide))) hz9
          have HPJ : Hid ((ps ++ [((⟨t, va, D.length, vc⟩ : RawD), ((t, D) : Dp.Rule))]).map Prod.snd = (T.take (j + 1)).map fun t => (t, Dp.adds [] (Dp.dof t K))) := by
            show _ = _
            rw [HTJ.out, List.map_append]
            rfl
          have hbs4 := hB4.size
          clear hD4 hO4 hB4 HAP hDr9 hO9 hBq9 hDr hBq hlk hB9 hon HTJ
          go_wp2_with (at_builtin; go_must (refine DrR.append_at rfl _ _ rfl W8.heap.size (W9.heap.size + 1) _ _ (ps.map Prod.fst) [⟨t, va, D.length, vc⟩] rfl hrow4 rfl hL (by simp) HLn hbs4 ?_))
          intro g cap w5 hO5 hg5 hw5 hlt5
          obtain ⟨hB5, hD5⟩ := HY.out _ w5 hO5 hg5
          go_wp2
          exact ⟨⟨j + 1, _, by omega, by go_num, hD5, HPJ, hB5⟩, by simp [intOf]; omega⟩
        · obtain rfl : j = T.length := by omega
          have j1 : ¬ (T.length : Int) < (T.length : Int) := by omega
          have HR : Hid (M = ps.map Prod.snd) := HFT.out.trans HPS.out.symm
          have hz := hBq.size
          go_wp2
          go_ret
          rw [HR.out]
          exact ⟨_, rfl, hDr.own.low (by omega), hBw⟩

end Go.Proofs.Ytppcfidaalejfaa
