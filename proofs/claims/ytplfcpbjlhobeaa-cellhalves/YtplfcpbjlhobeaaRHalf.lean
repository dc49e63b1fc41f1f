/-
  THE WALK OF THE DOCUMENT's Half: of a well-formed node.
-/
import Derived.Test.YtplfcpbjlhobeaaRCut
import Derived.Test.YtplfcpbjlhobeaaRFormL
import Derived.Test.YtplfcpbjlhobeaaCHalf
namespace Go.Proofs.Ytplfcpbjlhobeaa
open Go.RowKit

theorem RForm_any (n : Cm.Nd) (v : Value) (B : Nat) (w : World) (hv : NdS w B v n) (hB : B ≤ w.heap.size) (hl : n.items.length ≤ 1000000) (hf : Cm.Fit n) :
    Calls Try.prog 41 #[v] w fun e w' => ∃ ad c, e = .returned (.slice ad (Cm.form n).length c) ∧ Below w.heap.size w w' := by
  refine (Form_any n v B w hv hB hl hf).mono ?_
  rintro e w' ⟨v', rfl, ho, hb⟩
  obtain ⟨ad, c, rfl, -⟩ := ho.byts
  exact ⟨ad, c, rfl, hb⟩

theorem e_st (W : World) {b q : Nat} (hne : b ≠ q) (u0 u1 u2 : Value) : (((W.setCell ⟨q, 0, none⟩ u0).setCell ⟨q, 1, none⟩ u1).setCell ⟨q, 2, none⟩ u2).heap[b]? = W.heap[b]? :=
  (Below.heap_setCell _ ⟨q, 2, none⟩ u2 b hne).trans ((Below.heap_setCell _ ⟨q, 1, none⟩ u1 b hne).trans (Below.heap_setCell W ⟨q, 0, none⟩ u0 b hne))
theorem nds_down {w X : World} {B : Nat} {v : Value} {n : Cm.Nd} (h : Below w.heap.size w X) (hB : B ≤ w.heap.size) (hX : NdS X B v n) : NdS w B v n := by
  obtain ⟨vi, vk, rfl, ⟨ad, c, rfl, h1, h2, h3⟩, ⟨kd, d, rfl, h4, h5, h6⟩⟩ := hX
  refine ⟨_, _, rfl, ⟨ad, c, rfl, h1, h2, fun hne => ?_⟩, ⟨kd, d, rfl, h4, h5, fun hne => ?_⟩⟩
  · obtain ⟨b, o, rfl, hb, hc⟩ := h3 hne
    refine ⟨b, o, rfl, hb, fun j hj => ?_⟩
    obtain ⟨c0, c1, c2, c3⟩ := hc j hj
    have e := (h.block b (Nat.lt_of_lt_of_le hb hB)).symm
    exact ⟨(World.cell?_of_block (a := ⟨b, o + j * 4, none⟩) e).trans c0, (World.cell?_of_block (a := ⟨b, o + j * 4 + 1, none⟩) e).trans c1, (World.cell?_of_block (a := ⟨b, o + j * 4 + 2, none⟩) e).trans c2, (World.cell?_of_block (a := ⟨b, o + j * 4 + 3, none⟩) e).trans c3⟩
  · obtain ⟨b, o, rfl, hb, hc⟩ := h6 hne
    exact ⟨b, o, rfl, hb, fun j hj => (World.cell?_of_block (a := ⟨b, o + j, none⟩) (h.block b (Nat.lt_of_lt_of_le hb hB)).symm).trans (hc j hj)⟩
theorem best_succ (f : Nat → Nat) (k : Nat) : Cm.best f (k + 1) = if (Cm.best f k).1 = 0 ∨ f (k + 1) < (Cm.best f k).2 then (k + 1, f (k + 1)) else Cm.best f k := rfl

set_option maxRecDepth 100000 in
set_option maxHeartbeats 4000000 in
theorem RHalf_any (n : Cm.Nd) (v : Value) (B : Nat) (w : World) (hv : NdS w B v n) (hB : B ≤ w.heap.size) (hl : n.items.length ≤ 1000000) (hr : Cm.Right n) :
    Calls Try.prog 18 #[v] w fun e w' => ((Cm.half n = .none ∧ e = .returned (.tuple #[.agg #[.bool false, .slice none 0 0, .slice none 0 0], .string ⟨#[]⟩, .agg #[.bool false, .slice none 0 0, .slice none 0 0], .bool false])) ∨
      ∃ a key b va vb, Cm.half n = some (a, key, b) ∧ e = .returned (.tuple #[va, .string key, vb, .bool true]) ∧ NdS w B va a ∧ NdS w B vb b) ∧ Below w.heap.size w w' := by
  obtain ⟨vi, vk, rfl, ⟨ad, c, rfl, hc, hn, hi⟩, ⟨kd, d, rfl, hd, hkn, hki⟩⟩ := id hv
  have Hr : Hid (Cm.Right n) := hr
  have HI : Hid _ := hi
  obtain ⟨lf, hlf⟩ : ∃ lf, n.leaf = lf := ⟨_, rfl⟩
  rw [hlf] at hv ⊢
  have Hlf : Hid (n.leaf = lf) := hlf
  have HN : Hid (∀ W : World, Below w.heap.size w W → NdS W B (.agg #[.bool lf, .slice ad n.items.length c, .slice kd n.kids.length d]) n) := fun W h => hv.below h hB
  have Hkl : Hid (lf = false → n.kids.length = n.items.length + 1) := fun h => by
    have := Hr.out.2
    rw [if_neg (by rw [Hlf.out, h]; simp)] at this
    exact this.2.2
  have HC : Hid (∀ (k : Nat) (W : World), k + 1 ≤ Cm.places n → Below w.heap.size w W → Calls Try.prog 40 #[.agg #[.bool lf, .slice ad n.items.length c, .slice kd n.kids.length d], .int .i64 ((k : Int) + 1)] W fun e w' => ∃ va vb, e = .returned (.tuple #[va, vb]) ∧ NdS W B va (Cm.cutL n (k + 1)) ∧ NdS W B vb (Cm.cutR n (k + 1)) ∧ Below W.heap.size W w') :=
    fun k W hk h => by
      have hp := Cm.places_lt (m := n) (i := k + 1) (by omega) hk
      have e : ((k : Int) + 1) = ((k + 1 : Nat) : Int) := by omega
      rw [e]
      exact cut_any n (k + 1) _ B W (HN.out W h) (by omega) hl fun hf => ⟨by have := hp.2 hf; omega, Hkl.out (by rw [← Hlf.out]; exact hf)⟩
  have HF : Hid (∀ (k : Nat) (W : World) (va vb : Value), k + 1 ≤ Cm.places n → B ≤ W.heap.size → NdS W B va (Cm.cutL n (k + 1)) → NdS W B vb (Cm.cutR n (k + 1)) →
      (Calls Try.prog 41 #[va] W fun e w' => ∃ ad c, e = .returned (.slice ad (Cm.form (Cm.cutL n (k + 1))).length c) ∧ Below W.heap.size W w') ∧
      (Calls Try.prog 41 #[vb] W fun e w' => ∃ ad c, e = .returned (.slice ad (Cm.form (Cm.cutR n (k + 1))).length c) ∧ Below W.heap.size W w')) :=
    fun k W va vb hk hBW ha hb => by
      have hp := Cm.places_lt (m := n) (i := k + 1) (by omega) hk
      refine ⟨RForm_any _ va B W ha hBW ?_ (Cm.Right.fit (Cm.right_cutL Hr.out (by omega) hk)), RForm_any _ vb B W hb hBW ?_ (Cm.Right.fit (Cm.right_cutR Hr.out (by omega) hk))⟩
      · rw [Cm.cutL_items, List.length_take]; omega
      · cases hq : n.leaf with
        | true => rw [Cm.cutR_items_leaf n _ hq, List.length_drop]; omega
        | false => rw [Cm.cutR_items_inner n _ hq, List.length_drop]; omega
  have Hp6 : Hid (Cm.places n ≤ 1000000) := by show _ ≤ _; unfold Cm.places; split <;> omega
  obtain ⟨L, hL⟩ : ∃ L : Int, L = (n.items.length : Int) - (if lf = true then 1 else 2) := ⟨_, rfl⟩
  have HL : Hid (∀ k : Nat, ((k : Int) + 1 ≤ L ↔ k + 1 ≤ Cm.places n)) := fun k => by
    rw [hL]; unfold Cm.places; rw [Hlf.out]; cases lf <;> simp <;> omega
  have hlt' : lf = true → (n.items.length : Int) - 1 = L := fun h => by rw [hL, if_pos h]
  have hlf' : lf = false → (n.items.length : Int) - 2 = L := fun h => by rw [hL, if_neg (by rw [h]; simp)]
  have hW0 : Below w.heap.size w (((w.alloc (.cells #[.bool lf, .slice ad n.items.length c, .slice kd n.kids.length d] 28)).alloc (.cells #[.bool false, .slice none 0 0, .slice none 0 0] 28)).alloc (.cells #[.bool false, .slice none 0 0, .slice none 0 0] 28)) := (((Below.refl w.heap.size w).alloc (Nat.le_refl _) _).alloc (by simp) _).alloc (by simp; omega) _
  have hn0 : (((w.alloc (.cells #[.bool lf, .slice ad n.items.length c, .slice kd n.kids.length d] 28)).alloc (.cells #[.bool false, .slice none 0 0, .slice none 0 0] 28)).alloc (.cells #[.bool false, .slice none 0 0, .slice none 0 0] 28)).heap[w.heap.size]? = some (.cells #[.bool lf, .slice ad n.items.length c, .slice kd n.kids.length d] 28 (0, 0)) := k_al (k_al (heap_alloc_new w _) _) _
  have ha0 : (((w.alloc (.cells #[.bool lf, .slice ad n.items.length c, .slice kd n.kids.length d] 28)).alloc (.cells #[.bool false, .slice none 0 0, .slice none 0 0] 28)).alloc (.cells #[.bool false, .slice none 0 0, .slice none 0 0] 28)).heap[w.heap.size + 1]? = some (.cells #[.bool false, .slice none 0 0, .slice none 0 0] 28 (0, 0)) := k_al (by have := heap_alloc_new (w.alloc (.cells #[.bool lf, .slice ad n.items.length c, .slice kd n.kids.length d] 28)) (.cells #[.bool false, .slice none 0 0, .slice none 0 0] 28); simpa using this) _
  have hb0 : (((w.alloc (.cells #[.bool lf, .slice ad n.items.length c, .slice kd n.kids.length d] 28)).alloc (.cells #[.bool false, .slice none 0 0, .slice none 0 0] 28)).alloc (.cells #[.bool false, .slice none 0 0, .slice none 0 0] 28)).heap[w.heap.size + 2]? = some (.cells #[.bool false, .slice none 0 0, .slice none 0 0] 28 (0, 0)) := by have := heap_alloc_new ((w.alloc (.cells #[.bool lf, .slice ad n.items.length c, .slice kd n.kids.length d] 28)).alloc (.cells #[.bool false, .slice none 0 0, .slice none 0 0] 28)) (.cells #[.bool false, .slice none 0 0, .slice none 0 0] 28); simpa using this
  have HH0 : Hid (HInv w _ lf (.slice ad n.items.length c) (.slice kd n.kids.length d)) := ⟨hn0, ha0, hb0, hW0⟩
  clear hi hki hv hr hlf hL hW0 hn0 ha0 hb0 hc hn hd hkn
  go_enter Try.func18, Try.ntmps18
  cases lf with
  | true =>
    have hL1 := hlt' rfl
    clear hlt' hlf'
    go_wp2
    rw [show w.heap.size + 1 + 1 = w.heap.size + 2 by omega]
    generalize ((w.alloc (.cells #[.bool true, .slice ad n.items.length c, .slice kd n.kids.length d] 28)).alloc (.cells #[.bool false, .slice none 0 0, .slice none 0 0] 28)).alloc (.cells #[.bool false, .slice none 0 0, .slice none 0 0] 28) = W0 at *
    clear hL1
    go_loopw [7, 8, 9] (fun at_ least i wr => ∃ k : Nat, k ≤ Cm.places n ∧ i = .int .i64 ((k : Int) + 1) ∧ at_ = .int .i64 ((Cm.best (Cm.cost n) k).1 : Int) ∧ least = .int .i64 ((Cm.best (Cm.cost n) k).2 : Int) ∧ HInv w wr true (.slice ad n.items.length c) (.slice kd n.kids.length d))
      (fun _ _ i _ => Cm.places n + 1 - (intOf i).toNat)
    case atStart => exact ⟨0, Nat.zero_le _, rfl, rfl, rfl, HH0.out⟩
    case round =>
      obtain ⟨k, hk, rfl, rfl, rfl, hH⟩ := hrel
      obtain ⟨n0, n1, n2⟩ := cells3_of hH.nd
      by_cases hlt : k + 1 ≤ Cm.places n
      · have hcond : (k : Int) + 1 ≤ L := (HL.out k).2 hlt
        go_wp2_with fail
        refine (HC.out k wr hlt hH.be).mono ?_
        rintro e w2 ⟨va, vb, rfl, hA, hB2, hb2⟩
        have HHa := hH.below hb2
        have HA : Hid (NdS w2 B va _) := hA.below hb2 (Nat.le_trans hB hH.be.size)
        have HB2 : Hid (NdS w2 B vb _) := hB2.below hb2 (Nat.le_trans hB hH.be.size)
        obtain ⟨vai, vak, rfl, ⟨aa, ca, rfl, -⟩, ⟨ka, da, rfl, -⟩⟩ := hA
        obtain ⟨vbi, vbk, rfl, ⟨ab, cb, rfl, -⟩, ⟨kb, db, rfl, -⟩⟩ := hB2
        clear n0 n1 n2
        obtain ⟨n0, n1, n2⟩ := cells3_of HHa.nd
        go_wp2_with fail
        have hq1 : ((w2.alloc (.cells #[.bool (Cm.cutL n (k + 1)).leaf, .slice aa (Cm.cutL n (k + 1)).items.length ca, .slice ka (Cm.cutL n (k + 1)).kids.length da] 28)).alloc (.cells #[.bool (Cm.cutR n (k + 1)).leaf, .slice ab (Cm.cutR n (k + 1)).items.length cb, .slice kb (Cm.cutR n (k + 1)).kids.length db] 28)).heap[w2.heap.size]? = some (.cells #[.bool (Cm.cutL n (k + 1)).leaf, .slice aa (Cm.cutL n (k + 1)).items.length ca, .slice ka (Cm.cutL n (k + 1)).kids.length da] 28 (0, 0)) := k_al (heap_alloc_new w2 _) _
        have hq2 : ((w2.alloc (.cells #[.bool (Cm.cutL n (k + 1)).leaf, .slice aa (Cm.cutL n (k + 1)).items.length ca, .slice ka (Cm.cutL n (k + 1)).kids.length da] 28)).alloc (.cells #[.bool (Cm.cutR n (k + 1)).leaf, .slice ab (Cm.cutR n (k + 1)).items.length cb, .slice kb (Cm.cutR n (k + 1)).kids.length db] 28)).heap[w2.heap.size + 1]? = some (.cells #[.bool (Cm.cutR n (k + 1)).leaf, .slice ab (Cm.cutR n (k + 1)).items.length cb, .slice kb (Cm.cutR n (k + 1)).kids.length db] 28 (0, 0)) := by have := heap_alloc_new (w2.alloc (.cells #[.bool (Cm.cutL n (k + 1)).leaf, .slice aa (Cm.cutL n (k + 1)).items.length ca, .slice ka (Cm.cutL n (k + 1)).kids.length da] 28)) (.cells #[.bool (Cm.cutR n (k + 1)).leaf, .slice ab (Cm.cutR n (k + 1)).items.length cb, .slice kb (Cm.cutR n (k + 1)).kids.length db] 28); simpa using this
        have hH3 := (HHa.alloc (.cells #[.bool (Cm.cutL n (k + 1)).leaf, .slice aa (Cm.cutL n (k + 1)).items.length ca, .slice ka (Cm.cutL n (k + 1)).kids.length da] 28)).alloc (.cells #[.bool (Cm.cutR n (k + 1)).leaf, .slice ab (Cm.cutR n (k + 1)).items.length cb, .slice kb (Cm.cutR n (k + 1)).kids.length db] 28)
        have hA3 : NdS ((w2.alloc (.cells #[.bool (Cm.cutL n (k + 1)).leaf, .slice aa (Cm.cutL n (k + 1)).items.length ca, .slice ka (Cm.cutL n (k + 1)).kids.length da] 28)).alloc (.cells #[.bool (Cm.cutR n (k + 1)).leaf, .slice ab (Cm.cutR n (k + 1)).items.length cb, .slice kb (Cm.cutR n (k + 1)).kids.length db] 28)) B _ _ := (HA.out.alloc (Nat.le_trans hB HHa.be.size) (.cells #[.bool (Cm.cutL n (k + 1)).leaf, .slice aa (Cm.cutL n (k + 1)).items.length ca, .slice ka (Cm.cutL n (k + 1)).kids.length da] 28)).alloc (by have := HHa.be.size; simp; omega) (.cells #[.bool (Cm.cutR n (k + 1)).leaf, .slice ab (Cm.cutR n (k + 1)).items.length cb, .slice kb (Cm.cutR n (k + 1)).kids.length db] 28)
        have hB3 : NdS ((w2.alloc (.cells #[.bool (Cm.cutL n (k + 1)).leaf, .slice aa (Cm.cutL n (k + 1)).items.length ca, .slice ka (Cm.cutL n (k + 1)).kids.length da] 28)).alloc (.cells #[.bool (Cm.cutR n (k + 1)).leaf, .slice ab (Cm.cutR n (k + 1)).items.length cb, .slice kb (Cm.cutR n (k + 1)).kids.length db] 28)) B _ _ := (HB2.out.alloc (Nat.le_trans hB HHa.be.size) (.cells #[.bool (Cm.cutL n (k + 1)).leaf, .slice aa (Cm.cutL n (k + 1)).items.length ca, .slice ka (Cm.cutL n (k + 1)).kids.length da] 28)).alloc (by have := HHa.be.size; simp; omega) (.cells #[.bool (Cm.cutR n (k + 1)).leaf, .slice ab (Cm.cutR n (k + 1)).items.length cb, .slice kb (Cm.cutR n (k + 1)).kids.length db] 28)
        generalize ((w2.alloc (.cells #[.bool (Cm.cutL n (k + 1)).leaf, .slice aa (Cm.cutL n (k + 1)).items.length ca, .slice ka (Cm.cutL n (k + 1)).kids.length da] 28)).alloc (.cells #[.bool (Cm.cutR n (k + 1)).leaf, .slice ab (Cm.cutR n (k + 1)).items.length cb, .slice kb (Cm.cutR n (k + 1)).kids.length db] 28)) = W3 at *
        have hq3 := lt_of_heap hq2
        have HFa : Hid (∀ X : World, Below W3.heap.size W3 X → Calls Try.prog 41 #[.agg #[.bool (Cm.cutL n (k + 1)).leaf, .slice aa (Cm.cutL n (k + 1)).items.length ca, .slice ka (Cm.cutL n (k + 1)).kids.length da]] X fun e w' => ∃ ad c, e = .returned (.slice ad (Cm.form (Cm.cutL n (k + 1))).length c) ∧ Below X.heap.size X w') := fun X h => (HF.out k X _ _ hlt (by have := h.size; have := hH3.be.size; omega) (hA3.below h (by have := hH3.be.size; omega)) (hB3.below h (by have := hH3.be.size; omega))).1
        have HFb : Hid (∀ X : World, Below W3.heap.size W3 X → Calls Try.prog 41 #[.agg #[.bool (Cm.cutR n (k + 1)).leaf, .slice ab (Cm.cutR n (k + 1)).items.length cb, .slice kb (Cm.cutR n (k + 1)).kids.length db]] X fun e w' => ∃ ad c, e = .returned (.slice ad (Cm.form (Cm.cutR n (k + 1))).length c) ∧ Below X.heap.size X w') := fun X h => (HF.out k X _ _ hlt (by have := h.size; have := hH3.be.size; omega) (hA3.below h (by have := hH3.be.size; omega)) (hB3.below h (by have := hH3.be.size; omega))).2
        have HK : Hid (Cm.cost n (k + 1) = max (Cm.form (Cm.cutL n (k + 1))).length (Cm.form (Cm.cutR n (k + 1))).length) := rfl
        have HBs : Hid _ := best_succ (Cm.cost n) k
        generalize (Cm.cutL n (k + 1)).leaf = xl at *
        generalize (Cm.cutL n (k + 1)).items.length = x1 at *
        generalize (Cm.cutL n (k + 1)).kids.length = x2 at *
        generalize (Cm.cutR n (k + 1)).leaf = yl at *
        generalize (Cm.cutR n (k + 1)).items.length = y1 at *
        generalize (Cm.cutR n (k + 1)).kids.length = y2 at *
        generalize (Cm.form (Cm.cutL n (k + 1))).length = fa at *
        generalize (Cm.form (Cm.cutR n (k + 1))).length = fb at *
        have HSX : Hid (∀ X : World, Below W3.heap.size W3 X → X.cell? ⟨w2.heap.size, 0, none⟩ = some (.bool xl) ∧ X.cell? ⟨w2.heap.size, 1, none⟩ = some (.slice aa x1 ca) ∧ X.cell? ⟨w2.heap.size, 2, none⟩ = some (.slice ka x2 da) ∧ X.cell? ⟨w2.heap.size + 1, 0, none⟩ = some (.bool yl) ∧ X.cell? ⟨w2.heap.size + 1, 1, none⟩ = some (.slice ab y1 cb) ∧ X.cell? ⟨w2.heap.size + 1, 2, none⟩ = some (.slice kb y2 db)) := fun X h => by
          obtain ⟨f0, f1, f2⟩ := cells3_of ((h.block _ (by omega)).trans hq1)
          obtain ⟨f3, f4, f5⟩ := cells3_of ((h.block _ (by omega)).trans hq2)
          exact ⟨f0, f1, f2, f3, f4, f5⟩
        have J0 : Below W3.heap.size W3 W3.drew := ⟨rfl, rfl, rfl, Nat.le_refl _, fun _ _ => rfl⟩
        have HH3 : Hid _ := hH3
        clear hq1 hq2 hA3 hB3 HA HB2 n0 n1 n2 hH hH3 HHa hb2
        refine wp_region_held_drew (S := fun X : World => X.cell? ⟨w2.heap.size, 0, none⟩ = some (.bool xl) ∧ X.cell? ⟨w2.heap.size, 1, none⟩ = some (.slice aa x1 ca) ∧ X.cell? ⟨w2.heap.size, 2, none⟩ = some (.slice ka x2 da) ∧ X.cell? ⟨w2.heap.size + 1, 0, none⟩ = some (.bool yl) ∧ X.cell? ⟨w2.heap.size + 1, 1, none⟩ = some (.slice ab y1 cb) ∧ X.cell? ⟨w2.heap.size + 1, 2, none⟩ = some (.slice kb y2 db)) (by kernel_rfl) (HSX.out _ J0) (fun hHeld => ?_)
        refine wpAnyH_take (i := 0) (v := ?_) rfl (by kernel_rfl) (by kernel_rfl) (by kernel_rfl) (fun _ _ _ h => h) (Or.inl ⟨(by simp [Region.wanted]), ?_⟩) (hHeld) ?_
        rotate_left
        · (intro w hSw; (try dsimp only at hSw); ((go_simp) <;> (with_reducible rfl)))
        try simp only [Act.put, List.setIfInBounds_toArray]
        refine wpAnyH_take (i := 3) (v := ?_) rfl (by kernel_rfl) (by kernel_rfl) (by kernel_rfl) (fun _ _ _ h => h) (Or.inl ⟨(by simp [Region.wanted]), ?_⟩) (hHeld) ?_
        rotate_left
        · (intro w hSw; (try dsimp only at hSw); ((go_simp) <;> (with_reducible rfl)))
        try simp only [Act.put]
        refine wpAnyH_ready (rs := [1]) (by kernel_rfl) (by simp) ?_
        refine AllReadyH.cons rfl (fun K hK => ?_) AllReadyH.nil
        go_simp
        refine (HFa.out _ J0).mono ?_
        rintro e w4 ⟨ad4, c4, rfl, hb4⟩
        have J4 : Below W3.heap.size W3 w4 := J0.trans (hb4.mono J0.size)
        clear hb4
        try go_wp2_with fail
        refine hK.out _ _ (HSX.out _ J4) (fun hHeld => ?_)
        clear hK K
        try simp only [Act.put, List.setIfInBounds_toArray, List.set_cons_zero, List.set_cons_succ]
        refine wpAnyH_take (i := 2) (v := ?_) rfl (by kernel_rfl) (by kernel_rfl) (by kernel_rfl) (fun _ _ _ h => h) (Or.inl ⟨(by simp [Region.wanted]), ?_⟩) (hHeld) ?_
        rotate_left
        · (intro w hSw; (try dsimp only at hSw); ((go_simp) <;> (with_reducible rfl)))
        try simp only [Act.put, List.setIfInBounds_toArray]
        refine wpAnyH_ready (rs := [4]) (by kernel_rfl) (by simp) ?_
        refine AllReadyH.cons rfl (fun K hK => ?_) AllReadyH.nil
        go_simp
        refine (HFb.out _ J4).mono ?_
        rintro e w5 ⟨ad5, c5, rfl, hb5⟩
        have J5 : Below W3.heap.size W3 w5 := J4.trans (hb5.mono J4.size)
        clear hb5
        try go_wp2_with fail
        refine hK.out _ _ (HSX.out _ J5) (fun hHeld => ?_)
        clear hK K
        try simp only [Act.put, List.setIfInBounds_toArray, List.set_cons_zero, List.set_cons_succ]
        refine wpAnyH_take (i := 5) (v := ?_) rfl (by kernel_rfl) (by kernel_rfl) (by kernel_rfl) (fun _ _ _ h => h) (Or.inl ⟨(by simp [Region.wanted]), ?_⟩) (hHeld) ?_
        rotate_left
        · (intro w hSw; (try dsimp only at hSw); ((go_simp) <;> (with_reducible rfl)))
        try simp only [Act.put, List.setIfInBounds_toArray]
        refine wpAnyH_take (i := 6) (v := ?_) rfl (by kernel_rfl) (by kernel_rfl) (by kernel_rfl) (fun _ _ _ h => h) (Or.inl ⟨(by simp [Region.wanted]), ?_⟩) (hHeld) ?_
        rotate_left
        · (intro w hSw; (try dsimp only at hSw); ((go_simp) <;> (with_reducible rfl)))
        try simp only [Act.put]
        refine wpAnyH_take (i := 7) (v := ?_) rfl (by kernel_rfl) (by kernel_rfl) (by kernel_rfl) (fun _ _ _ h => h) (Or.inl ⟨(by simp [Region.wanted]), ?_⟩) (hHeld) ?_
        rotate_left
        · (intro w hSw; (try dsimp only at hSw); ((go_simp) <;> (with_reducible rfl)))
        try simp only [Act.put]
        refine wpAnyH_done (by kernel_rfl) ?_ _
        have HH5 : Hid _ := HH3.out.below (J5)
        have HB0 : Hid (k = 0 → (Cm.best (Cm.cost n) k).1 = 0) := fun h => by rw [h]; rfl
        have HB1 : Hid (1 ≤ k → 1 ≤ (Cm.best (Cm.cost n) k).1) := fun h => (Cm.best_spec (Cm.cost n) k h).1
        generalize Cm.best (Cm.cost n) k = PQ at *
        obtain ⟨P, Q⟩ := PQ
        simp only at *
        clear hHeld J0 J4 HSX HFa HFb HF HC HN HI Hkl hcond
        have hk6 := Hp6.out
        by_cases hf : fa < fb
        · have HM : Hid (Cm.cost n (k + 1) = fb) := by show _ = _; rw [HK.out]; omega
          by_cases hP : (P : Int) = 0
          · go_wp2
            refine ⟨⟨k + 1, by omega, by go_num, ?_, ?_, HH5.out⟩, by simp [intOf]; omega⟩
            · rw [HBs.out, if_pos (Or.inl (by omega))]; simp
            · rw [HBs.out, if_pos (Or.inl (by omega)), HM.out]
          · by_cases hQ : (fb : Int) < (Q : Int)
            · go_wp2
              refine ⟨⟨k + 1, by omega, by go_num, ?_, ?_, HH5.out⟩, by simp [intOf]; omega⟩
              · rw [HBs.out, HM.out, if_pos (Or.inr (by omega))]; simp
              · rw [HBs.out, HM.out, if_pos (Or.inr (by omega))]
            · go_wp2
              refine ⟨⟨k + 1, by omega, by go_num, ?_, ?_, HH5.out⟩, by simp [intOf]; omega⟩
              · rw [HBs.out, HM.out, if_neg (by omega)]
              · rw [HBs.out, HM.out, if_neg (by omega)]
        · have HM : Hid (Cm.cost n (k + 1) = fa) := by show _ = _; rw [HK.out]; omega
          by_cases hP : (P : Int) = 0
          · go_wp2
            refine ⟨⟨k + 1, by omega, by go_num, ?_, ?_, HH5.out⟩, by simp [intOf]; omega⟩
            · rw [HBs.out, if_pos (Or.inl (by omega))]; simp
            · rw [HBs.out, if_pos (Or.inl (by omega)), HM.out]
          · by_cases hQ : (fa : Int) < (Q : Int)
            · go_wp2
              refine ⟨⟨k + 1, by omega, by go_num, ?_, ?_, HH5.out⟩, by simp [intOf]; omega⟩
              · rw [HBs.out, HM.out, if_pos (Or.inr (by omega))]; simp
              · rw [HBs.out, HM.out, if_pos (Or.inr (by omega))]
            · go_wp2
              refine ⟨⟨k + 1, by omega, by go_num, ?_, ?_, HH5.out⟩, by simp [intOf]; omega⟩
              · rw [HBs.out, HM.out, if_neg (by omega)]
              · rw [HBs.out, HM.out, if_neg (by omega)]
      · have hcond : ¬ (k : Int) + 1 ≤ L := fun h => hlt ((HL.out k).1 h)
        obtain rfl : k = Cm.places n := by omega
        have HPs : Hid (1 ≤ Cm.places n → 1 ≤ (Cm.best (Cm.cost n) (Cm.places n)).1 ∧ (Cm.best (Cm.cost n) (Cm.places n)).1 ≤ Cm.places n) := fun h => ⟨(Cm.best_spec (Cm.cost n) _ h).1, (Cm.best_spec (Cm.cost n) _ h).2.1⟩
        have HPz : Hid (Cm.places n = 0 → (Cm.best (Cm.cost n) (Cm.places n)).1 = 0) := fun h => by rw [h]; rfl
        have HHf : Hid (Cm.half n = if (Cm.best (Cm.cost n) (Cm.places n)).1 = 0 then .none else some (Cm.cutL n (Cm.best (Cm.cost n) (Cm.places n)).1, (n.items.getD (Cm.best (Cm.cost n) (Cm.places n)).1 Cm.zero).key, Cm.cutR n (Cm.best (Cm.cost n) (Cm.places n)).1)) := rfl
        generalize (Cm.best (Cm.cost n) (Cm.places n)).2 = Q at *
        generalize (Cm.best (Cm.cost n) (Cm.places n)).1 = P at *
        by_cases hP : (P : Int) = 0
        · obtain ⟨r0, r1, r2⟩ := cells3_of hH.ra
          obtain ⟨s0, s1, s2⟩ := cells3_of hH.rb
          have rf := fun j => frozen_of_row wr (w.heap.size + 1) j _ _ hH.ra
          have sf := fun j => frozen_of_row wr (w.heap.size + 2) j _ _ hH.rb
          go_wp2
          simp only [bodyPost, results, Try.results18]
          simp [go_sem, r0, r1, r2, s0, s1, s2]
          exact ⟨by rw [HHf.out, if_pos (by omega)], six hH.be _ _ _ _ _ _⟩
        · have hpl1 : 1 ≤ Cm.places n := by
            rcases Nat.eq_zero_or_pos (Cm.places n) with h | h
            · exact absurd (HPz.out h) (by omega)
            · exact h
          obtain ⟨hP1, hP2⟩ := HPs.out hpl1
          obtain ⟨p, rfl⟩ : ∃ p, P = p + 1 := ⟨P - 1, by omega⟩
          simp only [Int.natCast_add, Int.natCast_one] at hP ⊢
          have hpl := Cm.places_lt (m := n) (i := p + 1) (by omega) hP2
          obtain ⟨b, o, rfl, hbl, hcs⟩ := HI.out (by intro h; rw [h] at hpl; simp at hpl)
          obtain ⟨key, hke⟩ : ∃ key, (n.items.getD (p + 1) Cm.zero).key = key := ⟨_, rfl⟩
          have hkey0 := (hcs (p + 1) hpl.1).1
          rw [hke] at hkey0
          have HHf2 : Hid (Cm.half n = some (Cm.cutL n (p + 1), key, Cm.cutR n (p + 1))) := by show _ = _; rw [HHf.out, if_neg (by omega), hke]
          have hbw : b < w.heap.size := Nat.lt_of_lt_of_le hbl hB
          have iI : (p : Int) + 1 < (n.items.length : Int) := by omega
          have iI0 : (0 : Int) ≤ (p : Int) + 1 := by omega
          clear hke hcs HI HHf HPs HPz
          go_wp2_with fail
          refine (HC.out p wr hP2 hH.be).mono ?_
          rintro e w2 ⟨va, vb, rfl, hA, hB2, hb2⟩
          have HHa := hH.below hb2
          have HAw : Hid (∀ X : World, Below w.heap.size w X → NdS X B va (Cm.cutL n (p + 1)) → NdS w B va (Cm.cutL n (p + 1))) := fun X h hX => nds_down h hB hX
          have HA : Hid (NdS w B va (Cm.cutL n (p + 1))) := HAw.out wr hH.be hA
          have HB2 : Hid (NdS w B vb (Cm.cutR n (p + 1))) := nds_down hH.be hB hB2
          clear HAw
          obtain ⟨vai, vak, rfl, ⟨aa, ca, rfl, -⟩, ⟨ka, da, rfl, -⟩⟩ := hA
          obtain ⟨vbi, vbk, rfl, ⟨ab, cb, rfl, -⟩, ⟨kb, db, rfl, -⟩⟩ := hB2
          clear n0 n1 n2
          obtain ⟨n0, n1, n2⟩ := cells3_of HHa.nd
          go_wp2_with fail
          have hq1 : ((w2.alloc (.cells #[.bool (Cm.cutL n (p + 1)).leaf, .slice aa (Cm.cutL n (p + 1)).items.length ca, .slice ka (Cm.cutL n (p + 1)).kids.length da] 28)).alloc (.cells #[.bool (Cm.cutR n (p + 1)).leaf, .slice ab (Cm.cutR n (p + 1)).items.length cb, .slice kb (Cm.cutR n (p + 1)).kids.length db] 28)).heap[w2.heap.size]? = some (.cells #[.bool (Cm.cutL n (p + 1)).leaf, .slice aa (Cm.cutL n (p + 1)).items.length ca, .slice ka (Cm.cutL n (p + 1)).kids.length da] 28 (0, 0)) := k_al (heap_alloc_new w2 _) _
          have hq2 : ((w2.alloc (.cells #[.bool (Cm.cutL n (p + 1)).leaf, .slice aa (Cm.cutL n (p + 1)).items.length ca, .slice ka (Cm.cutL n (p + 1)).kids.length da] 28)).alloc (.cells #[.bool (Cm.cutR n (p + 1)).leaf, .slice ab (Cm.cutR n (p + 1)).items.length cb, .slice kb (Cm.cutR n (p + 1)).kids.length db] 28)).heap[w2.heap.size + 1]? = some (.cells #[.bool (Cm.cutR n (p + 1)).leaf, .slice ab (Cm.cutR n (p + 1)).items.length cb, .slice kb (Cm.cutR n (p + 1)).kids.length db] 28 (0, 0)) := by have := heap_alloc_new (w2.alloc (.cells #[.bool (Cm.cutL n (p + 1)).leaf, .slice aa (Cm.cutL n (p + 1)).items.length ca, .slice ka (Cm.cutL n (p + 1)).kids.length da] 28)) (.cells #[.bool (Cm.cutR n (p + 1)).leaf, .slice ab (Cm.cutR n (p + 1)).items.length cb, .slice kb (Cm.cutR n (p + 1)).kids.length db] 28); simpa using this
          have hH3 := (HHa.alloc (.cells #[.bool (Cm.cutL n (p + 1)).leaf, .slice aa (Cm.cutL n (p + 1)).items.length ca, .slice ka (Cm.cutL n (p + 1)).kids.length da] 28)).alloc (.cells #[.bool (Cm.cutR n (p + 1)).leaf, .slice ab (Cm.cutR n (p + 1)).items.length cb, .slice kb (Cm.cutR n (p + 1)).kids.length db] 28)
          have hq9 : w.heap.size + 2 < w2.heap.size := lt_of_heap HHa.rb
          generalize ((w2.alloc (.cells #[.bool (Cm.cutL n (p + 1)).leaf, .slice aa (Cm.cutL n (p + 1)).items.length ca, .slice ka (Cm.cutL n (p + 1)).kids.length da] 28)).alloc (.cells #[.bool (Cm.cutR n (p + 1)).leaf, .slice ab (Cm.cutR n (p + 1)).items.length cb, .slice kb (Cm.cutR n (p + 1)).kids.length db] 28)) = W3 at *
          generalize (Cm.cutL n (p + 1)).leaf = xl at *
          generalize (Cm.cutL n (p + 1)).items.length = x1 at *
          generalize (Cm.cutL n (p + 1)).kids.length = x2 at *
          generalize (Cm.cutR n (p + 1)).leaf = yl at *
          generalize (Cm.cutR n (p + 1)).items.length = y1 at *
          generalize (Cm.cutR n (p + 1)).kids.length = y2 at *
          clear n0 n1 n2 HHa hb2
          generalize w2.heap.size = q1 at *
          have hkey3 := (World.cell?_of_block (a := ⟨b, o + (p + 1) * 4, none⟩) (hH3.be.block b hbw)).trans hkey0
          have HSS : Hid (∀ X : World, X.heap[w.heap.size]? = W3.heap[w.heap.size]? → X.heap[q1]? = W3.heap[q1]? → X.heap[q1 + 1]? = W3.heap[q1 + 1]? → X.heap[b]? = W3.heap[b]? → (X.cell? ⟨w.heap.size, 0, none⟩ = some (.bool true) ∧ X.cell? ⟨w.heap.size, 1, none⟩ = some (.slice (some ⟨b, o, none⟩) n.items.length c) ∧ X.cell? ⟨w.heap.size, 2, none⟩ = some (.slice kd n.kids.length d) ∧ X.cell? ⟨q1, 0, none⟩ = some (.bool xl) ∧ X.cell? ⟨q1, 1, none⟩ = some (.slice aa x1 ca) ∧ X.cell? ⟨q1, 2, none⟩ = some (.slice ka x2 da) ∧ X.cell? ⟨q1 + 1, 0, none⟩ = some (.bool yl) ∧ X.cell? ⟨q1 + 1, 1, none⟩ = some (.slice ab y1 cb) ∧ X.cell? ⟨q1 + 1, 2, none⟩ = some (.slice kb y2 db) ∧ X.cell? ⟨b, o + (p + 1) * 4, none⟩ = some (.string key))) := fun X e1 e2 e3 e4 => by
            obtain ⟨f0, f1, f2⟩ := cells3_of (e1.trans hH3.nd)
            obtain ⟨f3, f4, f5⟩ := cells3_of (e2.trans hq1)
            obtain ⟨f6, f7, f8⟩ := cells3_of (e3.trans hq2)
            exact ⟨f0, f1, f2, f3, f4, f5, f6, f7, f8, (World.cell?_of_block (a := ⟨b, o + (p + 1) * 4, none⟩) e4).trans hkey3⟩
          have hS0 := HSS.out W3.drew rfl rfl rfl rfl
          have HS1 : Hid _ := HSS.out (((W3.setCell ⟨w.heap.size + 1, 0, none⟩ (.bool xl)).setCell ⟨w.heap.size + 1, 1, none⟩ (.slice aa x1 ca)).setCell ⟨w.heap.size + 1, 2, none⟩ (.slice ka x2 da)) (e_st W3 (by omega) _ _ _) (e_st W3 (by omega) _ _ _) (e_st W3 (by omega) _ _ _) (e_st W3 (by omega) _ _ _)
          have HS2 : Hid _ := HSS.out ((((((W3.setCell ⟨w.heap.size + 1, 0, none⟩ (.bool xl)).setCell ⟨w.heap.size + 1, 1, none⟩ (.slice aa x1 ca)).setCell ⟨w.heap.size + 1, 2, none⟩ (.slice ka x2 da)).setCell ⟨w.heap.size + 2, 0, none⟩ (.bool yl)).setCell ⟨w.heap.size + 2, 1, none⟩ (.slice ab y1 cb)).setCell ⟨w.heap.size + 2, 2, none⟩ (.slice kb y2 db)) ((e_st _ (by omega) _ _ _).trans (e_st W3 (by omega) _ _ _)) ((e_st _ (by omega) _ _ _).trans (e_st W3 (by omega) _ _ _)) ((e_st _ (by omega) _ _ _).trans (e_st W3 (by omega) _ _ _)) ((e_st _ (by omega) _ _ _).trans (e_st W3 (by omega) _ _ _))
          have HRB : Hid _ := k_st (q := w.heap.size + 1) hH3.rb (by omega) (.bool xl) (.slice aa x1 ca) (.slice ka x2 da)
          have HAA : Hid _ := k_st (q := w.heap.size + 2) (heap_set3 hH3.ra (.bool xl) (.slice aa x1 ca) (.slice ka x2 da)) (by omega) (.bool yl) (.slice ab y1 cb) (.slice kb y2 db)
          have HBB : Hid _ := heap_set3 HRB.out (.bool yl) (.slice ab y1 cb) (.slice kb y2 db)
          have HBf : Hid _ := six hH3.be (.bool xl) (.slice aa x1 ca) (.slice ka x2 da) (.bool yl) (.slice ab y1 cb) (.slice kb y2 db)
          obtain ⟨p0, p1, p2⟩ := cells3_of hH3.ra
          have pf := fun j => frozen_of_row W3 (w.heap.size + 1) j _ _ hH3.ra
          clear hq1 hq2 hH3 hkey0 hkey3 HSS hH HC HF HN hbl hbw hq9 hpl
          refine wp_region_held_drew (S := fun X : World => (X.cell? ⟨w.heap.size, 0, none⟩ = some (.bool true) ∧ X.cell? ⟨w.heap.size, 1, none⟩ = some (.slice (some ⟨b, o, none⟩) n.items.length c) ∧ X.cell? ⟨w.heap.size, 2, none⟩ = some (.slice kd n.kids.length d) ∧ X.cell? ⟨q1, 0, none⟩ = some (.bool xl) ∧ X.cell? ⟨q1, 1, none⟩ = some (.slice aa x1 ca) ∧ X.cell? ⟨q1, 2, none⟩ = some (.slice ka x2 da) ∧ X.cell? ⟨q1 + 1, 0, none⟩ = some (.bool yl) ∧ X.cell? ⟨q1 + 1, 1, none⟩ = some (.slice ab y1 cb) ∧ X.cell? ⟨q1 + 1, 2, none⟩ = some (.slice kb y2 db) ∧ X.cell? ⟨b, o + (p + 1) * 4, none⟩ = some (.string key))) (by kernel_rfl) hS0 (fun hHeld => ?_)
          refine wpAnyH_take (i := 0) (v := ?_) rfl (by kernel_rfl) (by kernel_rfl) (by kernel_rfl) (fun _ _ _ h => h) (Or.inl ⟨(by simp [Region.wanted]), ?_⟩) (hHeld) ?_
          rotate_left
          · (intro w hSw; (try dsimp only at hSw); ((go_simp) <;> (with_reducible rfl)))
          try simp only [Act.put, List.setIfInBounds_toArray]
          refine wpAnyH_take (i := 1) (v := ?_) rfl (by kernel_rfl) (by kernel_rfl) (by kernel_rfl) (fun _ _ _ h => h) (Or.inl ⟨(by simp [Region.wanted]), ?_⟩) (hHeld) ?_
          rotate_left
          · (intro w hSw; (try dsimp only at hSw); ((go_simp) <;> (with_reducible rfl)))
          try simp only [Act.put]
          refine wpAnyH_take (i := 2) (v := ?_) rfl (by kernel_rfl) (by kernel_rfl) (by kernel_rfl) (fun _ _ _ h => h) (Or.inl ⟨(by simp [Region.wanted]), ?_⟩) (hHeld) ?_
          rotate_left
          · (intro w hSw; (try dsimp only at hSw); ((go_simp) <;> (with_reducible rfl)))
          try simp only [Act.put]
          refine wpAnyH_take (i := 3) (v := ?_) rfl (by kernel_rfl) (by kernel_rfl) (by kernel_rfl) (fun _ _ _ h => h) (Or.inl ⟨(by simp [Region.wanted]), ?_⟩) (hHeld) ?_
          rotate_left
          · (intro w hSw; (try dsimp only at hSw); ((go_simp) <;> (with_reducible rfl)))
          try simp only [Act.put]
          refine wpAnyH_take (i := 4) (v := ?_) rfl (by kernel_rfl) (by kernel_rfl) (by kernel_rfl) (fun _ _ _ h => h) (Or.inl ⟨(by simp [Region.wanted]), ?_⟩) (hHeld) ?_
          rotate_left
          · (intro w hSw; (try dsimp only at hSw); ((go_simp) <;> (with_reducible rfl)))
          try simp only [Act.put]
          refine wpAnyH_take (i := 5) (v := ?_) rfl (by kernel_rfl) (by kernel_rfl) (by kernel_rfl) (fun _ _ _ h => h) (Or.inl ⟨(by simp [Region.wanted]), ?_⟩) (hHeld) ?_
          rotate_left
          · (intro w hSw; (try dsimp only at hSw); ((go_simp) <;> (with_reducible rfl)))
          try simp only [Act.put]
          refine wpAnyH_take (i := 6) (v := ?_) rfl (by kernel_rfl) (by kernel_rfl) (by kernel_rfl) (fun _ _ _ h => h) (Or.inl ⟨(by simp [Region.wanted]), ?_⟩) (hHeld) ?_
          rotate_left
          · (intro w hSw; (try dsimp only at hSw); ((go_simp) <;> (with_reducible rfl)))
          try simp only [Act.put]
          refine wpAnyH_take (i := 7) (v := ?_) rfl (by kernel_rfl) (by kernel_rfl) (by kernel_rfl) (fun _ _ _ h => h) (Or.inl ⟨(by simp [Region.wanted]), ?_⟩) (hHeld) ?_
          rotate_left
          · (intro w hSw; (try dsimp only at hSw); ((go_simp) <;> (with_reducible rfl)))
          try simp only [Act.put]
          refine wpAnyH_ready (rs := [8]) (by kernel_rfl) (by simp) ?_
          refine AllReadyH.cons rfl (fun K hK => ?_) AllReadyH.nil
          go_simp
          refine hK.out _ _ HS1.out (fun hHeld => ?_)
          clear hK K
          try simp only [Act.put, List.setIfInBounds_toArray, List.set_cons_zero, List.set_cons_succ]
          generalize (((W3.setCell ⟨w.heap.size + 1, 0, none⟩ (.bool xl)).setCell ⟨w.heap.size + 1, 1, none⟩ (.slice aa x1 ca)).setCell ⟨w.heap.size + 1, 2, none⟩ (.slice ka x2 da)) = X1 at *
          clear p0 p1 p2 pf
          refine wpAnyH_ready (rs := [9]) (by kernel_rfl) (by simp) ?_
          refine AllReadyH.cons rfl (fun K hK => ?_) AllReadyH.nil
          go_simp
          refine hK.out _ _ HS1.out (fun hHeld => ?_)
          clear hK K
          try simp only [Act.put, List.setIfInBounds_toArray, List.set_cons_zero, List.set_cons_succ]
          obtain ⟨r0, r1, r2⟩ := cells3_of HRB.out
          have rf := fun j => frozen_of_row _ (w.heap.size + 2) j _ _ HRB.out
          refine wpAnyH_ready (rs := [10]) (by kernel_rfl) (by simp) ?_
          refine AllReadyH.cons rfl (fun K hK => ?_) AllReadyH.nil
          go_simp
          refine hK.out _ _ HS2.out (fun hHeld => ?_)
          clear hK K
          try simp only [Act.put, List.setIfInBounds_toArray, List.set_cons_zero, List.set_cons_succ]
          generalize (((X1.setCell ⟨w.heap.size + 2, 0, none⟩ (.bool yl)).setCell ⟨w.heap.size + 2, 1, none⟩ (.slice ab y1 cb)).setCell ⟨w.heap.size + 2, 2, none⟩ (.slice kb y2 db)) = X2 at *
          clear r0 r1 r2 rf
          refine wpAnyH_ready (rs := [11]) (by kernel_rfl) (by simp) ?_
          refine AllReadyH.cons rfl (fun K hK => ?_) AllReadyH.nil
          go_simp
          refine hK.out _ _ HS2.out (fun hHeld => ?_)
          clear hK K
          try simp only [Act.put, List.setIfInBounds_toArray, List.set_cons_zero, List.set_cons_succ]
          refine wpAnyH_done (by kernel_rfl) ?_ _
          go_wp2
          obtain ⟨y0, y1, y2⟩ := cells3_of HAA.out
          obtain ⟨t0, t1, t2⟩ := cells3_of HBB.out
          simp only [bodyPost, results, Try.results18]
          simp [go_sem, y0, y1, y2, t0, t1, t2]
          exact ⟨⟨_, _, _, HHf2.out, _, _, ⟨rfl, rfl, rfl⟩, HA.out, HB2.out⟩, HBf.out.os, HBf.out.tape, HBf.out.output, HBf.out.size, HBf.out.block⟩
  | false =>
    have hL1 := hlf' rfl
    clear hlt' hlf'
    go_wp2
    rw [show w.heap.size + 1 + 1 = w.heap.size + 2 by omega]
    generalize ((w.alloc (.cells #[.bool false, .slice ad n.items.length c, .slice kd n.kids.length d] 28)).alloc (.cells #[.bool false, .slice none 0 0, .slice none 0 0] 28)).alloc (.cells #[.bool false, .slice none 0 0, .slice none 0 0] 28) = W0 at *
    clear hL1
    go_loopw [7, 8, 9] (fun at_ least i wr => ∃ k : Nat, k ≤ Cm.places n ∧ i = .int .i64 ((k : Int) + 1) ∧ at_ = .int .i64 ((Cm.best (Cm.cost n) k).1 : Int) ∧ least = .int .i64 ((Cm.best (Cm.cost n) k).2 : Int) ∧ HInv w wr false (.slice ad n.items.length c) (.slice kd n.kids.length d))
      (fun _ _ i _ => Cm.places n + 1 - (intOf i).toNat)
    case atStart => exact ⟨0, Nat.zero_le _, rfl, rfl, rfl, HH0.out⟩
    case round =>
      obtain ⟨k, hk, rfl, rfl, rfl, hH⟩ := hrel
      obtain ⟨n0, n1, n2⟩ := cells3_of hH.nd
      by_cases hlt : k + 1 ≤ Cm.places n
      · have hcond : (k : Int) + 1 ≤ L := (HL.out k).2 hlt
        go_wp2_with fail
        refine (HC.out k wr hlt hH.be).mono ?_
        rintro e w2 ⟨va, vb, rfl, hA, hB2, hb2⟩
        have HHa := hH.below hb2
        have HA : Hid (NdS w2 B va _) := hA.below hb2 (Nat.le_trans hB hH.be.size)
        have HB2 : Hid (NdS w2 B vb _) := hB2.below hb2 (Nat.le_trans hB hH.be.size)
        obtain ⟨vai, vak, rfl, ⟨aa, ca, rfl, -⟩, ⟨ka, da, rfl, -⟩⟩ := hA
        obtain ⟨vbi, vbk, rfl, ⟨ab, cb, rfl, -⟩, ⟨kb, db, rfl, -⟩⟩ := hB2
        clear n0 n1 n2
        obtain ⟨n0, n1, n2⟩ := cells3_of HHa.nd
        go_wp2_with fail
        have hq1 : ((w2.alloc (.cells #[.bool (Cm.cutL n (k + 1)).leaf, .slice aa (Cm.cutL n (k + 1)).items.length ca, .slice ka (Cm.cutL n (k + 1)).kids.length da] 28)).alloc (.cells #[.bool (Cm.cutR n (k + 1)).leaf, .slice ab (Cm.cutR n (k + 1)).items.length cb, .slice kb (Cm.cutR n (k + 1)).kids.length db] 28)).heap[w2.heap.size]? = some (.cells #[.bool (Cm.cutL n (k + 1)).leaf, .slice aa (Cm.cutL n (k + 1)).items.length ca, .slice ka (Cm.cutL n (k + 1)).kids.length da] 28 (0, 0)) := k_al (heap_alloc_new w2 _) _
        have hq2 : ((w2.alloc (.cells #[.bool (Cm.cutL n (k + 1)).leaf, .slice aa (Cm.cutL n (k + 1)).items.length ca, .slice ka (Cm.cutL n (k + 1)).kids.length da] 28)).alloc (.cells #[.bool (Cm.cutR n (k + 1)).leaf, .slice ab (Cm.cutR n (k + 1)).items.length cb, .slice kb (Cm.cutR n (k + 1)).kids.length db] 28)).heap[w2.heap.size + 1]? = some (.cells #[.bool (Cm.cutR n (k + 1)).leaf, .slice ab (Cm.cutR n (k + 1)).items.length cb, .slice kb (Cm.cutR n (k + 1)).kids.length db] 28 (0, 0)) := by have := heap_alloc_new (w2.alloc (.cells #[.bool (Cm.cutL n (k + 1)).leaf, .slice aa (Cm.cutL n (k + 1)).items.length ca, .slice ka (Cm.cutL n (k + 1)).kids.length da] 28)) (.cells #[.bool (Cm.cutR n (k + 1)).leaf, .slice ab (Cm.cutR n (k + 1)).items.length cb, .slice kb (Cm.cutR n (k + 1)).kids.length db] 28); simpa using this
        have hH3 := (HHa.alloc (.cells #[.bool (Cm.cutL n (k + 1)).leaf, .slice aa (Cm.cutL n (k + 1)).items.length ca, .slice ka (Cm.cutL n (k + 1)).kids.length da] 28)).alloc (.cells #[.bool (Cm.cutR n (k + 1)).leaf, .slice ab (Cm.cutR n (k + 1)).items.length cb, .slice kb (Cm.cutR n (k + 1)).kids.length db] 28)
        have hA3 : NdS ((w2.alloc (.cells #[.bool (Cm.cutL n (k + 1)).leaf, .slice aa (Cm.cutL n (k + 1)).items.length ca, .slice ka (Cm.cutL n (k + 1)).kids.length da] 28)).alloc (.cells #[.bool (Cm.cutR n (k + 1)).leaf, .slice ab (Cm.cutR n (k + 1)).items.length cb, .slice kb (Cm.cutR n (k + 1)).kids.length db] 28)) B _ _ := (HA.out.alloc (Nat.le_trans hB HHa.be.size) (.cells #[.bool (Cm.cutL n (k + 1)).leaf, .slice aa (Cm.cutL n (k + 1)).items.length ca, .slice ka (Cm.cutL n (k + 1)).kids.length da] 28)).alloc (by have := HHa.be.size; simp; omega) (.cells #[.bool (Cm.cutR n (k + 1)).leaf, .slice ab (Cm.cutR n (k + 1)).items.length cb, .slice kb (Cm.cutR n (k + 1)).kids.length db] 28)
        have hB3 : NdS ((w2.alloc (.cells #[.bool (Cm.cutL n (k + 1)).leaf, .slice aa (Cm.cutL n (k + 1)).items.length ca, .slice ka (Cm.cutL n (k + 1)).kids.length da] 28)).alloc (.cells #[.bool (Cm.cutR n (k + 1)).leaf, .slice ab (Cm.cutR n (k + 1)).items.length cb, .slice kb (Cm.cutR n (k + 1)).kids.length db] 28)) B _ _ := (HB2.out.alloc (Nat.le_trans hB HHa.be.size) (.cells #[.bool (Cm.cutL n (k + 1)).leaf, .slice aa (Cm.cutL n (k + 1)).items.length ca, .slice ka (Cm.cutL n (k + 1)).kids.length da] 28)).alloc (by have := HHa.be.size; simp; omega) (.cells #[.bool (Cm.cutR n (k + 1)).leaf, .slice ab (Cm.cutR n (k + 1)).items.length cb, .slice kb (Cm.cutR n (k + 1)).kids.length db] 28)
        generalize ((w2.alloc (.cells #[.bool (Cm.cutL n (k + 1)).leaf, .slice aa (Cm.cutL n (k + 1)).items.length ca, .slice ka (Cm.cutL n (k + 1)).kids.length da] 28)).alloc (.cells #[.bool (Cm.cutR n (k + 1)).leaf, .slice ab (Cm.cutR n (k + 1)).items.length cb, .slice kb (Cm.cutR n (k + 1)).kids.length db] 28)) = W3 at *
        have hq3 := lt_of_heap hq2
        have HFa : Hid (∀ X : World, Below W3.heap.size W3 X → Calls Try.prog 41 #[.agg #[.bool (Cm.cutL n (k + 1)).leaf, .slice aa (Cm.cutL n (k + 1)).items.length ca, .slice ka (Cm.cutL n (k + 1)).kids.length da]] X fun e w' => ∃ ad c, e = .returned (.slice ad (Cm.form (Cm.cutL n (k + 1))).length c) ∧ Below X.heap.size X w') := fun X h => (HF.out k X _ _ hlt (by have := h.size; have := hH3.be.size; omega) (hA3.below h (by have := hH3.be.size; omega)) (hB3.below h (by have := hH3.be.size; omega))).1
        have HFb : Hid (∀ X : World, Below W3.heap.size W3 X → Calls Try.prog 41 #[.agg #[.bool (Cm.cutR n (k + 1)).leaf, .slice ab (Cm.cutR n (k + 1)).items.length cb, .slice kb (Cm.cutR n (k + 1)).kids.length db]] X fun e w' => ∃ ad c, e = .returned (.slice ad (Cm.form (Cm.cutR n (k + 1))).length c) ∧ Below X.heap.size X w') := fun X h => (HF.out k X _ _ hlt (by have := h.size; have := hH3.be.size; omega) (hA3.below h (by have := hH3.be.size; omega)) (hB3.below h (by have := hH3.be.size; omega))).2
        have HK : Hid (Cm.cost n (k + 1) = max (Cm.form (Cm.cutL n (k + 1))).length (Cm.form (Cm.cutR n (k + 1))).length) := rfl
        have HBs : Hid _ := best_succ (Cm.cost n) k
        generalize (Cm.cutL n (k + 1)).leaf = xl at *
        generalize (Cm.cutL n (k + 1)).items.length = x1 at *
        generalize (Cm.cutL n (k + 1)).kids.length = x2 at *
        generalize (Cm.cutR n (k + 1)).leaf = yl at *
        generalize (Cm.cutR n (k + 1)).items.length = y1 at *
        generalize (Cm.cutR n (k + 1)).kids.length = y2 at *
        generalize (Cm.form (Cm.cutL n (k + 1))).length = fa at *
        generalize (Cm.form (Cm.cutR n (k + 1))).length = fb at *
        have HSX : Hid (∀ X : World, Below W3.heap.size W3 X → X.cell? ⟨w2.heap.size, 0, none⟩ = some (.bool xl) ∧ X.cell? ⟨w2.heap.size, 1, none⟩ = some (.slice aa x1 ca) ∧ X.cell? ⟨w2.heap.size, 2, none⟩ = some (.slice ka x2 da) ∧ X.cell? ⟨w2.heap.size + 1, 0, none⟩ = some (.bool yl) ∧ X.cell? ⟨w2.heap.size + 1, 1, none⟩ = some (.slice ab y1 cb) ∧ X.cell? ⟨w2.heap.size + 1, 2, none⟩ = some (.slice kb y2 db)) := fun X h => by
          obtain ⟨f0, f1, f2⟩ := cells3_of ((h.block _ (by omega)).trans hq1)
          obtain ⟨f3, f4, f5⟩ := cells3_of ((h.block _ (by omega)).trans hq2)
          exact ⟨f0, f1, f2, f3, f4, f5⟩
        have J0 : Below W3.heap.size W3 W3.drew := ⟨rfl, rfl, rfl, Nat.le_refl _, fun _ _ => rfl⟩
        have HH3 : Hid _ := hH3
        clear hq1 hq2 hA3 hB3 HA HB2 n0 n1 n2 hH hH3 HHa hb2
        refine wp_region_held_drew (S := fun X : World => X.cell? ⟨w2.heap.size, 0, none⟩ = some (.bool xl) ∧ X.cell? ⟨w2.heap.size, 1, none⟩ = some (.slice aa x1 ca) ∧ X.cell? ⟨w2.heap.size, 2, none⟩ = some (.slice ka x2 da) ∧ X.cell? ⟨w2.heap.size + 1, 0, none⟩ = some (.bool yl) ∧ X.cell? ⟨w2.heap.size + 1, 1, none⟩ = some (.slice ab y1 cb) ∧ X.cell? ⟨w2.heap.size + 1, 2, none⟩ = some (.slice kb y2 db)) (by kernel_rfl) (HSX.out _ J0) (fun hHeld => ?_)
        refine wpAnyH_take (i := 0) (v := ?_) rfl (by kernel_rfl) (by kernel_rfl) (by kernel_rfl) (fun _ _ _ h => h) (Or.inl ⟨(by simp [Region.wanted]), ?_⟩) (hHeld) ?_
        rotate_left
        · (intro w hSw; (try dsimp only at hSw); ((go_simp) <;> (with_reducible rfl)))
        try simp only [Act.put, List.setIfInBounds_toArray]
        refine wpAnyH_take (i := 3) (v := ?_) rfl (by kernel_rfl) (by kernel_rfl) (by kernel_rfl) (fun _ _ _ h => h) (Or.inl ⟨(by simp [Region.wanted]), ?_⟩) (hHeld) ?_
        rotate_left
        · (intro w hSw; (try dsimp only at hSw); ((go_simp) <;> (with_reducible rfl)))
        try simp only [Act.put]
        refine wpAnyH_ready (rs := [1]) (by kernel_rfl) (by simp) ?_
        refine AllReadyH.cons rfl (fun K hK => ?_) AllReadyH.nil
        go_simp
        refine (HFa.out _ J0).mono ?_
        rintro e w4 ⟨ad4, c4, rfl, hb4⟩
        have J4 : Below W3.heap.size W3 w4 := J0.trans (hb4.mono J0.size)
        clear hb4
        try go_wp2_with fail
        refine hK.out _ _ (HSX.out _ J4) (fun hHeld => ?_)
        clear hK K
        try simp only [Act.put, List.setIfInBounds_toArray, List.set_cons_zero, List.set_cons_succ]
        refine wpAnyH_take (i := 2) (v := ?_) rfl (by kernel_rfl) (by kernel_rfl) (by kernel_rfl) (fun _ _ _ h => h) (Or.inl ⟨(by simp [Region.wanted]), ?_⟩) (hHeld) ?_
        rotate_left
        · (intro w hSw; (try dsimp only at hSw); ((go_simp) <;> (with_reducible rfl)))
        try simp only [Act.put, List.setIfInBounds_toArray]
        refine wpAnyH_ready (rs := [4]) (by kernel_rfl) (by simp) ?_
        refine AllReadyH.cons rfl (fun K hK => ?_) AllReadyH.nil
        go_simp
        refine (HFb.out _ J4).mono ?_
        rintro e w5 ⟨ad5, c5, rfl, hb5⟩
        have J5 : Below W3.heap.size W3 w5 := J4.trans (hb5.mono J4.size)
        clear hb5
        try go_wp2_with fail
        refine hK.out _ _ (HSX.out _ J5) (fun hHeld => ?_)
        clear hK K
        try simp only [Act.put, List.setIfInBounds_toArray, List.set_cons_zero, List.set_cons_succ]
        refine wpAnyH_take (i := 5) (v := ?_) rfl (by kernel_rfl) (by kernel_rfl) (by kernel_rfl) (fun _ _ _ h => h) (Or.inl ⟨(by simp [Region.wanted]), ?_⟩) (hHeld) ?_
        rotate_left
        · (intro w hSw; (try dsimp only at hSw); ((go_simp) <;> (with_reducible rfl)))
        try simp only [Act.put, List.setIfInBounds_toArray]
        refine wpAnyH_take (i := 6) (v := ?_) rfl (by kernel_rfl) (by kernel_rfl) (by kernel_rfl) (fun _ _ _ h => h) (Or.inl ⟨(by simp [Region.wanted]), ?_⟩) (hHeld) ?_
        rotate_left
        · (intro w hSw; (try dsimp only at hSw); ((go_simp) <;> (with_reducible rfl)))
        try simp only [Act.put]
        refine wpAnyH_take (i := 7) (v := ?_) rfl (by kernel_rfl) (by kernel_rfl) (by kernel_rfl) (fun _ _ _ h => h) (Or.inl ⟨(by simp [Region.wanted]), ?_⟩) (hHeld) ?_
        rotate_left
        · (intro w hSw; (try dsimp only at hSw); ((go_simp) <;> (with_reducible rfl)))
        try simp only [Act.put]
        refine wpAnyH_done (by kernel_rfl) ?_ _
        have HH5 : Hid _ := HH3.out.below (J5)
        have HB0 : Hid (k = 0 → (Cm.best (Cm.cost n) k).1 = 0) := fun h => by rw [h]; rfl
        have HB1 : Hid (1 ≤ k → 1 ≤ (Cm.best (Cm.cost n) k).1) := fun h => (Cm.best_spec (Cm.cost n) k h).1
        generalize Cm.best (Cm.cost n) k = PQ at *
        obtain ⟨P, Q⟩ := PQ
        simp only at *
        clear hHeld J0 J4 HSX HFa HFb HF HC HN HI Hkl hcond
        have hk6 := Hp6.out
        by_cases hf : fa < fb
        · have HM : Hid (Cm.cost n (k + 1) = fb) := by show _ = _; rw [HK.out]; omega
          by_cases hP : (P : Int) = 0
          · go_wp2
            refine ⟨⟨k + 1, by omega, by go_num, ?_, ?_, HH5.out⟩, by simp [intOf]; omega⟩
            · rw [HBs.out, if_pos (Or.inl (by omega))]; simp
            · rw [HBs.out, if_pos (Or.inl (by omega)), HM.out]
          · by_cases hQ : (fb : Int) < (Q : Int)
            · go_wp2
              refine ⟨⟨k + 1, by omega, by go_num, ?_, ?_, HH5.out⟩, by simp [intOf]; omega⟩
              · rw [HBs.out, HM.out, if_pos (Or.inr (by omega))]; simp
              · rw [HBs.out, HM.out, if_pos (Or.inr (by omega))]
            · go_wp2
              refine ⟨⟨k + 1, by omega, by go_num, ?_, ?_, HH5.out⟩, by simp [intOf]; omega⟩
              · rw [HBs.out, HM.out, if_neg (by omega)]
              · rw [HBs.out, HM.out, if_neg (by omega)]
        · have HM : Hid (Cm.cost n (k + 1) = fa) := by show _ = _; rw [HK.out]; omega
          by_cases hP : (P : Int) = 0
          · go_wp2
            refine ⟨⟨k + 1, by omega, by go_num, ?_, ?_, HH5.out⟩, by simp [intOf]; omega⟩
            · rw [HBs.out, if_pos (Or.inl (by omega))]; simp
            · rw [HBs.out, if_pos (Or.inl (by omega)), HM.out]
          · by_cases hQ : (fa : Int) < (Q : Int)
            · go_wp2
              refine ⟨⟨k + 1, by omega, by go_num, ?_, ?_, HH5.out⟩, by simp [intOf]; omega⟩
              · rw [HBs.out, HM.out, if_pos (Or.inr (by omega))]; simp
              · rw [HBs.out, HM.out, if_pos (Or.inr (by omega))]
            · go_wp2
              refine ⟨⟨k + 1, by omega, by go_num, ?_, ?_, HH5.out⟩, by simp [intOf]; omega⟩
              · rw [HBs.out, HM.out, if_neg (by omega)]
              · rw [HBs.out, HM.out, if_neg (by omega)]
      · have hcond : ¬ (k : Int) + 1 ≤ L := fun h => hlt ((HL.out k).1 h)
        obtain rfl : k = Cm.places n := by omega
        have HPs : Hid (1 ≤ Cm.places n → 1 ≤ (Cm.best (Cm.cost n) (Cm.places n)).1 ∧ (Cm.best (Cm.cost n) (Cm.places n)).1 ≤ Cm.places n) := fun h => ⟨(Cm.best_spec (Cm.cost n) _ h).1, (Cm.best_spec (Cm.cost n) _ h).2.1⟩
        have HPz : Hid (Cm.places n = 0 → (Cm.best (Cm.cost n) (Cm.places n)).1 = 0) := fun h => by rw [h]; rfl
        have HHf : Hid (Cm.half n = if (Cm.best (Cm.cost n) (Cm.places n)).1 = 0 then .none else some (Cm.cutL n (Cm.best (Cm.cost n) (Cm.places n)).1, (n.items.getD (Cm.best (Cm.cost n) (Cm.places n)).1 Cm.zero).key, Cm.cutR n (Cm.best (Cm.cost n) (Cm.places n)).1)) := rfl
        generalize (Cm.best (Cm.cost n) (Cm.places n)).2 = Q at *
        generalize (Cm.best (Cm.cost n) (Cm.places n)).1 = P at *
        by_cases hP : (P : Int) = 0
        · obtain ⟨r0, r1, r2⟩ := cells3_of hH.ra
          obtain ⟨s0, s1, s2⟩ := cells3_of hH.rb
          have rf := fun j => frozen_of_row wr (w.heap.size + 1) j _ _ hH.ra
          have sf := fun j => frozen_of_row wr (w.heap.size + 2) j _ _ hH.rb
          go_wp2
          simp only [bodyPost, results, Try.results18]
          simp [go_sem, r0, r1, r2, s0, s1, s2]
          exact ⟨by rw [HHf.out, if_pos (by omega)], six hH.be _ _ _ _ _ _⟩
        · have hpl1 : 1 ≤ Cm.places n := by
            rcases Nat.eq_zero_or_pos (Cm.places n) with h | h
            · exact absurd (HPz.out h) (by omega)
            · exact h
          obtain ⟨hP1, hP2⟩ := HPs.out hpl1
          obtain ⟨p, rfl⟩ : ∃ p, P = p + 1 := ⟨P - 1, by omega⟩
          simp only [Int.natCast_add, Int.natCast_one] at hP ⊢
          have hpl := Cm.places_lt (m := n) (i := p + 1) (by omega) hP2
          obtain ⟨b, o, rfl, hbl, hcs⟩ := HI.out (by intro h; rw [h] at hpl; simp at hpl)
          obtain ⟨key, hke⟩ : ∃ key, (n.items.getD (p + 1) Cm.zero).key = key := ⟨_, rfl⟩
          have hkey0 := (hcs (p + 1) hpl.1).1
          rw [hke] at hkey0
          have HHf2 : Hid (Cm.half n = some (Cm.cutL n (p + 1), key, Cm.cutR n (p + 1))) := by show _ = _; rw [HHf.out, if_neg (by omega), hke]
          have hbw : b < w.heap.size := Nat.lt_of_lt_of_le hbl hB
          have iI : (p : Int) + 1 < (n.items.length : Int) := by omega
          have iI0 : (0 : Int) ≤ (p : Int) + 1 := by omega
          clear hke hcs HI HHf HPs HPz
          go_wp2_with fail
          refine (HC.out p wr hP2 hH.be).mono ?_
          rintro e w2 ⟨va, vb, rfl, hA, hB2, hb2⟩
          have HHa := hH.below hb2
          have HAw : Hid (∀ X : World, Below w.heap.size w X → NdS X B va (Cm.cutL n (p + 1)) → NdS w B va (Cm.cutL n (p + 1))) := fun X h hX => nds_down h hB hX
          have HA : Hid (NdS w B va (Cm.cutL n (p + 1))) := HAw.out wr hH.be hA
          have HB2 : Hid (NdS w B vb (Cm.cutR n (p + 1))) := nds_down hH.be hB hB2
          clear HAw
          obtain ⟨vai, vak, rfl, ⟨aa, ca, rfl, -⟩, ⟨ka, da, rfl, -⟩⟩ := hA
          obtain ⟨vbi, vbk, rfl, ⟨ab, cb, rfl, -⟩, ⟨kb, db, rfl, -⟩⟩ := hB2
          clear n0 n1 n2
          obtain ⟨n0, n1, n2⟩ := cells3_of HHa.nd
          go_wp2_with fail
          have hq1 : ((w2.alloc (.cells #[.bool (Cm.cutL n (p + 1)).leaf, .slice aa (Cm.cutL n (p + 1)).items.length ca, .slice ka (Cm.cutL n (p + 1)).kids.length da] 28)).alloc (.cells #[.bool (Cm.cutR n (p + 1)).leaf, .slice ab (Cm.cutR n (p + 1)).items.length cb, .slice kb (Cm.cutR n (p + 1)).kids.length db] 28)).heap[w2.heap.size]? = some (.cells #[.bool (Cm.cutL n (p + 1)).leaf, .slice aa (Cm.cutL n (p + 1)).items.length ca, .slice ka (Cm.cutL n (p + 1)).kids.length da] 28 (0, 0)) := k_al (heap_alloc_new w2 _) _
          have hq2 : ((w2.alloc (.cells #[.bool (Cm.cutL n (p + 1)).leaf, .slice aa (Cm.cutL n (p + 1)).items.length ca, .slice ka (Cm.cutL n (p + 1)).kids.length da] 28)).alloc (.cells #[.bool (Cm.cutR n (p + 1)).leaf, .slice ab (Cm.cutR n (p + 1)).items.length cb, .slice kb (Cm.cutR n (p + 1)).kids.length db] 28)).heap[w2.heap.size + 1]? = some (.cells #[.bool (Cm.cutR n (p + 1)).leaf, .slice ab (Cm.cutR n (p + 1)).items.length cb, .slice kb (Cm.cutR n (p + 1)).kids.length db] 28 (0, 0)) := by have := heap_alloc_new (w2.alloc (.cells #[.bool (Cm.cutL n (p + 1)).leaf, .slice aa (Cm.cutL n (p + 1)).items.length ca, .slice ka (Cm.cutL n (p + 1)).kids.length da] 28)) (.cells #[.bool (Cm.cutR n (p + 1)).leaf, .slice ab (Cm.cutR n (p + 1)).items.length cb, .slice kb (Cm.cutR n (p + 1)).kids.length db] 28); simpa using this
          have hH3 := (HHa.alloc (.cells #[.bool (Cm.cutL n (p + 1)).leaf, .slice aa (Cm.cutL n (p + 1)).items.length ca, .slice ka (Cm.cutL n (p + 1)).kids.length da] 28)).alloc (.cells #[.bool (Cm.cutR n (p + 1)).leaf, .slice ab (Cm.cutR n (p + 1)).items.length cb, .slice kb (Cm.cutR n (p + 1)).kids.length db] 28)
          have hq9 : w.heap.size + 2 < w2.heap.size := lt_of_heap HHa.rb
          generalize ((w2.alloc (.cells #[.bool (Cm.cutL n (p + 1)).leaf, .slice aa (Cm.cutL n (p + 1)).items.length ca, .slice ka (Cm.cutL n (p + 1)).kids.length da] 28)).alloc (.cells #[.bool (Cm.cutR n (p + 1)).leaf, .slice ab (Cm.cutR n (p + 1)).items.length cb, .slice kb (Cm.cutR n (p + 1)).kids.length db] 28)) = W3 at *
          generalize (Cm.cutL n (p + 1)).leaf = xl at *
          generalize (Cm.cutL n (p + 1)).items.length = x1 at *
          generalize (Cm.cutL n (p + 1)).kids.length = x2 at *
          generalize (Cm.cutR n (p + 1)).leaf = yl at *
          generalize (Cm.cutR n (p + 1)).items.length = y1 at *
          generalize (Cm.cutR n (p + 1)).kids.length = y2 at *
          clear n0 n1 n2 HHa hb2
          generalize w2.heap.size = q1 at *
          have hkey3 := (World.cell?_of_block (a := ⟨b, o + (p + 1) * 4, none⟩) (hH3.be.block b hbw)).trans hkey0
          have HSS : Hid (∀ X : World, X.heap[w.heap.size]? = W3.heap[w.heap.size]? → X.heap[q1]? = W3.heap[q1]? → X.heap[q1 + 1]? = W3.heap[q1 + 1]? → X.heap[b]? = W3.heap[b]? → (X.cell? ⟨w.heap.size, 0, none⟩ = some (.bool false) ∧ X.cell? ⟨w.heap.size, 1, none⟩ = some (.slice (some ⟨b, o, none⟩) n.items.length c) ∧ X.cell? ⟨w.heap.size, 2, none⟩ = some (.slice kd n.kids.length d) ∧ X.cell? ⟨q1, 0, none⟩ = some (.bool xl) ∧ X.cell? ⟨q1, 1, none⟩ = some (.slice aa x1 ca) ∧ X.cell? ⟨q1, 2, none⟩ = some (.slice ka x2 da) ∧ X.cell? ⟨q1 + 1, 0, none⟩ = some (.bool yl) ∧ X.cell? ⟨q1 + 1, 1, none⟩ = some (.slice ab y1 cb) ∧ X.cell? ⟨q1 + 1, 2, none⟩ = some (.slice kb y2 db) ∧ X.cell? ⟨b, o + (p + 1) * 4, none⟩ = some (.string key))) := fun X e1 e2 e3 e4 => by
            obtain ⟨f0, f1, f2⟩ := cells3_of (e1.trans hH3.nd)
            obtain ⟨f3, f4, f5⟩ := cells3_of (e2.trans hq1)
            obtain ⟨f6, f7, f8⟩ := cells3_of (e3.trans hq2)
            exact ⟨f0, f1, f2, f3, f4, f5, f6, f7, f8, (World.cell?_of_block (a := ⟨b, o + (p + 1) * 4, none⟩) e4).trans hkey3⟩
          have hS0 := HSS.out W3.drew rfl rfl rfl rfl
          have HS1 : Hid _ := HSS.out (((W3.setCell ⟨w.heap.size + 1, 0, none⟩ (.bool xl)).setCell ⟨w.heap.size + 1, 1, none⟩ (.slice aa x1 ca)).setCell ⟨w.heap.size + 1, 2, none⟩ (.slice ka x2 da)) (e_st W3 (by omega) _ _ _) (e_st W3 (by omega) _ _ _) (e_st W3 (by omega) _ _ _) (e_st W3 (by omega) _ _ _)
          have HS2 : Hid _ := HSS.out ((((((W3.setCell ⟨w.heap.size + 1, 0, none⟩ (.bool xl)).setCell ⟨w.heap.size + 1, 1, none⟩ (.slice aa x1 ca)).setCell ⟨w.heap.size + 1, 2, none⟩ (.slice ka x2 da)).setCell ⟨w.heap.size + 2, 0, none⟩ (.bool yl)).setCell ⟨w.heap.size + 2, 1, none⟩ (.slice ab y1 cb)).setCell ⟨w.heap.size + 2, 2, none⟩ (.slice kb y2 db)) ((e_st _ (by omega) _ _ _).trans (e_st W3 (by omega) _ _ _)) ((e_st _ (by omega) _ _ _).trans (e_st W3 (by omega) _ _ _)) ((e_st _ (by omega) _ _ _).trans (e_st W3 (by omega) _ _ _)) ((e_st _ (by omega) _ _ _).trans (e_st W3 (by omega) _ _ _))
          have HRB : Hid _ := k_st (q := w.heap.size + 1) hH3.rb (by omega) (.bool xl) (.slice aa x1 ca) (.slice ka x2 da)
          have HAA : Hid _ := k_st (q := w.heap.size + 2) (heap_set3 hH3.ra (.bool xl) (.slice aa x1 ca) (.slice ka x2 da)) (by omega) (.bool yl) (.slice ab y1 cb) (.slice kb y2 db)
          have HBB : Hid _ := heap_set3 HRB.out (.bool yl) (.slice ab y1 cb) (.slice kb y2 db)
          have HBf : Hid _ := six hH3.be (.bool xl) (.slice aa x1 ca) (.slice ka x2 da) (.bool yl) (.slice ab y1 cb) (.slice kb y2 db)
          obtain ⟨p0, p1, p2⟩ := cells3_of hH3.ra
          have pf := fun j => frozen_of_row W3 (w.heap.size + 1) j _ _ hH3.ra
          clear hq1 hq2 hH3 hkey0 hkey3 HSS hH HC HF HN hbl hbw hq9 hpl
          refine wp_region_held_drew (S := fun X : World => (X.cell? ⟨w.heap.size, 0, none⟩ = some (.bool false) ∧ X.cell? ⟨w.heap.size, 1, none⟩ = some (.slice (some ⟨b, o, none⟩) n.items.length c) ∧ X.cell? ⟨w.heap.size, 2, none⟩ = some (.slice kd n.kids.length d) ∧ X.cell? ⟨q1, 0, none⟩ = some (.bool xl) ∧ X.cell? ⟨q1, 1, none⟩ = some (.slice aa x1 ca) ∧ X.cell? ⟨q1, 2, none⟩ = some (.slice ka x2 da) ∧ X.cell? ⟨q1 + 1, 0, none⟩ = some (.bool yl) ∧ X.cell? ⟨q1 + 1, 1, none⟩ = some (.slice ab y1 cb) ∧ X.cell? ⟨q1 + 1, 2, none⟩ = some (.slice kb y2 db) ∧ X.cell? ⟨b, o + (p + 1) * 4, none⟩ = some (.string key))) (by kernel_rfl) hS0 (fun hHeld => ?_)
          refine wpAnyH_take (i := 0) (v := ?_) rfl (by kernel_rfl) (by kernel_rfl) (by kernel_rfl) (fun _ _ _ h => h) (Or.inl ⟨(by simp [Region.wanted]), ?_⟩) (hHeld) ?_
          rotate_left
          · (intro w hSw; (try dsimp only at hSw); ((go_simp) <;> (with_reducible rfl)))
          try simp only [Act.put, List.setIfInBounds_toArray]
          refine wpAnyH_take (i := 1) (v := ?_) rfl (by kernel_rfl) (by kernel_rfl) (by kernel_rfl) (fun _ _ _ h => h) (Or.inl ⟨(by simp [Region.wanted]), ?_⟩) (hHeld) ?_
          rotate_left
          · (intro w hSw; (try dsimp only at hSw); ((go_simp) <;> (with_reducible rfl)))
          try simp only [Act.put]
          refine wpAnyH_take (i := 2) (v := ?_) rfl (by kernel_rfl) (by kernel_rfl) (by kernel_rfl) (fun _ _ _ h => h) (Or.inl ⟨(by simp [Region.wanted]), ?_⟩) (hHeld) ?_
          rotate_left
          · (intro w hSw; (try dsimp only at hSw); ((go_simp) <;> (with_reducible rfl)))
          try simp only [Act.put]
          refine wpAnyH_take (i := 3) (v := ?_) rfl (by kernel_rfl) (by kernel_rfl) (by kernel_rfl) (fun _ _ _ h => h) (Or.inl ⟨(by simp [Region.wanted]), ?_⟩) (hHeld) ?_
          rotate_left
          · (intro w hSw; (try dsimp only at hSw); ((go_simp) <;> (with_reducible rfl)))
          try simp only [Act.put]
          refine wpAnyH_take (i := 4) (v := ?_) rfl (by kernel_rfl) (by kernel_rfl) (by kernel_rfl) (fun _ _ _ h => h) (Or.inl ⟨(by simp [Region.wanted]), ?_⟩) (hHeld) ?_
          rotate_left
          · (intro w hSw; (try dsimp only at hSw); ((go_simp) <;> (with_reducible rfl)))
          try simp only [Act.put]
          refine wpAnyH_take (i := 5) (v := ?_) rfl (by kernel_rfl) (by kernel_rfl) (by kernel_rfl) (fun _ _ _ h => h) (Or.inl ⟨(by simp [Region.wanted]), ?_⟩) (hHeld) ?_
          rotate_left
          · (intro w hSw; (try dsimp only at hSw); ((go_simp) <;> (with_reducible rfl)))
          try simp only [Act.put]
          refine wpAnyH_take (i := 6) (v := ?_) rfl (by kernel_rfl) (by kernel_rfl) (by kernel_rfl) (fun _ _ _ h => h) (Or.inl ⟨(by simp [Region.wanted]), ?_⟩) (hHeld) ?_
          rotate_left
          · (intro w hSw; (try dsimp only at hSw); ((go_simp) <;> (with_reducible rfl)))
          try simp only [Act.put]
          refine wpAnyH_take (i := 7) (v := ?_) rfl (by kernel_rfl) (by kernel_rfl) (by kernel_rfl) (fun _ _ _ h => h) (Or.inl ⟨(by simp [Region.wanted]), ?_⟩) (hHeld) ?_
          rotate_left
          · (intro w hSw; (try dsimp only at hSw); ((go_simp) <;> (with_reducible rfl)))
          try simp only [Act.put]
          refine wpAnyH_ready (rs := [8]) (by kernel_rfl) (by simp) ?_
          refine AllReadyH.cons rfl (fun K hK => ?_) AllReadyH.nil
          go_simp
          refine hK.out _ _ HS1.out (fun hHeld => ?_)
          clear hK K
          try simp only [Act.put, List.setIfInBounds_toArray, List.set_cons_zero, List.set_cons_succ]
          generalize (((W3.setCell ⟨w.heap.size + 1, 0, none⟩ (.bool xl)).setCell ⟨w.heap.size + 1, 1, none⟩ (.slice aa x1 ca)).setCell ⟨w.heap.size + 1, 2, none⟩ (.slice ka x2 da)) = X1 at *
          clear p0 p1 p2 pf
          refine wpAnyH_ready (rs := [9]) (by kernel_rfl) (by simp) ?_
          refine AllReadyH.cons rfl (fun K hK => ?_) AllReadyH.nil
          go_simp
          refine hK.out _ _ HS1.out (fun hHeld => ?_)
          clear hK K
          try simp only [Act.put, List.setIfInBounds_toArray, List.set_cons_zero, List.set_cons_succ]
          obtain ⟨r0, r1, r2⟩ := cells3_of HRB.out
          have rf := fun j => frozen_of_row _ (w.heap.size + 2) j _ _ HRB.out
          refine wpAnyH_ready (rs := [10]) (by kernel_rfl) (by simp) ?_
          refine AllReadyH.cons rfl (fun K hK => ?_) AllReadyH.nil
          go_simp
          refine hK.out _ _ HS2.out (fun hHeld => ?_)
          clear hK K
          try simp only [Act.put, List.setIfInBounds_toArray, List.set_cons_zero, List.set_cons_succ]
          generalize (((X1.setCell ⟨w.heap.size + 2, 0, none⟩ (.bool yl)).setCell ⟨w.heap.size + 2, 1, none⟩ (.slice ab y1 cb)).setCell ⟨w.heap.size + 2, 2, none⟩ (.slice kb y2 db)) = X2 at *
          clear r0 r1 r2 rf
          refine wpAnyH_ready (rs := [11]) (by kernel_rfl) (by simp) ?_
          refine AllReadyH.cons rfl (fun K hK => ?_) AllReadyH.nil
          go_simp
          refine hK.out _ _ HS2.out (fun hHeld => ?_)
          clear hK K
          try simp only [Act.put, List.setIfInBounds_toArray, List.set_cons_zero, List.set_cons_succ]
          refine wpAnyH_done (by kernel_rfl) ?_ _
          go_wp2
          obtain ⟨y0, y1, y2⟩ := cells3_of HAA.out
          obtain ⟨t0, t1, t2⟩ := cells3_of HBB.out
          simp only [bodyPost, results, Try.results18]
          simp [go_sem, y0, y1, y2, t0, t1, t2]
          exact ⟨⟨_, _, _, HHf2.out, _, _, ⟨rfl, rfl, rfl⟩, HA.out, HB2.out⟩, HBf.out.os, HBf.out.tape, HBf.out.output, HBf.out.size, HBf.out.block⟩

end Go.Proofs.Ytplfcpbjlhobeaa
