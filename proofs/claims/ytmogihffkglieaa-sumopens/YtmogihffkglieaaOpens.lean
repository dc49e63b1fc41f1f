/-
  THE WALK OF SumOpens.
-/
import Derived.Test.YtmogihffkglieaaOfs
namespace Go.Proofs.Ytmogihffkglieaa
open Go.RowKit

theorem Blk.zeros {g : Nat} : ∀ (n o : Nat) (w : World) (X : List UInt8), Blk w g X → ∃ X', X'.length = X.length ∧ Blk (w.setCells g o (List.replicate n (.int .u8 0))) g X'
  | 0, _, _, X, h => ⟨X, rfl, h⟩
  | n + 1, o, _, X, h => by
    obtain ⟨X', h1, h2⟩ := Blk.zeros n (o + 1) _ (X.set o 0) (h.set o 0)
    exact ⟨X', by rw [h1, List.length_set], h2⟩
theorem below_zeros {g : Nat} : ∀ (vs : List Value) (o : Nat) (w0 w : World), Below g w0 w → Below g w0 (w.setCells g o vs)
  | [], _, _, _, h => h
  | v :: r, o, w0, w, h => below_zeros r (o + 1) w0 (w.setCell ⟨g, o, none⟩ v) (h.setCell (Nat.le_refl _) v)

theorem clear_blk (w : World) (g n : Nat) (X : List UInt8) (hk : Blk w g X) (hn : n = X.length) (h0 : 0 < n) :
    ∃ w' X', (∀ ty, (Builtin.clear_ #[23] ty #[.slice (some ⟨g, 0, none⟩) n n]).run Try.prog w = .ok (.tuple #[]) w') ∧ X'.length = n ∧ Blk w' g X' ∧ Below g w w' := by
  obtain ⟨i0, hi, hz0, hz1, hz2⟩ := info_parts info5
  obtain ⟨X', h1, h2⟩ := Blk.zeros n 0 w X hk
  refine ⟨_, X', fun ty => Lib.run_clear_slice w 23 5 ty (.int .u8 0) Try.underlying23 (fun w => by simp [zeroValue, typeInfo, hi, hz0]) rfl rfl g 0 n n h0 (fun j hj => ?_) (fun j _ => hk.free _), by omega, h2, below_zeros _ _ _ _ (Below.refl _ _)⟩
  rw [hk.cell (0 + j) (by omega)]
  rfl
theorem Blk.own {w : World} {g n base : Nat} {X : List UInt8} (h : Blk w g X) (hn : n = X.length) (hb : base ≤ g) (hm : n ≤ maxLen) : Own w base (.slice (some ⟨g, 0, none⟩) n n) X := by
  subst hn
  refine ⟨by rw [bV_length, Nat.mul_one], .inr ⟨g, X.length, (bV X).toArray, rfl, hb, h, Nat.le_refl _, hm, by simp [bV_length], ?_⟩⟩
  simp only [Nat.mul_one]
  rw [List.take_of_length_le (by rw [bV_length]; omega)]

set_option maxRecDepth 100000 in
set_option maxHeartbeats 4000000 in
theorem opens_walk (v : Value) (l : List UInt8) (w : World) (hv : Byts w w.heap.size v l) :
    Calls Try.prog 5 #[v] w fun e w' => e = .returned (.bool true) ∧ Below w.heap.size w w' := by
  have hv0 := hv
  obtain ⟨ad, c, rfl, hlc, -, -⟩ := hv0
  go_enter Try.func5, Try.ntmps5
  go_wp2_with fail
  refine (works_any w).mono ?_
  rintro e w1 ⟨rfl, hb1⟩
  by_cases hl : l.length ≤ 3000
  · have hl' : ¬ (3000 : Int) < (l.length : Int) := by omega
    have Hl : Hid (l.length ≤ 1099511627776) := by show _ ≤ _; omega
    have Hl0 : Hid (l.length ≤ 1099511627800) := by show _ ≤ _; omega
    go_wp2_with fail
    refine (CloneB_any l _ w.heap.size w1 (hv.below hb1 (Nat.le_refl _)) hb1.size Hl.out).mono ?_
    rintro e w2 ⟨v2, rfl, ho2, hb2⟩
    have hB2 := hb1.trans (hb2.mono hb1.size)
    go_wp2_with (at_builtin; go_must (refine wpList_append_byte w2 rfl (.tmp 13) (.tmp 14) rfl w1.heap.size v2 l 7 7 rfl rfl ho2 rfl Hl0 hb2.size ?_))
    intro v3 w3 ho3 hb3
    have hB3 := hB2.trans (hb3.mono hb1.size)
    have hy3 := ho3.byts
    obtain ⟨gi, cap, rfl, hcap⟩ : ∃ gi cap, v3 = .slice (some ⟨gi, 0, none⟩) (l.length + 1) cap ∧ l.length + 1 ≤ cap := by
      rcases ho3.2 with ⟨_, h0⟩ | ⟨g, cap, cur, h1, _, _, h2, _⟩
      · simp at h0
      · exact ⟨g, cap, by simpa using h1, by simpa using h2⟩
    have hin := hy3.head l.length (by simp)
    rw [List.take_left] at hin
    have hsl := fun W => slice_head W (some ⟨gi, 0, none⟩) (l.length + 1) cap l.length (by omega)
    have hv3 := hv.below hB3 (Nat.le_refl _)
    clear ho3 hy3 hb3 ho2 hb2
    go_wp2_with fail
    cases hw : Sm.whole l with
    | false =>
      refine (Open_no _ l w3 w3.heap.size (Nat.le_refl _) hin Hl hw).mono ?_
      rintro e w4 ⟨rfl, hb4⟩
      have hB4 := hB3.trans (hb4.mono hB3.size)
      have hin4 := hin.below hb4 (Nat.le_refl _)
      have hv4 := hv.below hB4 (Nat.le_refl _)
      by_cases h4 : 4 ≤ l.length
      · obtain ⟨m, hm⟩ : ∃ m, l.length = m + 4 := ⟨l.length - 4, by omega⟩
        have hne : l ≠ Sm.seal_ (l.take m) := by
          intro h
          have := (Sm.whole_eq h4).2 (by rw [hm, Nat.add_sub_cancel]; exact h)
          rw [hw] at this
          cases this
        have h4' : (4 : Int) ≤ (l.length : Int) := by omega
        have hs4 : (l.length : Int) - 4 = (m : Int) := by omega
        have hh := fun W => slice_head W ad l.length c m (by omega)
        have Hm : Hid ((l.take m).length ≤ 1099511627776) := by show _ ≤ _; simp; omega
        have hvm := hv4.head m (by omega)
        clear hm
        go_wp2_with fail
        refine (refSeal_any _ (l.take m) w4 w.heap.size hB4.size hvm Hm).mono ?_
        rintro e w5 ⟨v5, rfl, ho5, hb5⟩
        have hB5 := hB4.trans (hb5.mono hB4.size)
        go_wp2_with fail
        refine (Equal_other _ _ l (Sm.seal_ (l.take m)) w.heap.size w5.heap.size w5 (hv.below hB5 (Nat.le_refl _)) ho5.byts hne).mono ?_
        rintro e w6 ⟨rfl, hw6⟩
        rw [hw6]
        clear hw6 w6
        go_wp2_with fail
        refine (Equal_same _ _ l w3.heap.size w.heap.size w5 (hin4.below hb5 hb4.size) (hv.below hB5 (Nat.le_refl _))).mono ?_
        rintro e w6 ⟨rfl, hw6⟩
        rw [hw6]
        clear hw6 w6
        go_wp2
        go_ret
        exact ⟨rfl, hB5⟩
      · have h4' : decide ((4 : Int) ≤ (l.length : Int)) = false := decide_eq_false (by omega)
        go_wp2_with fail
        refine (Equal_same _ _ l w3.heap.size w.heap.size w4 hin4 hv4).mono ?_
        rintro e w6 ⟨rfl, hw6⟩
        rw [hw6]
        clear hw6 w6
        go_wp2
        go_ret
        exact ⟨rfl, hB4⟩
    | true =>
      have h4 : 4 ≤ l.length := by
        rcases Nat.lt_or_ge l.length 4 with h | h
        · unfold Sm.whole at hw
          simp [show ¬ 4 ≤ l.length by omega] at hw
        · exact h
      obtain ⟨m, hm⟩ : ∃ m, l.length = m + 4 := ⟨l.length - 4, by omega⟩
      have heq : l = Sm.seal_ (l.take m) := by
        have := (Sm.whole_eq h4).1 hw
        rwa [hm, Nat.add_sub_cancel] at this
      have Heq : Hid (l = Sm.seal_ (l.take m)) := heq
      clear heq
      have h4' : (4 : Int) ≤ (l.length : Int) := by omega
      have hs4 : (l.length : Int) - 4 = (m : Int) := by omega
      have hs4' : l.length - 4 = m := by omega
      have hh := fun W => slice_head W ad l.length c m (by omega)
      have Hm : Hid ((l.take m).length ≤ 1099511627776) := by show _ ≤ _; simp; omega
      have HM : Hid (l.length = m + 4) := hm
      have hgo := Open_yes _ l w3 w3.heap.size (Nat.le_refl _) hin Hl hw
      rw [hs4'] at hgo
      clear hm hs4' h4
      refine hgo.mono ?_
      clear hgo
      rintro e w4 ⟨hor, hb4⟩
      have hB4 := hB3.trans (hb4.mono hB3.size)
      have hin4 := hin.below hb4 (Nat.le_refl _)
      have hv4 := hv.below hB4 (Nat.le_refl _)
      have hvm := hv4.head m (by rw [HM.out]; omega)
      have hzz := hb4.size
      have HB4 : Hid (w3.heap.size ≤ w4.heap.size) := hzz
      clear hb4
      rcases hor with ⟨hlen, rfl⟩ | ⟨hlen, g, rfl, hg, hk⟩
      · have hl4 : ((l.length : Int) == 4) = true := by rw [beq_iff_eq]; omega
        have hm0 : m = 0 := by have := HM.out; omega
        subst hm0
        clear hlen
        go_wp2_with fail
        refine (refSeal_any _ (l.take 0) w4 w.heap.size hB4.size hvm Hm).mono ?_
        rintro e w5 ⟨v5, rfl, ho5, hb5⟩
        have hB5 := hB4.trans (hb5.mono hB4.size)
        have hy5 := ho5.byts
        rw [← Heq.out] at hy5
        have hin5 := hin4.below hb5 hzz
        have hv5 := hv.below hB5 (Nat.le_refl _)
        have hvm5 := hvm.below hb5 hB4.size
        go_wp2_with fail
        refine (Equal_same _ _ l w.heap.size w5.heap.size w5 hv5 hy5).mono ?_
        rintro e w6 ⟨rfl, hw6⟩
        rw [hw6]
        clear hw6 w6
        go_wp2_with fail
        refine (Equal_same _ _ l w3.heap.size w.heap.size w5 hin5 hv5).mono ?_
        rintro e w6 ⟨rfl, hw6⟩
        rw [hw6]
        clear hw6 w6
        go_wp2_with fail
        refine (Equal_same _ _ [] 0 w.heap.size w5 (Byts.nil _ _) (by simpa using hvm5)).mono ?_
        rintro e w6 ⟨rfl, hw6⟩
        rw [hw6]
        clear hw6 w6
        have hcl : ∀ ty, (Builtin.clear_ #[23] ty #[.slice none 0 0]).run Try.prog w5 = .ok (.tuple #[]) w5 := fun ty => by simp [Builtin.clear_, run_underlying Try.underlying23]
        go_wp2_with (at_builtin; go_must (refine wpList_append_byte w5 rfl (.tmp 69) (.tmp 70) rfl w5.heap.size (.slice none 0 0) [] 9 9 rfl rfl (Own.nil _ _) rfl (show _ ≤ _ by decide) (Nat.le_refl _) ?_))
        intro v7 w7 ho7 hb7
        have hB7 := hB5.trans (hb7.mono hB5.size)
        go_wp2_with fail
        refine (Equal_same _ _ l w3.heap.size w.heap.size w7 (hin5.below hb7 (Nat.le_trans hzz hb5.size)) (hv.below hB7 (Nat.le_refl _))).mono ?_
        rintro e w8 ⟨rfl, hw8⟩
        rw [hw8]
        clear hw8 w8
        go_wp2
        go_ret
        exact ⟨rfl, hB7⟩
      · have hl4 : ((l.length : Int) == 4) = false := by rw [beq_eq_false_iff_ne]; omega
        have hm0 : ((m : Int) == 0) = false := by rw [beq_eq_false_iff_ne]; have := HM.out; omega
        have hmp : 0 < m := by have := HM.out; omega
        have hml : m = (l.take m).length := by have := HM.out; simp; omega
        have hmx : m ≤ maxLen := by have := HM.out; unfold maxLen; omega
        have Hml : Hid (m = (l.take m).length) := hml
        have Hmx : Hid (m ≤ maxLen) := hmx
        have Hmp : Hid (0 < m) := hmp
        have Hmb : Hid (m ≤ 1099511627800) := by have := HM.out; show _ ≤ _; omega
        clear hlen hml hmx hmp
        go_wp2_with fail
        refine (refSeal_any _ (l.take m) w4 w.heap.size hB4.size hvm Hm).mono ?_
        rintro e w5 ⟨v5, rfl, ho5, hb5⟩
        have hB5 := hB4.trans (hb5.mono hB4.size)
        have hy5 := ho5.byts
        rw [← Heq.out] at hy5
        have hin5 := hin4.below hb5 hzz
        have hv5 := hv.below hB5 (Nat.le_refl _)
        have hvm5 := hvm.below hb5 hB4.size
        have hk5 := hk.below hb5 hk.lt
        go_wp2_with fail
        refine (Equal_same _ _ l w.heap.size w5.heap.size w5 hv5 hy5).mono ?_
        rintro e w6 ⟨rfl, hw6⟩
        rw [hw6]
        clear hw6 w6
        go_wp2_with fail
        refine (Equal_same _ _ l w3.heap.size w.heap.size w5 hin5 hv5).mono ?_
        rintro e w6 ⟨rfl, hw6⟩
        rw [hw6]
        clear hw6 w6
        go_wp2_with fail
        refine (Equal_same _ _ (l.take m) (g + 1) w.heap.size w5 (hk5.all Hml.out (Nat.le_refl _)) hvm5).mono ?_
        rintro e w6 ⟨rfl, hw6⟩
        rw [hw6]
        clear hw6 w6
        obtain ⟨w6, X', hcl, hX, hk6, hb6⟩ := clear_blk w5 g m (l.take m) hk5 Hml.out Hmp.out
        have hgw : w.heap.size ≤ g := Nat.le_trans hB3.size hg
        have hg6 := hk6.lt
        have Hx6 : Hid (X'.length ≤ 1099511627800) := by show _ ≤ _; rw [hX]; exact Hmb.out
        have hB6 := hB5.trans (hb6.mono hgw)
        have ho6 := hk6.own (base := g) hX.symm (Nat.le_refl _) Hmx.out
        clear hX
        go_wp2_with (at_builtin; go_must (refine wpList_append_byte w6 rfl (.tmp 69) (.tmp 70) rfl g _ X' 9 9 rfl rfl ho6 rfl Hx6 (Nat.le_of_lt hg6) ?_))
        intro v7 w7 ho7 hb7
        have hB7 := hB6.trans (hb7.mono hgw)
        go_wp2_with fail
        refine (Equal_same _ _ l w3.heap.size w.heap.size w7 ((hin5.below hb6 hg).below hb7 hg) (hv.below hB7 (Nat.le_refl _))).mono ?_
        rintro e w8 ⟨rfl, hw8⟩
        rw [hw8]
        clear hw8 w8
        go_wp2
        go_ret
        exact ⟨rfl, hB7⟩
  · have hl' : (3000 : Int) < (l.length : Int) := by omega
    go_wp2
    go_ret
    exact ⟨rfl, hb1⟩
end Go.Proofs.Ytmogihffkglieaa
