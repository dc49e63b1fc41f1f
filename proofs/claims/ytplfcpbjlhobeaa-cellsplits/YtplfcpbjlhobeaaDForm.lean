/-
  THE WALKS OF appendPage, appendHead, appendPart.
-/
import Derived.Test.YtplfcpbjlhobeaaRForm
import Derived.Test.YtplfcpbjlhobeaaWKit
namespace Go.Proofs.Ytplfcpbjlhobeaa
open Go.RowKit

set_option maxRecDepth 100000 in
theorem appendPage_any (k : Int) (h0 : 0 ≤ k) (h1 : k ≤ 65535) (base : Nat) (v : Value) (xs : List UInt8) (w : World) (hown : Own w base v xs) (hx : xs.length ≤ 1099511627000) (hbase : base ≤ w.heap.size) :
    Calls Try.prog 63 #[v, .int .i64 k] w fun e w' => ∃ v', e = .returned v' ∧ Own w' base v' (xs ++ Cm.two k) ∧ Below base w w' := by
  have Hl : Hid (xs.length + (Cm.two k).length ≤ 1099511627800) := by show _ ≤ _; rw [Cm.two_length]; omega
  have HB := byts_lit w #[.int .u8 (k % 256), .int .u8 (k / 256)] (Cm.two k) 2 (two_bytes h0 h1) rfl
  clear hx
  go_enter Try.func63, Try.ntmps63
  go_wp2_with (at_builtin; refine wpList_append_byts rfl (.tmp 5) (.tmp 11) rfl base _ _ _ xs (Cm.two k) rfl (hown.alloc _) rfl HB Hl (by simp; omega) ?_)
  intro v' w' ho hg
  go_wp2
  go_ret
  exact ⟨v', rfl, ho, (hown.alloc _).grow hg ((Below.refl base w).alloc hbase _) (by simp; omega)⟩

set_option maxRecDepth 100000 in
theorem appendHead_any (leaf : Bool) (m : Nat) (hm : m ≤ 2000000) (base : Nat) (v : Value) (xs : List UInt8) (w : World) (hown : Own w base v xs) (hx : xs.length ≤ 1099511627000) (hbase : base ≤ w.heap.size) :
    Calls Try.prog 62 #[v, .bool leaf, .int .i64 (m : Int)] w fun e w' => ∃ v', e = .returned v' ∧ Own w' base v' (xs ++ (if leaf = true then [1] else [2]) ++ Wm.putU m) ∧ Below base w w' := by
  have Hl : Hid (xs.length ≤ 1099511627800) := by show _ ≤ _; omega
  have Hl2 : ∀ b : UInt8, Hid ((xs ++ [b]).length + (Wm.putU m).length ≤ 1099511627800) := fun b => by have := (Wm.putU_length m).2; show _ ≤ _; simp; omega
  have hU : ∀ W : World, Calls Try.prog 76 #[.int .u64 (m : Int)] W fun e w' => ∃ v', e = .returned v' ∧ Own w' W.heap.size v' (Wm.putU m) ∧ Below W.heap.size W w' := fun W => PutUint_any m (by omega) W
  clear hx
  cases leaf
  · go_enter Try.func62, Try.ntmps62
    go_wp2_with (at_builtin; refine wpList_append_byte w rfl (.tmp 9) (.tmp 11) rfl base _ xs _ 2 rfl rfl hown rfl Hl hbase ?_)
    intro v1 w1 ho1 hb1
    have hs1 : base ≤ w1.heap.size := Nat.le_trans hbase hb1.size
    go_wp2_with fail
    refine (hU _).mono ?_
    rintro e w2 ⟨v2, rfl, ho2, hb2⟩
    replace ho1 := ho1.below hb2 (Nat.le_refl _)
    replace hb1 := hb1.trans (hb2.mono hs1)
    replace hs1 := Nat.le_trans hs1 hb2.size
    go_wp2_with (at_builtin; refine wpList_append_byts rfl (.tmp 12) (.tmp 15) rfl base w2.heap.size _ _ _ (Wm.putU m) rfl ho1 rfl ho2.byts (Hl2 _) hs1 ?_)
    intro v3 w3 ho3 hg3
    go_wp2
    go_ret
    exact ⟨v3, rfl, ho3, ho1.grow hg3 hb1 hs1⟩
  · go_enter Try.func62, Try.ntmps62
    go_wp2_with (at_builtin; refine wpList_append_byte w rfl (.tmp 9) (.tmp 11) rfl base _ xs _ 1 rfl rfl hown rfl Hl hbase ?_)
    intro v1 w1 ho1 hb1
    have hs1 : base ≤ w1.heap.size := Nat.le_trans hbase hb1.size
    go_wp2_with fail
    refine (hU _).mono ?_
    rintro e w2 ⟨v2, rfl, ho2, hb2⟩
    replace ho1 := ho1.below hb2 (Nat.le_refl _)
    replace hb1 := hb1.trans (hb2.mono hs1)
    replace hs1 := Nat.le_trans hs1 hb2.size
    go_wp2_with (at_builtin; refine wpList_append_byts rfl (.tmp 12) (.tmp 15) rfl base w2.heap.size _ _ _ (Wm.putU m) rfl ho1 rfl ho2.byts (Hl2 _) hs1 ?_)
    intro v3 w3 ho3 hg3
    go_wp2
    go_ret
    exact ⟨v3, rfl, ho3, ho1.grow hg3 hb1 hs1⟩

theorem or_one {m : Nat} (h : m ≤ 1000000) : bits .or .u64 ((m : Int) * 2) 1 = ((2 * m + 1 : Nat) : Int) := by
  have := u64_or_nat (2 * m) 1 (by omega) (by decide)
  rw [nat_join 1 (2 * m) 1 (by omega) (by omega)] at this
  rw [show (m : Int) * 2 = ((2 * m : Nat) : Int) by omega]
  exact this

set_option maxRecDepth 100000 in
set_option maxHeartbeats 2000000 in
theorem appendPart_any (n : Cm.Nd) (i : Nat) (hi : i < n.items.length) (vn : Value) (B : Nat) (base : Nat) (v : Value) (xs : List UInt8) (w : World) (hn : NdS w B vn n) (hB : B ≤ base) (hl : n.items.length ≤ 1000000) (hf : Cm.Fit n) (hown : Own w base v xs) (hx : xs.length ≤ 1099511000000) (hbase : base ≤ w.heap.size) :
    Calls Try.prog 57 #[v, vn, .int .i64 (i : Int)] w fun e w' => ∃ v', e = .returned v' ∧ Own w' base v' (xs ++ Cm.part n.leaf (n.kids.getD (i + 1) 0) (n.items.getD i Cm.zero)) ∧ Below base w w' := by
  obtain ⟨vi, vk, rfl, ⟨ad, c, rfl, hc, hcn, hit⟩, ⟨kd, d, rfl, hd, hkn, hki⟩⟩ := hn
  obtain ⟨b, o, rfl, hbl, hcs⟩ := hit (by intro h; rw [h] at hi; simp at hi)
  obtain ⟨c0, c1, c2, c3⟩ := hcs i hi
  have hfi := hf.1 i hi
  have Hkid : Hid (n.leaf = false → ∃ kb ko, kd = some ⟨kb, ko, none⟩ ∧ kb < B ∧ w.cell? ⟨kb, ko + (i + 1), none⟩ = some (.int .i64 (n.kids.getD (i + 1) 0)) ∧ i + 1 < n.kids.length ∧ 0 ≤ n.kids.getD (i + 1) 0 ∧ n.kids.getD (i + 1) 0 ≤ 65535) := by
    intro h
    have h2 := (hf.2 h).2
    obtain ⟨kb, ko, e, hkb, hkc⟩ := hki (by intro h; rw [h] at h2; simp at h2)
    have h3 := kid_ok hf h (i := i + 1) (by omega)
    exact ⟨kb, ko, e, hkb, hkc (i + 1) (by omega), by omega, h3.1, h3.2⟩
  have Hpt : Hid _ := (rfl : Cm.part n.leaf (n.kids.getD (i + 1) 0) (n.items.getD i Cm.zero) = Cm.part n.leaf (n.kids.getD (i + 1) 0) (n.items.getD i Cm.zero))
  obtain ⟨x, hxe⟩ : ∃ x, n.items.getD i Cm.zero = x := ⟨_, rfl⟩
  obtain ⟨kid, hke⟩ : ∃ kid, n.kids.getD (i + 1) 0 = kid := ⟨_, rfl⟩
  rw [hxe] at c0 c1 c2 c3 hfi ⊢
  rw [hke] at Hkid ⊢
  clear hxe hke Hpt hcs hit hki hf
  obtain ⟨xk, xv, xp, xl⟩ := x
  simp only at c0 c1 c2 c3 hfi
  obtain ⟨hok, hoi⟩ := hfi
  have hxs : xk.size ≤ 64 := hok.2
  have hxl : xk.data.toList.length = xk.size := by rw [Array.length_toList]; rfl
  have hpu := (Wm.putU_length xk.size).2
  have Hl1 : Hid (xs.length + (Wm.putT xk.data.toList).length ≤ 1099511627800) := by
    show _ ≤ _; unfold Wm.putT; rw [List.length_append, hxl]; omega
  have Hl2 : Hid ((xs ++ Wm.putT xk.data.toList).length ≤ 1099511100000) := by
    show _ ≤ _; unfold Wm.putT; rw [List.length_append, List.length_append, hxl]; omega
  have Hoi : Hid _ := hoi
  clear hok hpu hxl hx hoi
  obtain ⟨lf, hlf⟩ : ∃ lf, n.leaf = lf := ⟨_, rfl⟩
  rw [hlf] at Hkid Hoi ⊢
  clear hlf
  have hii : (i : Int) < (n.items.length : Int) := by omega
  have hbw : b < w.heap.size := Nat.lt_of_lt_of_le hbl (Nat.le_trans hB hbase)
  go_enter Try.func57, Try.ntmps57
  go_upto_region 1 with fail
  have hx0 := heap_alloc_new w (.cells #[.bool lf, .slice (some ⟨b, o, none⟩) n.items.length c, .slice kd n.kids.length d] 28)
  have hb0 := (Below.refl w.heap.size w).alloc (Nat.le_refl _) (.cells #[.bool lf, .slice (some ⟨b, o, none⟩) n.items.length c, .slice kd n.kids.length d] 28)
  have ho0 := hown.alloc (.cells #[.bool lf, .slice (some ⟨b, o, none⟩) n.items.length c, .slice kd n.kids.length d] 28)
  generalize w.alloc (.cells #[.bool lf, .slice (some ⟨b, o, none⟩) n.items.length c, .slice kd n.kids.length d] 28) = W at *
  have hbk := hb0.block b hbw
  replace c0 := (World.cell?_of_block (a := ⟨b, o + i * 4, none⟩) hbk).trans c0
  replace c1 := (World.cell?_of_block (a := ⟨b, o + i * 4 + 1, none⟩) hbk).trans c1
  replace c2 := (World.cell?_of_block (a := ⟨b, o + i * 4 + 2, none⟩) hbk).trans c2
  replace c3 := (World.cell?_of_block (a := ⟨b, o + i * 4 + 3, none⟩) hbk).trans c3
  obtain ⟨n0, n1, n2⟩ := cells3_of hx0
  go_upto_region 2 with fail
  have hWx := heap_alloc_new W (.cells #[.string xk, .string xv, .int .i64 xp, .int .i64 xl] 24)
  have hb1 := hb0.alloc hb0.size (.cells #[.string xk, .string xv, .int .i64 xp, .int .i64 xl] 24)
  have hx1 := (((Below.refl _ W).alloc (Nat.le_refl _) (.cells #[.string xk, .string xv, .int .i64 xp, .int .i64 xl] 24)).block w.heap.size (lt_of_heap hx0)).trans hx0
  have ho1 := ho0.alloc (.cells #[.string xk, .string xv, .int .i64 xp, .int .i64 xl] 24)
  generalize W.alloc (.cells #[.string xk, .string xv, .int .i64 xp, .int .i64 xl] 24) = W1 at *
  generalize W.heap.size = X at *
  clear hx0 hb0 ho0 c0 c1 c2 c3 hbk n0 n1 n2
  obtain ⟨x0, x1, x2, x3⟩ := cells4_of hWx
  go_wp2_with fail
  refine (PutText_any xk (by omega) _).mono ?_
  rintro e w2 ⟨v2, rfl, ho2, hb2⟩
  replace hWx := (hb2.block X (lt_of_heap hWx)).trans hWx
  replace hx1 := (hb2.block w.heap.size (lt_of_heap hx1)).trans hx1
  replace ho1 := ho1.below hb2 (Nat.le_refl _)
  replace hb1 := hb1.trans (hb2.mono hb1.size)
  clear hb2 x0 x1 x2 x3
  have hs1 : base ≤ w2.heap.size := Nat.le_trans hbase hb1.size
  go_wp2_with (at_builtin; refine wpList_append_byts rfl (.tmp 13) (.tmp 16) rfl base w2.heap.size _ _ _ (Wm.putT xk.data.toList) rfl ho1 rfl ho2.byts Hl1 hs1 ?_)
  intro v3 w3 ho3 hg3
  replace hWx := ho1.box hg3 hWx (by decide)
  replace hx1 := ho1.box hg3 hx1 (by decide)
  have hb3 : Below base w w3 := ho1.grow hg3 (hb1.mono hbase) hs1
  clear hg3 ho1 hb1 ho2 hs1
  have hs3 : base ≤ w3.heap.size := Nat.le_trans hbase hb3.size
  obtain ⟨x0, x1, x2, x3⟩ := cells4_of hWx
  obtain ⟨n0, n1, n2⟩ := cells3_of hx1
  obtain ⟨L, hL⟩ : ∃ L, L = xs ++ Wm.putT xk.data.toList := ⟨_, rfl⟩
  replace ho3 : Own w3 base v3 L := by rw [hL]; exact ho3
  have HL : Hid _ := hL
  rw [← hL] at Hl2
  clear hL
  cases lf
  · obtain ⟨kb, ko, hkd, hkb, hkc, hkl, hk0, hk1⟩ := Hkid.out rfl
    subst hkd
    have ck := (hb3.cell (p := ⟨kb, ko + (i + 1), none⟩) (Nat.lt_of_lt_of_le hkb hB)).trans hkc
    have i1 : (i : Int) + 1 < (n.kids.length : Int) := by omega
    clear hkc hkl Hkid
    go_wp2_with fail
    refine (appendPage_any kid hk0 hk1 base _ _ _ ho3 (by have := Hl2.out; omega) hs3).mono ?_
    rintro e w4 ⟨v4, rfl, ho4, hb4⟩
    go_wp2
    go_ret
    refine ⟨v4, rfl, ?_, hb3.trans hb4⟩
    rw [HL.out, List.append_assoc] at ho4
    exact ho4
  · clear Hkid
    by_cases hp : xp = 0
    · have hvs := val_small Hoi.out
      subst hp
      simp only at hvs
      have hU : ∀ W : World, Calls Try.prog 76 #[.int .u64 ((xv.size : Int) * 2)] W fun e w' => ∃ v', e = .returned v' ∧ Own w' W.heap.size v' (Wm.putU (2 * xv.size)) ∧ Below W.heap.size W w' := fun W => by
        have := PutUint_any (2 * xv.size) (by omega) W
        rwa [show ((2 * xv.size : Nat) : Int) = (xv.size : Int) * 2 by omega] at this
      have hvl : xv.data.toList.length = xv.size := by rw [Array.length_toList]; rfl
      have Hl3 : Hid (L.length + (Wm.putU (2 * xv.size)).length ≤ 1099511627800) := by have := Hl2.out; have := (Wm.putU_length (2 * xv.size)).2; show _ ≤ _; omega
      have Hl4 : Hid ((L ++ Wm.putU (2 * xv.size)).length + xv.size ≤ 1099511627800) := by have := Hl2.out; have := (Wm.putU_length (2 * xv.size)).2; show _ ≤ _; rw [List.length_append]; omega
      clear hvl
      go_wp2_with fail
      refine (hU _).mono ?_
      rintro e w4 ⟨v4, rfl, ho4, hb4⟩
      replace ho3 := ho3.below hb4 (Nat.le_refl _)
      replace hWx := (hb4.block X (lt_of_heap hWx)).trans hWx
      replace hb3 := hb3.trans (hb4.mono hs3)
      replace hs3 := Nat.le_trans hs3 hb4.size
      clear hb4 x0 x1 x2 x3 n0 n1 n2 hx1 hU
      go_wp2_with (at_builtin; refine wpList_append_byts rfl (.tmp 34) (.tmp 40) rfl base w4.heap.size _ _ _ (Wm.putU (2 * xv.size)) rfl ho3 rfl ho4.byts Hl3 hs3 ?_)
      intro v5 w5 ho5 hg5
      replace hWx := ho3.box hg5 hWx (by decide)
      replace hb3 : Below base w w5 := ho3.grow hg5 hb3 hs3
      clear hg5 ho3 ho4
      replace hs3 : base ≤ w5.heap.size := Nat.le_trans hbase hb3.size
      obtain ⟨x0, x1, x2, x3⟩ := cells4_of hWx
      obtain ⟨i0, hi0, hz0, hz1, hz2⟩ := info_parts info5
      go_wp2_with (at_builtin; refine Lib.wpList_append_own_string _ rfl (.tmp 42) (.tmp 44) 32 9 rfl base 5 i0 Try.underlying32 Try.underlying9 hi0 hz0 hz1 hz2 _ _ _ rfl ho5 xv rfl ?c1 ?c2 hs3 ?_)
      case c1 => have := Hl4.out; unfold maxLen; omega
      case c2 => have := Hl4.out; omega
      intro v6 w6 h6 hg6 _
      go_wp2
      go_ret
      refine ⟨v6, rfl, ?_, ho5.grow hg6 hb3 hs3⟩
      have e : xs ++ Cm.part true kid ⟨xk, xv, 0, xl⟩ = L ++ Wm.putU (2 * xv.size) ++ xv.data.toList := by
        rw [HL.out]
        unfold Cm.part
        rw [if_neg (by simp), if_neg (by simp)]
        simp only [List.append_assoc]
      rw [e]
      unfold Own
      rw [bV_append, List.length_append, size_toList, List.length_append]
      exact h6
    · have hp1 : 0 < xp := by
        have := Hoi.out
        unfold Cm.OkI Cm.Inline Cm.Chain at this
        simp only [if_true] at this
        omega
      have hps := page_small Hoi.out hp1
      simp only at hps
      obtain ⟨m, rfl⟩ := Int.eq_ofNat_of_zero_le (show 0 ≤ xl by omega)
      have hU : ∀ W : World, Calls Try.prog 76 #[.int .u64 (bits .or .u64 ((m : Int) * 2) 1)] W fun e w' => ∃ v', e = .returned v' ∧ Own w' W.heap.size v' (Wm.putU (2 * m + 1)) ∧ Below W.heap.size W w' := fun W => by
        have := PutUint_any (2 * m + 1) (by omega) W
        rwa [← or_one (by omega)] at this
      have Hl3 : Hid (L.length + (Wm.putU (2 * m + 1)).length ≤ 1099511627800) := by have := Hl2.out; have := (Wm.putU_length (2 * m + 1)).2; show _ ≤ _; omega
      have Hl4 : Hid ((L ++ Wm.putU (2 * m + 1)).length ≤ 1099511627000) := by have := Hl2.out; have := (Wm.putU_length (2 * m + 1)).2; show _ ≤ _; rw [List.length_append]; omega
      go_wp2_with fail
      refine (hU _).mono ?_
      rintro e w4 ⟨v4, rfl, ho4, hb4⟩
      replace ho3 := ho3.below hb4 (Nat.le_refl _)
      replace hWx := (hb4.block X (lt_of_heap hWx)).trans hWx
      replace hb3 := hb3.trans (hb4.mono hs3)
      replace hs3 := Nat.le_trans hs3 hb4.size
      clear hb4 x0 x1 x2 x3 n0 n1 n2 hx1 hU
      go_wp2_with (at_builtin; refine wpList_append_byts rfl (.tmp 46) (.tmp 52) rfl base w4.heap.size _ _ _ (Wm.putU (2 * m + 1)) rfl ho3 rfl ho4.byts Hl3 hs3 ?_)
      intro v5 w5 ho5 hg5
      replace hWx := ho3.box hg5 hWx (by decide)
      replace hb3 : Below base w w5 := ho3.grow hg5 hb3 hs3
      clear hg5 ho3 ho4
      replace hs3 : base ≤ w5.heap.size := Nat.le_trans hbase hb3.size
      obtain ⟨x0, x1, x2, x3⟩ := cells4_of hWx
      go_wp2_with fail
      refine (appendPage_any xp (by omega) hps.1 base _ _ _ ho5 Hl4.out hs3).mono ?_
      rintro e w6 ⟨v6, rfl, ho6, hb6⟩
      go_wp2
      go_ret
      refine ⟨v6, rfl, ?_, hb3.trans hb6⟩
      have e : xs ++ Cm.part true kid ⟨xk, xv, xp, (m : Int)⟩ = L ++ Wm.putU (2 * m + 1) ++ Cm.two xp := by
        rw [HL.out]
        unfold Cm.part
        rw [if_neg (by simp), if_pos hp1]
        simp only [List.append_assoc, Int.toNat_natCast]
      rw [e]
      exact ho6

end Go.Proofs.Ytplfcpbjlhobeaa
