/-
  THE WALK OF THE DOCUMENT's Form, of leaves, and of all.
-/
import Derived.Test.YtplfcpbjlhobeaaRForm
namespace Go.Proofs.Ytplfcpbjlhobeaa
open Go.RowKit

set_option maxRecDepth 100000 in
set_option maxHeartbeats 4000000 in
theorem Form_leaf (n : Cm.Nd) (v : Value) (B : Nat) (w : World) (hlf : n.leaf = true) (hv : NdS w B v n) (hB : B ≤ w.heap.size) (hl : n.items.length ≤ 1000000) (hf : Cm.Fit n) :
    Calls Try.prog 41 #[v] w fun e w' => ∃ v', e = .returned v' ∧ Own w' w.heap.size v' (Cm.form n) ∧ Below w.heap.size w w' := by
  obtain ⟨vi, vk, rfl, ⟨ad, c, rfl, hc, hn, hi⟩, ⟨kd, d, rfl, hd, hkn, hki⟩⟩ := hv
  have Hi : Hid _ := hi
  have Hf : Hid (Cm.Fit n) := hf
  have Hlf : Hid _ := hlf
  clear hi hki hf
  rw [hlf]
  clear hlf
  have hU : ∀ W : World, Calls Try.prog 64 #[.int .u64 (n.items.length : Int)] W fun e w' => ∃ v', e = .returned v' ∧ Own w' W.heap.size v' (Wm.putU n.items.length) ∧ Below W.heap.size W w' := fun W => refUint_any n.items.length (by omega) W
  go_enter Try.func41, Try.ntmps41
  go_wp2_with fail
  refine (hU _).mono ?_
  rintro e w1 ⟨v1, rfl, ho1, hb1⟩
  have hbx := heap_alloc_new w (.cells #[.bool true, .slice ad n.items.length c, .slice kd n.kids.length d] 28)
  have hbw := (Below.refl w.heap.size w).alloc (Nat.le_refl _) (.cells #[.bool true, .slice ad n.items.length c, .slice kd n.kids.length d] 28)
  have hs0 : (w.alloc (.cells #[.bool true, .slice ad n.items.length c, .slice kd n.kids.length d] 28)).heap.size = w.heap.size + 1 := by simp
  have hsz : w.heap.size ≤ (w.alloc (.cells #[.bool true, .slice ad n.items.length c, .slice kd n.kids.length d] 28)).heap.size := by simp
  generalize w.alloc (.cells #[.bool true, .slice ad n.items.length c, .slice kd n.kids.length d] 28) = W0 at *
  have how : Own (W0.alloc (.cells #[.int .u8 1] 5)) w.heap.size (.slice (some ⟨w.heap.size + 1, 0, none⟩) 1 1) [1] := by
    have := (own_lit W0 #[.int .u8 1] [1] rfl (by decide)).low' hsz
    rw [hs0] at this
    exact this
  have hbw2 := hbw.alloc hsz (.cells #[.int .u8 1] 5)
  have hbx2 := (((Below.refl _ W0).alloc (Nat.le_refl _) (.cells #[.int .u8 1] 5)).block w.heap.size (lt_of_heap hbx)).trans hbx
  replace how := how.below hb1 (Nat.le_refl _)
  replace hbx2 := (hb1.block w.heap.size (lt_of_heap hbx2)).trans hbx2
  replace hbw2 := hbw2.trans (hb1.mono hbw2.size)
  clear hb1
  have Hl1 : Hid (([1] : List UInt8).length + (Wm.putU n.items.length).length ≤ 1099511627800) := by have := (Wm.putU_length n.items.length).2; show _ ≤ _; simp; omega
  go_wp2_with (at_builtin; go_must (refine wpList_append_byts rfl (.tmp 11) (.tmp 16) rfl w.heap.size w1.heap.size _ _ [1] (Wm.putU n.items.length) rfl how rfl ho1.byts Hl1 hbw2.size ?_))
  intro v2 w2 ho2 hg2
  have hbx3 := how.box hg2 hbx2 (by decide)
  have hbw3 := how.grow hg2 hbw2 hbw2.size
  clear hg2 how hbx2 hbw2 hU hbx hbw ho1
  obtain ⟨n0, n1, n2⟩ := cells3_of hbx3
  have HH : Hid (Cm.head n = [1] ++ Wm.putU n.items.length) := form_head_leaf n Hlf.out
  replace ho2 : Own w2 w.heap.size v2 (Cm.head n) := by rw [HH.out]; simpa using ho2
  go_wp2
  go_loopw [3, 4] (fun v' i wr => ∃ k : Nat, k ≤ n.items.length ∧ i = .int .i64 (k : Int) ∧ Own wr w.heap.size v' (Cm.head n ++ Cm.parts n k) ∧ wr.heap[w.heap.size]? = some (.cells #[.bool true, .slice ad n.items.length c, .slice kd n.kids.length d] 28 (0, 0)) ∧ Below w.heap.size w wr)
    (fun _ i _ => n.items.length - (intOf i).toNat)
  case atStart => exact ⟨0, Nat.zero_le _, rfl, by simpa [Cm.parts] using ho2, hbx3, hbw3⟩
  case round =>
    obtain ⟨k, hkl, rfl, hor, hbxr, hbr⟩ := hrel
    clear hbx3 hbw3 ho2 n0 n1 n2
    obtain ⟨n0, n1, n2⟩ := cells3_of hbxr
    by_cases hlt : k < n.items.length
    · obtain ⟨b, o, rfl, hbl, hcs⟩ := Hi.out (by intro h; rw [h] at hlt; simp at hlt)
      have hbk := hbr.block b (Nat.lt_of_lt_of_le hbl hB)
      obtain ⟨c0, c1, c2, c3⟩ := hcs k hlt
      replace c0 := (World.cell?_of_block (a := ⟨b, o + k * 4, none⟩) hbk).trans c0
      replace c1 := (World.cell?_of_block (a := ⟨b, o + k * 4 + 1, none⟩) hbk).trans c1
      replace c2 := (World.cell?_of_block (a := ⟨b, o + k * 4 + 2, none⟩) hbk).trans c2
      replace c3 := (World.cell?_of_block (a := ⟨b, o + k * 4 + 3, none⟩) hbk).trans c3
      have hfk := Hf.out.1 k hlt
      rw [Hlf.out] at hfk
      have HP : Hid _ := Cm.parts_succ n k
      have hpc := part_chain n Hlf.out k
      have hpv := part_value n Hlf.out k
      have hple := parts_le Hf.out (show k ≤ n.items.length by omega)
      have hhl := Cm.head_length n
      have hvs := val_small hfk.2
      have hps := page_small hfk.2
      obtain ⟨x, hx⟩ : ∃ x, n.items.getD k Cm.zero = x := ⟨_, rfl⟩
      rw [hx] at c0 c1 c2 c3 hfk hpc hpv HP hvs hps
      obtain ⟨xk, xv, xp, xl⟩ := x
      simp only at c0 c1 c2 c3 hfk hpc hpv hvs hps
      have HPC : Hid _ := hpc
      have HPV : Hid _ := hpv
      clear hcs hx hpc hpv
      have hxs : xk.size ≤ 64 := hfk.1.2
      have hxl : xk.data.toList.length = xk.size := by rw [Array.length_toList]; rfl
      have hpu := (Wm.putU_length xk.size).2
      have Hl3 : Hid ((Cm.head n ++ Cm.parts n k).length + (Wm.putT xk.data.toList).length ≤ 1099511627000) := by
        show _ ≤ _; unfold Wm.putT; rw [hxl]; simp only [List.length_append]; rw [hxl]; omega
      have Hps : Hid _ := hps
      clear hfk hple hhl hxl hpu hps
      go_wp2_with fail
      refine (refText_any xk (by omega) _).mono ?_
      rintro e w5 ⟨v5, rfl, ho5, hb5⟩
      have hWb := hbr.alloc hbr.size (.cells #[.string xk, .string xv, .int .i64 xp, .int .i64 xl] 24)
      have hWn := (((Below.refl _ wr).alloc (Nat.le_refl _) (.cells #[.string xk, .string xv, .int .i64 xp, .int .i64 xl] 24)).block w.heap.size (lt_of_heap hbxr)).trans hbxr
      have hWx := heap_alloc_new wr (.cells #[.string xk, .string xv, .int .i64 xp, .int .i64 xl] 24)
      have how := hor.alloc (.cells #[.string xk, .string xv, .int .i64 xp, .int .i64 xl] 24)
      replace how := how.below hb5 (Nat.le_refl _)
      replace hWn := (hb5.block w.heap.size (lt_of_heap hWn)).trans hWn
      replace hWx := (hb5.block wr.heap.size (lt_of_heap hWx)).trans hWx
      replace hWb := hWb.trans (hb5.mono hWb.size)
      clear hb5 hbr hbxr hor n0 n1 n2 c0 c1 c2 c3 hbk
      have Hl3' : Hid ((Cm.head n ++ Cm.parts n k).length + (Wm.putT xk.data.toList).length ≤ 1099511627800) := by have := Hl3.out; show _ ≤ _; omega
      go_wp2_with (at_builtin; go_must (refine wpList_append_byts rfl (.tmp 40) (.tmp 43) rfl w.heap.size w5.heap.size _ _ _ (Wm.putT xk.data.toList) rfl how rfl ho5.byts Hl3' hWb.size ?_))
      intro v6 w6 ho6 hg6
      obtain ⟨L6, hL6⟩ : ∃ L, L = Cm.head n ++ Cm.parts n k ++ Wm.putT xk.data.toList := ⟨_, rfl⟩
      replace ho6 : Own w6 w.heap.size v6 L6 := by rw [hL6]; simpa using ho6
      have HL6 : Hid _ := hL6
      clear hL6
      have hWn6 := how.box hg6 hWn (by decide)
      have hWx6 := how.box hg6 hWx (by decide)
      have hWb6 := how.grow hg6 hWb hWb.size
      clear hg6 how hWn hWb hWx ho5
      obtain ⟨n0, n1, n2⟩ := cells3_of hWn6
      obtain ⟨x0, x1, x2, x3⟩ := cells4_of hWx6
      by_cases hp : 0 < xp
      · obtain ⟨hp1, hp2, hp3⟩ := Hps.out hp
        obtain ⟨m, rfl⟩ := Int.eq_ofNat_of_zero_le (show 0 ≤ xl by omega)
        have hU : ∀ W : World, Calls Try.prog 64 #[.int .u64 (2 * (m : Int) + 1)] W fun e w' => ∃ v', e = .returned v' ∧ Own w' W.heap.size v' (Wm.putU (2 * m + 1)) ∧ Below W.heap.size W w' := fun W => by
          have := refUint_any (2 * m + 1) (by omega) W
          have e : ((2 * m + 1 : Nat) : Int) = 2 * (m : Int) + 1 := by omega
          rwa [e] at this
        go_wp2_with fail
        refine (hU _).mono ?_
        rintro e w7 ⟨v7, rfl, ho7, hb7⟩
        have how := ho6.below hb7 (Nat.le_refl _)
        have hWn7 := (hb7.block w.heap.size (lt_of_heap hWn6)).trans hWn6
        have hWx7 := (hb7.block wr.heap.size (lt_of_heap hWx6)).trans hWx6
        have hWb7 := hWb6.trans (hb7.mono hWb6.size)
        have Hl4 : Hid (L6.length + (Wm.putU (2 * m + 1)).length ≤ 1099511627100) := by
          have := Hl3.out; have := (Wm.putU_length (2 * m + 1)).2; show _ ≤ _; rw [HL6.out, List.length_append]; omega
        have Hl4' : Hid (L6.length + (Wm.putU (2 * m + 1)).length ≤ 1099511627800) := by have := Hl4.out; show _ ≤ _; omega
        clear hb7 ho6 hWn6 hWb6 hWx6 n0 n1 n2 x0 x1 x2 x3 hU
        go_wp2_with (at_builtin; go_must (refine wpList_append_byts rfl (.tmp 74) (.tmp 80) rfl w.heap.size w7.heap.size _ _ _ (Wm.putU (2 * m + 1)) rfl how rfl ho7.byts Hl4' hWb7.size ?_))
        intro v8 w8 ho8 hg8
        obtain ⟨L8, hL8⟩ : ∃ L, L = L6 ++ Wm.putU (2 * m + 1) := ⟨_, rfl⟩
        replace ho8 : Own w8 w.heap.size v8 L8 := by rw [hL8]; simpa using ho8
        have HL8 : Hid _ := hL8
        clear hL8
        have hWn8 := how.box hg8 hWn7 (by decide)
        have hWx8 := how.box hg8 hWx7 (by decide)
        have hWb8 := how.grow hg8 hWb7 hWb7.size
        clear hg8 how hWn7 hWb7 hWx7 ho7
        obtain ⟨n0, n1, n2⟩ := cells3_of hWn8
        obtain ⟨x0, x1, x2, x3⟩ := cells4_of hWx8
        go_wp2_with fail
        refine (two_any xp (by omega) hp1 _).mono ?_
        rintro e w9 ⟨v9, rfl, ho9, hb9⟩
        have how := ho8.below hb9 (Nat.le_refl _)
        have hWn9 := (hb9.block w.heap.size (lt_of_heap hWn8)).trans hWn8
        have hWb9 := hWb8.trans (hb9.mono hWb8.size)
        have Hl5 : Hid (L8.length + (Cm.two xp).length ≤ 1099511627800) := by
          have := Hl4.out; show _ ≤ _; rw [HL8.out, List.length_append, Cm.two_length]; omega
        clear hb9 ho8 hWn8 hWb8 hWx8 n0 n1 n2 x0 x1 x2 x3
        go_wp2_with (at_builtin; go_must (refine wpList_append_byts rfl (.tmp 82) (.tmp 85) rfl w.heap.size w9.heap.size _ _ _ (Cm.two xp) rfl how rfl ho9.byts Hl5 hWb9.size ?_))
        intro vA wA hoA hgA
        have hWnA := how.box hgA hWn9 (by decide)
        have hWbA := how.grow hgA hWb9 hWb9.size
        clear hgA how hWn9 hWb9 ho9
        have eA : Cm.head n ++ Cm.parts n (k + 1) = L8 ++ Cm.two xp := by
          rw [HP.out, HPC.out hp, HL8.out, HL6.out, Int.toNat_natCast]; simp only [List.append_assoc]
        have HeA : Hid _ := eA
        clear eA
        go_wp2
        refine ⟨⟨k + 1, by omega, by go_num, ?_, hWnA, hWbA⟩, by simp [intOf]; omega⟩
        rw [HeA.out]
        exact hoA
      · have hp' : decide (0 < xp) = false := decide_eq_false hp
        have hU : ∀ W : World, Calls Try.prog 64 #[.int .u64 (2 * (xv.size : Int))] W fun e w' => ∃ v', e = .returned v' ∧ Own w' W.heap.size v' (Wm.putU (2 * xv.size)) ∧ Below W.heap.size W w' := fun W => by
          have := refUint_any (2 * xv.size) (by omega) W
          have e : ((2 * xv.size : Nat) : Int) = 2 * (xv.size : Int) := by omega
          rwa [e] at this
        go_wp2_with fail
        refine (hU _).mono ?_
        rintro e w7 ⟨v7, rfl, ho7, hb7⟩
        have how := ho6.below hb7 (Nat.le_refl _)
        have hWn7 := (hb7.block w.heap.size (lt_of_heap hWn6)).trans hWn6
        have hWx7 := (hb7.block wr.heap.size (lt_of_heap hWx6)).trans hWx6
        have hWb7 := hWb6.trans (hb7.mono hWb6.size)
        have Hl4 : Hid (L6.length + (Wm.putU (2 * xv.size)).length ≤ 1099511627100) := by
          have := Hl3.out; have := (Wm.putU_length (2 * xv.size)).2; show _ ≤ _; rw [HL6.out, List.length_append]; omega
        have Hl4' : Hid (L6.length + (Wm.putU (2 * xv.size)).length ≤ 1099511627800) := by have := Hl4.out; show _ ≤ _; omega
        clear hb7 ho6 hWn6 hWb6 hWx6 n0 n1 n2 x0 x1 x2 x3 hU
        go_wp2_with (at_builtin; go_must (refine wpList_append_byts rfl (.tmp 45) (.tmp 51) rfl w.heap.size w7.heap.size _ _ _ (Wm.putU (2 * xv.size)) rfl how rfl ho7.byts Hl4' hWb7.size ?_))
        intro v8 w8 ho8 hg8
        obtain ⟨L8, hL8⟩ : ∃ L, L = L6 ++ Wm.putU (2 * xv.size) := ⟨_, rfl⟩
        replace ho8 : Own w8 w.heap.size v8 L8 := by rw [hL8]; simpa using ho8
        have HL8 : Hid _ := hL8
        clear hL8
        have hWn8 := how.box hg8 hWn7 (by decide)
        have hWx8 := how.box hg8 hWx7 (by decide)
        have hWb8 := how.grow hg8 hWb7 hWb7.size
        clear hg8 how hWn7 hWb7 hWx7 ho7
        obtain ⟨n0, n1, n2⟩ := cells3_of hWn8
        obtain ⟨x0, x1, x2, x3⟩ := cells4_of hWx8
        have hbs8 := hWb8.size
        obtain ⟨i0, hi0, hz0, hz1, hz2⟩ := info_parts info5
        have Hl5 : Hid (L8.length ≤ 1099511627100) := by have := Hl4.out; show _ ≤ _; rw [HL8.out, List.length_append]; omega
        go_wp2_with (at_builtin; refine Lib.wpList_append_own_string _ rfl (.tmp 53) (.tmp 55) 32 9 rfl w.heap.size 5 i0 Try.underlying32 Try.underlying9 hi0 hz0 hz1 hz2 _ _ _ rfl ho8 xv rfl ?c1 ?c2 hbs8 ?_)
        case c1 => have := Hl5.out; unfold maxLen; omega
        case c2 => have := Hl5.out; omega
        intro vA wA hoA hgA _
        have hWnA := ho8.box hgA hWn8 (by decide)
        have hWbA := ho8.grow hgA hWb8 hWb8.size
        have eA : Cm.head n ++ Cm.parts n (k + 1) = L8 ++ xv.data.toList := by
          rw [HP.out, HPV.out hp, HL8.out, HL6.out]; simp only [List.append_assoc]
        have HeA : Hid _ := eA
        clear eA hgA hWn8 hWb8 hWx8 ho8
        go_wp2
        refine ⟨⟨k + 1, by omega, by go_num, ?_, hWnA, hWbA⟩, by simp [intOf]; omega⟩
        rw [HeA.out]
        unfold Own
        rw [bV_append, List.length_append, size_toList]
        exact hoA
    · obtain rfl : k = n.items.length := by omega
      go_wp2
      go_ret
      exact ⟨_, rfl, hor, hbr⟩

theorem Form_any (n : Cm.Nd) (v : Value) (B : Nat) (w : World) (hv : NdS w B v n) (hB : B ≤ w.heap.size) (hl : n.items.length ≤ 1000000) (hf : Cm.Fit n) :
    Calls Try.prog 41 #[v] w fun e w' => ∃ v', e = .returned v' ∧ Own w' w.heap.size v' (Cm.form n) ∧ Below w.heap.size w w' := by
  cases h : n.leaf with
  | false => exact Form_inner n v B w h hv hB hl hf
  | true => exact Form_leaf n v B w h hv hB hl hf
end Go.Proofs.Ytplfcpbjlhobeaa
