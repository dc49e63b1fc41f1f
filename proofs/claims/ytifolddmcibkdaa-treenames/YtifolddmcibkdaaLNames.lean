/-
  THE WALK OF TreeNames.
-/
import Derived.Test.YtifolddmcibkdaaLOne
import Derived.Test.YtifolddmcibkdaaLWorks
import Derived.Test.YtifolddmcibkdaaTNames
namespace Go.Proofs.Ytifolddmcibkdaa
open Go.RowKit

theorem nm_conv (k : Nat) (hk : k < 256) (w : World) : (convert 65 9 (.slice (some ⟨w.heap.size, 0, none⟩) 3 3)).run Try.prog (w.alloc (.cells #[.int .u8 (48 + (k : Int) / 100), .int .u8 (48 + (k : Int) / 10 % 10), .int .u8 (48 + (k : Int) % 10)] 5)) = .ok (.string (str ((Tm.nmB k).drop 1))) (w.alloc (.cells #[.int .u8 (48 + (k : Int) / 100), .int .u8 (48 + (k : Int) / 10 % 10), .int .u8 (48 + (k : Int) % 10)] 5)) := by
  have e : ∀ n : Nat, n < 256 → ((UInt8.ofNat n).toNat : Int) = (n : Int) := fun n hn => by rw [UInt8.toNat_ofNat', Nat.mod_eq_of_lt hn]
  refine conv_byts (B := w.heap.size + 1) (byts_lit w _ ((Tm.nmB k).drop 1) 3 ?_ rfl)
  simp only [Tm.nmB, List.drop_succ_cons, List.drop_zero, bV, List.map_cons, List.map_nil]
  rw [e _ (by omega), e _ (by omega), e _ (by omega)]
  simp only [List.cons.injEq, Value.int.injEq, true_and, and_true]
  omega
theorem nm_cat (k : Nat) : (⟨#[102]⟩ : ByteArray) ++ str ((Tm.nmB k).drop 1) = Tm.nm k := by
  apply ByteArray.ext
  apply Array.toList_inj.1
  rw [Tm.nm_data]
  simp [str, Tm.nmB]

theorem full_made (W : World) (full : ByteArray) (h : str (List.replicate 4096 0) = full) : (Instr.makeSlice 65 (.int .i64 4096) (.int .i64 4096)).run Try.prog W = .ok (.slice (some ⟨W.heap.size, 0, none⟩) 4096 4096) (W.alloc (.cells (bV (List.replicate 4096 0)).toArray 5)) ∧ (convert 65 9 (.slice (some ⟨W.heap.size, 0, none⟩) 4096 4096)).run Try.prog (W.alloc (.cells (bV (List.replicate 4096 0)).toArray 5)) = .ok (.string full) (W.alloc (.cells (bV (List.replicate 4096 0)).toArray 5)) := by
  refine ⟨make_byts 4096 4096 rfl (by omega) W, ?_⟩
  have hb := Blk.byts (Blk.made W (List.replicate 4096 0)) 0 4096 4096 (by rw [List.length_replicate]; omega) (Nat.le_refl _)
  rw [List.drop_zero, List.take_of_length_le (by rw [List.length_replicate]; omega)] at hb
  have := conv_byts hb
  rw [h] at this
  exact this

set_option maxRecDepth 100000 in
set_option maxHeartbeats 8000000 in
theorem names_walk (w : World) : Calls Try.prog 9 #[] w fun e w' => e = .returned (.bool true) ∧ Below w.heap.size w w' := by
  go_enter Try.func9, Try.ntmps9
  go_wp2_with fail
  refine (works_true _).mono ?_
  rintro e w1 ⟨rfl, hB1⟩
  go_wp2_with fail
  refine (New_any _).mono ?_
  rintro e w2 ⟨g, S, rfl, hT, hS, hB2⟩
  have hO : One w w2 g (Tm.named 0) [] := ⟨S, hT, fun b hb => ⟨Nat.le_trans hB1.size (hS b hb), by simp⟩, by simp, hB1.trans (hB2.mono hB1.size)⟩
  clear hT hS hB1 hB2
  go_wp2_with fail
  go_loopw [2] (fun i wr => ∃ k : Nat, k ≤ 256 ∧ i = .int .i64 (k : Int) ∧ One w wr g (Tm.named k) []) (fun i _ => 256 - (intOf i).toNat)
  case atStart => exact ⟨0, by omega, rfl, hO⟩
  case round =>
    obtain ⟨k, hk, rfl, hOk⟩ := hrel
    by_cases hlt : k < 256
    · have i1 : (k : Int) < 256 := by omega
      have hcv := nm_conv k hlt wr
      have hcat := nm_cat k
      have HSz : Hid ((str ((Tm.nmB k).drop 1)).size = 3) := rfl
      obtain ⟨sfx, hsfx⟩ : ∃ sfx, str ((Tm.nmB k).drop 1) = sfx := ⟨_, rfl⟩
      rw [hsfx] at hcv hcat HSz
      have hz3 : sfx.size = 3 := HSz.out
      clear hsfx HSz
      have HOk : Hid _ := Tm.named_ok k hk
      have HW : Hid _ := Tm.named_write hlt
      obtain ⟨Wn, hWn⟩ : ∃ Wn, wr.alloc (.cells #[.int .u8 (48 + (k : Int) / 100), .int .u8 (48 + (k : Int) / 10 % 10), .int .u8 (48 + (k : Int) % 10)] 5) = Wn := ⟨_, rfl⟩
      have hOn : One w Wn g (Tm.named k) [] := by rw [← hWn]; exact (hOk.below ((Below.refl _ _).alloc (Nat.le_refl _) _)).1
      rw [hWn] at hcv
      clear hOk
      go_wp2_with fail
      refine (OWrite g _ [] (Tm.nm k) ⟨#[]⟩ _ hOn HOk.out).mono ?_
      rintro e w5 ⟨rfl, hO5, -⟩
      rw [show Tm.write (Tm.named k) (Tm.nm k) ⟨#[]⟩ = (0, Tm.named (k + 1)) from HW.out] at hO5 ⊢
      clear hcv hcat hOn
      go_wp2
      exact ⟨⟨k + 1, by omega, by go_num, hO5⟩, by simp [intOf]; omega⟩
    · obtain rfl : k = 256 := by omega
      have i1 : ¬ ((256 : Nat) : Int) < 256 := by omega
      obtain ⟨full, hfull⟩ : ∃ full, str (List.replicate 4096 0) = full := ⟨_, rfl⟩
      have hfs : full.size = 4096 := by rw [← hfull, str_size]; exact List.length_replicate
      obtain ⟨fx, hfx⟩ : ∃ fx, full ++ (⟨#[120]⟩ : ByteArray) = fx := ⟨_, rfl⟩
      have hfxs : fx.size = 4097 := by rw [← hfx, ByteArray.size_append, hfs]; rfl
      have HFx : Hid _ := hfx
      have HFu : Hid _ := hfull
      clear hfx hfull
      obtain ⟨t1, t2, t3, n1, n2, ok1, n4, n5, n6, n7, n8, n9, n10, n11, ok2, n13, n14, n15, n16, ok3, n18⟩ := Tm.names_known full hfs fx hfxs
      have ok0 := Tm.named_ok 256 (Nat.le_refl _)
      have N1 : Hid _ := n1
      have N2 : Hid _ := n2
      have N11 : Hid _ := n11
      have N13 : Hid _ := n13
      have N14 : Hid _ := n14
      have N15 : Hid _ := n15
      have N16 : Hid _ := n16
      have N18 : Hid _ := n18
      have N4 : Hid _ := n4
      have N5 : Hid _ := n5
      have N6 : Hid _ := n6
      have N7 : Hid _ := n7
      have N8 : Hid _ := n8
      have N9 : Hid _ := n9
      have N10 : Hid _ := n10
      clear n1 n2 n4 n5 n6 n7 n8 n9 n10 n11 n13 n14 n15 n16 n18
      generalize Tm.named 256 = t0 at *
      go_wp2_with fail
      refine (OWrite g t0 [] Tm.gP ⟨#[]⟩ _ hOk ok0).mono ?_
      rintro e w3 ⟨rfl, hO3, -⟩
      rw [show Tm.write t0 Tm.gP ⟨#[]⟩ = _ from N1.out] at hO3 ⊢
      go_wp2_with fail
      refine (OWrite g t0 [] (Tm.nm 0) ⟨#[120]⟩ _ hO3 ok0).mono ?_
      rintro e w4 ⟨rfl, hO4, -⟩
      rw [N2.out] at hO4 ⊢
      clear hOk hO3
      go_wp2_with fail
      refine (OLen g t1 [] _ hO4 ok1).mono ?_
      rintro e w5 ⟨rfl, hO5, -⟩
      rw [N4.out]
      go_wp2_with fail
      refine (OMark g t1 [] _ hO5 ok1).mono ?_
      rintro e w6 ⟨rfl, hO6, -⟩
      rw [N5.out]
      clear hO4 hO5
      go_wp2_with fail
      refine (OSince g t1 [] 225 _ hO6 ok1).mono ?_
      rintro e w7 ⟨v7, rfl, hv7, hO7, -⟩
      obtain ⟨ad7, c7, hve7, -⟩ := hv7.shape
      rw [N6.out] at hve7
      subst hve7
      rw [N7.out]
      clear hv7 hO6
      go_wp2_with fail
      refine (OSince g t1 [] 224 _ hO7 ok1).mono ?_
      rintro e w8 ⟨v8, rfl, hv8, hO8, -⟩
      obtain ⟨ad8, c8, hve8, -⟩ := hv8.shape
      rw [N8.out] at hve8
      subst hve8
      rw [N8.out]
      clear hv8 hO7
      go_wp2_with fail
      refine (OSince g t1 [] 257 _ hO8 ok1).mono ?_
      rintro e w9 ⟨v9, rfl, hv9, hO9, -⟩
      obtain ⟨ad9, c9, hve9, -⟩ := hv9.shape
      rw [N9.out] at hve9
      subst hve9
      rw [N9.out]
      clear hv9 hO8
      go_wp2_with fail
      refine (OSince g t1 [] 258 _ hO9 ok1).mono ?_
      rintro e w10 ⟨v10, rfl, hv10, hO10, -⟩
      obtain ⟨ad10, c10, hve10, -⟩ := hv10.shape
      rw [N10.out] at hve10
      subst hve10
      rw [N10.out]
      clear hv10 hO9
      obtain ⟨hmk, hcv⟩ := full_made w10 full HFu.out
      have hO11 : One w (w10.alloc (.cells (bV (List.replicate 4096 0)).toArray 5)) g t1 [] := (hO10.below ((Below.refl _ _).alloc (Nat.le_refl _) _)).1
      obtain ⟨w11, hw11⟩ : ∃ w11, w10.alloc (.cells (bV (List.replicate 4096 0)).toArray 5) = w11 := ⟨_, rfl⟩
      rw [hw11] at hmk hcv hO11
      clear hw11 hO10
      go_wp2_with fail
      refine (OWrite g t1 [] (Tm.nm 1) full _ hO11 ok1).mono ?_
      rintro e w12 ⟨rfl, hO12, -⟩
      rw [N11.out] at hO12 ⊢
      have hcatx : full ++ (⟨#[120]⟩ : ByteArray) = fx := HFx.out
      clear hO11 hmk hcv
      go_wp2_with fail
      refine (OWrite g t2 [] (Tm.nm 1) fx _ hO12 ok2).mono ?_
      rintro e w13 ⟨rfl, hO13, -⟩
      rw [N13.out] at hO13 ⊢
      clear hO12
      go_wp2_with fail
      refine (OWrite g t2 [] ⟨#[70]⟩ fx _ hO13 ok2).mono ?_
      rintro e w14 ⟨rfl, hO14, -⟩
      rw [N14.out] at hO14 ⊢
      clear hO13
      go_wp2_with fail
      refine (OWrite g t2 [] Tm.gP fx _ hO14 ok2).mono ?_
      rintro e w15 ⟨rfl, hO15, -⟩
      rw [N15.out] at hO15 ⊢
      clear hO14
      go_wp2_with fail
      refine (ORemove g t2 [] (Tm.nm 2) _ hO15 ok2).mono ?_
      rintro e w16 ⟨rfl, hO16, -⟩
      rw [N16.out] at hO16 ⊢
      clear hO15
      go_wp2_with fail
      refine (OWrite g t3 [] Tm.gP ⟨#[]⟩ _ hO16 ok3).mono ?_
      rintro e w17 ⟨rfl, hO17, -⟩
      rw [show (Tm.write t3 Tm.gP ⟨#[]⟩).1 = 0 from N18.out]
      clear hO16
      go_wp2
      obtain ⟨S, -, -, -, hB⟩ := hO17
      go_ret
      exact ⟨rfl, hB⟩
end Go.Proofs.Ytifolddmcibkdaa
