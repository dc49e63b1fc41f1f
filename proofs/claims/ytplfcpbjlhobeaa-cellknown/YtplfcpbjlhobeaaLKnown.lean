/-
  THE WALK OF CellKnown.
-/
import Derived.Test.YtplfcpbjlhobeaaLKnownA
namespace Go.Proofs.Ytplfcpbjlhobeaa
open Go.RowKit

set_option maxRecDepth 100000 in
set_option maxHeartbeats 40000000 in
theorem known_walk (w : World) :
    Calls Try.prog 3 #[] w fun e w' => e = .returned (.bool true) ∧ Below w.heap.size w w' := by
  have hmk0 : ∀ W : World, (Instr.makeSlice 32 (.int .i64 240) (.int .i64 240)).run Try.prog W = .ok (.slice (some ⟨W.heap.size, 0, none⟩) 240 240) (W.alloc (.cells (bV Cm.noughts).toArray 5)) := fun W => make_byts 240 240 rfl (by omega) W
  have hmk1 : ∀ W : World, (Instr.makeSlice 32 (.int .i64 255) (.int .i64 255)).run Try.prog W = .ok (.slice (some ⟨W.heap.size, 0, none⟩) 255 255) (W.alloc (.cells (bV zeros255).toArray 5)) := fun W => make_byts 255 255 rfl (by omega) W
  go_enter Try.func3, Try.ntmps3
  go_wp2_with fail
  refine (works_any _).mono ?_
  rintro e w1 ⟨rfl, hb1⟩
  go_upto_region 4 with fail
  have hN1 := exN_nds w1 (.cells #[.bool false, .slice (some ⟨w1.heap.size, 0, none⟩) 1 1, .slice (some ⟨w1.heap.size + 1, 0, none⟩) 2 2] 28)
  have hq1 := heap_al_at ((w1.alloc (.cells #[.string ⟨#[98]⟩, .string ⟨#[]⟩, .int .i64 0, .int .i64 0] 24)).alloc (.cells #[.int .i64 5, .int .i64 7] 3)) (.cells #[.bool false, .slice (some ⟨w1.heap.size, 0, none⟩) 1 1, .slice (some ⟨w1.heap.size + 1, 0, none⟩) 2 2] 28) (w1.heap.size + 2) (by simp)
  have hbe1 : Below w.heap.size w (((w1.alloc (.cells #[.string ⟨#[98]⟩, .string ⟨#[]⟩, .int .i64 0, .int .i64 0] 24)).alloc (.cells #[.int .i64 5, .int .i64 7] 3)).alloc (.cells #[.bool false, .slice (some ⟨w1.heap.size, 0, none⟩) 1 1, .slice (some ⟨w1.heap.size + 1, 0, none⟩) 2 2] 28)) := ((hb1.alloc hb1.size _).alloc (by have := hb1.size; simp; omega) _).alloc (by have := hb1.size; simp; omega) _
  generalize ((w1.alloc (.cells #[.string ⟨#[98]⟩, .string ⟨#[]⟩, .int .i64 0, .int .i64 0] 24)).alloc (.cells #[.int .i64 5, .int .i64 7] 3)).alloc (.cells #[.bool false, .slice (some ⟨w1.heap.size, 0, none⟩) 1 1, .slice (some ⟨w1.heap.size + 1, 0, none⟩) 2 2] 28) = W at *
  rw [show w1.heap.size + 1 + 1 = w1.heap.size + 2 by omega]
  have hBW : w1.heap.size + 2 ≤ W.heap.size := by have := lt_of_heap hq1; omega
  have HI : Hid (∀ X : World, Below W.heap.size W X → NdS X X.heap.size (.agg #[.bool false, .slice (some ⟨w1.heap.size, 0, none⟩) 1 1, .slice (some ⟨w1.heap.size + 1, 0, none⟩) 2 2]) Cm.exN ∧ X.heap[w1.heap.size + 2]? = some (.cells #[.bool false, .slice (some ⟨w1.heap.size, 0, none⟩) 1 1, .slice (some ⟨w1.heap.size + 1, 0, none⟩) 2 2] 28 (0, 0))) := fun X h => by
    have h1 := h.size
    refine ⟨?_, (h.block _ (by have := lt_of_heap hq1; omega)).trans hq1⟩
    obtain ⟨vi, vk, hv, h2, h3⟩ := hN1.below h hBW
    exact ⟨vi, vk, hv, h2.mono (by omega), h3.mono (by omega)⟩
  have HB : Hid (Below w.heap.size w W) := hbe1
  clear hN1 hq1 hbe1 hb1
  generalize w1.heap.size = q at *
  have J1 := Below.refl W.heap.size W
  go_wp2_with fail
  refine (getZ0 _ _ rfl).mono ?_
  rintro e w2 ⟨rfl, hb⟩
  have J2 : Below W.heap.size W w2 := (by first | exact st0 J1 hb | exact st1 J1 hb | exact st2 J1 hb | exact st3 J1 hb)
  clear J1 hb 
  go_wp2_with fail
  refine (getZ1 _ _ (by simp)).mono ?_
  rintro e w3 ⟨rfl, hb⟩
  have J3 : Below W.heap.size W w3 := (by first | exact st0 J2 hb | exact st1 J2 hb | exact st2 J2 hb | exact st3 J2 hb)
  clear J2 hb 
  go_wp2_with fail
  refine (leafL [sA, sC] 2 rfl (by decide) _ _ (by simp)).mono ?_
  rintro e w4 ⟨a4, c4, rfl, hN, hb⟩
  have J4 : Below W.heap.size W w4 := (by first | exact st0 J3 hb | exact st1 J3 hb | exact st2 J3 hb | exact st3 J3 hb)
  clear J3 hb 
  go_wp2_with fail
  refine (find0 _ _ hN).mono ?_
  rintro e w5 ⟨rfl, hb⟩
  have J5 : Below W.heap.size W w5 := (by first | exact st0 J4 hb | exact st1 J4 hb | exact st2 J4 hb | exact st3 J4 hb)
  clear J4 hb hN
  obtain ⟨hI, hQ⟩ := HI.out w5 J5
  obtain ⟨i0, i1, i2⟩ := cells3_of hQ
  go_wp2_with fail
  refine (find1 _ _ hI).mono ?_
  rintro e w6 ⟨rfl, hb⟩
  have J6 : Below W.heap.size W w6 := (by first | exact st0 J5 hb | exact st1 J5 hb | exact st2 J5 hb | exact st3 J5 hb)
  clear J5 hb hI hQ i0 i1 i2
  obtain ⟨hI, hQ⟩ := HI.out w6 J6
  obtain ⟨i0, i1, i2⟩ := cells3_of hQ
  go_wp2_with fail
  refine (find2 _ _ hI).mono ?_
  rintro e w7 ⟨rfl, hb⟩
  have J7 : Below W.heap.size W w7 := (by first | exact st0 J6 hb | exact st1 J6 hb | exact st2 J6 hb | exact st3 J6 hb)
  clear J6 hb hI hQ i0 i1 i2 HI
  go_wp2_with fail
  refine (leafL [sA, sB, sC] 3 rfl (by decide) _ _ (by simp)).mono ?_
  rintro e w8 ⟨a8, c8, rfl, hN, hb⟩
  have J8 : Below W.heap.size W w8 := (by first | exact st0 J7 hb | exact st1 J7 hb | exact st2 J7 hb | exact st3 J7 hb)
  clear J7 hb 
  go_wp2_with fail
  refine (half0 _ _ hN).mono ?_
  rintro e w9 ⟨aa, ca, ka, da, ab, cb, kb, db, rfl, hA9, hB9, hb⟩
  have J9 : Below W.heap.size W w9 := (by first | exact st0 J8 hb | exact st1 J8 hb | exact st2 J8 hb | exact st3 J8 hb)
  clear J8 hb hN
  have HB9 : Hid (Below w.heap.size w ((w9.alloc (.cells #[.bool true, .slice aa 1 ca, .slice ka 0 da] 28)).alloc (.cells #[.bool true, .slice ab 2 cb, .slice kb 0 db] 28))) := by
    have h := HB.out.trans (J9.mono HB.out.size)
    exact (h.alloc h.size _).alloc (h.alloc h.size _).size _
  have HAB : Hid (∀ X : World, Below ((w9.alloc (.cells #[.bool true, .slice aa 1 ca, .slice ka 0 da] 28)).alloc (.cells #[.bool true, .slice ab 2 cb, .slice kb 0 db] 28)).heap.size ((w9.alloc (.cells #[.bool true, .slice aa 1 ca, .slice ka 0 da] 28)).alloc (.cells #[.bool true, .slice ab 2 cb, .slice kb 0 db] 28)) X → (NdS X X.heap.size (.agg #[.bool true, .slice aa 1 ca, .slice ka 0 da]) (Cm.leafN [sA]) ∧ X.heap[w9.heap.size]? = some (.cells #[.bool true, .slice aa 1 ca, .slice ka 0 da] 28 (0, 0))) ∧ (NdS X X.heap.size (.agg #[.bool true, .slice ab 2 cb, .slice kb 0 db]) (Cm.leafN [sB, sC]) ∧ X.heap[w9.heap.size + 1]? = some (.cells #[.bool true, .slice ab 2 cb, .slice kb 0 db] 28 (0, 0)))) := fun X h => by
    have h9 : Below w9.heap.size w9 X := st2 (Below.refl _ _) h
    refine ⟨⟨nds_up hA9 h9, ?_⟩, ⟨nds_up hB9 h9, ?_⟩⟩
    · exact (h.block _ (by simp; omega)).trans (k_al (heap_alloc_new w9 _) _)
    · exact (h.block _ (by simp)).trans (heap_al_at _ _ _ (by simp))
  clear hA9 hB9 HB
  have J9' := Below.refl ((w9.alloc (.cells #[.bool true, .slice aa 1 ca, .slice ka 0 da] 28)).alloc (.cells #[.bool true, .slice ab 2 cb, .slice kb 0 db] 28)).heap.size ((w9.alloc (.cells #[.bool true, .slice aa 1 ca, .slice ka 0 da] 28)).alloc (.cells #[.bool true, .slice ab 2 cb, .slice kb 0 db] 28))
  clear J9
  go_wp2_with fail
  refine (leafL [sA] 1 rfl (by decide) _ _ (by simp)).mono ?_
  rintro e w10 ⟨a10, c10, rfl, hN, hb⟩
  have J10 := st0 J9' hb
  clear J9' hb
  generalize ((w9.alloc (.cells #[.bool true, .slice aa 1 ca, .slice ka 0 da] 28)).alloc (.cells #[.bool true, .slice ab 2 cb, .slice kb 0 db] 28)) = V at J10 HAB HB9
  go_wp2_with fail
  refine (half1 _ _ hN).mono ?_
  rintro e w11 ⟨rfl, hb⟩
  have J11 : Below V.heap.size V w11 := (by first | exact st0 J10 hb | exact st1 J10 hb | exact st2 J10 hb | exact st3 J10 hb)
  clear J10 hb hN
  go_wp2_with fail
  refine (leafL [sA] 1 rfl (by decide) _ _ (by simp)).mono ?_
  rintro e w12 ⟨a12, c12, rfl, hN, hb⟩
  have J12 : Below V.heap.size V w12 := (by first | exact st0 J11 hb | exact st1 J11 hb | exact st2 J11 hb | exact st3 J11 hb)
  clear J11 hb 
  go_wp2_with fail
  refine (leafL [sB, sC] 2 rfl (by decide) _ _ (by simp)).mono ?_
  rintro e w13 ⟨a13, c13, rfl, hM, hb⟩
  have J13 : Below V.heap.size V w13 := (by first | exact st0 J12 hb | exact st1 J12 hb | exact st2 J12 hb | exact st3 J12 hb)
  replace hN := nds_up hN hb
  clear J12 hb 
  go_wp2_with fail
  refine (join0 _ _ _ hN hM).mono ?_
  rintro e w14 ⟨an, cn, kn, dn, rfl, hN14, hb⟩
  have J14 : Below V.heap.size V w14 := (by first | exact st0 J13 hb | exact st1 J13 hb | exact st2 J13 hb | exact st3 J13 hb)
  clear J13 hb hN hM
  have HB14 : Hid (Below w.heap.size w (w14.alloc (.cells #[.bool true, .slice an 3 cn, .slice kn 0 dn] 28))) := by
    have h := HB9.out.trans (J14.mono HB9.out.size)
    exact h.alloc h.size _
  have HABN : Hid (∀ X : World, Below (w14.alloc (.cells #[.bool true, .slice an 3 cn, .slice kn 0 dn] 28)).heap.size (w14.alloc (.cells #[.bool true, .slice an 3 cn, .slice kn 0 dn] 28)) X → (NdS X X.heap.size (.agg #[.bool true, .slice aa 1 ca, .slice ka 0 da]) (Cm.leafN [sA]) ∧ X.heap[w9.heap.size]? = some (.cells #[.bool true, .slice aa 1 ca, .slice ka 0 da] 28 (0, 0))) ∧ (NdS X X.heap.size (.agg #[.bool true, .slice ab 2 cb, .slice kb 0 db]) (Cm.leafN [sB, sC]) ∧ X.heap[w9.heap.size + 1]? = some (.cells #[.bool true, .slice ab 2 cb, .slice kb 0 db] 28 (0, 0))) ∧ (NdS X X.heap.size (.agg #[.bool true, .slice an 3 cn, .slice kn 0 dn]) (Cm.leafN [sA, sB, sC]) ∧ X.heap[w14.heap.size]? = some (.cells #[.bool true, .slice an 3 cn, .slice kn 0 dn] 28 (0, 0)))) := fun X h => by
    have h14 : Below w14.heap.size w14 X := st1 (Below.refl _ _) h
    have h9 := HAB.out X (st0 J14 h14)
    exact ⟨h9.1, h9.2, nds_up hN14 h14, (h.block _ (by simp)).trans (heap_alloc_new w14 _)⟩
  clear hN14 HB9 HAB
  have J14' := Below.refl (w14.alloc (.cells #[.bool true, .slice an 3 cn, .slice kn 0 dn] 28)).heap.size (w14.alloc (.cells #[.bool true, .slice an 3 cn, .slice kn 0 dn] 28))
  clear J14
  go_wp2_with fail
  refine (leafL [sA] 1 rfl (by decide) _ _ (by simp)).mono ?_
  rintro e w15 ⟨a15, c15, rfl, hN, hb⟩
  have J15 := st0 J14' hb
  clear J14' hb
  generalize (w14.alloc (.cells #[.bool true, .slice an 3 cn, .slice kn 0 dn] 28)) = U at J15 HABN HB14
  go_wp2_with fail
  refine (leafL [sB] 1 rfl (by decide) _ _ (by simp)).mono ?_
  rintro e w16 ⟨a16, c16, rfl, hM, hb⟩
  have J16 : Below U.heap.size U w16 := (by first | exact st0 J15 hb | exact st1 J15 hb | exact st2 J15 hb | exact st3 J15 hb)
  replace hN := nds_up hN hb
  clear J15 hb 
  go_wp2_with fail
  refine (join1 _ _ _ hN hM).mono ?_
  rintro e w17 ⟨rfl, hb⟩
  have J17 : Below U.heap.size U w17 := (by first | exact st0 J16 hb | exact st1 J16 hb | exact st2 J16 hb | exact st3 J16 hb)
  clear J16 hb hN hM
  clear hmk0 hmk1 hBW
  have HS : Hid (∀ W' : World, Below U.heap.size U W' → W'.cell? ⟨w9.heap.size, 0, none⟩ = some (.bool true) ∧ W'.cell? ⟨w9.heap.size, 1, none⟩ = some (.slice aa 1 ca) ∧ W'.cell? ⟨w9.heap.size, 2, none⟩ = some (.slice ka 0 da) ∧ W'.cell? ⟨w9.heap.size + 1, 0, none⟩ = some (.bool true) ∧ W'.cell? ⟨w9.heap.size + 1, 1, none⟩ = some (.slice ab 2 cb) ∧ W'.cell? ⟨w9.heap.size + 1, 2, none⟩ = some (.slice kb 0 db) ∧ W'.cell? ⟨w14.heap.size, 0, none⟩ = some (.bool true) ∧ W'.cell? ⟨w14.heap.size, 1, none⟩ = some (.slice an 3 cn) ∧ W'.cell? ⟨w14.heap.size, 2, none⟩ = some (.slice kn 0 dn)) := fun W' h => by
    obtain ⟨⟨-, h1⟩, ⟨-, h2⟩, ⟨-, h3⟩⟩ := HABN.out W' h
    obtain ⟨x0, x1, x2⟩ := cells3_of h1
    obtain ⟨y0, y1, y2⟩ := cells3_of h2
    obtain ⟨z0, z1, z2⟩ := cells3_of h3
    exact ⟨x0, x1, x2, y0, y1, y2, z0, z1, z2⟩
  go_wp2_with fail
  have JD : Below U.heap.size U (w17.alloc (.cells #[.bool false, .slice none 0 0, .slice none 0 0] 28)) := J17.alloc J17.size _
  have JE : Below U.heap.size U (w17.alloc (.cells #[.bool false, .slice none 0 0, .slice none 0 0] 28)).drew := ⟨JD.os, JD.tape, JD.output, JD.size, JD.block⟩
  refine wp_region_held_drew (S := fun W' : World => W'.cell? ⟨w9.heap.size, 0, none⟩ = some (.bool true) ∧ W'.cell? ⟨w9.heap.size, 1, none⟩ = some (.slice aa 1 ca) ∧ W'.cell? ⟨w9.heap.size, 2, none⟩ = some (.slice ka 0 da) ∧ W'.cell? ⟨w9.heap.size + 1, 0, none⟩ = some (.bool true) ∧ W'.cell? ⟨w9.heap.size + 1, 1, none⟩ = some (.slice ab 2 cb) ∧ W'.cell? ⟨w9.heap.size + 1, 2, none⟩ = some (.slice kb 0 db) ∧ W'.cell? ⟨w14.heap.size, 0, none⟩ = some (.bool true) ∧ W'.cell? ⟨w14.heap.size, 1, none⟩ = some (.slice an 3 cn) ∧ W'.cell? ⟨w14.heap.size, 2, none⟩ = some (.slice kn 0 dn)) (by as_aux_lemma => kernel_rfl) (HS.out _ JE) (fun hHeld => ?_)
  clear J17 JD
  refine wpAnyH_ready (rs := [0]) (by as_aux_lemma => kernel_rfl) (by simp) ?_
  refine AllReadyH.cons rfl (fun K hK => ?_) AllReadyH.nil
  go_simp
  refine (leaf0 _).mono ?_
  rintro e w18 ⟨a18, c18, rfl, hL, hb⟩
  have J18 : Below U.heap.size U w18 := (by first | exact st0 JE hb)
  clear hb
  try go_wp2_with fail
  refine hK.out _ _ (HS.out _ J18) (fun hHeld => ?_)
  clear hK K
  try simp only [Act.put, List.setIfInBounds_toArray, List.set_cons_zero, List.set_cons_succ]
  refine wpAnyH_ready (rs := [1]) (by as_aux_lemma => kernel_rfl) (by simp) ?_
  refine AllReadyH.cons rfl (fun K hK => ?_) AllReadyH.nil
  go_simp
  refine (size0 _ _ hL).mono ?_
  rintro e w19 ⟨rfl, hb⟩
  have J19 : Below U.heap.size U w19 := (by first | exact st0 J18 hb | exact st1 J18 hb | exact st2 J18 hb)
  clear hb
  try go_wp2_with fail
  refine hK.out _ _ (HS.out _ J19) (fun hHeld => ?_)
  clear hK K
  try simp only [Act.put, List.setIfInBounds_toArray, List.set_cons_zero, List.set_cons_succ]
  refine wpAnyH_take (i := 2) (v := ?_) rfl (by as_aux_lemma => kernel_rfl) (by as_aux_lemma => kernel_rfl) (by as_aux_lemma => kernel_rfl) (fun _ _ _ h => h) (Or.inl ⟨(by simp [Region.wanted]), ?_⟩) (hHeld) ?_
  rotate_left
  · (intro w hSw; (try dsimp only at hSw); ((go_simp) <;> (with_reducible rfl)))
  try simp only [Act.put, List.setIfInBounds_toArray]
  refine wpAnyH_take (i := 3) (v := ?_) rfl (by as_aux_lemma => kernel_rfl) (by as_aux_lemma => kernel_rfl) (by as_aux_lemma => kernel_rfl) (fun _ _ _ h => h) (Or.inl ⟨(by simp [Region.wanted]), ?_⟩) (hHeld) ?_
  rotate_left
  · (intro w hSw; (try dsimp only at hSw); ((go_simp) <;> (with_reducible rfl)))
  try simp only [Act.put]
  refine wpAnyH_take (i := 4) (v := ?_) rfl (by as_aux_lemma => kernel_rfl) (by as_aux_lemma => kernel_rfl) (by as_aux_lemma => kernel_rfl) (fun _ _ _ h => h) (Or.inl ⟨(by simp [Region.wanted, yielded]), ?_⟩) (hHeld) ?_
  rotate_left
  · (intro w hSw; (try dsimp only at hSw); ((go_simp) <;> (with_reducible rfl)))
  try simp only [Act.put]
  refine wpAnyH_ready (rs := [5]) (by as_aux_lemma => kernel_rfl) (by simp) ?_
  refine AllReadyH.cons rfl (fun K hK => ?_) AllReadyH.nil
  go_simp
  refine hK.out _ _ (HS.out _ ((J19).alloc (J19).size (.cells #[.string sA, .string ⟨#[120, 121]⟩, .int .i64 0, .int .i64 0] 24))) (fun hHeld => ?_)
  clear hK K
  try simp only [Act.put, List.setIfInBounds_toArray, List.set_cons_zero, List.set_cons_succ]
  refine wpAnyH_take (i := 6) (v := ?_) rfl (by as_aux_lemma => kernel_rfl) (by as_aux_lemma => kernel_rfl) (by as_aux_lemma => kernel_rfl) (fun _ _ _ h => h) (Or.inl ⟨(by simp [Region.wanted, yielded]), ?_⟩) (hHeld) ?_
  rotate_left
  · (intro w hSw; (try dsimp only at hSw); ((go_simp) <;> (with_reducible rfl)))
  try simp only [Act.put, List.setIfInBounds_toArray]
  refine wpAnyH_ready (rs := [7]) (by as_aux_lemma => kernel_rfl) (by simp) ?_
  refine AllReadyH.cons rfl (fun K hK => ?_) AllReadyH.nil
  go_simp
  refine (size1 _ _ rfl).mono ?_
  rintro e w20 ⟨rfl, hb⟩
  have J20 : Below U.heap.size U w20 := (by first | exact st0 J19 hb | exact st1 J19 hb | exact st2 J19 hb)
  clear hb
  try go_wp2_with fail
  refine hK.out _ _ (HS.out _ J20) (fun hHeld => ?_)
  clear hK K
  try simp only [Act.put, List.setIfInBounds_toArray, List.set_cons_zero, List.set_cons_succ]
  refine wpAnyH_take (i := 8) (v := ?_) rfl (by as_aux_lemma => kernel_rfl) (by as_aux_lemma => kernel_rfl) (by as_aux_lemma => kernel_rfl) (fun _ _ _ h => h) (Or.inl ⟨(by simp [Region.wanted, yielded]), ?_⟩) (hHeld) ?_
  rotate_left
  · (intro w hSw; (try dsimp only at hSw); ((go_simp) <;> (with_reducible rfl)))
  try simp only [Act.put, List.setIfInBounds_toArray]
  refine wpAnyH_take (i := 9) (v := ?_) rfl (by as_aux_lemma => kernel_rfl) (by as_aux_lemma => kernel_rfl) (by as_aux_lemma => kernel_rfl) (fun _ _ _ h => h) (Or.inl ⟨(by simp [Region.wanted]), ?_⟩) (hHeld) ?_
  rotate_left
  · (intro w hSw; (try dsimp only at hSw); ((go_simp) <;> (with_reducible rfl)))
  try simp only [Act.put]
  refine wpAnyH_take (i := 10) (v := ?_) rfl (by as_aux_lemma => kernel_rfl) (by as_aux_lemma => kernel_rfl) (by as_aux_lemma => kernel_rfl) (fun _ _ _ h => h) (Or.inl ⟨(by simp [Region.wanted]), ?_⟩) (hHeld) ?_
  rotate_left
  · (intro w hSw; (try dsimp only at hSw); ((go_simp) <;> (with_reducible rfl)))
  try simp only [Act.put]
  refine wpAnyH_take (i := 11) (v := ?_) rfl (by as_aux_lemma => kernel_rfl) (by as_aux_lemma => kernel_rfl) (by as_aux_lemma => kernel_rfl) (fun _ _ _ h => h) (Or.inl ⟨(by simp [Region.wanted, yielded]), ?_⟩) (hHeld) ?_
  rotate_left
  · (intro w hSw; (try dsimp only at hSw); ((go_simp) <;> (with_reducible rfl)))
  try simp only [Act.put]
  refine wpAnyH_ready (rs := [12]) (by as_aux_lemma => kernel_rfl) (by simp) ?_
  refine AllReadyH.cons rfl (fun K hK => ?_) AllReadyH.nil
  go_simp
  refine (check0 _).mono ?_
  rintro e w21 ⟨rfl, hb⟩
  have J21 : Below U.heap.size U w21 := (by first | exact st0 J20 hb | exact st1 J20 hb | exact st2 J20 hb)
  clear hb
  try go_wp2_with fail
  refine hK.out _ _ (HS.out _ J21) (fun hHeld => ?_)
  clear hK K
  try simp only [Act.put, List.setIfInBounds_toArray, List.set_cons_zero, List.set_cons_succ]
  refine wpAnyH_take (i := 13) (v := ?_) rfl (by as_aux_lemma => kernel_rfl) (by as_aux_lemma => kernel_rfl) (by as_aux_lemma => kernel_rfl) (fun _ _ _ h => h) (Or.inl ⟨(by simp [Region.wanted, yielded]), ?_⟩) (hHeld) ?_
  rotate_left
  · (intro w hSw; (try dsimp only at hSw); ((go_simp) <;> (with_reducible rfl)))
  try simp only [Act.put, List.setIfInBounds_toArray]
  refine wpAnyH_take (i := 14) (v := ?_) rfl (by as_aux_lemma => kernel_rfl) (by as_aux_lemma => kernel_rfl) (by as_aux_lemma => kernel_rfl) (fun _ _ _ h => h) (Or.inl ⟨(by simp [Region.wanted]), ?_⟩) (hHeld) ?_
  rotate_left
  · (intro w hSw; (try dsimp only at hSw); ((go_simp) <;> (with_reducible rfl)))
  try simp only [Act.put]
  refine wpAnyH_take (i := 15) (v := ?_) rfl (by as_aux_lemma => kernel_rfl) (by as_aux_lemma => kernel_rfl) (by as_aux_lemma => kernel_rfl) (fun _ _ _ h => h) (Or.inl ⟨(by simp [Region.wanted]), ?_⟩) (hHeld) ?_
  rotate_left
  · (intro w hSw; (try dsimp only at hSw); ((go_simp) <;> (with_reducible rfl)))
  try simp only [Act.put]
  refine wpAnyH_take (i := 16) (v := ?_) rfl (by as_aux_lemma => kernel_rfl) (by as_aux_lemma => kernel_rfl) (by as_aux_lemma => kernel_rfl) (fun _ _ _ h => h) (Or.inl ⟨(by simp [Region.wanted, yielded]), ?_⟩) (hHeld) ?_
  rotate_left
  · (intro w hSw; (try dsimp only at hSw); ((go_simp) <;> (with_reducible rfl)))
  try simp only [Act.put]
  refine wpAnyH_ready (rs := [17]) (by as_aux_lemma => kernel_rfl) (by simp) ?_
  refine AllReadyH.cons rfl (fun K hK => ?_) AllReadyH.nil
  go_simp
  refine (size2 _).mono ?_
  rintro e w22 ⟨rfl, hb⟩
  have J22 : Below U.heap.size U w22 := (by first | exact st0 J21 hb | exact st1 J21 hb | exact st2 J21 hb)
  clear hb
  try go_wp2_with fail
  refine hK.out _ _ (HS.out _ J22) (fun hHeld => ?_)
  clear hK K
  try simp only [Act.put, List.setIfInBounds_toArray, List.set_cons_zero, List.set_cons_succ]
  refine wpAnyH_take (i := 18) (v := ?_) rfl (by as_aux_lemma => kernel_rfl) (by as_aux_lemma => kernel_rfl) (by as_aux_lemma => kernel_rfl) (fun _ _ _ h => h) (Or.inl ⟨(by simp [Region.wanted, yielded]), ?_⟩) (hHeld) ?_
  rotate_left
  · (intro w hSw; (try dsimp only at hSw); ((go_simp) <;> (with_reducible rfl)))
  try simp only [Act.put, List.setIfInBounds_toArray]
  refine wpAnyH_take (i := 19) (v := ?_) rfl (by as_aux_lemma => kernel_rfl) (by as_aux_lemma => kernel_rfl) (by as_aux_lemma => kernel_rfl) (fun _ _ _ h => h) (Or.inl ⟨(by simp [Region.wanted]), ?_⟩) (hHeld) ?_
  rotate_left
  · (intro w hSw; (try dsimp only at hSw); ((go_simp) <;> (with_reducible rfl)))
  try simp only [Act.put]
  refine wpAnyH_take (i := 20) (v := ?_) rfl (by as_aux_lemma => kernel_rfl) (by as_aux_lemma => kernel_rfl) (by as_aux_lemma => kernel_rfl) (fun _ _ _ h => h) (Or.inl ⟨(by simp [Region.wanted]), ?_⟩) (hHeld) ?_
  rotate_left
  · (intro w hSw; (try dsimp only at hSw); ((go_simp) <;> (with_reducible rfl)))
  try simp only [Act.put]
  refine wpAnyH_take (i := 21) (v := ?_) rfl (by as_aux_lemma => kernel_rfl) (by as_aux_lemma => kernel_rfl) (by as_aux_lemma => kernel_rfl) (fun _ _ _ h => h) (Or.inl ⟨(by simp [Region.wanted, yielded]), ?_⟩) (hHeld) ?_
  rotate_left
  · (intro w hSw; (try dsimp only at hSw); ((go_simp) <;> (with_reducible rfl)))
  try simp only [Act.put]
  refine wpAnyH_take (i := 22) (v := ?_) rfl (by as_aux_lemma => kernel_rfl) (by as_aux_lemma => kernel_rfl) (by as_aux_lemma => kernel_rfl) (fun _ _ _ h => h) (Or.inl ⟨(by simp [Region.wanted, yielded]), ?_⟩) (hHeld) ?_
  rotate_left
  · (intro w hSw; (try dsimp only at hSw); ((go_simp) <;> (with_reducible rfl)))
  try simp only [Act.put]
  refine wpAnyH_take (i := 23) (v := ?_) rfl (by as_aux_lemma => kernel_rfl) (by as_aux_lemma => kernel_rfl) (by as_aux_lemma => kernel_rfl) (fun _ _ _ h => h) (Or.inl ⟨(by simp [Region.wanted]), ?_⟩) (hHeld) ?_
  rotate_left
  · (intro w hSw; (try dsimp only at hSw); ((go_simp) <;> (with_reducible rfl)))
  try simp only [Act.put]
  refine wpAnyH_take (i := 24) (v := ?_) rfl (by as_aux_lemma => kernel_rfl) (by as_aux_lemma => kernel_rfl) (by as_aux_lemma => kernel_rfl) (fun _ _ _ h => h) (Or.inl ⟨(by simp [Region.wanted]), ?_⟩) (hHeld) ?_
  rotate_left
  · (intro w hSw; (try dsimp only at hSw); ((go_simp) <;> (with_reducible rfl)))
  try simp only [Act.put]
  refine wpAnyH_take (i := 25) (v := ?_) rfl (by as_aux_lemma => kernel_rfl) (by as_aux_lemma => kernel_rfl) (by as_aux_lemma => kernel_rfl) (fun _ _ _ h => h) (Or.inl ⟨(by simp [Region.wanted, yielded]), ?_⟩) (hHeld) ?_
  rotate_left
  · (intro w hSw; (try dsimp only at hSw); ((go_simp) <;> (with_reducible rfl)))
  try simp only [Act.put]
  refine wpAnyH_take (i := 26) (v := ?_) rfl (by as_aux_lemma => kernel_rfl) (by as_aux_lemma => kernel_rfl) (by as_aux_lemma => kernel_rfl) (fun _ _ _ h => h) (Or.inl ⟨(by simp [Region.wanted, yielded]), ?_⟩) (hHeld) ?_
  rotate_left
  · (intro w hSw; (try dsimp only at hSw); ((go_simp) <;> (with_reducible rfl)))
  try simp only [Act.put]
  refine wpAnyH_take (i := 27) (v := ?_) rfl (by as_aux_lemma => kernel_rfl) (by as_aux_lemma => kernel_rfl) (by as_aux_lemma => kernel_rfl) (fun _ _ _ h => h) (Or.inl ⟨(by simp [Region.wanted]), ?_⟩) (hHeld) ?_
  rotate_left
  · (intro w hSw; (try dsimp only at hSw); ((go_simp) <;> (with_reducible rfl)))
  try simp only [Act.put]
  refine wpAnyH_take (i := 28) (v := ?_) rfl (by as_aux_lemma => kernel_rfl) (by as_aux_lemma => kernel_rfl) (by as_aux_lemma => kernel_rfl) (fun _ _ _ h => h) (Or.inl ⟨(by simp [Region.wanted]), ?_⟩) (hHeld) ?_
  rotate_left
  · (intro w hSw; (try dsimp only at hSw); ((go_simp) <;> (with_reducible rfl)))
  try simp only [Act.put]
  refine wpAnyH_take (i := 29) (v := ?_) rfl (by as_aux_lemma => kernel_rfl) (by as_aux_lemma => kernel_rfl) (by as_aux_lemma => kernel_rfl) (fun _ _ _ h => h) (Or.inl ⟨(by simp [Region.wanted, yielded]), ?_⟩) (hHeld) ?_
  rotate_left
  · (intro w hSw; (try dsimp only at hSw); ((go_simp) <;> (with_reducible rfl)))
  try simp only [Act.put]
  refine wpAnyH_take (i := 30) (v := ?_) rfl (by as_aux_lemma => kernel_rfl) (by as_aux_lemma => kernel_rfl) (by as_aux_lemma => kernel_rfl) (fun _ _ _ h => h) (Or.inl ⟨(by simp [Region.wanted, yielded]), ?_⟩) (hHeld) ?_
  rotate_left
  · (intro w hSw; (try dsimp only at hSw); ((go_simp) <;> (with_reducible rfl)))
  try simp only [Act.put]
  refine wpAnyH_take (i := 31) (v := ?_) rfl (by as_aux_lemma => kernel_rfl) (by as_aux_lemma => kernel_rfl) (by as_aux_lemma => kernel_rfl) (fun _ _ _ h => h) (Or.inl ⟨(by simp [Region.wanted]), ?_⟩) (hHeld) ?_
  rotate_left
  · (intro w hSw; (try dsimp only at hSw); ((go_simp) <;> (with_reducible rfl)))
  try simp only [Act.put]
  refine wpAnyH_take (i := 32) (v := ?_) rfl (by as_aux_lemma => kernel_rfl) (by as_aux_lemma => kernel_rfl) (by as_aux_lemma => kernel_rfl) (fun _ _ _ h => h) (Or.inl ⟨(by simp [Region.wanted]), ?_⟩) (hHeld) ?_
  rotate_left
  · (intro w hSw; (try dsimp only at hSw); ((go_simp) <;> (with_reducible rfl)))
  try simp only [Act.put]
  refine wpAnyH_take (i := 33) (v := ?_) rfl (by as_aux_lemma => kernel_rfl) (by as_aux_lemma => kernel_rfl) (by as_aux_lemma => kernel_rfl) (fun _ _ _ h => h) (Or.inl ⟨(by simp [Region.wanted, yielded]), ?_⟩) (hHeld) ?_
  rotate_left
  · (intro w hSw; (try dsimp only at hSw); ((go_simp) <;> (with_reducible rfl)))
  try simp only [Act.put]
  refine wpAnyH_take (i := 34) (v := ?_) rfl (by as_aux_lemma => kernel_rfl) (by as_aux_lemma => kernel_rfl) (by as_aux_lemma => kernel_rfl) (fun _ _ _ h => h) (Or.inl ⟨(by simp [Region.wanted, yielded]), ?_⟩) (hHeld) ?_
  rotate_left
  · (intro w hSw; (try dsimp only at hSw); ((go_simp) <;> (with_reducible rfl)))
  try simp only [Act.put]
  refine wpAnyH_take (i := 35) (v := ?_) rfl (by as_aux_lemma => kernel_rfl) (by as_aux_lemma => kernel_rfl) (by as_aux_lemma => kernel_rfl) (fun _ _ _ h => h) (Or.inl ⟨(by simp [Region.wanted]), ?_⟩) (hHeld) ?_
  rotate_left
  · (intro w hSw; (try dsimp only at hSw); ((go_simp) <;> (with_reducible rfl)))
  try simp only [Act.put]
  refine wpAnyH_take (i := 36) (v := ?_) rfl (by as_aux_lemma => kernel_rfl) (by as_aux_lemma => kernel_rfl) (by as_aux_lemma => kernel_rfl) (fun _ _ _ h => h) (Or.inl ⟨(by simp [Region.wanted]), ?_⟩) (hHeld) ?_
  rotate_left
  · (intro w hSw; (try dsimp only at hSw); ((go_simp) <;> (with_reducible rfl)))
  try simp only [Act.put]
  refine wpAnyH_take (i := 37) (v := ?_) rfl (by as_aux_lemma => kernel_rfl) (by as_aux_lemma => kernel_rfl) (by as_aux_lemma => kernel_rfl) (fun _ _ _ h => h) (Or.inl ⟨(by simp [Region.wanted, yielded]), ?_⟩) (hHeld) ?_
  rotate_left
  · (intro w hSw; (try dsimp only at hSw); ((go_simp) <;> (with_reducible rfl)))
  try simp only [Act.put]
  refine wpAnyH_take (i := 38) (v := ?_) rfl (by as_aux_lemma => kernel_rfl) (by as_aux_lemma => kernel_rfl) (by as_aux_lemma => kernel_rfl) (fun _ _ _ h => h) (Or.inl ⟨(by simp [Region.wanted, yielded]), ?_⟩) (hHeld) ?_
  rotate_left
  · (intro w hSw; (try dsimp only at hSw); ((go_simp) <;> (with_reducible rfl)))
  try simp only [Act.put]
  refine wpAnyH_take (i := 39) (v := ?_) rfl (by as_aux_lemma => kernel_rfl) (by as_aux_lemma => kernel_rfl) (by as_aux_lemma => kernel_rfl) (fun _ _ _ h => h) (Or.inl ⟨(by simp [Region.wanted]), ?_⟩) (hHeld) ?_
  rotate_left
  · (intro w hSw; (try dsimp only at hSw); ((go_simp) <;> (with_reducible rfl)))
  try simp only [Act.put]
  refine wpAnyH_take (i := 40) (v := ?_) rfl (by as_aux_lemma => kernel_rfl) (by as_aux_lemma => kernel_rfl) (by as_aux_lemma => kernel_rfl) (fun _ _ _ h => h) (Or.inl ⟨(by simp [Region.wanted]), ?_⟩) (hHeld) ?_
  rotate_left
  · (intro w hSw; (try dsimp only at hSw); ((go_simp) <;> (with_reducible rfl)))
  try simp only [Act.put]
  refine wpAnyH_take (i := 41) (v := ?_) rfl (by as_aux_lemma => kernel_rfl) (by as_aux_lemma => kernel_rfl) (by as_aux_lemma => kernel_rfl) (fun _ _ _ h => h) (Or.inl ⟨(by simp [Region.wanted, yielded]), ?_⟩) (hHeld) ?_
  rotate_left
  · (intro w hSw; (try dsimp only at hSw); ((go_simp) <;> (with_reducible rfl)))
  try simp only [Act.put]
  refine wpAnyH_take (i := 42) (v := ?_) rfl (by as_aux_lemma => kernel_rfl) (by as_aux_lemma => kernel_rfl) (by as_aux_lemma => kernel_rfl) (fun _ _ _ h => h) (Or.inl ⟨(by simp [Region.wanted]), ?_⟩) (hHeld) ?_
  rotate_left
  · (intro w hSw; (try dsimp only at hSw); ((go_simp) <;> (with_reducible rfl)))
  try simp only [Act.put]
  refine wpAnyH_take (i := 43) (v := ?_) rfl (by as_aux_lemma => kernel_rfl) (by as_aux_lemma => kernel_rfl) (by as_aux_lemma => kernel_rfl) (fun _ _ _ h => h) (Or.inl ⟨(by simp [Region.wanted]), ?_⟩) (hHeld) ?_
  rotate_left
  · (intro w hSw; (try dsimp only at hSw); ((go_simp) <;> (with_reducible rfl)))
  try simp only [Act.put]
  refine wpAnyH_take (i := 44) (v := ?_) rfl (by as_aux_lemma => kernel_rfl) (by as_aux_lemma => kernel_rfl) (by as_aux_lemma => kernel_rfl) (fun _ _ _ h => h) (Or.inl ⟨(by simp [Region.wanted, yielded]), ?_⟩) (hHeld) ?_
  rotate_left
  · (intro w hSw; (try dsimp only at hSw); ((go_simp) <;> (with_reducible rfl)))
  try simp only [Act.put]
  refine wpAnyH_take (i := 45) (v := ?_) rfl (by as_aux_lemma => kernel_rfl) (by as_aux_lemma => kernel_rfl) (by as_aux_lemma => kernel_rfl) (fun _ _ _ h => h) (Or.inl ⟨(by simp [Region.wanted, yielded]), ?_⟩) (hHeld) ?_
  rotate_left
  · (intro w hSw; (try dsimp only at hSw); ((go_simp) <;> (with_reducible rfl)))
  try simp only [Act.put]
  refine wpAnyH_take (i := 46) (v := ?_) rfl (by as_aux_lemma => kernel_rfl) (by as_aux_lemma => kernel_rfl) (by as_aux_lemma => kernel_rfl) (fun _ _ _ h => h) (Or.inl ⟨(by simp [Region.wanted]), ?_⟩) (hHeld) ?_
  rotate_left
  · (intro w hSw; (try dsimp only at hSw); ((go_simp) <;> (with_reducible rfl)))
  try simp only [Act.put]
  refine wpAnyH_take (i := 47) (v := ?_) rfl (by as_aux_lemma => kernel_rfl) (by as_aux_lemma => kernel_rfl) (by as_aux_lemma => kernel_rfl) (fun _ _ _ h => h) (Or.inl ⟨(by simp [Region.wanted]), ?_⟩) (hHeld) ?_
  rotate_left
  · (intro w hSw; (try dsimp only at hSw); ((go_simp) <;> (with_reducible rfl)))
  try simp only [Act.put]
  refine wpAnyH_take (i := 48) (v := ?_) rfl (by as_aux_lemma => kernel_rfl) (by as_aux_lemma => kernel_rfl) (by as_aux_lemma => kernel_rfl) (fun _ _ _ h => h) (Or.inl ⟨(by simp [Region.wanted, yielded]), ?_⟩) (hHeld) ?_
  rotate_left
  · (intro w hSw; (try dsimp only at hSw); ((go_simp) <;> (with_reducible rfl)))
  try simp only [Act.put]
  refine wpAnyH_take (i := 49) (v := ?_) rfl (by as_aux_lemma => kernel_rfl) (by as_aux_lemma => kernel_rfl) (by as_aux_lemma => kernel_rfl) (fun _ _ _ h => h) (Or.inl ⟨(by simp [Region.wanted, yielded]), ?_⟩) (hHeld) ?_
  rotate_left
  · (intro w hSw; (try dsimp only at hSw); ((go_simp) <;> (with_reducible rfl)))
  try simp only [Act.put]
  refine wpAnyH_take (i := 50) (v := ?_) rfl (by as_aux_lemma => kernel_rfl) (by as_aux_lemma => kernel_rfl) (by as_aux_lemma => kernel_rfl) (fun _ _ _ h => h) (Or.inl ⟨(by simp [Region.wanted]), ?_⟩) (hHeld) ?_
  rotate_left
  · (intro w hSw; (try dsimp only at hSw); ((go_simp) <;> (with_reducible rfl)))
  try simp only [Act.put]
  refine wpAnyH_take (i := 51) (v := ?_) rfl (by as_aux_lemma => kernel_rfl) (by as_aux_lemma => kernel_rfl) (by as_aux_lemma => kernel_rfl) (fun _ _ _ h => h) (Or.inl ⟨(by simp [Region.wanted]), ?_⟩) (hHeld) ?_
  rotate_left
  · (intro w hSw; (try dsimp only at hSw); ((go_simp) <;> (with_reducible rfl)))
  try simp only [Act.put]
  refine wpAnyH_take (i := 52) (v := ?_) rfl (by as_aux_lemma => kernel_rfl) (by as_aux_lemma => kernel_rfl) (by as_aux_lemma => kernel_rfl) (fun _ _ _ h => h) (Or.inl ⟨(by simp [Region.wanted, yielded]), ?_⟩) (hHeld) ?_
  rotate_left
  · (intro w hSw; (try dsimp only at hSw); ((go_simp) <;> (with_reducible rfl)))
  try simp only [Act.put]
  refine wpAnyH_take (i := 53) (v := ?_) rfl (by as_aux_lemma => kernel_rfl) (by as_aux_lemma => kernel_rfl) (by as_aux_lemma => kernel_rfl) (fun _ _ _ h => h) (Or.inl ⟨(by simp [Region.wanted, yielded]), ?_⟩) (hHeld) ?_
  rotate_left
  · (intro w hSw; (try dsimp only at hSw); ((go_simp) <;> (with_reducible rfl)))
  try simp only [Act.put]
  refine wpAnyH_take (i := 54) (v := ?_) rfl (by as_aux_lemma => kernel_rfl) (by as_aux_lemma => kernel_rfl) (by as_aux_lemma => kernel_rfl) (fun _ _ _ h => h) (Or.inl ⟨(by simp [Region.wanted]), ?_⟩) (hHeld) ?_
  rotate_left
  · (intro w hSw; (try dsimp only at hSw); ((go_simp) <;> (with_reducible rfl)))
  try simp only [Act.put]
  refine wpAnyH_take (i := 55) (v := ?_) rfl (by as_aux_lemma => kernel_rfl) (by as_aux_lemma => kernel_rfl) (by as_aux_lemma => kernel_rfl) (fun _ _ _ h => h) (Or.inl ⟨(by simp [Region.wanted]), ?_⟩) (hHeld) ?_
  rotate_left
  · (intro w hSw; (try dsimp only at hSw); ((go_simp) <;> (with_reducible rfl)))
  try simp only [Act.put]
  refine wpAnyH_take (i := 56) (v := ?_) rfl (by as_aux_lemma => kernel_rfl) (by as_aux_lemma => kernel_rfl) (by as_aux_lemma => kernel_rfl) (fun _ _ _ h => h) (Or.inl ⟨(by simp [Region.wanted, yielded]), ?_⟩) (hHeld) ?_
  rotate_left
  · (intro w hSw; (try dsimp only at hSw); ((go_simp) <;> (with_reducible rfl)))
  try simp only [Act.put]
  refine wpAnyH_ready (rs := [57]) (by as_aux_lemma => kernel_rfl) (by simp) ?_
  refine AllReadyH.cons rfl (fun K hK => ?_) AllReadyH.nil
  go_simp
  refine hK.out _ _ (HS.out _ ((J22).alloc (J22).size (.cells #[.string sA] 9))) (fun hHeld => ?_)
  clear hK K
  try simp only [Act.put, List.setIfInBounds_toArray, List.set_cons_zero, List.set_cons_succ]
  refine wpAnyH_ready (rs := [58]) (by as_aux_lemma => kernel_rfl) (by simp) ?_
  refine AllReadyH.cons rfl (fun K hK => ?_) AllReadyH.nil
  go_simp
  refine (leafL [sA] 1 rfl (by decide) _ _ (by first | rfl | simp)).mono ?_
  rintro e w23 ⟨x58, y58, rfl, hL58, hb⟩
  have J23 : Below U.heap.size U w23 := (by first | exact st0 J22 hb | exact st1 J22 hb | exact st2 J22 hb)
  clear hb
  try go_wp2_with fail
  refine hK.out _ _ (HS.out _ J23) (fun hHeld => ?_)
  clear hK K
  try simp only [Act.put, List.setIfInBounds_toArray, List.set_cons_zero, List.set_cons_succ]
  refine wpAnyH_ready (rs := [59]) (by as_aux_lemma => kernel_rfl) (by simp) ?_
  refine AllReadyH.cons rfl (fun K hK => ?_) AllReadyH.nil
  go_simp
  refine (same0 [sA] _ _ _ (HABN.out _ J23).1.1 hL58).mono ?_
  rintro e w24 ⟨rfl, hb⟩
  have J24 : Below U.heap.size U w24 := (by first | exact st0 J23 hb | exact st1 J23 hb | exact st2 J23 hb)
  clear hb
  try go_wp2_with fail
  refine hK.out _ _ (HS.out _ J24) (fun hHeld => ?_)
  clear hK K
  try simp only [Act.put, List.setIfInBounds_toArray, List.set_cons_zero, List.set_cons_succ]
  refine wpAnyH_take (i := 60) (v := ?_) rfl (by as_aux_lemma => kernel_rfl) (by as_aux_lemma => kernel_rfl) (by as_aux_lemma => kernel_rfl) (fun _ _ _ h => h) (Or.inl ⟨(by simp [Region.wanted]), ?_⟩) (hHeld) ?_
  rotate_left
  · (intro w hSw; (try dsimp only at hSw); ((go_simp) <;> (with_reducible rfl)))
  try simp only [Act.put, List.setIfInBounds_toArray]
  refine wpAnyH_take (i := 61) (v := ?_) rfl (by as_aux_lemma => kernel_rfl) (by as_aux_lemma => kernel_rfl) (by as_aux_lemma => kernel_rfl) (fun _ _ _ h => h) (Or.inl ⟨(by simp [Region.wanted]), ?_⟩) (hHeld) ?_
  rotate_left
  · (intro w hSw; (try dsimp only at hSw); ((go_simp) <;> (with_reducible rfl)))
  try simp only [Act.put]
  refine wpAnyH_take (i := 62) (v := ?_) rfl (by as_aux_lemma => kernel_rfl) (by as_aux_lemma => kernel_rfl) (by as_aux_lemma => kernel_rfl) (fun _ _ _ h => h) (Or.inl ⟨(by simp [Region.wanted, yielded]), ?_⟩) (hHeld) ?_
  rotate_left
  · (intro w hSw; (try dsimp only at hSw); ((go_simp) <;> (with_reducible rfl)))
  try simp only [Act.put]
  refine wpAnyH_take (i := 63) (v := ?_) rfl (by as_aux_lemma => kernel_rfl) (by as_aux_lemma => kernel_rfl) (by as_aux_lemma => kernel_rfl) (fun _ _ _ h => h) (Or.inl ⟨(by simp [Region.wanted, yielded]), ?_⟩) (hHeld) ?_
  rotate_left
  · (intro w hSw; (try dsimp only at hSw); ((go_simp) <;> (with_reducible rfl)))
  try simp only [Act.put]
  refine wpAnyH_take (i := 64) (v := ?_) rfl (by as_aux_lemma => kernel_rfl) (by as_aux_lemma => kernel_rfl) (by as_aux_lemma => kernel_rfl) (fun _ _ _ h => h) (Or.inl ⟨(by simp [Region.wanted]), ?_⟩) (hHeld) ?_
  rotate_left
  · (intro w hSw; (try dsimp only at hSw); ((go_simp) <;> (with_reducible rfl)))
  try simp only [Act.put]
  refine wpAnyH_take (i := 65) (v := ?_) rfl (by as_aux_lemma => kernel_rfl) (by as_aux_lemma => kernel_rfl) (by as_aux_lemma => kernel_rfl) (fun _ _ _ h => h) (Or.inl ⟨(by simp [Region.wanted]), ?_⟩) (hHeld) ?_
  rotate_left
  · (intro w hSw; (try dsimp only at hSw); ((go_simp) <;> (with_reducible rfl)))
  try simp only [Act.put]
  refine wpAnyH_take (i := 66) (v := ?_) rfl (by as_aux_lemma => kernel_rfl) (by as_aux_lemma => kernel_rfl) (by as_aux_lemma => kernel_rfl) (fun _ _ _ h => h) (Or.inl ⟨(by simp [Region.wanted, yielded]), ?_⟩) (hHeld) ?_
  rotate_left
  · (intro w hSw; (try dsimp only at hSw); ((go_simp) <;> (with_reducible rfl)))
  try simp only [Act.put]
  refine wpAnyH_ready (rs := [67]) (by as_aux_lemma => kernel_rfl) (by simp) ?_
  refine AllReadyH.cons rfl (fun K hK => ?_) AllReadyH.nil
  go_simp
  refine hK.out _ _ (HS.out _ ((J24).alloc (J24).size (.cells #[.string sB, .string sC] 9))) (fun hHeld => ?_)
  clear hK K
  try simp only [Act.put, List.setIfInBounds_toArray, List.set_cons_zero, List.set_cons_succ]
  refine wpAnyH_ready (rs := [68]) (by as_aux_lemma => kernel_rfl) (by simp) ?_
  refine AllReadyH.cons rfl (fun K hK => ?_) AllReadyH.nil
  go_simp
  refine (leafL [sB, sC] 2 rfl (by decide) _ _ (by first | rfl | simp)).mono ?_
  rintro e w25 ⟨x68, y68, rfl, hL68, hb⟩
  have J25 : Below U.heap.size U w25 := (by first | exact st0 J24 hb | exact st1 J24 hb | exact st2 J24 hb)
  clear hb
  try go_wp2_with fail
  refine hK.out _ _ (HS.out _ J25) (fun hHeld => ?_)
  clear hK K
  try simp only [Act.put, List.setIfInBounds_toArray, List.set_cons_zero, List.set_cons_succ]
  refine wpAnyH_ready (rs := [69]) (by as_aux_lemma => kernel_rfl) (by simp) ?_
  refine AllReadyH.cons rfl (fun K hK => ?_) AllReadyH.nil
  go_simp
  refine (same0 [sB, sC] _ _ _ (HABN.out _ J25).2.1.1 hL68).mono ?_
  rintro e w26 ⟨rfl, hb⟩
  have J26 : Below U.heap.size U w26 := (by first | exact st0 J25 hb | exact st1 J25 hb | exact st2 J25 hb)
  clear hb
  try go_wp2_with fail
  refine hK.out _ _ (HS.out _ J26) (fun hHeld => ?_)
  clear hK K
  try simp only [Act.put, List.setIfInBounds_toArray, List.set_cons_zero, List.set_cons_succ]
  refine wpAnyH_take (i := 70) (v := ?_) rfl (by as_aux_lemma => kernel_rfl) (by as_aux_lemma => kernel_rfl) (by as_aux_lemma => kernel_rfl) (fun _ _ _ h => h) (Or.inl ⟨(by simp [Region.wanted]), ?_⟩) (hHeld) ?_
  rotate_left
  · (intro w hSw; (try dsimp only at hSw); ((go_simp) <;> (with_reducible rfl)))
  try simp only [Act.put, List.setIfInBounds_toArray]
  refine wpAnyH_take (i := 71) (v := ?_) rfl (by as_aux_lemma => kernel_rfl) (by as_aux_lemma => kernel_rfl) (by as_aux_lemma => kernel_rfl) (fun _ _ _ h => h) (Or.inl ⟨(by simp [Region.wanted]), ?_⟩) (hHeld) ?_
  rotate_left
  · (intro w hSw; (try dsimp only at hSw); ((go_simp) <;> (with_reducible rfl)))
  try simp only [Act.put]
  refine wpAnyH_take (i := 72) (v := ?_) rfl (by as_aux_lemma => kernel_rfl) (by as_aux_lemma => kernel_rfl) (by as_aux_lemma => kernel_rfl) (fun _ _ _ h => h) (Or.inl ⟨(by simp [Region.wanted, yielded]), ?_⟩) (hHeld) ?_
  rotate_left
  · (intro w hSw; (try dsimp only at hSw); ((go_simp) <;> (with_reducible rfl)))
  try simp only [Act.put]
  refine wpAnyH_take (i := 73) (v := ?_) rfl (by as_aux_lemma => kernel_rfl) (by as_aux_lemma => kernel_rfl) (by as_aux_lemma => kernel_rfl) (fun _ _ _ h => h) (Or.inl ⟨(by simp [Region.wanted, yielded]), ?_⟩) (hHeld) ?_
  rotate_left
  · (intro w hSw; (try dsimp only at hSw); ((go_simp) <;> (with_reducible rfl)))
  try simp only [Act.put]
  refine wpAnyH_take (i := 74) (v := ?_) rfl (by as_aux_lemma => kernel_rfl) (by as_aux_lemma => kernel_rfl) (by as_aux_lemma => kernel_rfl) (fun _ _ _ h => h) (Or.inl ⟨(by simp [Region.wanted]), ?_⟩) (hHeld) ?_
  rotate_left
  · (intro w hSw; (try dsimp only at hSw); ((go_simp) <;> (with_reducible rfl)))
  try simp only [Act.put]
  refine wpAnyH_take (i := 75) (v := ?_) rfl (by as_aux_lemma => kernel_rfl) (by as_aux_lemma => kernel_rfl) (by as_aux_lemma => kernel_rfl) (fun _ _ _ h => h) (Or.inl ⟨(by simp [Region.wanted]), ?_⟩) (hHeld) ?_
  rotate_left
  · (intro w hSw; (try dsimp only at hSw); ((go_simp) <;> (with_reducible rfl)))
  try simp only [Act.put]
  refine wpAnyH_take (i := 76) (v := ?_) rfl (by as_aux_lemma => kernel_rfl) (by as_aux_lemma => kernel_rfl) (by as_aux_lemma => kernel_rfl) (fun _ _ _ h => h) (Or.inl ⟨(by simp [Region.wanted, yielded]), ?_⟩) (hHeld) ?_
  rotate_left
  · (intro w hSw; (try dsimp only at hSw); ((go_simp) <;> (with_reducible rfl)))
  try simp only [Act.put]
  refine wpAnyH_take (i := 77) (v := ?_) rfl (by as_aux_lemma => kernel_rfl) (by as_aux_lemma => kernel_rfl) (by as_aux_lemma => kernel_rfl) (fun _ _ _ h => h) (Or.inl ⟨(by simp [Region.wanted, yielded]), ?_⟩) (hHeld) ?_
  rotate_left
  · (intro w hSw; (try dsimp only at hSw); ((go_simp) <;> (with_reducible rfl)))
  try simp only [Act.put]
  refine wpAnyH_take (i := 78) (v := ?_) rfl (by as_aux_lemma => kernel_rfl) (by as_aux_lemma => kernel_rfl) (by as_aux_lemma => kernel_rfl) (fun _ _ _ h => h) (Or.inl ⟨(by simp [Region.wanted]), ?_⟩) (hHeld) ?_
  rotate_left
  · (intro w hSw; (try dsimp only at hSw); ((go_simp) <;> (with_reducible rfl)))
  try simp only [Act.put]
  refine wpAnyH_take (i := 79) (v := ?_) rfl (by as_aux_lemma => kernel_rfl) (by as_aux_lemma => kernel_rfl) (by as_aux_lemma => kernel_rfl) (fun _ _ _ h => h) (Or.inl ⟨(by simp [Region.wanted]), ?_⟩) (hHeld) ?_
  rotate_left
  · (intro w hSw; (try dsimp only at hSw); ((go_simp) <;> (with_reducible rfl)))
  try simp only [Act.put]
  refine wpAnyH_take (i := 80) (v := ?_) rfl (by as_aux_lemma => kernel_rfl) (by as_aux_lemma => kernel_rfl) (by as_aux_lemma => kernel_rfl) (fun _ _ _ h => h) (Or.inl ⟨(by simp [Region.wanted, yielded]), ?_⟩) (hHeld) ?_
  rotate_left
  · (intro w hSw; (try dsimp only at hSw); ((go_simp) <;> (with_reducible rfl)))
  try simp only [Act.put]
  refine wpAnyH_ready (rs := [81]) (by as_aux_lemma => kernel_rfl) (by simp) ?_
  refine AllReadyH.cons rfl (fun K hK => ?_) AllReadyH.nil
  go_simp
  refine hK.out _ _ (HS.out _ ((J26).alloc (J26).size (.cells #[.string sA, .string sB, .string sC] 9))) (fun hHeld => ?_)
  clear hK K
  try simp only [Act.put, List.setIfInBounds_toArray, List.set_cons_zero, List.set_cons_succ]
  refine wpAnyH_ready (rs := [82]) (by as_aux_lemma => kernel_rfl) (by simp) ?_
  refine AllReadyH.cons rfl (fun K hK => ?_) AllReadyH.nil
  go_simp
  refine (leafL [sA, sB, sC] 3 rfl (by decide) _ _ (by first | rfl | simp)).mono ?_
  rintro e w27 ⟨x82, y82, rfl, hL82, hb⟩
  have J27 : Below U.heap.size U w27 := (by first | exact st0 J26 hb | exact st1 J26 hb | exact st2 J26 hb)
  clear hb
  try go_wp2_with fail
  refine hK.out _ _ (HS.out _ J27) (fun hHeld => ?_)
  clear hK K
  try simp only [Act.put, List.setIfInBounds_toArray, List.set_cons_zero, List.set_cons_succ]
  refine wpAnyH_ready (rs := [83]) (by as_aux_lemma => kernel_rfl) (by simp) ?_
  refine AllReadyH.cons rfl (fun K hK => ?_) AllReadyH.nil
  go_simp
  refine (same0 [sA, sB, sC] _ _ _ (HABN.out _ J27).2.2.1 hL82).mono ?_
  rintro e w28 ⟨rfl, hb⟩
  have J28 : Below U.heap.size U w28 := (by first | exact st0 J27 hb | exact st1 J27 hb | exact st2 J27 hb)
  clear hb
  try go_wp2_with fail
  refine hK.out _ _ (HS.out _ J28) (fun hHeld => ?_)
  clear hK K
  try simp only [Act.put, List.setIfInBounds_toArray, List.set_cons_zero, List.set_cons_succ]
  refine wpAnyH_take (i := 84) (v := ?_) rfl (by as_aux_lemma => kernel_rfl) (by as_aux_lemma => kernel_rfl) (by as_aux_lemma => kernel_rfl) (fun _ _ _ h => h) (Or.inl ⟨(by simp [Region.wanted]), ?_⟩) (hHeld) ?_
  rotate_left
  · (intro w hSw; (try dsimp only at hSw); ((go_simp) <;> (with_reducible rfl)))
  try simp only [Act.put, List.setIfInBounds_toArray]
  refine wpAnyH_take (i := 85) (v := ?_) rfl (by as_aux_lemma => kernel_rfl) (by as_aux_lemma => kernel_rfl) (by as_aux_lemma => kernel_rfl) (fun _ _ _ h => h) (Or.inl ⟨(by simp [Region.wanted]), ?_⟩) (hHeld) ?_
  rotate_left
  · (intro w hSw; (try dsimp only at hSw); ((go_simp) <;> (with_reducible rfl)))
  try simp only [Act.put]
  refine wpAnyH_take (i := 86) (v := ?_) rfl (by as_aux_lemma => kernel_rfl) (by as_aux_lemma => kernel_rfl) (by as_aux_lemma => kernel_rfl) (fun _ _ _ h => h) (Or.inl ⟨(by simp [Region.wanted, yielded]), ?_⟩) (hHeld) ?_
  rotate_left
  · (intro w hSw; (try dsimp only at hSw); ((go_simp) <;> (with_reducible rfl)))
  try simp only [Act.put]
  refine wpAnyH_take (i := 87) (v := ?_) rfl (by as_aux_lemma => kernel_rfl) (by as_aux_lemma => kernel_rfl) (by as_aux_lemma => kernel_rfl) (fun _ _ _ h => h) (Or.inl ⟨(by simp [Region.wanted, yielded]), ?_⟩) (hHeld) ?_
  rotate_left
  · (intro w hSw; (try dsimp only at hSw); ((go_simp) <;> (with_reducible rfl)))
  try simp only [Act.put]
  refine wpAnyH_take (i := 88) (v := ?_) rfl (by as_aux_lemma => kernel_rfl) (by as_aux_lemma => kernel_rfl) (by as_aux_lemma => kernel_rfl) (fun _ _ _ h => h) (Or.inl ⟨(by simp [Region.wanted]), ?_⟩) (hHeld) ?_
  rotate_left
  · (intro w hSw; (try dsimp only at hSw); ((go_simp) <;> (with_reducible rfl)))
  try simp only [Act.put]
  refine wpAnyH_ready (rs := [89]) (by as_aux_lemma => kernel_rfl) (by simp) ?_
  refine AllReadyH.cons rfl (fun K hK => ?_) AllReadyH.nil
  go_simp
  refine hK.out _ _ (HS.out _ J28) (fun hHeld => ?_)
  clear hK K
  try simp only [Act.put, List.setIfInBounds_toArray, List.set_cons_zero, List.set_cons_succ]
  refine wpAnyH_done (by as_aux_lemma => kernel_rfl) ?_ _
  go_wp2
  go_ret
  exact ⟨rfl, HB14.out.trans (J28.mono HB14.out.size)⟩

end Go.Proofs.Ytplfcpbjlhobeaa
