/-
  ONE's REGION, way 4.
-/
import Derived.Test.YtnobmgkdieaclaaGreatDoorIpFuelP
namespace Go.Proofs.YtnobmgkdieaclaaGreatDoor
open Go.RowKit

set_option maxRecDepth 1000000 in
set_option maxHeartbeats 8000000 in
theorem one_h4 (o n : Int) (al bl g4 ac bc : Nat) (aa ba : Option Addr) (S : ByteArray) (RB : Bool) (W4 : World) (s1 : S.toList.isEmpty = false) (d0 : decide (n < 0) = false) (d1 : decide (1000 < n) = false) (_ : decide ((0 : Int) ≤ (al : Int)) = true) (iA : (0 : Int) ≤ (al : Int)) (_ : (o == 10) = true) (e10 : (o != 10) = false) (_ : decide (o = 10) = true) 
    (r4 : Rw W4 g4 #[.int .i64 o, .slice aa al ac, .int .i64 n, .slice ba bl bc] 75)
    (hW0 : ∀ W, Calls Tryz.prog 89 #[.int .i64 o] W fun e w' => e = .returned (.string S) ∧ w' = W)
    (hA0 : ∀ W, Calls Tryz.prog 90 #[.int .i64 o] W fun e w' => e = .returned (.int .i64 (al : Int)) ∧ w' = W)
    (hO0 : ∀ W, Calls Tryz.prog 91 #[.int .i64 o] W fun e w' => e = .returned (.bool true) ∧ w' = W)
    (HR : Hid (Calls Tryz.prog 65 #[.slice ba bl bc] W4.drew fun e w' => e = .returned (.bool RB) ∧ Below W4.heap.size W4 w'))
    (c0_ c1_ c2_ c3_ c5_ c6_ c7_ c8_ c9_ c10_ c11_ c12_ c13_ c14_ c15_ c16_ c17_ c18_ c19_ c20_ c21_ c22_ c23_ c24_ c25_ c26_ c27_ c28_ c29_ c30_ c31_ c32_ c33_ c34_ c35_ c36_ c37_ c38_ c39_ c40_ c41_ c42_ c43_ c44_ c45_ c46_ c47_ c48_ c49_ c50_ c51_ c52_ c53_ c54_ c55_ c56_ c57_ c58_ c59_ c60_ c61_ c62_ c63_ c64_ c65_ c66_ c67_ c68_ c69_ c70_ c71_ : Value) (Q0 : Exit → Act → World → Prop) (hP : ∀ c a (d : Nat) v w, Q0 (.panic c) (a.put (some d) v) w → Q0 (.panic c) a w)
    (hQ : Hid (∀ (u15 u16 u17 u18 u19 u20 u21 u22 u23 u24 u25 u26 u27 u28 u29 u30 u31 u32 u33 u34 u35 u36 u37 u38 u39 u40 u41 u42 u43 u44 u45 u46 u47 u48 u49 u50 u51 u52 u53 u54 u55 u56 u57 u58 u59 u60 u61 u62 u63 u64 u65 u66 u67 u68 u69 u70 : Value) (w5 : World), Below W4.heap.size W4 w5 → Q0 .normal ⟨#[c0_, c1_, c2_, c3_, .pointer (some ⟨g4, 0, none⟩), c5_, c6_, c7_, c8_, c9_, c10_, c11_, c12_, c13_, c14_, u15, u16, u17, u18, u19, u20, u21, u22, u23, u24, u25, u26, u27, u28, u29, u30, u31, u32, u33, u34, u35, u36, u37, u38, u39, u40, u41, u42, u43, u44, u45, u46, u47, u48, u49, u50, u51, u52, u53, u54, u55, u56, u57, u58, u59, u60, u61, u62, u63, u64, u65, u66, u67, u68, u69, u70, .bool (!RB)], []⟩ w5)) :
    Code.wp Tryz.prog one5 Q0 ⟨#[c0_, c1_, c2_, c3_, .pointer (some ⟨g4, 0, none⟩), c5_, c6_, c7_, c8_, c9_, c10_, c11_, c12_, c13_, c14_, c15_, c16_, c17_, c18_, c19_, c20_, c21_, c22_, c23_, c24_, c25_, c26_, c27_, c28_, c29_, c30_, c31_, c32_, c33_, c34_, c35_, c36_, c37_, c38_, c39_, c40_, c41_, c42_, c43_, c44_, c45_, c46_, c47_, c48_, c49_, c50_, c51_, c52_, c53_, c54_, c55_, c56_, c57_, c58_, c59_, c60_, c61_, c62_, c63_, c64_, c65_, c66_, c67_, c68_, c69_, c70_, c71_], []⟩ W4 := by
  conv => arg 2; whnf
  have x0 := r4.cell 0
  have x1 := r4.cell 1
  have x2 := r4.cell 2
  have x3 := r4.cell 3
  refine wp_region_held_drew (S := fun X : World => X.cell? ⟨g4, 0, none⟩ = some (.int .i64 o) ∧ X.cell? ⟨g4, 1, none⟩ = some (.slice aa al ac) ∧ X.cell? ⟨g4, 2, none⟩ = some (.int .i64 n) ∧ X.cell? ⟨g4, 3, none⟩ = some (.slice ba bl bc)) (by kernel_rfl) ⟨x0, x1, x2, x3⟩ (fun hHeld => ?_)
  refine wpAnyH_take (i := 0) (v := ?_) rfl (by as_aux_lemma => kernel_rfl) (by as_aux_lemma => kernel_rfl) (by as_aux_lemma => kernel_rfl) (fun c a w h => hP c a _ _ w h) (Or.inl ⟨(by simp [Region.wanted]), ?_⟩) (hHeld) ?_
  rotate_left
  · (intro w hSw; (try dsimp only at hSw); ((go_simp) <;> (with_reducible rfl)))
  try simp only [Act.put, List.setIfInBounds_toArray]
  refine wpAnyH_take (i := 1) (v := ?_) rfl (by as_aux_lemma => kernel_rfl) (by as_aux_lemma => kernel_rfl) (by as_aux_lemma => kernel_rfl) (fun c a w h => hP c a _ _ w h) (Or.inl ⟨(by simp [Region.wanted]), ?_⟩) (hHeld) ?_
  rotate_left
  · (intro w hSw; (try dsimp only at hSw); ((go_simp) <;> (with_reducible rfl)))
  try simp only [Act.put]
  refine wpAnyH_ready (rs := [2]) (by as_aux_lemma => kernel_rfl) (by simp) ?_
  refine AllReadyH.cons rfl (fun K hK => ?_) AllReadyH.nil
  go_simp
  refine (hW0 _).mono ?_
  rintro e w5 ⟨rfl, hw5⟩
  rw [hw5]
  clear hw5
  refine hK.out _ _ (⟨x0, x1, x2, x3⟩) (fun hHeld => ?_)
  clear hK K
  try simp only [Act.put, List.setIfInBounds_toArray, List.set_cons_zero, List.set_cons_succ]
  refine wpAnyH_take (i := 3) (v := ?_) rfl (by as_aux_lemma => kernel_rfl) (by as_aux_lemma => kernel_rfl) (by as_aux_lemma => kernel_rfl) (fun c a w h => hP c a _ _ w h) (Or.inl ⟨(by simp [Region.wanted]), ?_⟩) (hHeld) ?_
  rotate_left
  · (intro w hSw; (try dsimp only at hSw); ((go_simp) <;> (with_reducible rfl)))
  try simp only [Act.put, List.setIfInBounds_toArray]
  refine wpAnyH_take (i := 4) (v := ?_) rfl (by as_aux_lemma => kernel_rfl) (by as_aux_lemma => kernel_rfl) (by as_aux_lemma => kernel_rfl) (fun c a w h => hP c a _ _ w h) (Or.inl ⟨(by simp [Region.wanted]), ?_⟩) (hHeld) ?_
  rotate_left
  · (intro w hSw; (try dsimp only at hSw); ((go_simp) <;> (with_reducible rfl)))
  try simp only [Act.put]
  refine wpAnyH_take (i := 5) (v := ?_) rfl (by as_aux_lemma => kernel_rfl) (by as_aux_lemma => kernel_rfl) (by as_aux_lemma => kernel_rfl) (fun c a w h => hP c a _ _ w h) (Or.inl ⟨(by simp [Region.wanted, yielded]), ?_⟩) (hHeld) ?_
  rotate_left
  · (intro w hSw; (try dsimp only at hSw); ((go_simp) <;> (with_reducible rfl)))
  try simp only [Act.put]
  refine wpAnyH_take (i := 6) (v := ?_) rfl (by as_aux_lemma => kernel_rfl) (by as_aux_lemma => kernel_rfl) (by as_aux_lemma => kernel_rfl) (fun c a w h => hP c a _ _ w h) (Or.inl ⟨(by simp [Region.wanted, yielded]), ?_⟩) (hHeld) ?_
  rotate_left
  · (intro w hSw; (try dsimp only at hSw); ((go_simp) <;> (with_reducible rfl)))
  try simp only [Act.put]
  refine wpAnyH_ready (rs := [7]) (by as_aux_lemma => kernel_rfl) (by simp) ?_
  refine AllReadyH.cons rfl (fun K hK => ?_) AllReadyH.nil
  go_simp
  refine (hA0 _).mono ?_
  rintro e w5 ⟨rfl, hw5⟩
  rw [hw5]
  clear hw5
  refine hK.out _ _ (⟨x0, x1, x2, x3⟩) (fun hHeld => ?_)
  clear hK K
  try simp only [Act.put, List.setIfInBounds_toArray, List.set_cons_zero, List.set_cons_succ]
  refine wpAnyH_take (i := 8) (v := ?_) rfl (by as_aux_lemma => kernel_rfl) (by as_aux_lemma => kernel_rfl) (by as_aux_lemma => kernel_rfl) (fun c a w h => hP c a _ _ w h) (Or.inl ⟨(by simp [Region.wanted, yielded]), ?_⟩) (hHeld) ?_
  rotate_left
  · (intro w hSw; (try dsimp only at hSw); ((go_simp) <;> (with_reducible rfl)))
  try simp only [Act.put, List.setIfInBounds_toArray]
  refine wpAnyH_take (i := 9) (v := ?_) rfl (by as_aux_lemma => kernel_rfl) (by as_aux_lemma => kernel_rfl) (by as_aux_lemma => kernel_rfl) (fun c a w h => hP c a _ _ w h) (Or.inl ⟨(by simp [Region.wanted, yielded]), ?_⟩) (hHeld) ?_
  rotate_left
  · (intro w hSw; (try dsimp only at hSw); ((go_simp) <;> (with_reducible rfl)))
  try simp only [Act.put]
  refine wpAnyH_take (i := 10) (v := ?_) rfl (by as_aux_lemma => kernel_rfl) (by as_aux_lemma => kernel_rfl) (by as_aux_lemma => kernel_rfl) (fun c a w h => hP c a _ _ w h) (Or.inl ⟨(by simp [Region.wanted, yielded]), ?_⟩) (hHeld) ?_
  rotate_left
  · (intro w hSw; (try dsimp only at hSw); ((go_simp) <;> (with_reducible rfl)))
  try simp only [Act.put]
  refine wpAnyH_take (i := 11) (v := ?_) rfl (by as_aux_lemma => kernel_rfl) (by as_aux_lemma => kernel_rfl) (by as_aux_lemma => kernel_rfl) (fun c a w h => hP c a _ _ w h) (Or.inl ⟨(by simp [Region.wanted, yielded]), ?_⟩) (hHeld) ?_
  rotate_left
  · (intro w hSw; (try dsimp only at hSw); ((go_simp) <;> (with_reducible rfl)))
  try simp only [Act.put]
  refine wpAnyH_take (i := 13) (v := ?_) rfl (by as_aux_lemma => kernel_rfl) (by as_aux_lemma => kernel_rfl) (by as_aux_lemma => kernel_rfl) (fun c a w h => hP c a _ _ w h) (Or.inl ⟨(by simp [Region.wanted, yielded]), ?_⟩) (hHeld) ?_
  rotate_left
  · (intro w hSw; (try dsimp only at hSw); ((go_simp) <;> (with_reducible rfl)))
  try simp only [Act.put]
  refine wpAnyH_take (i := 14) (v := ?_) rfl (by as_aux_lemma => kernel_rfl) (by as_aux_lemma => kernel_rfl) (by as_aux_lemma => kernel_rfl) (fun c a w h => hP c a _ _ w h) (Or.inl ⟨(by simp [Region.wanted, yielded]), ?_⟩) (hHeld) ?_
  rotate_left
  · (intro w hSw; (try dsimp only at hSw); ((go_simp) <;> (with_reducible rfl)))
  try simp only [Act.put]
  refine wpAnyH_take (i := 15) (v := ?_) rfl (by as_aux_lemma => kernel_rfl) (by as_aux_lemma => kernel_rfl) (by as_aux_lemma => kernel_rfl) (fun c a w h => hP c a _ _ w h) (Or.inl ⟨(by simp [Region.wanted, yielded]), ?_⟩) (hHeld) ?_
  rotate_left
  · (intro w hSw; (try dsimp only at hSw); ((go_simp) <;> (with_reducible rfl)))
  try simp only [Act.put]
  refine wpAnyH_ready (rs := [12]) (by as_aux_lemma => kernel_rfl) (by simp) ?_
  refine AllReadyH.cons rfl (fun K hK => ?_) AllReadyH.nil
  go_simp
  refine (hA0 _).mono ?_
  rintro e w5 ⟨rfl, hw5⟩
  rw [hw5]
  clear hw5
  refine hK.out _ _ (⟨x0, x1, x2, x3⟩) (fun hHeld => ?_)
  clear hK K
  try simp only [Act.put, List.setIfInBounds_toArray, List.set_cons_zero, List.set_cons_succ]
  refine wpAnyH_take (i := 16) (v := ?_) rfl (by as_aux_lemma => kernel_rfl) (by as_aux_lemma => kernel_rfl) (by as_aux_lemma => kernel_rfl) (fun c a w h => hP c a _ _ w h) (Or.inl ⟨(by simp [Region.wanted, yielded]), ?_⟩) (hHeld) ?_
  rotate_left
  · (intro w hSw; (try dsimp only at hSw); ((go_simp) <;> (with_reducible rfl)))
  try simp only [Act.put, List.setIfInBounds_toArray]
  refine wpAnyH_take (i := 17) (v := ?_) rfl (by as_aux_lemma => kernel_rfl) (by as_aux_lemma => kernel_rfl) (by as_aux_lemma => kernel_rfl) (fun c a w h => hP c a _ _ w h) (Or.inl ⟨(by simp [Region.wanted, yielded]), ?_⟩) (hHeld) ?_
  rotate_left
  · (intro w hSw; (try dsimp only at hSw); ((go_simp) <;> (with_reducible rfl)))
  try simp only [Act.put]
  refine wpAnyH_take (i := 18) (v := ?_) rfl (by as_aux_lemma => kernel_rfl) (by as_aux_lemma => kernel_rfl) (by as_aux_lemma => kernel_rfl) (fun c a w h => hP c a _ _ w h) (Or.inl ⟨(by simp [Region.wanted]), ?_⟩) (hHeld) ?_
  rotate_left
  · (intro w hSw; (try dsimp only at hSw); ((go_simp) <;> (with_reducible rfl)))
  try simp only [Act.put]
  refine wpAnyH_take (i := 19) (v := ?_) rfl (by as_aux_lemma => kernel_rfl) (by as_aux_lemma => kernel_rfl) (by as_aux_lemma => kernel_rfl) (fun c a w h => hP c a _ _ w h) (Or.inl ⟨(by simp [Region.wanted]), ?_⟩) (hHeld) ?_
  rotate_left
  · (intro w hSw; (try dsimp only at hSw); ((go_simp) <;> (with_reducible rfl)))
  try simp only [Act.put]
  refine wpAnyH_take (i := 20) (v := ?_) rfl (by as_aux_lemma => kernel_rfl) (by as_aux_lemma => kernel_rfl) (by as_aux_lemma => kernel_rfl) (fun c a w h => hP c a _ _ w h) (Or.inl ⟨(by simp [Region.wanted, yielded]), ?_⟩) (hHeld) ?_
  rotate_left
  · (intro w hSw; (try dsimp only at hSw); ((go_simp) <;> (with_reducible rfl)))
  try simp only [Act.put]
  refine wpAnyH_take (i := 21) (v := ?_) rfl (by as_aux_lemma => kernel_rfl) (by as_aux_lemma => kernel_rfl) (by as_aux_lemma => kernel_rfl) (fun c a w h => hP c a _ _ w h) (Or.inl ⟨(by simp [Region.wanted, yielded]), ?_⟩) (hHeld) ?_
  rotate_left
  · (intro w hSw; (try dsimp only at hSw); ((go_simp) <;> (with_reducible rfl)))
  try simp only [Act.put]
  refine wpAnyH_take (i := 22) (v := ?_) rfl (by as_aux_lemma => kernel_rfl) (by as_aux_lemma => kernel_rfl) (by as_aux_lemma => kernel_rfl) (fun c a w h => hP c a _ _ w h) (Or.inl ⟨(by simp [Region.wanted, yielded]), ?_⟩) (hHeld) ?_
  rotate_left
  · (intro w hSw; (try dsimp only at hSw); ((go_simp) <;> (with_reducible rfl)))
  try simp only [Act.put]
  refine wpAnyH_take (i := 23) (v := ?_) rfl (by as_aux_lemma => kernel_rfl) (by as_aux_lemma => kernel_rfl) (by as_aux_lemma => kernel_rfl) (fun c a w h => hP c a _ _ w h) (Or.inl ⟨(by simp [Region.wanted]), ?_⟩) (hHeld) ?_
  rotate_left
  · (intro w hSw; (try dsimp only at hSw); ((go_simp) <;> (with_reducible rfl)))
  try simp only [Act.put]
  refine wpAnyH_take (i := 24) (v := ?_) rfl (by as_aux_lemma => kernel_rfl) (by as_aux_lemma => kernel_rfl) (by as_aux_lemma => kernel_rfl) (fun c a w h => hP c a _ _ w h) (Or.inl ⟨(by simp [Region.wanted]), ?_⟩) (hHeld) ?_
  rotate_left
  · (intro w hSw; (try dsimp only at hSw); ((go_simp) <;> (with_reducible rfl)))
  try simp only [Act.put]
  refine wpAnyH_take (i := 25) (v := ?_) rfl (by as_aux_lemma => kernel_rfl) (by as_aux_lemma => kernel_rfl) (by as_aux_lemma => kernel_rfl) (fun c a w h => hP c a _ _ w h) (Or.inl ⟨(by simp [Region.wanted, yielded]), ?_⟩) (hHeld) ?_
  rotate_left
  · (intro w hSw; (try dsimp only at hSw); ((go_simp) <;> (with_reducible rfl)))
  try simp only [Act.put]
  refine wpAnyH_take (i := 26) (v := ?_) rfl (by as_aux_lemma => kernel_rfl) (by as_aux_lemma => kernel_rfl) (by as_aux_lemma => kernel_rfl) (fun c a w h => hP c a _ _ w h) (Or.inl ⟨(by simp [Region.wanted, yielded]), ?_⟩) (hHeld) ?_
  rotate_left
  · (intro w hSw; (try dsimp only at hSw); ((go_simp) <;> (with_reducible rfl)))
  try simp only [Act.put]
  refine wpAnyH_take (i := 27) (v := ?_) rfl (by as_aux_lemma => kernel_rfl) (by as_aux_lemma => kernel_rfl) (by as_aux_lemma => kernel_rfl) (fun c a w h => hP c a _ _ w h) (Or.inl ⟨(by simp [Region.wanted, yielded]), ?_⟩) (hHeld) ?_
  rotate_left
  · (intro w hSw; (try dsimp only at hSw); ((go_simp) <;> (with_reducible rfl)))
  try simp only [Act.put]
  refine wpAnyH_take (i := 28) (v := ?_) rfl (by as_aux_lemma => kernel_rfl) (by as_aux_lemma => kernel_rfl) (by as_aux_lemma => kernel_rfl) (fun c a w h => hP c a _ _ w h) (Or.inl ⟨(by simp [Region.wanted]), ?_⟩) (hHeld) ?_
  rotate_left
  · (intro w hSw; (try dsimp only at hSw); ((go_simp) <;> (with_reducible rfl)))
  try simp only [Act.put]
  refine wpAnyH_take (i := 29) (v := ?_) rfl (by as_aux_lemma => kernel_rfl) (by as_aux_lemma => kernel_rfl) (by as_aux_lemma => kernel_rfl) (fun c a w h => hP c a _ _ w h) (Or.inl ⟨(by simp [Region.wanted]), ?_⟩) (hHeld) ?_
  rotate_left
  · (intro w hSw; (try dsimp only at hSw); ((go_simp) <;> (with_reducible rfl)))
  try simp only [Act.put]
  refine wpAnyH_take (i := 30) (v := ?_) rfl (by as_aux_lemma => kernel_rfl) (by as_aux_lemma => kernel_rfl) (by as_aux_lemma => kernel_rfl) (fun c a w h => hP c a _ _ w h) (Or.inl ⟨(by simp [Region.wanted, yielded]), ?_⟩) (hHeld) ?_
  rotate_left
  · (intro w hSw; (try dsimp only at hSw); ((go_simp) <;> (with_reducible rfl)))
  try simp only [Act.put]
  refine wpAnyH_take (i := 31) (v := ?_) rfl (by as_aux_lemma => kernel_rfl) (by as_aux_lemma => kernel_rfl) (by as_aux_lemma => kernel_rfl) (fun c a w h => hP c a _ _ w h) (Or.inl ⟨(by simp [Region.wanted, yielded]), ?_⟩) (hHeld) ?_
  rotate_left
  · (intro w hSw; (try dsimp only at hSw); ((go_simp) <;> (with_reducible rfl)))
  try simp only [Act.put]
  refine wpAnyH_take (i := 32) (v := ?_) rfl (by as_aux_lemma => kernel_rfl) (by as_aux_lemma => kernel_rfl) (by as_aux_lemma => kernel_rfl) (fun c a w h => hP c a _ _ w h) (Or.inl ⟨(by simp [Region.wanted, yielded]), ?_⟩) (hHeld) ?_
  rotate_left
  · (intro w hSw; (try dsimp only at hSw); ((go_simp) <;> (with_reducible rfl)))
  try simp only [Act.put]
  refine wpAnyH_take (i := 33) (v := ?_) rfl (by as_aux_lemma => kernel_rfl) (by as_aux_lemma => kernel_rfl) (by as_aux_lemma => kernel_rfl) (fun c a w h => hP c a _ _ w h) (Or.inl ⟨(by simp [Region.wanted, yielded]), ?_⟩) (hHeld) ?_
  rotate_left
  · (intro w hSw; (try dsimp only at hSw); ((go_simp) <;> (with_reducible rfl)))
  try simp only [Act.put]
  refine wpAnyH_take (i := 34) (v := undef) rfl (by as_aux_lemma => kernel_rfl) (by as_aux_lemma => kernel_rfl) (by as_aux_lemma => kernel_rfl) (fun c a w h => hP c a _ _ w h) (Or.inr ⟨(by simp [Region.wanted, yielded]), rfl⟩) (hHeld) ?_
  try simp only [Act.put]
  refine wpAnyH_take (i := 35) (v := undef) rfl (by as_aux_lemma => kernel_rfl) (by as_aux_lemma => kernel_rfl) (by as_aux_lemma => kernel_rfl) (fun c a w h => hP c a _ _ w h) (Or.inr ⟨(by simp [Region.wanted, yielded]), rfl⟩) (hHeld) ?_
  try simp only [Act.put]
  refine wpAnyH_take (i := 36) (v := undef) rfl (by as_aux_lemma => kernel_rfl) (by as_aux_lemma => kernel_rfl) (by as_aux_lemma => kernel_rfl) (fun c a w h => hP c a _ _ w h) (Or.inr ⟨(by simp [Region.wanted, yielded]), rfl⟩) (hHeld) ?_
  try simp only [Act.put]
  refine wpAnyH_take (i := 37) (v := ?_) rfl (by as_aux_lemma => kernel_rfl) (by as_aux_lemma => kernel_rfl) (by as_aux_lemma => kernel_rfl) (fun c a w h => hP c a _ _ w h) (Or.inl ⟨(by simp [Region.wanted, yielded]), ?_⟩) (hHeld) ?_
  rotate_left
  · (intro w hSw; (try dsimp only at hSw); ((go_simp) <;> (with_reducible rfl)))
  try simp only [Act.put]
  refine wpAnyH_take (i := 38) (v := ?_) rfl (by as_aux_lemma => kernel_rfl) (by as_aux_lemma => kernel_rfl) (by as_aux_lemma => kernel_rfl) (fun c a w h => hP c a _ _ w h) (Or.inl ⟨(by simp [Region.wanted]), ?_⟩) (hHeld) ?_
  rotate_left
  · (intro w hSw; (try dsimp only at hSw); ((go_simp) <;> (with_reducible rfl)))
  try simp only [Act.put]
  refine wpAnyH_take (i := 39) (v := ?_) rfl (by as_aux_lemma => kernel_rfl) (by as_aux_lemma => kernel_rfl) (by as_aux_lemma => kernel_rfl) (fun c a w h => hP c a _ _ w h) (Or.inl ⟨(by simp [Region.wanted]), ?_⟩) (hHeld) ?_
  rotate_left
  · (intro w hSw; (try dsimp only at hSw); ((go_simp) <;> (with_reducible rfl)))
  try simp only [Act.put]
  refine wpAnyH_take (i := 40) (v := ?_) rfl (by as_aux_lemma => kernel_rfl) (by as_aux_lemma => kernel_rfl) (by as_aux_lemma => kernel_rfl) (fun c a w h => hP c a _ _ w h) (Or.inl ⟨(by simp [Region.wanted, yielded]), ?_⟩) (hHeld) ?_
  rotate_left
  · (intro w hSw; (try dsimp only at hSw); ((go_simp) <;> (with_reducible rfl)))
  try simp only [Act.put]
  refine wpAnyH_take (i := 41) (v := ?_) rfl (by as_aux_lemma => kernel_rfl) (by as_aux_lemma => kernel_rfl) (by as_aux_lemma => kernel_rfl) (fun c a w h => hP c a _ _ w h) (Or.inl ⟨(by simp [Region.wanted, yielded]), ?_⟩) (hHeld) ?_
  rotate_left
  · (intro w hSw; (try dsimp only at hSw); ((go_simp) <;> (with_reducible rfl)))
  try simp only [Act.put]
  refine wpAnyH_ready (rs := [42]) (by as_aux_lemma => kernel_rfl) (by simp) ?_
  refine AllReadyH.cons rfl (fun K hK => ?_) AllReadyH.nil
  go_simp
  refine (hO0 _).mono ?_
  rintro e w5 ⟨rfl, hw5⟩
  rw [hw5]
  clear hw5
  refine hK.out _ _ (⟨x0, x1, x2, x3⟩) (fun hHeld => ?_)
  clear hK K
  try simp only [Act.put, List.setIfInBounds_toArray, List.set_cons_zero, List.set_cons_succ]
  refine wpAnyH_take (i := 43) (v := ?_) rfl (by as_aux_lemma => kernel_rfl) (by as_aux_lemma => kernel_rfl) (by as_aux_lemma => kernel_rfl) (fun c a w h => hP c a _ _ w h) (Or.inl ⟨(by simp [Region.wanted, yielded]), ?_⟩) (hHeld) ?_
  rotate_left
  · (intro w hSw; (try dsimp only at hSw); ((go_simp) <;> (with_reducible rfl)))
  try simp only [Act.put, List.setIfInBounds_toArray]
  refine wpAnyH_take (i := 44) (v := ?_) rfl (by as_aux_lemma => kernel_rfl) (by as_aux_lemma => kernel_rfl) (by as_aux_lemma => kernel_rfl) (fun c a w h => hP c a _ _ w h) (Or.inl ⟨(by simp [Region.wanted, yielded]), ?_⟩) (hHeld) ?_
  rotate_left
  · (intro w hSw; (try dsimp only at hSw); ((go_simp) <;> (with_reducible rfl)))
  try simp only [Act.put]
  refine wpAnyH_take (i := 45) (v := undef) rfl (by as_aux_lemma => kernel_rfl) (by as_aux_lemma => kernel_rfl) (by as_aux_lemma => kernel_rfl) (fun c a w h => hP c a _ _ w h) (Or.inr ⟨(by simp [Region.wanted, yielded]), rfl⟩) (hHeld) ?_
  try simp only [Act.put]
  refine wpAnyH_take (i := 46) (v := undef) rfl (by as_aux_lemma => kernel_rfl) (by as_aux_lemma => kernel_rfl) (by as_aux_lemma => kernel_rfl) (fun c a w h => hP c a _ _ w h) (Or.inr ⟨(by simp [Region.wanted, yielded]), rfl⟩) (hHeld) ?_
  try simp only [Act.put]
  refine wpAnyH_take (i := 47) (v := undef) rfl (by as_aux_lemma => kernel_rfl) (by as_aux_lemma => kernel_rfl) (by as_aux_lemma => kernel_rfl) (fun c a w h => hP c a _ _ w h) (Or.inr ⟨(by simp [Region.wanted, yielded]), rfl⟩) (hHeld) ?_
  try simp only [Act.put]
  refine wpAnyH_take (i := 48) (v := undef) rfl (by as_aux_lemma => kernel_rfl) (by as_aux_lemma => kernel_rfl) (by as_aux_lemma => kernel_rfl) (fun c a w h => hP c a _ _ w h) (Or.inr ⟨(by simp [Region.wanted, yielded]), rfl⟩) (hHeld) ?_
  try simp only [Act.put]
  refine wpAnyH_take (i := 49) (v := ?_) rfl (by as_aux_lemma => kernel_rfl) (by as_aux_lemma => kernel_rfl) (by as_aux_lemma => kernel_rfl) (fun c a w h => hP c a _ _ w h) (Or.inl ⟨(by simp [Region.wanted, yielded]), ?_⟩) (hHeld) ?_
  rotate_left
  · (intro w hSw; (try dsimp only at hSw); ((go_simp) <;> (with_reducible rfl)))
  try simp only [Act.put]
  refine wpAnyH_take (i := 50) (v := ?_) rfl (by as_aux_lemma => kernel_rfl) (by as_aux_lemma => kernel_rfl) (by as_aux_lemma => kernel_rfl) (fun c a w h => hP c a _ _ w h) (Or.inl ⟨(by simp [Region.wanted]), ?_⟩) (hHeld) ?_
  rotate_left
  · (intro w hSw; (try dsimp only at hSw); ((go_simp) <;> (with_reducible rfl)))
  try simp only [Act.put]
  refine wpAnyH_take (i := 51) (v := ?_) rfl (by as_aux_lemma => kernel_rfl) (by as_aux_lemma => kernel_rfl) (by as_aux_lemma => kernel_rfl) (fun c a w h => hP c a _ _ w h) (Or.inl ⟨(by simp [Region.wanted]), ?_⟩) (hHeld) ?_
  rotate_left
  · (intro w hSw; (try dsimp only at hSw); ((go_simp) <;> (with_reducible rfl)))
  try simp only [Act.put]
  refine wpAnyH_take (i := 52) (v := ?_) rfl (by as_aux_lemma => kernel_rfl) (by as_aux_lemma => kernel_rfl) (by as_aux_lemma => kernel_rfl) (fun c a w h => hP c a _ _ w h) (Or.inl ⟨(by simp [Region.wanted, yielded]), ?_⟩) (hHeld) ?_
  rotate_left
  · (intro w hSw; (try dsimp only at hSw); ((go_simp) <;> (with_reducible rfl)))
  try simp only [Act.put]
  refine wpAnyH_take (i := 53) (v := ?_) rfl (by as_aux_lemma => kernel_rfl) (by as_aux_lemma => kernel_rfl) (by as_aux_lemma => kernel_rfl) (fun c a w h => hP c a _ _ w h) (Or.inl ⟨(by simp [Region.wanted, yielded]), ?_⟩) (hHeld) ?_
  rotate_left
  · (intro w hSw; (try dsimp only at hSw); ((go_simp) <;> (with_reducible rfl)))
  try simp only [Act.put]
  refine wpAnyH_ready (rs := [54]) (by as_aux_lemma => kernel_rfl) (by simp) ?_
  refine AllReadyH.cons rfl (fun K hK => ?_) AllReadyH.nil
  go_simp
  refine HR.out.mono ?_
  rintro e w5 ⟨rfl, hb5⟩
  refine hK.out _ _ (⟨(r4.below hb5 r4.lt).cell 0, (r4.below hb5 r4.lt).cell 1, (r4.below hb5 r4.lt).cell 2, (r4.below hb5 r4.lt).cell 3⟩) (fun hHeld => ?_)
  clear hK K
  try simp only [Act.put, List.setIfInBounds_toArray, List.set_cons_zero, List.set_cons_succ]
  refine wpAnyH_take (i := 55) (v := ?_) rfl (by as_aux_lemma => kernel_rfl) (by as_aux_lemma => kernel_rfl) (by as_aux_lemma => kernel_rfl) (fun c a w h => hP c a _ _ w h) (Or.inl ⟨(by simp [Region.wanted, yielded]), ?_⟩) (hHeld) ?_
  rotate_left
  · (intro w hSw; (try dsimp only at hSw); ((go_simp) <;> (with_reducible rfl)))
  try simp only [Act.put, List.setIfInBounds_toArray]
  refine wpAnyH_ready (rs := [56]) (by as_aux_lemma => kernel_rfl) (by simp) ?_
  refine AllReadyH.cons rfl (fun K hK => ?_) AllReadyH.nil
  go_simp
  refine hK.out _ _ (⟨(r4.below hb5 r4.lt).cell 0, (r4.below hb5 r4.lt).cell 1, (r4.below hb5 r4.lt).cell 2, (r4.below hb5 r4.lt).cell 3⟩) (fun hHeld => ?_)
  clear hK K
  try simp only [Act.put, List.setIfInBounds_toArray, List.set_cons_zero, List.set_cons_succ]
  refine wpAnyH_done (by as_aux_lemma => kernel_rfl) ?_ _
  exact hQ.out _ _ _ _ _ _ _ _ _ _ _ _ _ _ _ _ _ _ _ _ _ _ _ _ _ _ _ _ _ _ _ _ _ _ _ _ _ _ _ _ _ _ _ _ _ _ _ _ _ _ _ _ _ _ _ _ _ hb5
end Go.Proofs.YtnobmgkdieaclaaGreatDoor
