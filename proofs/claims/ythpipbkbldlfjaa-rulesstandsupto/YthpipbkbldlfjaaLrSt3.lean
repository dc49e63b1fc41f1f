/-
  RulesStands: an item's code stands.
-/
import Derived.Test.YthpipbkbldlfjaaLrStN
import Derived.Deep.RegionHeld3
namespace Go.Proofs.Ythpipbkbldlfjaa
open Go.RowKit

/-- what holds in a round of the loop over an item's code -/
def StRnd (R : Nat → World → Prop) (b o i pn g1 g5 g7 : Nat) (ca : Option Addr) (j : Nat) (W : World) : Prop :=
  ∃ (nl wl b6 o6 c7 : Nat) (ad7 : Option Addr) (Z : World → Prop), ca = some ⟨b6, o6, none⟩ ∧ W.cell? ⟨b6, o6 + j * 3, none⟩ = some (.int .i64 (nl : Int)) ∧ W.cell? ⟨b6, o6 + j * 3 + 1, none⟩ = some (.bool true) ∧ W.cell? ⟨b6, o6 + j * 3 + 2, none⟩ = some (.slice ad7 wl c7) ∧ pn < nl ∧ 0 < wl ∧
    (∀ W', Z W' → W'.cell? ⟨W.heap.size, 0, none⟩ = some (.int .i64 (nl : Int)) ∧ W'.cell? ⟨W.heap.size, 1, none⟩ = some (.bool true) ∧ W'.cell? ⟨W.heap.size, 2, none⟩ = some (.slice ad7 wl c7) ∧ W'.cell? ⟨b, o + i * 6 + 1, none⟩ = some (.int .i64 (pn : Int))) ∧ Z (W.alloc (.cells #[.int .i64 (nl : Int), .bool true, .slice ad7 wl c7] 48)).drew ∧ Calls Try.prog 27 #[.slice ad7 wl c7, .pointer (some ⟨g5, 0, none⟩), .pointer (some ⟨g7, 0, none⟩), .pointer (some ⟨g1, 0, none⟩)] (W.alloc (.cells #[.int .i64 (nl : Int), .bool true, .slice ad7 wl c7] 48)).drew fun e w' => e = .returned (.bool true) ∧ Z w' ∧ R (j + 1) w'

set_option maxRecDepth 1000000 in
set_option maxHeartbeats 8000000 in
theorem st_l3 (n i b o c2 g1 g5 g7 pn cn cc : Nat) (ca : Option Addr) (w : World) (R : Nat → World → Prop) (hcn : (cn : Int) ≤ 1099511627) (i1 : (i : Int) < (n : Int)) (h0 : R 0 w)
    (HR : Hid (∀ j W, j < cn → R j W → StRnd R b o i pn g1 g5 g7 ca j W))
    (c0_ c1_ c2_ c4_ c5_ c6_ c7_ c10_ c11_ c12_ c13_ c14_ c15_ c16_ c17_ c18_ c19_ c20_ c21_ c22_ c23_ c24_ c25_ c26_ c27_ c28_ c29_ c30_ c31_ c32_ c33_ c34_ c35_ c36_ c37_ c38_ c39_ c40_ c41_ c42_ c43_ c44_ c45_ c46_ c47_ c48_ c49_ c50_ c51_ c52_ c53_ c54_ c55_ c56_ c57_ c58_ c59_ c60_ c61_ c62_ c63_ c64_ c65_ c66_ c67_ c68_ c69_ c70_ c71_ c72_ c73_ c74_ c75_ c76_ c77_ c78_ c79_ c80_ c81_ c82_ c83_ c84_ c85_ c86_ c87_ c88_ c89_ c90_ c91_ c92_ c93_ c94_ c95_ c96_ c97_ c98_ c99_ c100_ c101_ c102_ c103_ c104_ c105_ c106_ c107_ c108_ c109_ c110_ c111_ c112_ c113_ c114_ c115_ c116_ c117_ c118_ c119_ c120_ c121_ c122_ c123_ c124_ c125_ c126_ c127_ c128_ c129_ c130_ c131_ c132_ c133_ c134_ c135_ c139_ c140_ c141_ c142_ c143_ c144_ c145_ c146_ c147_ c148_ c149_ c150_ c151_ c152_ c153_ c154_ c155_ c156_ c157_ c158_ c159_ c160_ c161_ c162_ c163_ c164_ c165_ c166_ c167_ c168_ : Value) (Q0 : Exit → Act → World → Prop) (hP : ∀ c a (d : Nat) v w, Q0 (.panic c) (a.put (some d) v) w → Q0 (.panic c) a w)
    (HQ : Hid (∀ (u2 u11 u138 u139 u140 u141 u142 u143 u144 u145 u146 u147 u148 u149 u150 u151 u152 u153 u154 u155 u156 u157 u158 u159 u160 u161 u162 u163 u164 u165 u166 u167 u168 : Value) (w6 : World), R cn w6 → Q0 (.exit 4) ⟨#[c0_, c1_, u2, .slice (some ⟨b, o, none⟩) n c2, c4_, c5_, c6_, c7_, .func (Fn.func 27) #[] #[.pointer (some ⟨g5, 0, none⟩), .pointer (some ⟨g7, 0, none⟩), .pointer (some ⟨g1, 0, none⟩)], .int .i64 (i : Int), c10_, u11, c12_, c13_, c14_, c15_, c16_, c17_, c18_, c19_, c20_, c21_, c22_, c23_, c24_, c25_, c26_, c27_, c28_, c29_, c30_, c31_, c32_, c33_, c34_, c35_, c36_, c37_, c38_, c39_, c40_, c41_, c42_, c43_, c44_, c45_, c46_, c47_, c48_, c49_, c50_, c51_, c52_, c53_, c54_, c55_, c56_, c57_, c58_, c59_, c60_, c61_, c62_, c63_, c64_, c65_, c66_, c67_, c68_, c69_, c70_, c71_, c72_, c73_, c74_, c75_, c76_, c77_, c78_, c79_, c80_, c81_, c82_, c83_, c84_, c85_, c86_, c87_, c88_, c89_, c90_, c91_, c92_, c93_, c94_, c95_, c96_, c97_, c98_, c99_, c100_, c101_, c102_, c103_, c104_, c105_, c106_, c107_, c108_, c109_, c110_, c111_, c112_, c113_, c114_, c115_, c116_, c117_, c118_, c119_, c120_, c121_, c122_, c123_, c124_, c125_, c126_, c127_, c128_, c129_, c130_, c131_, c132_, c133_, c134_, c135_, .slice ca cn cc, .int .i64 (cn : Int), u138, u139, u140, u141, u142, u143, u144, u145, u146, u147, u148, u149, u150, u151, u152, u153, u154, u155, u156, u157, u158, u159, u160, u161, u162, u163, u164, u165, u166, u167, u168], []⟩ w6)) :
    Code.wp Try.prog (Code.loop st3) Q0 ⟨#[c0_, c1_, c2_, .slice (some ⟨b, o, none⟩) n c2, c4_, c5_, c6_, c7_, .func (Fn.func 27) #[] #[.pointer (some ⟨g5, 0, none⟩), .pointer (some ⟨g7, 0, none⟩), .pointer (some ⟨g1, 0, none⟩)], .int .i64 (i : Int), c10_, c11_, c12_, c13_, c14_, c15_, c16_, c17_, c18_, c19_, c20_, c21_, c22_, c23_, c24_, c25_, c26_, c27_, c28_, c29_, c30_, c31_, c32_, c33_, c34_, c35_, c36_, c37_, c38_, c39_, c40_, c41_, c42_, c43_, c44_, c45_, c46_, c47_, c48_, c49_, c50_, c51_, c52_, c53_, c54_, c55_, c56_, c57_, c58_, c59_, c60_, c61_, c62_, c63_, c64_, c65_, c66_, c67_, c68_, c69_, c70_, c71_, c72_, c73_, c74_, c75_, c76_, c77_, c78_, c79_, c80_, c81_, c82_, c83_, c84_, c85_, c86_, c87_, c88_, c89_, c90_, c91_, c92_, c93_, c94_, c95_, c96_, c97_, c98_, c99_, c100_, c101_, c102_, c103_, c104_, c105_, c106_, c107_, c108_, c109_, c110_, c111_, c112_, c113_, c114_, c115_, c116_, c117_, c118_, c119_, c120_, c121_, c122_, c123_, c124_, c125_, c126_, c127_, c128_, c129_, c130_, c131_, c132_, c133_, c134_, c135_, .slice ca cn cc, .int .i64 (cn : Int), .int .i64 0, c139_, c140_, c141_, c142_, c143_, c144_, c145_, c146_, c147_, c148_, c149_, c150_, c151_, c152_, c153_, c154_, c155_, c156_, c157_, c158_, c159_, c160_, c161_, c162_, c163_, c164_, c165_, c166_, c167_, c168_], []⟩ w := by
  conv => arg 2; arg 1; whnf
  conv => arg 4; dsimp only
  go_loopw [138] (fun k wr => ∃ j : Nat, j ≤ cn ∧ k = .int .i64 (j : Int) ∧ R j wr) (fun k _ => cn - (intOf k).toNat)
  case atStart => exact ⟨0, Nat.zero_le _, rfl, h0⟩
  case round =>
    obtain ⟨j, hj, rfl, hRj⟩ := hrel
    by_cases hjlt : j < cn
    · have i2 : (j : Int) < (cn : Int) := by omega
      have HJL : Hid (j + 1 ≤ cn) := hjlt
      obtain ⟨nl, wl, b6, o6, c7, ad7, Z, rfl, z0, z1, z2, hpn, hwl, hSX, hZX, hcall⟩ := HR.out j wr hjlt hRj
      have HSX : Hid _ := hSX
      have HCL : Hid (Calls Try.prog 27 #[.slice ad7 wl c7, .pointer (some ⟨g5, 0, none⟩), .pointer (some ⟨g7, 0, none⟩), .pointer (some ⟨g1, 0, none⟩)] (wr.alloc (.cells #[.int .i64 (nl : Int), .bool true, .slice ad7 wl c7] 48)).drew fun e w' => e = .returned (.bool true) ∧ Z w' ∧ R (j + 1) w') := hcall
      have n1 : decide (nl ≤ pn) = false := decide_eq_false (by omega)
      have n2 : ((wl : Int) == 0) = false := by rw [beq_eq_false_iff_ne]; omega
      have n3 : (wl == 0) = false := by rw [beq_eq_false_iff_ne]; omega
      clear hSX hcall hpn hwl hRj h0 HR hj
      go_upto_region 22 with fail
      refine wp_region_held_drew (S := fun W' : World => W'.cell? ⟨wr.heap.size, 0, none⟩ = some (.int .i64 (nl : Int)) ∧ W'.cell? ⟨wr.heap.size, 1, none⟩ = some (.bool true) ∧ W'.cell? ⟨wr.heap.size, 2, none⟩ = some (.slice ad7 wl c7) ∧ W'.cell? ⟨b, o + i * 6 + 1, none⟩ = some (.int .i64 (pn : Int))) (by kernel_rfl) (HSX.out _ hZX) (fun hHeld => ?_)
      clear z0 z1 z2
      refine wpAnyH_take (i := 0) (v := ?_) rfl (by as_aux_lemma => kernel_rfl) (by as_aux_lemma => kernel_rfl) (by as_aux_lemma => kernel_rfl) (fun c a w h => hP c a _ _ w h) (Or.inl ⟨(by simp [Region.wanted]), ?_⟩) (hHeld) ?_
      rotate_left
      · (intro w hSw; (try dsimp only at hSw); ((go_simp) <;> (with_reducible rfl)))
      try simp only [Act.put, List.setIfInBounds_toArray]
      refine wpAnyH_take (i := 1) (v := ?_) rfl (by as_aux_lemma => kernel_rfl) (by as_aux_lemma => kernel_rfl) (by as_aux_lemma => kernel_rfl) (fun c a w h => hP c a _ _ w h) (Or.inl ⟨(by simp [Region.wanted]), ?_⟩) (hHeld) ?_
      rotate_left
      · (intro w hSw; (try dsimp only at hSw); ((go_simp) <;> (with_reducible rfl)))
      try simp only [Act.put]
      refine wpAnyH_take (i := 2) (v := ?_) rfl (by as_aux_lemma => kernel_rfl) (by as_aux_lemma => kernel_rfl) (by as_aux_lemma => kernel_rfl) (fun c a w h => hP c a _ _ w h) (Or.inl ⟨(by simp [Region.wanted]), ?_⟩) (hHeld) ?_
      rotate_left
      · (intro w hSw; (try dsimp only at hSw); ((go_simp) <;> (with_reducible rfl)))
      try simp only [Act.put]
      refine wpAnyH_take (i := 3) (v := ?_) rfl (by as_aux_lemma => kernel_rfl) (by as_aux_lemma => kernel_rfl) (by as_aux_lemma => kernel_rfl) (fun c a w h => hP c a _ _ w h) (Or.inl ⟨(by simp [Region.wanted]), ?_⟩) (hHeld) ?_
      rotate_left
      · (intro w hSw; (try dsimp only at hSw); ((go_simp) <;> (with_reducible rfl)))
      try simp only [Act.put]
      refine wpAnyH_take (i := 4) (v := ?_) rfl (by as_aux_lemma => kernel_rfl) (by as_aux_lemma => kernel_rfl) (by as_aux_lemma => kernel_rfl) (fun c a w h => hP c a _ _ w h) (Or.inl ⟨(by simp [Region.wanted]), ?_⟩) (hHeld) ?_
      rotate_left
      · (intro w hSw; (try dsimp only at hSw); ((go_simp) <;> (with_reducible rfl)))
      try simp only [Act.put]
      refine wpAnyH_take (i := 5) (v := ?_) rfl (by as_aux_lemma => kernel_rfl) (by as_aux_lemma => kernel_rfl) (by as_aux_lemma => kernel_rfl) (fun c a w h => hP c a _ _ w h) (Or.inl ⟨(by simp [Region.wanted]), ?_⟩) (hHeld) ?_
      rotate_left
      · (intro w hSw; (try dsimp only at hSw); ((go_simp) <;> (with_reducible rfl)))
      try simp only [Act.put]
      refine wpAnyH_take (i := 6) (v := ?_) rfl (by as_aux_lemma => kernel_rfl) (by as_aux_lemma => kernel_rfl) (by as_aux_lemma => kernel_rfl) (fun c a w h => hP c a _ _ w h) (Or.inl ⟨(by simp [Region.wanted]), ?_⟩) (hHeld) ?_
      rotate_left
      · (intro w hSw; (try dsimp only at hSw); ((go_simp) <;> (with_reducible rfl)))
      try simp only [Act.put]
      refine wpAnyH_take (i := 7) (v := ?_) rfl (by as_aux_lemma => kernel_rfl) (by as_aux_lemma => kernel_rfl) (by as_aux_lemma => kernel_rfl) (fun c a w h => hP c a _ _ w h) (Or.inl ⟨(by simp [Region.wanted]), ?_⟩) (hHeld) ?_
      rotate_left
      · (intro w hSw; (try dsimp only at hSw); ((go_simp) <;> (with_reducible rfl)))
      try simp only [Act.put]
      refine wpAnyH_take (i := 8) (v := ?_) rfl (by as_aux_lemma => kernel_rfl) (by as_aux_lemma => kernel_rfl) (by as_aux_lemma => kernel_rfl) (fun c a w h => hP c a _ _ w h) (Or.inl ⟨(by simp [Region.wanted]), ?_⟩) (hHeld) ?_
      rotate_left
      · (intro w hSw; (try dsimp only at hSw); ((go_simp) <;> (with_reducible rfl)))
      try simp only [Act.put]
      refine wpAnyH_take (i := 9) (v := ?_) rfl (by as_aux_lemma => kernel_rfl) (by as_aux_lemma => kernel_rfl) (by as_aux_lemma => kernel_rfl) (fun c a w h => hP c a _ _ w h) (Or.inl ⟨(by simp [Region.wanted, yielded]), ?_⟩) (hHeld) ?_
      rotate_left
      · (intro w hSw; (try dsimp only at hSw); ((go_simp) <;> (with_reducible rfl)))
      try simp only [Act.put]
      refine wpAnyH_take (i := 10) (v := ?_) rfl (by as_aux_lemma => kernel_rfl) (by as_aux_lemma => kernel_rfl) (by as_aux_lemma => kernel_rfl) (fun c a w h => hP c a _ _ w h) (Or.inl ⟨(by simp [Region.wanted, yielded]), ?_⟩) (hHeld) ?_
      rotate_left
      · (intro w hSw; (try dsimp only at hSw); ((go_simp) <;> (with_reducible rfl)))
      try simp only [Act.put]
      refine wpAnyH_take (i := 11) (v := ?_) rfl (by as_aux_lemma => kernel_rfl) (by as_aux_lemma => kernel_rfl) (by as_aux_lemma => kernel_rfl) (fun c a w h => hP c a _ _ w h) (Or.inl ⟨(by simp [Region.wanted, yielded]), ?_⟩) (hHeld) ?_
      rotate_left
      · (intro w hSw; (try dsimp only at hSw); ((go_simp) <;> (with_reducible rfl)))
      try simp only [Act.put]
      refine wpAnyH_take (i := 12) (v := ?_) rfl (by as_aux_lemma => kernel_rfl) (by as_aux_lemma => kernel_rfl) (by as_aux_lemma => kernel_rfl) (fun c a w h => hP c a _ _ w h) (Or.inl ⟨(by simp [Region.wanted]), ?_⟩) (hHeld) ?_
      rotate_left
      · (intro w hSw; (try dsimp only at hSw); ((go_simp) <;> (with_reducible rfl)))
      try simp only [Act.put]
      refine wpAnyH_take (i := 13) (v := ?_) rfl (by as_aux_lemma => kernel_rfl) (by as_aux_lemma => kernel_rfl) (by as_aux_lemma => kernel_rfl) (fun c a w h => hP c a _ _ w h) (Or.inl ⟨(by simp [Region.wanted]), ?_⟩) (hHeld) ?_
      rotate_left
      · (intro w hSw; (try dsimp only at hSw); ((go_simp) <;> (with_reducible rfl)))
      try simp only [Act.put]
      refine wpAnyH_take (i := 14) (v := ?_) rfl (by as_aux_lemma => kernel_rfl) (by as_aux_lemma => kernel_rfl) (by as_aux_lemma => kernel_rfl) (fun c a w h => hP c a _ _ w h) (Or.inl ⟨(by simp [Region.wanted, yielded]), ?_⟩) (hHeld) ?_
      rotate_left
      · (intro w hSw; (try dsimp only at hSw); ((go_simp) <;> (with_reducible rfl)))
      try simp only [Act.put]
      refine wpAnyH_take (i := 15) (v := ?_) rfl (by as_aux_lemma => kernel_rfl) (by as_aux_lemma => kernel_rfl) (by as_aux_lemma => kernel_rfl) (fun c a w h => hP c a _ _ w h) (Or.inl ⟨(by simp [Region.wanted, yielded]), ?_⟩) (hHeld) ?_
      rotate_left
      · (intro w hSw; (try dsimp only at hSw); ((go_simp) <;> (with_reducible rfl)))
      try simp only [Act.put]
      refine wpAnyH_take (i := 16) (v := ?_) rfl (by as_aux_lemma => kernel_rfl) (by as_aux_lemma => kernel_rfl) (by as_aux_lemma => kernel_rfl) (fun c a w h => hP c a _ _ w h) (Or.inl ⟨(by simp [Region.wanted, yielded]), ?_⟩) (hHeld) ?_
      rotate_left
      · (intro w hSw; (try dsimp only at hSw); ((go_simp) <;> (with_reducible rfl)))
      try simp only [Act.put]
      refine wpAnyH_take (i := 17) (v := ?_) rfl (by as_aux_lemma => kernel_rfl) (by as_aux_lemma => kernel_rfl) (by as_aux_lemma => kernel_rfl) (fun c a w h => hP c a _ _ w h) (Or.inl ⟨(by simp [Region.wanted, yielded]), ?_⟩) (hHeld) ?_
      rotate_left
      · (intro w hSw; (try dsimp only at hSw); ((go_simp) <;> (with_reducible rfl)))
      try simp only [Act.put]
      refine wpAnyH_take (i := 18) (v := ?_) rfl (by as_aux_lemma => kernel_rfl) (by as_aux_lemma => kernel_rfl) (by as_aux_lemma => kernel_rfl) (fun c a w h => hP c a _ _ w h) (Or.inl ⟨(by simp [Region.wanted]), ?_⟩) (hHeld) ?_
      rotate_left
      · (intro w hSw; (try dsimp only at hSw); ((go_simp) <;> (with_reducible rfl)))
      try simp only [Act.put]
      refine wpAnyH_take (i := 19) (v := ?_) rfl (by as_aux_lemma => kernel_rfl) (by as_aux_lemma => kernel_rfl) (by as_aux_lemma => kernel_rfl) (fun c a w h => hP c a _ _ w h) (Or.inl ⟨(by simp [Region.wanted]), ?_⟩) (hHeld) ?_
      rotate_left
      · (intro w hSw; (try dsimp only at hSw); ((go_simp) <;> (with_reducible rfl)))
      try simp only [Act.put]
      refine wpAnyH_take (i := 20) (v := ?_) rfl (by as_aux_lemma => kernel_rfl) (by as_aux_lemma => kernel_rfl) (by as_aux_lemma => kernel_rfl) (fun c a w h => hP c a _ _ w h) (Or.inl ⟨(by simp [Region.wanted, yielded]), ?_⟩) (hHeld) ?_
      rotate_left
      · (intro w hSw; (try dsimp only at hSw); ((go_simp) <;> (with_reducible rfl)))
      try simp only [Act.put]
      refine wpAnyH_take (i := 21) (v := ?_) rfl (by as_aux_lemma => kernel_rfl) (by as_aux_lemma => kernel_rfl) (by as_aux_lemma => kernel_rfl) (fun c a w h => hP c a _ _ w h) (Or.inl ⟨(by simp [Region.wanted, yielded]), ?_⟩) (hHeld) ?_
      rotate_left
      · (intro w hSw; (try dsimp only at hSw); ((go_simp) <;> (with_reducible rfl)))
      try simp only [Act.put]
      refine wpAnyH_take (i := 22) (v := ?_) rfl (by as_aux_lemma => kernel_rfl) (by as_aux_lemma => kernel_rfl) (by as_aux_lemma => kernel_rfl) (fun c a w h => hP c a _ _ w h) (Or.inl ⟨(by simp [Region.wanted, yielded]), ?_⟩) (hHeld) ?_
      rotate_left
      · (intro w hSw; (try dsimp only at hSw); ((go_simp) <;> (with_reducible rfl)))
      try simp only [Act.put]
      refine wpAnyH_ready (rs := [23]) (by as_aux_lemma => kernel_rfl) (by simp) ?_
      refine AllReadyH.cons rfl (fun K hK => ?_) AllReadyH.nil
      go_simp
      refine HCL.out.mono ?_
      rintro r w8 ⟨rfl, hz8, hR8⟩
      try go_wp2_with fail
      refine hK.out _ _ (HSX.out _ hz8) (fun hHeld => ?_)
      clear hK K
      try simp only [Act.put, List.setIfInBounds_toArray, List.set_cons_zero, List.set_cons_succ]
      refine wpAnyH_take (i := 24) (v := ?_) rfl (by as_aux_lemma => kernel_rfl) (by as_aux_lemma => kernel_rfl) (by as_aux_lemma => kernel_rfl) (fun c a w h => hP c a _ _ w h) (Or.inl ⟨(by simp [Region.wanted, yielded]), ?_⟩) (hHeld) ?_
      rotate_left
      · (intro w hSw; (try dsimp only at hSw); ((go_simp) <;> (with_reducible rfl)))
      try simp only [Act.put, List.setIfInBounds_toArray]
      refine wpAnyH_ready (rs := [25]) (by as_aux_lemma => kernel_rfl) (by simp) ?_
      refine AllReadyH.cons rfl (fun K hK => ?_) AllReadyH.nil
      go_simp
      refine hK.out _ _ (hHeld) (fun hHeld => ?_)
      clear hK K
      try simp only [Act.put, List.setIfInBounds_toArray, List.set_cons_zero, List.set_cons_succ]
      refine wpAnyH_done (by as_aux_lemma => kernel_rfl) ?_ _
      clear hHeld HSX HCL
      go_wp2
      exact ⟨⟨j + 1, HJL.out, by go_num, hR8⟩, by have := HJL.out; simp [intOf]; omega⟩
    · obtain rfl : j = cn := by omega
      have i2 : ¬ (j : Int) < (j : Int) := by omega
      clear HR
      go_wp2
      exact HQ.out _ _ _ _ _ _ _ _ _ _ _ _ _ _ _ _ _ _ _ _ _ _ _ _ _ _ _ _ _ _ _ _ _ _ hRj

end Go.Proofs.Ythpipbkbldlfjaa
