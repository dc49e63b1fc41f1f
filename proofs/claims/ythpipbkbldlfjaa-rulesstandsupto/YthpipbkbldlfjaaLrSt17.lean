/-
  RulesStands: an item's line, its targets and its words stand.
-/
import Derived.Test.YthpipbkbldlfjaaLrStN
import Derived.Deep.RegionHeld3
namespace Go.Proofs.Ythpipbkbldlfjaa
open Go.RowKit

set_option maxRecDepth 1000000 in
set_option maxHeartbeats 8000000 in
theorem st_r17 (n i b o c2 g1 g5 g7 b4 o4 c5 sl pn pl a tn tc wn wc_ : Nat) (ta wa : Option Addr) (la : Int) (wr : World) (Z P1 P2 : World → Prop)
    (HS : Hid (∀ W, Z W → W.cell? ⟨b, o + i * 6 + 1, none⟩ = some (.int .i64 (pn : Int)) ∧ W.cell? ⟨b, o + i * 6 + 3, none⟩ = some (.slice ta tn tc) ∧ W.cell? ⟨b, o + i * 6 + 4, none⟩ = some (.slice wa wn wc_) ∧ W.cell? ⟨g5, 0, none⟩ = some (.slice (some ⟨b4, o4, none⟩) sl c5) ∧ W.cell? ⟨b4, o4 + pl, none⟩ = some (.int .i64 (a : Int)))) (hz : Z wr.drew) (q2 : wr.cell? ⟨g7, 0, none⟩ = some (.int .i64 la))
    (n1 : decide ((pn : Int) < 1) = false) (n2 : decide (sl < pn) = false) (n3 : decide ((a : Int) ≤ la) = false) (n4 : (pn : Int) - 1 = (pl : Int)) (n6 : (pl : Int) < (sl : Int)) (n8 : (pn : Int) ≤ 1048578) (i1 : (i : Int) < (n : Int))
    (HC1 : Hid (Calls Try.prog 27 #[.slice ta tn tc, .pointer (some ⟨g5, 0, none⟩), .pointer (some ⟨g7, 0, none⟩), .pointer (some ⟨g1, 0, none⟩)] wr.drew fun e w' => e = .returned (.bool true) ∧ Z w' ∧ P1 w'))
    (HC2 : Hid (∀ W, Z W → P1 W → Calls Try.prog 27 #[.slice wa wn wc_, .pointer (some ⟨g5, 0, none⟩), .pointer (some ⟨g7, 0, none⟩), .pointer (some ⟨g1, 0, none⟩)] W fun e w' => e = .returned (.bool true) ∧ Z w' ∧ P2 w'))
    (c0_ c1_ c2_ c4_ c6_ c10_ c11_ c12_ c13_ c14_ c15_ c16_ c17_ c18_ c19_ c20_ c21_ c22_ c23_ c24_ c25_ c26_ c27_ c28_ c29_ c30_ c31_ c32_ c33_ c34_ c35_ c36_ c37_ c38_ c39_ c40_ c41_ c42_ c43_ c44_ c45_ c46_ c47_ c48_ c49_ c50_ c51_ c52_ c53_ c54_ c55_ c56_ c57_ c58_ c59_ c60_ c61_ c62_ c63_ c64_ c65_ c66_ c67_ c68_ c69_ c70_ c71_ c72_ c73_ c74_ c75_ c76_ c77_ c78_ c79_ c80_ c81_ c82_ c83_ c84_ c85_ c86_ c87_ c88_ c89_ c90_ c91_ c92_ c93_ c94_ c95_ c96_ c97_ c98_ c99_ c100_ c101_ c102_ c103_ c104_ c105_ c106_ c107_ c108_ c109_ c110_ c111_ c112_ c113_ c114_ c115_ c116_ c117_ c118_ c119_ c120_ c121_ c122_ c123_ c124_ c125_ c126_ c127_ c128_ c129_ c130_ c131_ c132_ c133_ c134_ c135_ c136_ c137_ c138_ c139_ c140_ c141_ c142_ c143_ c144_ c145_ c146_ c147_ c148_ c149_ c150_ c151_ c152_ c153_ c154_ c155_ c156_ c157_ c158_ c159_ c160_ c161_ c162_ c163_ c164_ c165_ c166_ c167_ c168_ : Value) (Q0 : Exit → Act → World → Prop) (hP : ∀ c a (d : Nat) v w, Q0 (.panic c) (a.put (some d) v) w → Q0 (.panic c) a w)
    (hQ : ∀ (u79 u80 u81 u82 u83 u84 u85 u86 u87 u88 u89 u90 u91 u92 u93 u94 u95 u96 u97 u98 u99 u100 u101 u102 u103 u104 u105 u106 u107 u108 u109 u110 u111 u112 u113 u114 u115 u116 u117 u118 u119 u120 u121 u122 u123 u124 u125 u126 u127 u128 u129 u130 : Value) (w6 : World), Z w6 → P2 w6 → Q0 .normal ⟨#[c0_, c1_, c2_, .slice (some ⟨b, o, none⟩) n c2, c4_, .pointer (some ⟨g5, 0, none⟩), c6_, .pointer (some ⟨g7, 0, none⟩), .func (Fn.func 27) #[] #[.pointer (some ⟨g5, 0, none⟩), .pointer (some ⟨g7, 0, none⟩), .pointer (some ⟨g1, 0, none⟩)], .int .i64 (i : Int), c10_, c11_, c12_, c13_, c14_, c15_, c16_, c17_, c18_, c19_, c20_, c21_, c22_, c23_, c24_, c25_, c26_, c27_, c28_, c29_, c30_, c31_, c32_, c33_, c34_, c35_, c36_, c37_, c38_, c39_, c40_, c41_, c42_, c43_, c44_, c45_, c46_, c47_, c48_, c49_, c50_, c51_, c52_, c53_, c54_, c55_, c56_, c57_, c58_, c59_, c60_, c61_, c62_, c63_, c64_, c65_, c66_, c67_, c68_, c69_, c70_, c71_, c72_, c73_, c74_, c75_, c76_, c77_, c78_, u79, u80, u81, u82, u83, u84, u85, u86, u87, u88, u89, u90, u91, u92, u93, u94, u95, u96, u97, u98, u99, u100, u101, u102, u103, u104, u105, u106, u107, u108, u109, u110, u111, u112, u113, u114, u115, u116, u117, u118, u119, u120, u121, u122, u123, u124, u125, u126, u127, u128, u129, u130, .bool false, c132_, c133_, c134_, c135_, c136_, c137_, c138_, c139_, c140_, c141_, c142_, c143_, c144_, c145_, c146_, c147_, c148_, c149_, c150_, c151_, c152_, c153_, c154_, c155_, c156_, c157_, c158_, c159_, c160_, c161_, c162_, c163_, c164_, c165_, c166_, c167_, c168_], []⟩ w6) :
    Code.wp Try.prog st17 Q0 ⟨#[c0_, c1_, c2_, .slice (some ⟨b, o, none⟩) n c2, c4_, .pointer (some ⟨g5, 0, none⟩), c6_, .pointer (some ⟨g7, 0, none⟩), .func (Fn.func 27) #[] #[.pointer (some ⟨g5, 0, none⟩), .pointer (some ⟨g7, 0, none⟩), .pointer (some ⟨g1, 0, none⟩)], .int .i64 (i : Int), c10_, c11_, c12_, c13_, c14_, c15_, c16_, c17_, c18_, c19_, c20_, c21_, c22_, c23_, c24_, c25_, c26_, c27_, c28_, c29_, c30_, c31_, c32_, c33_, c34_, c35_, c36_, c37_, c38_, c39_, c40_, c41_, c42_, c43_, c44_, c45_, c46_, c47_, c48_, c49_, c50_, c51_, c52_, c53_, c54_, c55_, c56_, c57_, c58_, c59_, c60_, c61_, c62_, c63_, c64_, c65_, c66_, c67_, c68_, c69_, c70_, c71_, c72_, c73_, c74_, c75_, c76_, c77_, c78_, c79_, c80_, c81_, c82_, c83_, c84_, c85_, c86_, c87_, c88_, c89_, c90_, c91_, c92_, c93_, c94_, c95_, c96_, c97_, c98_, c99_, c100_, c101_, c102_, c103_, c104_, c105_, c106_, c107_, c108_, c109_, c110_, c111_, c112_, c113_, c114_, c115_, c116_, c117_, c118_, c119_, c120_, c121_, c122_, c123_, c124_, c125_, c126_, c127_, c128_, c129_, c130_, c131_, c132_, c133_, c134_, c135_, c136_, c137_, c138_, c139_, c140_, c141_, c142_, c143_, c144_, c145_, c146_, c147_, c148_, c149_, c150_, c151_, c152_, c153_, c154_, c155_, c156_, c157_, c158_, c159_, c160_, c161_, c162_, c163_, c164_, c165_, c166_, c167_, c168_], []⟩ wr := by
  conv => arg 2; whnf
  have n9 : (0 : Int) ≤ (pl : Int) := by omega
  have na : IntKind.i64.wrap (pl : Int) = (pl : Int) := by rw [IntKind.wrap_i64]; omega
  refine wp_region_held_drew (S := fun W : World => W.cell? ⟨b, o + i * 6 + 1, none⟩ = some (.int .i64 (pn : Int)) ∧ W.cell? ⟨b, o + i * 6 + 3, none⟩ = some (.slice ta tn tc) ∧ W.cell? ⟨b, o + i * 6 + 4, none⟩ = some (.slice wa wn wc_) ∧ W.cell? ⟨g5, 0, none⟩ = some (.slice (some ⟨b4, o4, none⟩) sl c5) ∧ W.cell? ⟨b4, o4 + pl, none⟩ = some (.int .i64 (a : Int))) (by kernel_rfl) (HS.out _ hz) (fun hHeld => ?_)
  refine wpAnyH_take (i := 0) (v := ?_) rfl (by as_aux_lemma => kernel_rfl) (by as_aux_lemma => kernel_rfl) (by as_aux_lemma => kernel_rfl) (fun c a w h => hP c a _ _ w h) (Or.inl ⟨(by simp [Region.wanted]), ?_⟩) (hHeld) ?_
  rotate_left
  · (intro w hSw; (try dsimp only at hSw); ((go_simp) <;> (with_reducible rfl)))
  try simp only [Act.put, List.setIfInBounds_toArray]
  refine wpAnyH_take (i := 1) (v := ?_) rfl (by as_aux_lemma => kernel_rfl) (by as_aux_lemma => kernel_rfl) (by as_aux_lemma => kernel_rfl) (fun c a w h => hP c a _ _ w h) (Or.inl ⟨(by simp [Region.wanted]), ?_⟩) (hHeld) ?_
  rotate_left
  · (intro w hSw; (try dsimp only at hSw); ((go_simp) <;> (with_reducible rfl)))
  try simp only [Act.put]
  refine wpAnyH_take (i := 2) (v := ?_) rfl (by as_aux_lemma => kernel_rfl) (by as_aux_lemma => kernel_rfl) (by as_aux_lemma => kernel_rfl) (fun c a w h => hP c a _ _ w h) (Or.inl ⟨(by simp [Region.wanted]), ?_⟩) (hHeld) ?_
  rotate_left
  · (intro w hSw; (try dsimp only at hSw); ((go_simp) <;> (with_reducible rfl)))
  try simp only [Act.put]
  refine wpAnyH_take (i := 3) (v := ?_) rfl (by as_aux_lemma => kernel_rfl) (by as_aux_lemma => kernel_rfl) (by as_aux_lemma => kernel_rfl) (fun c a w h => hP c a _ _ w h) (Or.inl ⟨(by simp [Region.wanted]), ?_⟩) (hHeld) ?_
  rotate_left
  · (intro w hSw; (try dsimp only at hSw); ((go_simp) <;> (with_reducible rfl)))
  try simp only [Act.put]
  refine wpAnyH_take (i := 4) (v := ?_) rfl (by as_aux_lemma => kernel_rfl) (by as_aux_lemma => kernel_rfl) (by as_aux_lemma => kernel_rfl) (fun c a w h => hP c a _ _ w h) (Or.inl ⟨(by simp [Region.wanted]), ?_⟩) (hHeld) ?_
  rotate_left
  · (intro w hSw; (try dsimp only at hSw); ((go_simp) <;> (with_reducible rfl)))
  try simp only [Act.put]
  refine wpAnyH_take (i := 5) (v := ?_) rfl (by as_aux_lemma => kernel_rfl) (by as_aux_lemma => kernel_rfl) (by as_aux_lemma => kernel_rfl) (fun c a w h => hP c a _ _ w h) (Or.inl ⟨(by simp [Region.wanted]), ?_⟩) (hHeld) ?_
  rotate_left
  · (intro w hSw; (try dsimp only at hSw); ((go_simp) <;> (with_reducible rfl)))
  try simp only [Act.put]
  refine wpAnyH_take (i := 6) (v := ?_) rfl (by as_aux_lemma => kernel_rfl) (by as_aux_lemma => kernel_rfl) (by as_aux_lemma => kernel_rfl) (fun c a w h => hP c a _ _ w h) (Or.inl ⟨(by simp [Region.wanted]), ?_⟩) (hHeld) ?_
  rotate_left
  · (intro w hSw; (try dsimp only at hSw); ((go_simp) <;> (with_reducible rfl)))
  try simp only [Act.put]
  refine wpAnyH_take (i := 7) (v := ?_) rfl (by as_aux_lemma => kernel_rfl) (by as_aux_lemma => kernel_rfl) (by as_aux_lemma => kernel_rfl) (fun c a w h => hP c a _ _ w h) (Or.inl ⟨(by simp [Region.wanted, yielded]), ?_⟩) (hHeld) ?_
  rotate_left
  · (intro w hSw; (try dsimp only at hSw); ((go_simp) <;> (with_reducible rfl)))
  try simp only [Act.put]
  refine wpAnyH_take (i := 8) (v := ?_) rfl (by as_aux_lemma => kernel_rfl) (by as_aux_lemma => kernel_rfl) (by as_aux_lemma => kernel_rfl) (fun c a w h => hP c a _ _ w h) (Or.inl ⟨(by simp [Region.wanted, yielded]), ?_⟩) (hHeld) ?_
  rotate_left
  · (intro w hSw; (try dsimp only at hSw); ((go_simp) <;> (with_reducible rfl)))
  try simp only [Act.put]
  refine wpAnyH_take (i := 9) (v := ?_) rfl (by as_aux_lemma => kernel_rfl) (by as_aux_lemma => kernel_rfl) (by as_aux_lemma => kernel_rfl) (fun c a w h => hP c a _ _ w h) (Or.inl ⟨(by simp [Region.wanted, yielded]), ?_⟩) (hHeld) ?_
  rotate_left
  · (intro w hSw; (try dsimp only at hSw); ((go_simp) <;> (with_reducible rfl)))
  try simp only [Act.put]
  refine wpAnyH_take (i := 10) (v := ?_) rfl (by as_aux_lemma => kernel_rfl) (by as_aux_lemma => kernel_rfl) (by as_aux_lemma => kernel_rfl) (fun c a w h => hP c a _ _ w h) (Or.inl ⟨(by simp [Region.wanted, yielded]), ?_⟩) (hHeld) ?_
  rotate_left
  · (intro w hSw; (try dsimp only at hSw); ((go_simp) <;> (with_reducible rfl)))
  try simp only [Act.put]
  refine wpAnyH_take (i := 11) (v := ?_) rfl (by as_aux_lemma => kernel_rfl) (by as_aux_lemma => kernel_rfl) (by as_aux_lemma => kernel_rfl) (fun c a w h => hP c a _ _ w h) (Or.inl ⟨(by simp [Region.wanted, yielded]), ?_⟩) (hHeld) ?_
  rotate_left
  · (intro w hSw; (try dsimp only at hSw); ((go_simp) <;> (with_reducible rfl)))
  try simp only [Act.put]
  refine wpAnyH_take (i := 12) (v := ?_) rfl (by as_aux_lemma => kernel_rfl) (by as_aux_lemma => kernel_rfl) (by as_aux_lemma => kernel_rfl) (fun c a w h => hP c a _ _ w h) (Or.inl ⟨(by simp [Region.wanted, yielded]), ?_⟩) (hHeld) ?_
  rotate_left
  · (intro w hSw; (try dsimp only at hSw); ((go_simp) <;> (with_reducible rfl)))
  try simp only [Act.put]
  refine wpAnyH_take (i := 13) (v := ?_) rfl (by as_aux_lemma => kernel_rfl) (by as_aux_lemma => kernel_rfl) (by as_aux_lemma => kernel_rfl) (fun c a w h => hP c a _ _ w h) (Or.inl ⟨(by simp [Region.wanted, yielded]), ?_⟩) (hHeld) ?_
  rotate_left
  · (intro w hSw; (try dsimp only at hSw); ((go_simp) <;> (with_reducible rfl)))
  try simp only [Act.put]
  refine wpAnyH_take (i := 14) (v := ?_) rfl (by as_aux_lemma => kernel_rfl) (by as_aux_lemma => kernel_rfl) (by as_aux_lemma => kernel_rfl) (fun c a w h => hP c a _ _ w h) (Or.inl ⟨(by simp [Region.wanted, yielded]), ?_⟩) (hHeld) ?_
  rotate_left
  · (intro w hSw; (try dsimp only at hSw); ((go_simp) <;> (with_reducible rfl)))
  try simp only [Act.put]
  refine wpAnyH_take (i := 15) (v := ?_) rfl (by as_aux_lemma => kernel_rfl) (by as_aux_lemma => kernel_rfl) (by as_aux_lemma => kernel_rfl) (fun c a w h => hP c a _ _ w h) (Or.inl ⟨(by simp [Region.wanted]), ?_⟩) (hHeld) ?_
  rotate_left
  · (intro w hSw; (try dsimp only at hSw); ((go_simp) <;> (with_reducible rfl)))
  try simp only [Act.put]
  refine wpAnyH_take (i := 16) (v := ?_) rfl (by as_aux_lemma => kernel_rfl) (by as_aux_lemma => kernel_rfl) (by as_aux_lemma => kernel_rfl) (fun c a w h => hP c a _ _ w h) (Or.inl ⟨(by simp [Region.wanted]), ?_⟩) (hHeld) ?_
  rotate_left
  · (intro w hSw; (try dsimp only at hSw); ((go_simp) <;> (with_reducible rfl)))
  try simp only [Act.put]
  refine wpAnyH_take (i := 17) (v := ?_) rfl (by as_aux_lemma => kernel_rfl) (by as_aux_lemma => kernel_rfl) (by as_aux_lemma => kernel_rfl) (fun c a w h => hP c a _ _ w h) (Or.inl ⟨(by simp [Region.wanted, yielded]), ?_⟩) (hHeld) ?_
  rotate_left
  · (intro w hSw; (try dsimp only at hSw); ((go_simp) <;> (with_reducible rfl)))
  try simp only [Act.put]
  refine wpAnyH_take (i := 18) (v := ?_) rfl (by as_aux_lemma => kernel_rfl) (by as_aux_lemma => kernel_rfl) (by as_aux_lemma => kernel_rfl) (fun c a w h => hP c a _ _ w h) (Or.inl ⟨(by simp [Region.wanted, yielded]), ?_⟩) (hHeld) ?_
  rotate_left
  · (intro w hSw; (try dsimp only at hSw); ((go_simp) <;> (with_reducible rfl)))
  try simp only [Act.put]
  refine wpAnyH_take (i := 19) (v := ?_) rfl (by as_aux_lemma => kernel_rfl) (by as_aux_lemma => kernel_rfl) (by as_aux_lemma => kernel_rfl) (fun c a w h => hP c a _ _ w h) (Or.inl ⟨(by simp [Region.wanted, yielded]), ?_⟩) (hHeld) ?_
  rotate_left
  · (intro w hSw; (try dsimp only at hSw); ((go_simp) <;> (with_reducible rfl)))
  try simp only [Act.put]
  refine wpAnyH_take (i := 20) (v := ?_) rfl (by as_aux_lemma => kernel_rfl) (by as_aux_lemma => kernel_rfl) (by as_aux_lemma => kernel_rfl) (fun c a w h => hP c a _ _ w h) (Or.inl ⟨(by simp [Region.wanted, yielded]), ?_⟩) (hHeld) ?_
  rotate_left
  · (intro w hSw; (try dsimp only at hSw); ((go_simp) <;> (with_reducible rfl)))
  try simp only [Act.put]
  refine wpAnyH_take (i := 21) (v := ?_) rfl (by as_aux_lemma => kernel_rfl) (by as_aux_lemma => kernel_rfl) (by as_aux_lemma => kernel_rfl) (fun c a w h => hP c a _ _ w h) (Or.inl ⟨(by simp [Region.wanted, yielded]), ?_⟩) (hHeld) ?_
  rotate_left
  · (intro w hSw; (try dsimp only at hSw); ((go_simp) <;> (with_reducible rfl)))
  try simp only [Act.put]
  refine wpAnyH_take (i := 22) (v := ?_) rfl (by as_aux_lemma => kernel_rfl) (by as_aux_lemma => kernel_rfl) (by as_aux_lemma => kernel_rfl) (fun c a w h => hP c a _ _ w h) (Or.inl ⟨(by simp [Region.wanted, yielded]), ?_⟩) (hHeld) ?_
  rotate_left
  · (intro w hSw; (try dsimp only at hSw); ((go_simp) <;> (with_reducible rfl)))
  try simp only [Act.put]
  refine wpAnyH_take (i := 23) (v := ?_) rfl (by as_aux_lemma => kernel_rfl) (by as_aux_lemma => kernel_rfl) (by as_aux_lemma => kernel_rfl) (fun c a w h => hP c a _ _ w h) (Or.inl ⟨(by simp [Region.wanted, yielded]), ?_⟩) (hHeld) ?_
  rotate_left
  · (intro w hSw; (try dsimp only at hSw); ((go_simp) <;> (with_reducible rfl)))
  try simp only [Act.put]
  refine wpAnyH_take (i := 24) (v := ?_) rfl (by as_aux_lemma => kernel_rfl) (by as_aux_lemma => kernel_rfl) (by as_aux_lemma => kernel_rfl) (fun c a w h => hP c a _ _ w h) (Or.inl ⟨(by simp [Region.wanted, yielded]), ?_⟩) (hHeld) ?_
  rotate_left
  · (intro w hSw; (try dsimp only at hSw); ((go_simp) <;> (with_reducible rfl)))
  try simp only [Act.put]
  refine wpAnyH_take (i := 25) (v := ?_) rfl (by as_aux_lemma => kernel_rfl) (by as_aux_lemma => kernel_rfl) (by as_aux_lemma => kernel_rfl) (fun c a w h => hP c a _ _ w h) (Or.inl ⟨(by simp [Region.wanted, yielded]), ?_⟩) (hHeld) ?_
  rotate_left
  · (intro w hSw; (try dsimp only at hSw); ((go_simp) <;> (with_reducible rfl)))
  try simp only [Act.put]
  refine wpAnyH_ready (rs := [26]) (by as_aux_lemma => kernel_rfl) (by simp) ?_
  refine AllReadyH.cons rfl (fun K hK => ?_) AllReadyH.nil
  go_simp
  refine hK.out _ _ (hHeld) (fun hHeld => ?_)
  clear hK K
  try simp only [Act.put, List.setIfInBounds_toArray, List.set_cons_zero, List.set_cons_succ]
  refine wpAnyH_take (i := 27) (v := ?_) rfl (by as_aux_lemma => kernel_rfl) (by as_aux_lemma => kernel_rfl) (by as_aux_lemma => kernel_rfl) (fun c a w h => hP c a _ _ w h) (Or.inl ⟨(by simp [Region.wanted, yielded]), ?_⟩) (hHeld) ?_
  rotate_left
  · (intro w hSw; (try dsimp only at hSw); ((go_simp) <;> (with_reducible rfl)))
  try simp only [Act.put, List.setIfInBounds_toArray]
  refine wpAnyH_take (i := 28) (v := ?_) rfl (by as_aux_lemma => kernel_rfl) (by as_aux_lemma => kernel_rfl) (by as_aux_lemma => kernel_rfl) (fun c a w h => hP c a _ _ w h) (Or.inl ⟨(by simp [Region.wanted, yielded]), ?_⟩) (hHeld) ?_
  rotate_left
  · (intro w hSw; (try dsimp only at hSw); ((go_simp) <;> (with_reducible rfl)))
  try simp only [Act.put]
  refine wpAnyH_take (i := 29) (v := undef) rfl (by as_aux_lemma => kernel_rfl) (by as_aux_lemma => kernel_rfl) (by as_aux_lemma => kernel_rfl) (fun c a w h => hP c a _ _ w h) (Or.inr ⟨(by simp [Region.wanted, yielded]), rfl⟩) (hHeld) ?_
  try simp only [Act.put]
  refine wpAnyH_take (i := 30) (v := undef) rfl (by as_aux_lemma => kernel_rfl) (by as_aux_lemma => kernel_rfl) (by as_aux_lemma => kernel_rfl) (fun c a w h => hP c a _ _ w h) (Or.inr ⟨(by simp [Region.wanted, yielded]), rfl⟩) (hHeld) ?_
  try simp only [Act.put]
  refine wpAnyH_take (i := 31) (v := ?_) rfl (by as_aux_lemma => kernel_rfl) (by as_aux_lemma => kernel_rfl) (by as_aux_lemma => kernel_rfl) (fun c a w h => hP c a _ _ w h) (Or.inl ⟨(by simp [Region.wanted, yielded]), ?_⟩) (hHeld) ?_
  rotate_left
  · (intro w hSw; (try dsimp only at hSw); ((go_simp) <;> (with_reducible rfl)))
  try simp only [Act.put]
  refine wpAnyH_take (i := 32) (v := ?_) rfl (by as_aux_lemma => kernel_rfl) (by as_aux_lemma => kernel_rfl) (by as_aux_lemma => kernel_rfl) (fun c a w h => hP c a _ _ w h) (Or.inl ⟨(by simp [Region.wanted]), ?_⟩) (hHeld) ?_
  rotate_left
  · (intro w hSw; (try dsimp only at hSw); ((go_simp) <;> (with_reducible rfl)))
  try simp only [Act.put]
  refine wpAnyH_take (i := 33) (v := ?_) rfl (by as_aux_lemma => kernel_rfl) (by as_aux_lemma => kernel_rfl) (by as_aux_lemma => kernel_rfl) (fun c a w h => hP c a _ _ w h) (Or.inl ⟨(by simp [Region.wanted]), ?_⟩) (hHeld) ?_
  rotate_left
  · (intro w hSw; (try dsimp only at hSw); ((go_simp) <;> (with_reducible rfl)))
  try simp only [Act.put]
  refine wpAnyH_take (i := 34) (v := ?_) rfl (by as_aux_lemma => kernel_rfl) (by as_aux_lemma => kernel_rfl) (by as_aux_lemma => kernel_rfl) (fun c a w h => hP c a _ _ w h) (Or.inl ⟨(by simp [Region.wanted, yielded]), ?_⟩) (hHeld) ?_
  rotate_left
  · (intro w hSw; (try dsimp only at hSw); ((go_simp) <;> (with_reducible rfl)))
  try simp only [Act.put]
  refine wpAnyH_take (i := 35) (v := ?_) rfl (by as_aux_lemma => kernel_rfl) (by as_aux_lemma => kernel_rfl) (by as_aux_lemma => kernel_rfl) (fun c a w h => hP c a _ _ w h) (Or.inl ⟨(by simp [Region.wanted, yielded]), ?_⟩) (hHeld) ?_
  rotate_left
  · (intro w hSw; (try dsimp only at hSw); ((go_simp) <;> (with_reducible rfl)))
  try simp only [Act.put]
  refine wpAnyH_take (i := 36) (v := ?_) rfl (by as_aux_lemma => kernel_rfl) (by as_aux_lemma => kernel_rfl) (by as_aux_lemma => kernel_rfl) (fun c a w h => hP c a _ _ w h) (Or.inl ⟨(by simp [Region.wanted, yielded]), ?_⟩) (hHeld) ?_
  rotate_left
  · (intro w hSw; (try dsimp only at hSw); ((go_simp) <;> (with_reducible rfl)))
  try simp only [Act.put]
  refine wpAnyH_take (i := 37) (v := ?_) rfl (by as_aux_lemma => kernel_rfl) (by as_aux_lemma => kernel_rfl) (by as_aux_lemma => kernel_rfl) (fun c a w h => hP c a _ _ w h) (Or.inl ⟨(by simp [Region.wanted, yielded]), ?_⟩) (hHeld) ?_
  rotate_left
  · (intro w hSw; (try dsimp only at hSw); ((go_simp) <;> (with_reducible rfl)))
  try simp only [Act.put]
  refine wpAnyH_take (i := 38) (v := ?_) rfl (by as_aux_lemma => kernel_rfl) (by as_aux_lemma => kernel_rfl) (by as_aux_lemma => kernel_rfl) (fun c a w h => hP c a _ _ w h) (Or.inl ⟨(by simp [Region.wanted, yielded]), ?_⟩) (hHeld) ?_
  rotate_left
  · (intro w hSw; (try dsimp only at hSw); ((go_simp) <;> (with_reducible rfl)))
  try simp only [Act.put]
  refine wpAnyH_take (i := 39) (v := ?_) rfl (by as_aux_lemma => kernel_rfl) (by as_aux_lemma => kernel_rfl) (by as_aux_lemma => kernel_rfl) (fun c a w h => hP c a _ _ w h) (Or.inl ⟨(by simp [Region.wanted, yielded]), ?_⟩) (hHeld) ?_
  rotate_left
  · (intro w hSw; (try dsimp only at hSw); ((go_simp) <;> (with_reducible rfl)))
  try simp only [Act.put]
  refine wpAnyH_ready (rs := [40]) (by as_aux_lemma => kernel_rfl) (by simp) ?_
  refine AllReadyH.cons rfl (fun K hK => ?_) AllReadyH.nil
  go_simp
  refine HC1.out.mono ?_
  rintro r w5 ⟨rfl, hz5, hp5⟩
  try go_wp2_with fail
  refine hK.out _ _ (HS.out _ hz5) (fun hHeld => ?_)
  clear hK K
  try simp only [Act.put, List.setIfInBounds_toArray, List.set_cons_zero, List.set_cons_succ]
  refine wpAnyH_take (i := 41) (v := ?_) rfl (by as_aux_lemma => kernel_rfl) (by as_aux_lemma => kernel_rfl) (by as_aux_lemma => kernel_rfl) (fun c a w h => hP c a _ _ w h) (Or.inl ⟨(by simp [Region.wanted, yielded]), ?_⟩) (hHeld) ?_
  rotate_left
  · (intro w hSw; (try dsimp only at hSw); ((go_simp) <;> (with_reducible rfl)))
  try simp only [Act.put, List.setIfInBounds_toArray]
  refine wpAnyH_take (i := 42) (v := ?_) rfl (by as_aux_lemma => kernel_rfl) (by as_aux_lemma => kernel_rfl) (by as_aux_lemma => kernel_rfl) (fun c a w h => hP c a _ _ w h) (Or.inl ⟨(by simp [Region.wanted]), ?_⟩) (hHeld) ?_
  rotate_left
  · (intro w hSw; (try dsimp only at hSw); ((go_simp) <;> (with_reducible rfl)))
  try simp only [Act.put]
  refine wpAnyH_take (i := 43) (v := ?_) rfl (by as_aux_lemma => kernel_rfl) (by as_aux_lemma => kernel_rfl) (by as_aux_lemma => kernel_rfl) (fun c a w h => hP c a _ _ w h) (Or.inl ⟨(by simp [Region.wanted]), ?_⟩) (hHeld) ?_
  rotate_left
  · (intro w hSw; (try dsimp only at hSw); ((go_simp) <;> (with_reducible rfl)))
  try simp only [Act.put]
  refine wpAnyH_take (i := 44) (v := ?_) rfl (by as_aux_lemma => kernel_rfl) (by as_aux_lemma => kernel_rfl) (by as_aux_lemma => kernel_rfl) (fun c a w h => hP c a _ _ w h) (Or.inl ⟨(by simp [Region.wanted, yielded]), ?_⟩) (hHeld) ?_
  rotate_left
  · (intro w hSw; (try dsimp only at hSw); ((go_simp) <;> (with_reducible rfl)))
  try simp only [Act.put]
  refine wpAnyH_take (i := 45) (v := ?_) rfl (by as_aux_lemma => kernel_rfl) (by as_aux_lemma => kernel_rfl) (by as_aux_lemma => kernel_rfl) (fun c a w h => hP c a _ _ w h) (Or.inl ⟨(by simp [Region.wanted, yielded]), ?_⟩) (hHeld) ?_
  rotate_left
  · (intro w hSw; (try dsimp only at hSw); ((go_simp) <;> (with_reducible rfl)))
  try simp only [Act.put]
  refine wpAnyH_take (i := 46) (v := ?_) rfl (by as_aux_lemma => kernel_rfl) (by as_aux_lemma => kernel_rfl) (by as_aux_lemma => kernel_rfl) (fun c a w h => hP c a _ _ w h) (Or.inl ⟨(by simp [Region.wanted, yielded]), ?_⟩) (hHeld) ?_
  rotate_left
  · (intro w hSw; (try dsimp only at hSw); ((go_simp) <;> (with_reducible rfl)))
  try simp only [Act.put]
  refine wpAnyH_take (i := 47) (v := ?_) rfl (by as_aux_lemma => kernel_rfl) (by as_aux_lemma => kernel_rfl) (by as_aux_lemma => kernel_rfl) (fun c a w h => hP c a _ _ w h) (Or.inl ⟨(by simp [Region.wanted, yielded]), ?_⟩) (hHeld) ?_
  rotate_left
  · (intro w hSw; (try dsimp only at hSw); ((go_simp) <;> (with_reducible rfl)))
  try simp only [Act.put]
  refine wpAnyH_take (i := 48) (v := ?_) rfl (by as_aux_lemma => kernel_rfl) (by as_aux_lemma => kernel_rfl) (by as_aux_lemma => kernel_rfl) (fun c a w h => hP c a _ _ w h) (Or.inl ⟨(by simp [Region.wanted, yielded]), ?_⟩) (hHeld) ?_
  rotate_left
  · (intro w hSw; (try dsimp only at hSw); ((go_simp) <;> (with_reducible rfl)))
  try simp only [Act.put]
  refine wpAnyH_take (i := 49) (v := ?_) rfl (by as_aux_lemma => kernel_rfl) (by as_aux_lemma => kernel_rfl) (by as_aux_lemma => kernel_rfl) (fun c a w h => hP c a _ _ w h) (Or.inl ⟨(by simp [Region.wanted, yielded]), ?_⟩) (hHeld) ?_
  rotate_left
  · (intro w hSw; (try dsimp only at hSw); ((go_simp) <;> (with_reducible rfl)))
  try simp only [Act.put]
  refine wpAnyH_ready (rs := [50]) (by as_aux_lemma => kernel_rfl) (by simp) ?_
  refine AllReadyH.cons rfl (fun K hK => ?_) AllReadyH.nil
  go_simp
  refine (HC2.out _ hz5 hp5).mono ?_
  rintro r w6 ⟨rfl, hz6, hp6⟩
  try go_wp2_with fail
  refine hK.out _ _ (HS.out _ hz6) (fun hHeld => ?_)
  clear hK K
  try simp only [Act.put, List.setIfInBounds_toArray, List.set_cons_zero, List.set_cons_succ]
  refine wpAnyH_take (i := 51) (v := ?_) rfl (by as_aux_lemma => kernel_rfl) (by as_aux_lemma => kernel_rfl) (by as_aux_lemma => kernel_rfl) (fun c a w h => hP c a _ _ w h) (Or.inl ⟨(by simp [Region.wanted, yielded]), ?_⟩) (hHeld) ?_
  rotate_left
  · (intro w hSw; (try dsimp only at hSw); ((go_simp) <;> (with_reducible rfl)))
  try simp only [Act.put, List.setIfInBounds_toArray]
  refine wpAnyH_ready (rs := [52]) (by as_aux_lemma => kernel_rfl) (by simp) ?_
  refine AllReadyH.cons rfl (fun K hK => ?_) AllReadyH.nil
  go_simp
  refine hK.out _ _ (hHeld) (fun hHeld => ?_)
  clear hK K
  try simp only [Act.put, List.setIfInBounds_toArray, List.set_cons_zero, List.set_cons_succ]
  refine wpAnyH_done (by as_aux_lemma => kernel_rfl) ?_ _
  exact hQ _ _ _ _ _ _ _ _ _ _ _ _ _ _ _ _ _ _ _ _ _ _ _ _ _ _ _ _ _ _ _ _ _ _ _ _ _ _ _ _ _ _ _ _ _ _ _ _ _ _ _ _ _ hz6 hp6

end Go.Proofs.Ythpipbkbldlfjaa
