/-
  THE DOCUMENT's Lines: a bare word.
-/
import Derived.Test.YthpipbkbldlfjaaYLnK
namespace Go.Proofs.Ythpipbkbldlfjaa
open Go.RowKit

set_option maxRecDepth 1000000 in
set_option maxHeartbeats 4000000 in
theorem ln_bare (s : ByteArray) (W0 : World) (BB : List (Lx.B Nat)) (b4 o4 c4 f t sp g num : Nat) (ind : Bool) (R : Lx.R Nat (List (Lx.W Nat))) (hx : LnCtx s W0 BB b4 o4 c4 f t sp g) (c1_ c5_ c6_ c15_ c16_ c17_ c18_ c19_ c20_ c21_ c22_ c23_ c24_ c25_ c26_ c27_ c28_ c29_ c30_ c31_ c32_ c33_ c34_ c35_ c36_ c37_ c38_ c39_ c40_ c41_ c42_ c43_ c44_ c45_ c46_ c47_ c48_ c49_ c50_ c51_ c52_ c53_ c54_ c55_ c56_ c57_ c58_ c59_ c60_ c61_ c62_ c63_ c64_ c65_ c193_ c194_ c195_ c196_ c197_ c198_ c199_ c200_ c201_ c202_ c203_ c204_ u2 u10 u11 u12 u13 u14 u66 u67 u68 u69 u70 u71 u72 u73 u74 u75 u76 u77 u78 u79 u80 u81 u82 u83 u84 u85 u86 u87 u88 u89 u90 u91 u92 u93 u94 u95 u96 u97 u98 u99 u100 u101 u102 u103 u104 u105 u106 u107 u108 u109 u110 u111 u112 u113 u114 u115 u116 u117 u118 u119 u120 u121 u122 u123 u124 u125 u126 u127 u128 u129 u130 u131 u132 u133 u134 u135 u136 u137 u138 u139 u140 u141 u142 u143 u144 u145 u146 u147 u148 u149 u150 u151 u152 u153 u154 u155 u156 u157 u158 u159 u160 u161 u162 u163 u164 u165 u166 u167 u168 u169 u170 u171 u172 u173 u174 u175 u176 u177 u178 u179 u180 u181 u182 u183 u184 u185 u186 u187 u188 u189 u190 u191 u192 : Value) (Q0 : Exit → Act → World → Prop) (hp : ∀ c a d v w, Q0 (.panic c) (a.put d v) w → Q0 (.panic c) a w) (wr : World) (i : Nat) (acc : List (Lx.W Nat)) (ad : Option Addr) (n c : Nat) (hL : LW W0 g num ind (.slice ad n c) (acc.map (Lx.told (bs s))) wr) (av : Nat) (hit : i < t) (hav : (BB.getD i Lx.noB).at_ = av) (hfi : f ≤ i) (hal : acc.length ≤ i) (xc : UInt8) (hc : (BB.getD i Lx.noB).c = xc) (h35 : xc ≠ 35) (h32 : xc ≠ 32) (h58 : xc ≠ 58) (h61 : xc ≠ 61) (h34 : xc ≠ 34) (hb : Lx.bare xc = true) (tx : List UInt8) (K E : Nat) (hiK : i < K) (hKt : K ≤ t) (hbs : ∀ j, i ≤ j → j < K → Lx.bare (BB.getD j Lx.noB).c = true) (hst : K = t ∨ Lx.bare (BB.getD K Lx.noB).c = false) (hE : Hid (E = av + (K - i))) (hEs : E ≤ s.size) (hex : s.extract av E = str tx) (HA : Hid (R = (Lx.rd ((BB.take t).drop K)).map id ((acc ++ [⟨tx, av, false, false⟩]) ++ ·))) :
    Code.wp Try.prog lnBody (Exit.then (fun a' w'' => LnWI s W0 BB b4 o4 c4 f t sp g num ind R c1_ c5_ c6_ c15_ c16_ c17_ c18_ c19_ c20_ c21_ c22_ c23_ c24_ c25_ c26_ c27_ c28_ c29_ c30_ c31_ c32_ c33_ c34_ c35_ c36_ c37_ c38_ c39_ c40_ c41_ c42_ c43_ c44_ c45_ c46_ c47_ c48_ c49_ c50_ c51_ c52_ c53_ c54_ c55_ c56_ c57_ c58_ c59_ c60_ c61_ c62_ c63_ c64_ c65_ c193_ c194_ c195_ c196_ c197_ c198_ c199_ c200_ c201_ c202_ c203_ c204_ a' w'' ∧ LnMu t a' w'' < LnMu t ⟨#[.string s, c1_, u2, .pointer (some ⟨sp, 0, none⟩), .slice (some ⟨b4, o4, none⟩) BB.length c4, c5_, c6_, .int .i64 (t : Int), .pointer (some ⟨g, 0, none⟩), .int .i64 (i : Int), u10, u11, u12, u13, u14, c15_, c16_, c17_, c18_, c19_, c20_, c21_, c22_, c23_, c24_, c25_, c26_, c27_, c28_, c29_, c30_, c31_, c32_, c33_, c34_, c35_, c36_, c37_, c38_, c39_, c40_, c41_, c42_, c43_, c44_, c45_, c46_, c47_, c48_, c49_, c50_, c51_, c52_, c53_, c54_, c55_, c56_, c57_, c58_, c59_, c60_, c61_, c62_, c63_, c64_, c65_, u66, u67, u68, u69, u70, u71, u72, u73, u74, u75, u76, u77, u78, u79, u80, u81, u82, u83, u84, u85, u86, u87, u88, u89, u90, u91, u92, u93, u94, u95, u96, u97, u98, u99, u100, u101, u102, u103, u104, u105, u106, u107, u108, u109, u110, u111, u112, u113, u114, u115, u116, u117, u118, u119, u120, u121, u122, u123, u124, u125, u126, u127, u128, u129, u130, u131, u132, u133, u134, u135, u136, u137, u138, u139, u140, u141, u142, u143, u144, u145, u146, u147, u148, u149, u150, u151, u152, u153, u154, u155, u156, u157, u158, u159, u160, u161, u162, u163, u164, u165, u166, u167, u168, u169, u170, u171, u172, u173, u174, u175, u176, u177, u178, u179, u180, u181, u182, u183, u184, u185, u186, u187, u188, u189, u190, u191, u192, c193_, c194_, c195_, c196_, c197_, c198_, c199_, c200_, c201_, c202_, c203_, c204_], []⟩ wr) Q0) ⟨#[.string s, c1_, u2, .pointer (some ⟨sp, 0, none⟩), .slice (some ⟨b4, o4, none⟩) BB.length c4, c5_, c6_, .int .i64 (t : Int), .pointer (some ⟨g, 0, none⟩), .int .i64 (i : Int), u10, u11, u12, u13, u14, c15_, c16_, c17_, c18_, c19_, c20_, c21_, c22_, c23_, c24_, c25_, c26_, c27_, c28_, c29_, c30_, c31_, c32_, c33_, c34_, c35_, c36_, c37_, c38_, c39_, c40_, c41_, c42_, c43_, c44_, c45_, c46_, c47_, c48_, c49_, c50_, c51_, c52_, c53_, c54_, c55_, c56_, c57_, c58_, c59_, c60_, c61_, c62_, c63_, c64_, c65_, u66, u67, u68, u69, u70, u71, u72, u73, u74, u75, u76, u77, u78, u79, u80, u81, u82, u83, u84, u85, u86, u87, u88, u89, u90, u91, u92, u93, u94, u95, u96, u97, u98, u99, u100, u101, u102, u103, u104, u105, u106, u107, u108, u109, u110, u111, u112, u113, u114, u115, u116, u117, u118, u119, u120, u121, u122, u123, u124, u125, u126, u127, u128, u129, u130, u131, u132, u133, u134, u135, u136, u137, u138, u139, u140, u141, u142, u143, u144, u145, u146, u147, u148, u149, u150, u151, u152, u153, u154, u155, u156, u157, u158, u159, u160, u161, u162, u163, u164, u165, u166, u167, u168, u169, u170, u171, u172, u173, u174, u175, u176, u177, u178, u179, u180, u181, u182, u183, u184, u185, u186, u187, u188, u189, u190, u191, u192, c193_, c194_, c195_, c196_, c197_, c198_, c199_, c200_, c201_, c202_, c203_, c204_], []⟩ wr := by
  conv => arg 2; whnf
  obtain ⟨hsm, hbb, hbl, htl, hsl, hno, hsv, hgg⟩ := hx
  have hgl : W0.heap.size ≤ g := Nat.le_of_eq hgg.symm
  have hslr := hsl.below hL.2.2 (Nat.le_refl _)
  obtain ⟨b', o', c'', e, hb4, q0, -, q2⟩ := ByR.at hslr i (Nat.lt_of_lt_of_le hit htl)
  simp only [Value.slice.injEq, Option.some.injEq, Addr.mk.injEq] at e
  obtain ⟨⟨rfl, rfl, -⟩, -, -⟩ := e
  rw [hav] at q2
  have i5 : (i : Int) < (t : Int) := by omega
  have i6 : (i : Int) < (BB.length : Int) := by omega
  have i7 : (i : Int) ≤ 32768 := by omega
  rw [hc] at q0
  have e35 := beq_lit xc 35
  rw [show (((35 : UInt8).toNat : Nat) : Int) = 35 from rfl, decide_eq_false h35] at e35
  have e32 := beq_lit xc 32
  rw [show (((32 : UInt8).toNat : Nat) : Int) = 32 from rfl, decide_eq_false h32] at e32
  have e58 := beq_lit xc 58
  rw [show (((58 : UInt8).toNat : Nat) : Int) = 58 from rfl, decide_eq_false h58] at e58
  have e61 := beq_lit xc 61
  rw [show (((61 : UInt8).toNat : Nat) : Int) = 61 from rfl, decide_eq_false h61] at e61
  have e34 := beq_lit xc 34
  rw [show (((34 : UInt8).toNat : Nat) : Int) = 34 from rfl, decide_eq_false h34] at e34
  have m35 : ((xc.toNat : Int) != 35) = true := by simpa [bne] using e35
  clear h35 h32 h58 h61 h34 e35
  have l2 := hL.cell2
  obtain ⟨pl, hpl⟩ : ∃ pl, (Lx.place (bs s) av).1 = pl := ⟨_, rfl⟩
  obtain ⟨pc, hpc⟩ : ∃ pc, (Lx.place (bs s) av).2 = pc := ⟨_, rfl⟩
  have HLn : Hid ((acc.map (Lx.told (bs s))).length + [(⟨tx, (pl : Int), (pc : Int), false, false⟩ : Lx.V)].length ≤ 1099511627) := by show _ ≤ _; simp only [List.length_map, List.length_cons, List.length_nil]; omega
  have hbr := BareT_any xc wr
  rw [hb] at hbr
  have HS : Hid (∀ w', Below W0.heap.size W0 w' → ∀ j, j < t → w'.cell? ⟨b4, o4 + j * 3, none⟩ = some (.int .u8 ((BB.getD j Lx.noB).c.toNat : Int))) := fun w' hB j hj => by
    obtain ⟨b', o', c'', e, -, q0, -, -⟩ := ByR.at (hsl.below hB (Nat.le_refl _)) j (Nat.lt_of_lt_of_le hj htl)
    simp only [Value.slice.injEq, Option.some.injEq, Addr.mk.injEq] at e
    obtain ⟨⟨rfl, rfl, -⟩, -, -⟩ := e
    exact q0
  have hE' := hE.out
  have HBS : Hid _ := hbs
  have HST : Hid _ := hst
  have hK1 : (K : Int) ≤ (t : Int) := by omega
  obtain ⟨M, hM⟩ : ∃ M, av + K = M := ⟨_, rfl⟩
  have wM : IntKind.i64.wrap ((av : Int) + (K : Int)) = (M : Int) := by rw [IntKind.wrap_i64]; omega
  have wE : IntKind.i64.wrap ((M : Int) - (i : Int)) = (E : Int) := by rw [IntKind.wrap_i64]; omega
  have iE1 : (av : Int) ≤ (E : Int) := by omega
  have iE2 : (E : Int) ≤ (s.size : Int) := by omega
  clear hslr hsl hno hbb hb4 hsv hgg hbs hst l2 hc hE' hM
  go_wp2_with fail
  refine hbr.mono ?_
  rintro e w5 ⟨rfl, rfl⟩
  clear hbr q0 q2
  go_upto_block 7 with fail
  go_cut [14] from 163 to 176 (fun kv w' => kv = .int .i64 (K : Int) ∧ LW W0 g num ind (.slice ad n c) (acc.map (Lx.told (bs s))) w')
  case first =>
    go_wp2
    go_loopw [14] (fun kv w' => ∃ j : Nat, i ≤ j ∧ j ≤ K ∧ kv = .int .i64 (j : Int) ∧ LW W0 g num ind (.slice ad n c) (acc.map (Lx.told (bs s))) w') (fun kv _ => K - (intOf kv).toNat)
    case atStart => exact ⟨i, Nat.le_refl _, by omega, rfl, hL⟩
    case round =>
    obtain ⟨j, hij, hjK, rfl, hLr⟩ := hrel
    clear hL
    have j0 : (j : Int) ≤ 32768 := by omega
    by_cases hjl : j < K
    · have j1 : (j : Int) < (t : Int) := by omega
      have j2 : (j : Int) < (BB.length : Int) := by omega
      have r0 := HS.out _ hLr.2.2 j (by omega)
      have hbj := HBS.out j hij hjl
      have hbr := fun W => BareT_any (BB.getD j Lx.noB).c W
      rw [hbj] at hbr
      clear hbj
      generalize (BB.getD j Lx.noB).c.toNat = X at *
      go_wp2_with fail
      refine (hbr _).mono ?_
      rintro e w8 ⟨rfl, rfl⟩
      go_wp2
      exact ⟨⟨j + 1, by omega, by omega, by first | rfl | go_num, hLr⟩, by simp [intOf]; omega⟩
    obtain rfl : j = K := by omega
    rcases Nat.lt_or_ge j t with hjt | hjt
    · have j1 : (j : Int) < (t : Int) := by omega
      have j2 : (j : Int) < (BB.length : Int) := by omega
      have r0 := HS.out _ hLr.2.2 j hjt
      have hbj := HST.out.resolve_left (by omega)
      have hbr := fun W => BareT_any (BB.getD j Lx.noB).c W
      rw [hbj] at hbr
      clear hbj
      generalize (BB.getD j Lx.noB).c.toNat = X at *
      go_wp2_with fail
      refine (hbr _).mono ?_
      rintro e w8 ⟨rfl, rfl⟩
      go_wp2
      go_meet
      case rel => exact ⟨rfl, hLr⟩
    · have j1 : ¬ (j : Int) < (t : Int) := by omega
      go_wp2
      go_meet
      case rel => exact ⟨rfl, hLr⟩
  case rest =>
  obtain ⟨rfl, hLr⟩ := hcut
  clear hL HS HBS HST
  have l5 := hLr.cell2
  go_upto_region 34 with fail
  refine wp_region_held_drew (S := fun _ => True) (by kernel_rfl) trivial (fun hHeld => ?_)
  refine wpAnyH_take (i := 0) (v := ?_) rfl (by kernel_rfl) (by kernel_rfl) (by kernel_rfl) (fun _ _ _ h => hp _ _ _ _ _ h) (Or.inl ⟨by rfl, ?_⟩) hHeld ?_
  rotate_left
  · (intro w hSw; (try dsimp only at hSw); ((go_simp) <;> (with_reducible rfl)))
  try simp only [Act.put, List.setIfInBounds_toArray]
  refine wpAnyH_take (i := 2) (v := ?_) rfl (by kernel_rfl) (by kernel_rfl) (by kernel_rfl) (fun _ _ _ h => hp _ _ _ _ _ h) (Or.inl ⟨by rfl, ?_⟩) hHeld ?_
  rotate_left
  · (intro w hSw; (try dsimp only at hSw); ((go_simp) <;> (with_reducible rfl)))
  try simp only [Act.put]
  refine wpAnyH_take (i := 3) (v := ?_) rfl (by kernel_rfl) (by kernel_rfl) (by kernel_rfl) (fun _ _ _ h => hp _ _ _ _ _ h) (Or.inl ⟨by rfl, ?_⟩) hHeld ?_
  rotate_left
  · (intro w hSw; (try dsimp only at hSw); ((go_simp) <;> (with_reducible rfl)))
  try simp only [Act.put]
  refine wpAnyH_take (i := 4) (v := ?_) rfl (by kernel_rfl) (by kernel_rfl) (by kernel_rfl) (fun _ _ _ h => hp _ _ _ _ _ h) (Or.inl ⟨by rfl, ?_⟩) hHeld ?_
  rotate_left
  · (intro w hSw; (try dsimp only at hSw); ((go_simp) <;> (with_reducible rfl)))
  try simp only [Act.put]
  refine wpAnyH_take (i := 5) (v := ?_) rfl (by kernel_rfl) (by kernel_rfl) (by kernel_rfl) (fun _ _ _ h => hp _ _ _ _ _ h) (Or.inl ⟨by rfl, ?_⟩) hHeld ?_
  rotate_left
  · (intro w hSw; (try dsimp only at hSw); ((go_simp) <;> (with_reducible rfl)))
  try simp only [Act.put]
  refine wpAnyH_take (i := 6) (v := ?_) rfl (by kernel_rfl) (by kernel_rfl) (by kernel_rfl) (fun _ _ _ h => hp _ _ _ _ _ h) (Or.inl ⟨by rfl, ?_⟩) hHeld ?_
  rotate_left
  · (intro w hSw; (try dsimp only at hSw); ((go_simp) <;> (with_reducible rfl)))
  try simp only [Act.put]
  refine wpAnyH_take (i := 7) (v := ?_) rfl (by kernel_rfl) (by kernel_rfl) (by kernel_rfl) (fun _ _ _ h => hp _ _ _ _ _ h) (Or.inl ⟨by rfl, ?_⟩) hHeld ?_
  rotate_left
  · (intro w hSw; (try dsimp only at hSw); ((go_simp) <;> (with_reducible rfl)))
  try simp only [Act.put]
  refine wpAnyH_take (i := 8) (v := ?_) rfl (by kernel_rfl) (by kernel_rfl) (by kernel_rfl) (fun _ _ _ h => hp _ _ _ _ _ h) (Or.inl ⟨by rfl, ?_⟩) hHeld ?_
  rotate_left
  · (intro w hSw; (try dsimp only at hSw); ((go_simp) <;> (with_reducible rfl)))
  try simp only [Act.put]
  refine wpAnyH_take (i := 9) (v := ?_) rfl (by kernel_rfl) (by kernel_rfl) (by kernel_rfl) (fun _ _ _ h => hp _ _ _ _ _ h) (Or.inl ⟨by rfl, ?_⟩) hHeld ?_
  rotate_left
  · (intro w hSw; (try dsimp only at hSw); ((go_simp) <;> (with_reducible rfl)))
  try simp only [Act.put]
  refine wpAnyH_take (i := 10) (v := ?_) rfl (by kernel_rfl) (by kernel_rfl) (by kernel_rfl) (fun _ _ _ h => hp _ _ _ _ _ h) (Or.inl ⟨by rfl, ?_⟩) hHeld ?_
  rotate_left
  · (intro w hSw; (try dsimp only at hSw); ((go_simp) <;> (with_reducible rfl)))
  try simp only [Act.put]
  refine wpAnyH_take (i := 11) (v := ?_) rfl (by kernel_rfl) (by kernel_rfl) (by kernel_rfl) (fun _ _ _ h => hp _ _ _ _ _ h) (Or.inl ⟨by rfl, ?_⟩) hHeld ?_
  rotate_left
  · (intro w hSw; (try dsimp only at hSw); ((go_simp) <;> (with_reducible rfl)))
  try simp only [Act.put]
  refine wpAnyH_ready (rs := [1, 12]) (by kernel_rfl) (by simp) ?_
  refine (AllReadyH.cons rfl (fun K hK => ?_) (AllReadyH.cons rfl (fun K hK => ?_) AllReadyH.nil))
  · go_simp
    refine hK.out _ _ trivial (fun _ => ?_)
    clear hK K
    try simp only [Act.put, List.setIfInBounds_toArray, List.set_cons_zero, List.set_cons_succ]
    refine wpAnyH_ready (rs := [12]) (by kernel_rfl) (by simp) ?_
    refine (AllReadyH.cons rfl (fun K hK => ?_) AllReadyH.nil)
    go_simp
    refine (wordT_at s (str tx) av false false _ (by omega) pl pc hpl hpc).mono ?_
    rintro e w6 ⟨rfl, hB6⟩
    have hL6 := (hLr.drew).below hB6
    have l6 := hL6.cell2
    have hL7 := hL6.alloc (.cells #[.string (str tx), .int .i64 (pl : Int), .int .i64 (pc : Int), .bool false, .bool false] 36)
    have l7 := hL7.cell2
    try go_wp2_with fail
    refine hK.out _ _ trivial (fun _ => ?_)
    clear hK K
    try simp only [Act.put, List.setIfInBounds_toArray, List.set_cons_zero, List.set_cons_succ]
    refine wpAnyH_ready (rs := [13]) (by kernel_rfl) (by simp) ?_
    refine (AllReadyH.cons rfl (fun K hK => ?_) AllReadyH.nil)
    go_simp
    refine hK.out _ _ trivial (fun _ => ?_)
    clear hK K
    try simp only [Act.put, List.setIfInBounds_toArray, List.set_cons_zero, List.set_cons_succ]
    refine wpAnyH_ready (rs := [14]) (by kernel_rfl) (by simp) ?_
    refine (AllReadyH.cons rfl (fun K hK => ?_) AllReadyH.nil)
    refine Rc.step_append WdR rfl (.tmp 177) (.tmp 189) rfl (g + 1) (w6.heap.size + 1) _ _ _ [⟨tx, (pl : Int), (pc : Int), false, false⟩] rfl hL7.2.1 rfl (WdR.lit w6 ⟨tx, (pl : Int), (pc : Int), false, false⟩ #[.string (str tx), .int .i64 (pl : Int), .int .i64 (pc : Int), .bool false, .bool false] rfl) (by simp) HLn hL7.size ?_
    intro g2 cap w7 hown7 hgrow7
    obtain ⟨c7, f7, hL8⟩ := hL7.pushed hgrow7 hown7 hgl
    refine hK.out _ _ trivial (fun _ => ?_)
    clear hK K
    try simp only [Act.put, List.setIfInBounds_toArray]
    refine wpAnyH_ready (rs := [15]) (by kernel_rfl) (by simp) ?_
    refine (AllReadyH.cons rfl (fun K hK => ?_) AllReadyH.nil)
    go_simp
    refine hK.out _ _ trivial (fun _ => ?_)
    clear hK K
    try simp only [Act.put, List.setIfInBounds_toArray, List.set_cons_zero, List.set_cons_succ]
    refine wpAnyH_ready (rs := [16]) (by kernel_rfl) (by simp) ?_
    refine (AllReadyH.cons rfl (fun K hK => ?_) AllReadyH.nil)
    go_simp
    refine hK.out _ _ trivial (fun _ => ?_)
    clear hK K
    try simp only [Act.put, List.setIfInBounds_toArray, List.set_cons_zero, List.set_cons_succ]
    refine wpAnyH_done (by kernel_rfl) ?_ _
    go_wp2
    refine ⟨?_, by simp [LnMu, intOf]; omega⟩
    unfold LnWI
    exact ⟨_, _, _, _, _, _, _, _, _, _, _, _, _, _, _, _, _, _, _, _, _, _, _, _, _, _, _, _, _, _, _, _, _, _, _, _, _, _, _, _, _, _, _, _, _, _, _, _, _, _, _, _, _, _, _, _, _, _, _, _, _, _, _, _, _, _, _, _, _, _, _, _, _, _, _, _, _, _, _, _, _, _, _, _, _, _, _, _, _, _, _, _, _, _, _, _, _, _, _, _, _, _, _, _, _, _, _, _, _, _, _, _, _, _, _, _, _, _, _, _, _, _, _, _, _, _, _, _, _, _, _, _, _, _, ⟨K, acc ++ [⟨tx, av, false, false⟩], _, _, _, by omega, by omega, by first | rfl | go_num, by first | omega | (simp only [List.length_append, List.length_cons, List.length_nil]; omega), HA.out, by rw [List.map_append, List.map_cons, List.map_nil, told_eq hpl hpc]; rw [List.length_map] at hL8; exact hL8⟩, rfl⟩
  · go_simp
    refine (wordT_at s (str tx) av false false _ (by omega) pl pc hpl hpc).mono ?_
    rintro e w6 ⟨rfl, hB6⟩
    have hL6 := (hLr.drew).below hB6
    have l6 := hL6.cell2
    have hL7 := hL6.alloc (.cells #[.string (str tx), .int .i64 (pl : Int), .int .i64 (pc : Int), .bool false, .bool false] 36)
    have l7 := hL7.cell2
    try go_wp2_with fail
    refine hK.out _ _ trivial (fun _ => ?_)
    clear hK K
    try simp only [Act.put, List.setIfInBounds_toArray, List.set_cons_zero, List.set_cons_succ]
    refine wpAnyH_ready (rs := [1, 13]) (by kernel_rfl) (by simp) ?_
    refine (AllReadyH.cons rfl (fun K hK => ?_) (AllReadyH.cons rfl (fun K hK => ?_) AllReadyH.nil))
    · go_simp
      refine hK.out _ _ trivial (fun _ => ?_)
      clear hK K
      try simp only [Act.put, List.setIfInBounds_toArray, List.set_cons_zero, List.set_cons_succ]
      refine wpAnyH_ready (rs := [13]) (by kernel_rfl) (by simp) ?_
      refine (AllReadyH.cons rfl (fun K hK => ?_) AllReadyH.nil)
      go_simp
      refine hK.out _ _ trivial (fun _ => ?_)
      clear hK K
      try simp only [Act.put, List.setIfInBounds_toArray, List.set_cons_zero, List.set_cons_succ]
      refine wpAnyH_ready (rs := [14]) (by kernel_rfl) (by simp) ?_
      refine (AllReadyH.cons rfl (fun K hK => ?_) AllReadyH.nil)
      refine Rc.step_append WdR rfl (.tmp 177) (.tmp 189) rfl (g + 1) (w6.heap.size + 1) _ _ _ [⟨tx, (pl : Int), (pc : Int), false, false⟩] rfl hL7.2.1 rfl (WdR.lit w6 ⟨tx, (pl : Int), (pc : Int), false, false⟩ #[.string (str tx), .int .i64 (pl : Int), .int .i64 (pc : Int), .bool false, .bool false] rfl) (by simp) HLn hL7.size ?_
      intro g2 cap w7 hown7 hgrow7
      obtain ⟨c7, f7, hL8⟩ := hL7.pushed hgrow7 hown7 hgl
      refine hK.out _ _ trivial (fun _ => ?_)
      clear hK K
      try simp only [Act.put, List.setIfInBounds_toArray]
      refine wpAnyH_ready (rs := [15]) (by kernel_rfl) (by simp) ?_
      refine (AllReadyH.cons rfl (fun K hK => ?_) AllReadyH.nil)
      go_simp
      refine hK.out _ _ trivial (fun _ => ?_)
      clear hK K
      try simp only [Act.put, List.setIfInBounds_toArray, List.set_cons_zero, List.set_cons_succ]
      refine wpAnyH_ready (rs := [16]) (by kernel_rfl) (by simp) ?_
      refine (AllReadyH.cons rfl (fun K hK => ?_) AllReadyH.nil)
      go_simp
      refine hK.out _ _ trivial (fun _ => ?_)
      clear hK K
      try simp only [Act.put, List.setIfInBounds_toArray, List.set_cons_zero, List.set_cons_succ]
      refine wpAnyH_done (by kernel_rfl) ?_ _
      go_wp2
      refine ⟨?_, by simp [LnMu, intOf]; omega⟩
      unfold LnWI
      exact ⟨_, _, _, _, _, _, _, _, _, _, _, _, _, _, _, _, _, _, _, _, _, _, _, _, _, _, _, _, _, _, _, _, _, _, _, _, _, _, _, _, _, _, _, _, _, _, _, _, _, _, _, _, _, _, _, _, _, _, _, _, _, _, _, _, _, _, _, _, _, _, _, _, _, _, _, _, _, _, _, _, _, _, _, _, _, _, _, _, _, _, _, _, _, _, _, _, _, _, _, _, _, _, _, _, _, _, _, _, _, _, _, _, _, _, _, _, _, _, _, _, _, _, _, _, _, _, _, _, _, _, _, _, _, _, ⟨K, acc ++ [⟨tx, av, false, false⟩], _, _, _, by omega, by omega, by first | rfl | go_num, by first | omega | (simp only [List.length_append, List.length_cons, List.length_nil]; omega), HA.out, by rw [List.map_append, List.map_cons, List.map_nil, told_eq hpl hpc]; rw [List.length_map] at hL8; exact hL8⟩, rfl⟩
    · go_simp
      refine hK.out _ _ trivial (fun _ => ?_)
      clear hK K
      try simp only [Act.put, List.setIfInBounds_toArray, List.set_cons_zero, List.set_cons_succ]
      refine wpAnyH_ready (rs := [1]) (by kernel_rfl) (by simp) ?_
      refine (AllReadyH.cons rfl (fun K hK => ?_) AllReadyH.nil)
      go_simp
      refine hK.out _ _ trivial (fun _ => ?_)
      clear hK K
      try simp only [Act.put, List.setIfInBounds_toArray, List.set_cons_zero, List.set_cons_succ]
      refine wpAnyH_ready (rs := [14]) (by kernel_rfl) (by simp) ?_
      refine (AllReadyH.cons rfl (fun K hK => ?_) AllReadyH.nil)
      refine Rc.step_append WdR rfl (.tmp 177) (.tmp 189) rfl (g + 1) (w6.heap.size + 1) _ _ _ [⟨tx, (pl : Int), (pc : Int), false, false⟩] rfl hL7.2.1 rfl (WdR.lit w6 ⟨tx, (pl : Int), (pc : Int), false, false⟩ #[.string (str tx), .int .i64 (pl : Int), .int .i64 (pc : Int), .bool false, .bool false] rfl) (by simp) HLn hL7.size ?_
      intro g2 cap w7 hown7 hgrow7
      obtain ⟨c7, f7, hL8⟩ := hL7.pushed hgrow7 hown7 hgl
      refine hK.out _ _ trivial (fun _ => ?_)
      clear hK K
      try simp only [Act.put, List.setIfInBounds_toArray]
      refine wpAnyH_ready (rs := [15]) (by kernel_rfl) (by simp) ?_
      refine (AllReadyH.cons rfl (fun K hK => ?_) AllReadyH.nil)
      go_simp
      refine hK.out _ _ trivial (fun _ => ?_)
      clear hK K
      try simp only [Act.put, List.setIfInBounds_toArray, List.set_cons_zero, List.set_cons_succ]
      refine wpAnyH_ready (rs := [16]) (by kernel_rfl) (by simp) ?_
      refine (AllReadyH.cons rfl (fun K hK => ?_) AllReadyH.nil)
      go_simp
      refine hK.out _ _ trivial (fun _ => ?_)
      clear hK K
      try simp only [Act.put, List.setIfInBounds_toArray, List.set_cons_zero, List.set_cons_succ]
      refine wpAnyH_done (by kernel_rfl) ?_ _
      go_wp2
      refine ⟨?_, by simp [LnMu, intOf]; omega⟩
      unfold LnWI
      exact ⟨_, _, _, _, _, _, _, _, _, _, _, _, _, _, _, _, _, _, _, _, _, _, _, _, _, _, _, _, _, _, _, _, _, _, _, _, _, _, _, _, _, _, _, _, _, _, _, _, _, _, _, _, _, _, _, _, _, _, _, _, _, _, _, _, _, _, _, _, _, _, _, _, _, _, _, _, _, _, _, _, _, _, _, _, _, _, _, _, _, _, _, _, _, _, _, _, _, _, _, _, _, _, _, _, _, _, _, _, _, _, _, _, _, _, _, _, _, _, _, _, _, _, _, _, _, _, _, _, _, _, _, _, _, _, ⟨K, acc ++ [⟨tx, av, false, false⟩], _, _, _, by omega, by omega, by first | rfl | go_num, by first | omega | (simp only [List.length_append, List.length_cons, List.length_nil]; omega), HA.out, by rw [List.map_append, List.map_cons, List.map_nil, told_eq hpl hpc]; rw [List.length_map] at hL8; exact hL8⟩, rfl⟩

end Go.Proofs.Ythpipbkbldlfjaa
