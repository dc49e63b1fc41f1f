/-
  THE DOCUMENT's Lines: a mark.
-/
import Derived.Test.YthpipbkbldlfjaaYLnK
namespace Go.Proofs.Ythpipbkbldlfjaa
open Go.RowKit

set_option maxRecDepth 1000000 in
set_option maxHeartbeats 4000000 in
theorem ln_m58 (s : ByteArray) (W0 : World) (BB : List (Lx.B Nat)) (b4 o4 c4 f t sp g num : Nat) (ind : Bool) (R : Lx.R Nat (List (Lx.W Nat))) (hx : LnCtx s W0 BB b4 o4 c4 f t sp g) (c1_ c5_ c6_ c15_ c16_ c17_ c18_ c19_ c20_ c21_ c22_ c23_ c24_ c25_ c26_ c27_ c28_ c29_ c30_ c31_ c32_ c33_ c34_ c35_ c36_ c37_ c38_ c39_ c40_ c41_ c42_ c43_ c44_ c45_ c46_ c47_ c48_ c49_ c50_ c51_ c52_ c53_ c54_ c55_ c56_ c57_ c58_ c59_ c60_ c61_ c62_ c63_ c64_ c65_ c193_ c194_ c195_ c196_ c197_ c198_ c199_ c200_ c201_ c202_ c203_ c204_ u2 u10 u11 u12 u13 u14 u66 u67 u68 u69 u70 u71 u72 u73 u74 u75 u76 u77 u78 u79 u80 u81 u82 u83 u84 u85 u86 u87 u88 u89 u90 u91 u92 u93 u94 u95 u96 u97 u98 u99 u100 u101 u102 u103 u104 u105 u106 u107 u108 u109 u110 u111 u112 u113 u114 u115 u116 u117 u118 u119 u120 u121 u122 u123 u124 u125 u126 u127 u128 u129 u130 u131 u132 u133 u134 u135 u136 u137 u138 u139 u140 u141 u142 u143 u144 u145 u146 u147 u148 u149 u150 u151 u152 u153 u154 u155 u156 u157 u158 u159 u160 u161 u162 u163 u164 u165 u166 u167 u168 u169 u170 u171 u172 u173 u174 u175 u176 u177 u178 u179 u180 u181 u182 u183 u184 u185 u186 u187 u188 u189 u190 u191 u192 : Value) (Q0 : Exit → Act → World → Prop) (hp : ∀ c a d v w, Q0 (.panic c) (a.put d v) w → Q0 (.panic c) a w) (wr : World) (i : Nat) (acc : List (Lx.W Nat)) (ad : Option Addr) (n c : Nat) (hL : LW W0 g num ind (.slice ad n c) (acc.map (Lx.told (bs s))) wr) (av : Nat) (hit : i < t) (hav : (BB.getD i Lx.noB).at_ = av) (hfi : f ≤ i) (hal : acc.length ≤ i) (hc : (BB.getD i Lx.noB).c = 58) (HA : Hid (R = (Lx.rd ((BB.take t).drop (i + 1))).map id ((acc ++ [⟨[58], av, false, true⟩]) ++ ·))) :
    Code.wp Try.prog lnBody (Exit.then (fun a' w'' => LnWI s W0 BB b4 o4 c4 f t sp g num ind R c1_ c5_ c6_ c15_ c16_ c17_ c18_ c19_ c20_ c21_ c22_ c23_ c24_ c25_ c26_ c27_ c28_ c29_ c30_ c31_ c32_ c33_ c34_ c35_ c36_ c37_ c38_ c39_ c40_ c41_ c42_ c43_ c44_ c45_ c46_ c47_ c48_ c49_ c50_ c51_ c52_ c53_ c54_ c55_ c56_ c57_ c58_ c59_ c60_ c61_ c62_ c63_ c64_ c65_ c193_ c194_ c195_ c196_ c197_ c198_ c199_ c200_ c201_ c202_ c203_ c204_ a' w'' ∧ LnMu t a' w'' < LnMu t ⟨#[.string s, c1_, u2, .pointer (some ⟨sp, 0, none⟩), .slice (some ⟨b4, o4, none⟩) BB.length c4, c5_, c6_, .int .i64 (t : Int), .pointer (some ⟨g, 0, none⟩), .int .i64 (i : Int), u10, u11, u12, u13, u14, c15_, c16_, c17_, c18_, c19_, c20_, c21_, c22_, c23_, c24_, c25_, c26_, c27_, c28_, c29_, c30_, c31_, c32_, c33_, c34_, c35_, c36_, c37_, c38_, c39_, c40_, c41_, c42_, c43_, c44_, c45_, c46_, c47_, c48_, c49_, c50_, c51_, c52_, c53_, c54_, c55_, c56_, c57_, c58_, c59_, c60_, c61_, c62_, c63_, c64_, c65_, u66, u67, u68, u69, u70, u71, u72, u73, u74, u75, u76, u77, u78, u79, u80, u81, u82, u83, u84, u85, u86, u87, u88, u89, u90, u91, u92, u93, u94, u95, u96, u97, u98, u99, u100, u101, u102, u103, u104, u105, u106, u107, u108, u109, u110, u111, u112, u113, u114, u115, u116, u117, u118, u119, u120, u121, u122, u123, u124, u125, u126, u127, u128, u129, u130, u131, u132, u133, u134, u135, u136, u137, u138, u139, u140, u141, u142, u143, u144, u145, u146, u147, u148, u149, u150, u151, u152, u153, u154, u155, u156, u157, u158, u159, u160, u161, u162, u163, u164, u165, u166, u167, u168, u169, u170, u171, u172, u173, u174, u175, u176, u177, u178, u179, u180, u181, u182, u183, u184, u185, u186, u187, u188, u189, u190, u191, u192, c193_, c194_, c195_, c196_, c197_, c198_, c199_, c200_, c201_, c202_, c203_, c204_], []⟩ wr) Q0) ⟨#[.string s, c1_, u2, .pointer (some ⟨sp, 0, none⟩), .slice (some ⟨b4, o4, none⟩) BB.length c4, c5_, c6_, .int .i64 (t : Int), .pointer (some ⟨g, 0, none⟩), .int .i64 (i : Int), u10, u11, u12, u13, u14, c15_, c16_, c17_, c18_, c19_, c20_, c21_, c22_, c23_, c24_, c25_, c26_, c27_, c28_, c29_, c30_, c31_, c32_, c33_, c34_, c35_, c36_, c37_, c38_, c39_, c40_, c41_, c42_, c43_, c44_, c45_, c46_, c47_, c48_, c49_, c50_, c51_, c52_, c53_, c54_, c55_, c56_, c57_, c58_, c59_, c60_, c61_, c62_, c63_, c64_, c65_, u66, u67, u68, u69, u70, u71, u72, u73, u74, u75, u76, u77, u78, u79, u80, u81, u82, u83, u84, u85, u86, u87, u88, u89, u90, u91, u92, u93, u94, u95, u96, u97, u98, u99, u100, u101, u102, u103, u104, u105, u106, u107, u108, u109, u110, u111, u112, u113, u114, u115, u116, u117, u118, u119, u120, u121, u122, u123, u124, u125, u126, u127, u128, u129, u130, u131, u132, u133, u134, u135, u136, u137, u138, u139, u140, u141, u142, u143, u144, u145, u146, u147, u148, u149, u150, u151, u152, u153, u154, u155, u156, u157, u158, u159, u160, u161, u162, u163, u164, u165, u166, u167, u168, u169, u170, u171, u172, u173, u174, u175, u176, u177, u178, u179, u180, u181, u182, u183, u184, u185, u186, u187, u188, u189, u190, u191, u192, c193_, c194_, c195_, c196_, c197_, c198_, c199_, c200_, c201_, c202_, c203_, c204_], []⟩ wr := by
  conv => arg 2; whnf
  obtain ⟨hsm, hbb, hbl, htl, hsl, hno, hsv, hgg⟩ := hx
  have hgl : W0.heap.size ≤ g := Nat.le_of_eq hgg.symm
  have hslr := hsl.below hL.2.2 (Nat.le_refl _)
  obtain ⟨b', o', c'', e, hb4, q0, -, q2⟩ := ByR.at hslr i (Nat.lt_of_lt_of_le hit htl)
  simp only [Value.slice.injEq, Option.some.injEq, Addr.mk.injEq] at e
  obtain ⟨⟨rfl, rfl, -⟩, -, -⟩ := e
  rw [hav] at q2
  have i5 : (i : Int) < (t : Int) := by omega
  have i6 : (i : Int) < (BB.length : Int) := by omega
  have i7 : (i : Int) ≤ 32768 := by omega
  rw [hc, show (((58 : UInt8).toNat : Nat) : Int) = 58 from rfl] at q0
  have l2 := hL.cell2
  obtain ⟨pl, hpl⟩ : ∃ pl, (Lx.place (bs s) av).1 = pl := ⟨_, rfl⟩
  obtain ⟨pc, hpc⟩ : ∃ pc, (Lx.place (bs s) av).2 = pc := ⟨_, rfl⟩
  have HLn : Hid ((acc.map (Lx.told (bs s))).length + [(⟨[58], (pl : Int), (pc : Int), false, true⟩ : Lx.V)].length ≤ 1099511627) := by show _ ≤ _; simp only [List.length_map, List.length_cons, List.length_nil]; omega
  have hcv : (convert 85 9 (.slice (some ⟨wr.heap.size, 0, none⟩) 1 1)).run Try.prog (wr.alloc (.cells #[.int .u8 58] 5)).drew = .ok (.string ⟨#[58]⟩) (wr.alloc (.cells #[.int .u8 58] 5)).drew := conv_byts (W := (wr.alloc (.cells #[.int .u8 58] 5)).drew) (byts_lit wr #[.int .u8 58] [58] 1 rfl rfl)
  have hL5 := (hL.alloc (.cells #[.int .u8 58] 5)).drew
  have l5 := hL5.cell2
  clear hslr hsl hno hbb hb4 hsv hgg
  go_upto_region 22 with fail
  refine wp_region_held_drew (S := fun _ => True) (by kernel_rfl) trivial (fun hHeld => ?_)
  refine wpAnyH_take (i := 0) (v := ?_) rfl (by kernel_rfl) (by kernel_rfl) (by kernel_rfl) (fun _ _ _ h => hp _ _ _ _ _ h) (Or.inl ⟨by rfl, ?_⟩) hHeld ?_
  rotate_left
  · (intro w hSw; (try dsimp only at hSw); ((go_simp) <;> (with_reducible rfl)))
  try simp only [Act.put, List.setIfInBounds_toArray]
  refine wpAnyH_take (i := 2) (v := ?_) rfl (by kernel_rfl) (by kernel_rfl) (by kernel_rfl) (fun _ _ _ h => hp _ _ _ _ _ h) (Or.inl ⟨by rfl, ?_⟩) hHeld ?_
  rotate_left
  · (intro w hSw; (try dsimp only at hSw); ((go_simp) <;> (with_reducible rfl)))
  try simp only [Act.put]
  refine wpAnyH_take (i := 3) (v := ?_) rfl (by kernel_rfl) (by kernel_rfl) (by kernel_rfl) (fun _ _ _ h => hp _ _ _ _ _ h) (Or.inl ⟨by rfl, ?_⟩) hHeld ?_
  rotate_left
  · (intro w hSw; (try dsimp only at hSw); ((go_simp) <;> (with_reducible rfl)))
  try simp only [Act.put]
  refine wpAnyH_take (i := 4) (v := ?_) rfl (by kernel_rfl) (by kernel_rfl) (by kernel_rfl) (fun _ _ _ h => hp _ _ _ _ _ h) (Or.inl ⟨by rfl, ?_⟩) hHeld ?_
  rotate_left
  · (intro w hSw; (try dsimp only at hSw); ((go_simp) <;> (with_reducible rfl)))
  try simp only [Act.put]
  refine wpAnyH_take (i := 5) (v := ?_) rfl (by kernel_rfl) (by kernel_rfl) (by kernel_rfl) (fun _ _ _ h => hp _ _ _ _ _ h) (Or.inl ⟨by rfl, ?_⟩) hHeld ?_
  rotate_left
  · (intro w hSw; (try dsimp only at hSw); ((go_simp) <;> (with_reducible rfl)))
  try simp only [Act.put]
  refine wpAnyH_take (i := 6) (v := ?_) rfl (by kernel_rfl) (by kernel_rfl) (by kernel_rfl) (fun _ _ _ h => hp _ _ _ _ _ h) (Or.inl ⟨by rfl, ?_⟩) hHeld ?_
  rotate_left
  · (intro w hSw; (try dsimp only at hSw); ((go_simp) <;> (with_reducible rfl)))
  try simp only [Act.put]
  refine wpAnyH_take (i := 7) (v := ?_) rfl (by kernel_rfl) (by kernel_rfl) (by kernel_rfl) (fun _ _ _ h => hp _ _ _ _ _ h) (Or.inl ⟨by rfl, ?_⟩) hHeld ?_
  rotate_left
  · (intro w hSw; (try dsimp only at hSw); ((go_simp) <;> (with_reducible rfl)))
  try simp only [Act.put]
  refine wpAnyH_ready (rs := [1, 8]) (by kernel_rfl) (by simp) ?_
  refine (AllReadyH.cons rfl (fun K hK => ?_) (AllReadyH.cons rfl (fun K hK => ?_) AllReadyH.nil))
  · go_simp
    refine hK.out _ _ trivial (fun _ => ?_)
    clear hK K
    try simp only [Act.put, List.setIfInBounds_toArray, List.set_cons_zero, List.set_cons_succ]
    refine wpAnyH_ready (rs := [8]) (by kernel_rfl) (by simp) ?_
    refine (AllReadyH.cons rfl (fun K hK => ?_) AllReadyH.nil)
    go_simp
    refine hK.out _ _ trivial (fun _ => ?_)
    clear hK K
    try simp only [Act.put, List.setIfInBounds_toArray, List.set_cons_zero, List.set_cons_succ]
    refine wpAnyH_ready (rs := [9]) (by kernel_rfl) (by simp) ?_
    refine (AllReadyH.cons rfl (fun K hK => ?_) AllReadyH.nil)
    go_simp
    refine hK.out _ _ trivial (fun _ => ?_)
    clear hK K
    try simp only [Act.put, List.setIfInBounds_toArray, List.set_cons_zero, List.set_cons_succ]
    refine wpAnyH_ready (rs := [10]) (by kernel_rfl) (by simp) ?_
    refine (AllReadyH.cons rfl (fun K hK => ?_) AllReadyH.nil)
    go_simp
    refine hK.out _ _ trivial (fun _ => ?_)
    clear hK K
    try simp only [Act.put, List.setIfInBounds_toArray, List.set_cons_zero, List.set_cons_succ]
    refine wpAnyH_ready (rs := [11]) (by kernel_rfl) (by simp) ?_
    refine (AllReadyH.cons rfl (fun K hK => ?_) AllReadyH.nil)
    go_simp
    refine (wordT_at s ⟨#[58]⟩ av false true _ (by omega) pl pc hpl hpc).mono ?_
    rintro e w6 ⟨rfl, hB6⟩
    have hL6 := (hL5).below hB6
    have l6 := hL6.cell2
    have hL7 := hL6.alloc (.cells #[.string ⟨#[58]⟩, .int .i64 (pl : Int), .int .i64 (pc : Int), .bool false, .bool true] 36)
    have l7 := hL7.cell2
    try go_wp2_with fail
    refine hK.out _ _ trivial (fun _ => ?_)
    clear hK K
    try simp only [Act.put, List.setIfInBounds_toArray, List.set_cons_zero, List.set_cons_succ]
    refine wpAnyH_ready (rs := [12]) (by kernel_rfl) (by simp) ?_
    refine (AllReadyH.cons rfl (fun K hK => ?_) AllReadyH.nil)
    go_simp
    refine hK.out _ _ trivial (fun _ => ?_)
    clear hK K
    try simp only [Act.put, List.setIfInBounds_toArray, List.set_cons_zero, List.set_cons_succ]
    refine wpAnyH_ready (rs := [13]) (by kernel_rfl) (by simp) ?_
    refine (AllReadyH.cons rfl (fun K hK => ?_) AllReadyH.nil)
    refine Rc.step_append WdR rfl (.tmp 109) (.tmp 120) rfl (g + 1) (w6.heap.size + 1) _ _ _ [⟨[58], (pl : Int), (pc : Int), false, true⟩] rfl hL7.2.1 rfl (WdR.lit w6 ⟨[58], (pl : Int), (pc : Int), false, true⟩ #[.string ⟨#[58]⟩, .int .i64 (pl : Int), .int .i64 (pc : Int), .bool false, .bool true] rfl) (by simp) HLn hL7.size ?_
    intro g2 cap w7 hown7 hgrow7
    obtain ⟨c7, f7, hL8⟩ := hL7.pushed hgrow7 hown7 hgl
    refine hK.out _ _ trivial (fun _ => ?_)
    clear hK K
    try simp only [Act.put, List.setIfInBounds_toArray]
    refine wpAnyH_ready (rs := [14]) (by kernel_rfl) (by simp) ?_
    refine (AllReadyH.cons rfl (fun K hK => ?_) AllReadyH.nil)
    go_simp
    refine hK.out _ _ trivial (fun _ => ?_)
    clear hK K
    try simp only [Act.put, List.setIfInBounds_toArray, List.set_cons_zero, List.set_cons_succ]
    refine wpAnyH_ready (rs := [15]) (by kernel_rfl) (by simp) ?_
    refine (AllReadyH.cons rfl (fun K hK => ?_) AllReadyH.nil)
    go_simp
    refine hK.out _ _ trivial (fun _ => ?_)
    clear hK K
    try simp only [Act.put, List.setIfInBounds_toArray, List.set_cons_zero, List.set_cons_succ]
    refine wpAnyH_done (by kernel_rfl) ?_ _
    go_wp2
    refine ⟨?_, by simp [LnMu, intOf]; omega⟩
    unfold LnWI
    exact ⟨_, _, _, _, _, _, _, _, _, _, _, _, _, _, _, _, _, _, _, _, _, _, _, _, _, _, _, _, _, _, _, _, _, _, _, _, _, _, _, _, _, _, _, _, _, _, _, _, _, _, _, _, _, _, _, _, _, _, _, _, _, _, _, _, _, _, _, _, _, _, _, _, _, _, _, _, _, _, _, _, _, _, _, _, _, _, _, _, _, _, _, _, _, _, _, _, _, _, _, _, _, _, _, _, _, _, _, _, _, _, _, _, _, _, _, _, _, _, _, _, _, _, _, _, _, _, _, _, _, _, _, _, _, _, ⟨i + 1, acc ++ [⟨[58], av, false, true⟩], _, _, _, by omega, by omega, by first | rfl | go_num, by first | omega | (simp only [List.length_append, List.length_cons, List.length_nil]; omega), HA.out, by rw [List.map_append, List.map_cons, List.map_nil, told_eq hpl hpc]; rw [List.length_map] at hL8; exact hL8⟩, rfl⟩
  · go_simp
    refine hK.out _ _ trivial (fun _ => ?_)
    clear hK K
    try simp only [Act.put, List.setIfInBounds_toArray, List.set_cons_zero, List.set_cons_succ]
    refine wpAnyH_ready (rs := [1, 9]) (by kernel_rfl) (by simp) ?_
    refine (AllReadyH.cons rfl (fun K hK => ?_) (AllReadyH.cons rfl (fun K hK => ?_) AllReadyH.nil))
    · go_simp
      refine hK.out _ _ trivial (fun _ => ?_)
      clear hK K
      try simp only [Act.put, List.setIfInBounds_toArray, List.set_cons_zero, List.set_cons_succ]
      refine wpAnyH_ready (rs := [9]) (by kernel_rfl) (by simp) ?_
      refine (AllReadyH.cons rfl (fun K hK => ?_) AllReadyH.nil)
      go_simp
      refine hK.out _ _ trivial (fun _ => ?_)
      clear hK K
      try simp only [Act.put, List.setIfInBounds_toArray, List.set_cons_zero, List.set_cons_succ]
      refine wpAnyH_ready (rs := [10]) (by kernel_rfl) (by simp) ?_
      refine (AllReadyH.cons rfl (fun K hK => ?_) AllReadyH.nil)
      go_simp
      refine hK.out _ _ trivial (fun _ => ?_)
      clear hK K
      try simp only [Act.put, List.setIfInBounds_toArray, List.set_cons_zero, List.set_cons_succ]
      refine wpAnyH_ready (rs := [11]) (by kernel_rfl) (by simp) ?_
      refine (AllReadyH.cons rfl (fun K hK => ?_) AllReadyH.nil)
      go_simp
      refine (wordT_at s ⟨#[58]⟩ av false true _ (by omega) pl pc hpl hpc).mono ?_
      rintro e w6 ⟨rfl, hB6⟩
      have hL6 := (hL5).below hB6
      have l6 := hL6.cell2
      have hL7 := hL6.alloc (.cells #[.string ⟨#[58]⟩, .int .i64 (pl : Int), .int .i64 (pc : Int), .bool false, .bool true] 36)
      have l7 := hL7.cell2
      try go_wp2_with fail
      refine hK.out _ _ trivial (fun _ => ?_)
      clear hK K
      try simp only [Act.put, List.setIfInBounds_toArray, List.set_cons_zero, List.set_cons_succ]
      refine wpAnyH_ready (rs := [12]) (by kernel_rfl) (by simp) ?_
      refine (AllReadyH.cons rfl (fun K hK => ?_) AllReadyH.nil)
      go_simp
      refine hK.out _ _ trivial (fun _ => ?_)
      clear hK K
      try simp only [Act.put, List.setIfInBounds_toArray, List.set_cons_zero, List.set_cons_succ]
      refine wpAnyH_ready (rs := [13]) (by kernel_rfl) (by simp) ?_
      refine (AllReadyH.cons rfl (fun K hK => ?_) AllReadyH.nil)
      refine Rc.step_append WdR rfl (.tmp 109) (.tmp 120) rfl (g + 1) (w6.heap.size + 1) _ _ _ [⟨[58], (pl : Int), (pc : Int), false, true⟩] rfl hL7.2.1 rfl (WdR.lit w6 ⟨[58], (pl : Int), (pc : Int), false, true⟩ #[.string ⟨#[58]⟩, .int .i64 (pl : Int), .int .i64 (pc : Int), .bool false, .bool true] rfl) (by simp) HLn hL7.size ?_
      intro g2 cap w7 hown7 hgrow7
      obtain ⟨c7, f7, hL8⟩ := hL7.pushed hgrow7 hown7 hgl
      refine hK.out _ _ trivial (fun _ => ?_)
      clear hK K
      try simp only [Act.put, List.setIfInBounds_toArray]
      refine wpAnyH_ready (rs := [14]) (by kernel_rfl) (by simp) ?_
      refine (AllReadyH.cons rfl (fun K hK => ?_) AllReadyH.nil)
      go_simp
      refine hK.out _ _ trivial (fun _ => ?_)
      clear hK K
      try simp only [Act.put, List.setIfInBounds_toArray, List.set_cons_zero, List.set_cons_succ]
      refine wpAnyH_ready (rs := [15]) (by kernel_rfl) (by simp) ?_
      refine (AllReadyH.cons rfl (fun K hK => ?_) AllReadyH.nil)
      go_simp
      refine hK.out _ _ trivial (fun _ => ?_)
      clear hK K
      try simp only [Act.put, List.setIfInBounds_toArray, List.set_cons_zero, List.set_cons_succ]
      refine wpAnyH_done (by kernel_rfl) ?_ _
      go_wp2
      refine ⟨?_, by simp [LnMu, intOf]; omega⟩
      unfold LnWI
      exact ⟨_, _, _, _, _, _, _, _, _, _, _, _, _, _, _, _, _, _, _, _, _, _, _, _, _, _, _, _, _, _, _, _, _, _, _, _, _, _, _, _, _, _, _, _, _, _, _, _, _, _, _, _, _, _, _, _, _, _, _, _, _, _, _, _, _, _, _, _, _, _, _, _, _, _, _, _, _, _, _, _, _, _, _, _, _, _, _, _, _, _, _, _, _, _, _, _, _, _, _, _, _, _, _, _, _, _, _, _, _, _, _, _, _, _, _, _, _, _, _, _, _, _, _, _, _, _, _, _, _, _, _, _, _, _, ⟨i + 1, acc ++ [⟨[58], av, false, true⟩], _, _, _, by omega, by omega, by first | rfl | go_num, by first | omega | (simp only [List.length_append, List.length_cons, List.length_nil]; omega), HA.out, by rw [List.map_append, List.map_cons, List.map_nil, told_eq hpl hpc]; rw [List.length_map] at hL8; exact hL8⟩, rfl⟩
    · go_simp
      refine hK.out _ _ trivial (fun _ => ?_)
      clear hK K
      try simp only [Act.put, List.setIfInBounds_toArray, List.set_cons_zero, List.set_cons_succ]
      refine wpAnyH_ready (rs := [1, 10]) (by kernel_rfl) (by simp) ?_
      refine (AllReadyH.cons rfl (fun K hK => ?_) (AllReadyH.cons rfl (fun K hK => ?_) AllReadyH.nil))
      · go_simp
        refine hK.out _ _ trivial (fun _ => ?_)
        clear hK K
        try simp only [Act.put, List.setIfInBounds_toArray, List.set_cons_zero, List.set_cons_succ]
        refine wpAnyH_ready (rs := [10]) (by kernel_rfl) (by simp) ?_
        refine (AllReadyH.cons rfl (fun K hK => ?_) AllReadyH.nil)
        go_simp
        refine hK.out _ _ trivial (fun _ => ?_)
        clear hK K
        try simp only [Act.put, List.setIfInBounds_toArray, List.set_cons_zero, List.set_cons_succ]
        refine wpAnyH_ready (rs := [11]) (by kernel_rfl) (by simp) ?_
        refine (AllReadyH.cons rfl (fun K hK => ?_) AllReadyH.nil)
        go_simp
        refine (wordT_at s ⟨#[58]⟩ av false true _ (by omega) pl pc hpl hpc).mono ?_
        rintro e w6 ⟨rfl, hB6⟩
        have hL6 := (hL5).below hB6
        have l6 := hL6.cell2
        have hL7 := hL6.alloc (.cells #[.string ⟨#[58]⟩, .int .i64 (pl : Int), .int .i64 (pc : Int), .bool false, .bool true] 36)
        have l7 := hL7.cell2
        try go_wp2_with fail
        refine hK.out _ _ trivial (fun _ => ?_)
        clear hK K
        try simp only [Act.put, List.setIfInBounds_toArray, List.set_cons_zero, List.set_cons_succ]
        refine wpAnyH_ready (rs := [12]) (by kernel_rfl) (by simp) ?_
        refine (AllReadyH.cons rfl (fun K hK => ?_) AllReadyH.nil)
        go_simp
        refine hK.out _ _ trivial (fun _ => ?_)
        clear hK K
        try simp only [Act.put, List.setIfInBounds_toArray, List.set_cons_zero, List.set_cons_succ]
        refine wpAnyH_ready (rs := [13]) (by kernel_rfl) (by simp) ?_
        refine (AllReadyH.cons rfl (fun K hK => ?_) AllReadyH.nil)
        refine Rc.step_append WdR rfl (.tmp 109) (.tmp 120) rfl (g + 1) (w6.heap.size + 1) _ _ _ [⟨[58], (pl : Int), (pc : Int), false, true⟩] rfl hL7.2.1 rfl (WdR.lit w6 ⟨[58], (pl : Int), (pc : Int), false, true⟩ #[.string ⟨#[58]⟩, .int .i64 (pl : Int), .int .i64 (pc : Int), .bool false, .bool true] rfl) (by simp) HLn hL7.size ?_
        intro g2 cap w7 hown7 hgrow7
        obtain ⟨c7, f7, hL8⟩ := hL7.pushed hgrow7 hown7 hgl
        refine hK.out _ _ trivial (fun _ => ?_)
        clear hK K
        try simp only [Act.put, List.setIfInBounds_toArray]
        refine wpAnyH_ready (rs := [14]) (by kernel_rfl) (by simp) ?_
        refine (AllReadyH.cons rfl (fun K hK => ?_) AllReadyH.nil)
        go_simp
        refine hK.out _ _ trivial (fun _ => ?_)
        clear hK K
        try simp only [Act.put, List.setIfInBounds_toArray, List.set_cons_zero, List.set_cons_succ]
        refine wpAnyH_ready (rs := [15]) (by kernel_rfl) (by simp) ?_
        refine (AllReadyH.cons rfl (fun K hK => ?_) AllReadyH.nil)
        go_simp
        refine hK.out _ _ trivial (fun _ => ?_)
        clear hK K
        try simp only [Act.put, List.setIfInBounds_toArray, List.set_cons_zero, List.set_cons_succ]
        refine wpAnyH_done (by kernel_rfl) ?_ _
        go_wp2
        refine ⟨?_, by simp [LnMu, intOf]; omega⟩
        unfold LnWI
        exact ⟨_, _, _, _, _, _, _, _, _, _, _, _, _, _, _, _, _, _, _, _, _, _, _, _, _, _, _, _, _, _, _, _, _, _, _, _, _, _, _, _, _, _, _, _, _, _, _, _, _, _, _, _, _, _, _, _, _, _, _, _, _, _, _, _, _, _, _, _, _, _, _, _, _, _, _, _, _, _, _, _, _, _, _, _, _, _, _, _, _, _, _, _, _, _, _, _, _, _, _, _, _, _, _, _, _, _, _, _, _, _, _, _, _, _, _, _, _, _, _, _, _, _, _, _, _, _, _, _, _, _, _, _, _, _, ⟨i + 1, acc ++ [⟨[58], av, false, true⟩], _, _, _, by omega, by omega, by first | rfl | go_num, by first | omega | (simp only [List.length_append, List.length_cons, List.length_nil]; omega), HA.out, by rw [List.map_append, List.map_cons, List.map_nil, told_eq hpl hpc]; rw [List.length_map] at hL8; exact hL8⟩, rfl⟩
      · go_simp
        refine hK.out _ _ trivial (fun _ => ?_)
        clear hK K
        try simp only [Act.put, List.setIfInBounds_toArray, List.set_cons_zero, List.set_cons_succ]
        refine wpAnyH_ready (rs := [1, 11]) (by kernel_rfl) (by simp) ?_
        refine (AllReadyH.cons rfl (fun K hK => ?_) (AllReadyH.cons rfl (fun K hK => ?_) AllReadyH.nil))
        · go_simp
          refine hK.out _ _ trivial (fun _ => ?_)
          clear hK K
          try simp only [Act.put, List.setIfInBounds_toArray, List.set_cons_zero, List.set_cons_succ]
          refine wpAnyH_ready (rs := [11]) (by kernel_rfl) (by simp) ?_
          refine (AllReadyH.cons rfl (fun K hK => ?_) AllReadyH.nil)
          go_simp
          refine (wordT_at s ⟨#[58]⟩ av false true _ (by omega) pl pc hpl hpc).mono ?_
          rintro e w6 ⟨rfl, hB6⟩
          have hL6 := (hL5).below hB6
          have l6 := hL6.cell2
          have hL7 := hL6.alloc (.cells #[.string ⟨#[58]⟩, .int .i64 (pl : Int), .int .i64 (pc : Int), .bool false, .bool true] 36)
          have l7 := hL7.cell2
          try go_wp2_with fail
          refine hK.out _ _ trivial (fun _ => ?_)
          clear hK K
          try simp only [Act.put, List.setIfInBounds_toArray, List.set_cons_zero, List.set_cons_succ]
          refine wpAnyH_ready (rs := [12]) (by kernel_rfl) (by simp) ?_
          refine (AllReadyH.cons rfl (fun K hK => ?_) AllReadyH.nil)
          go_simp
          refine hK.out _ _ trivial (fun _ => ?_)
          clear hK K
          try simp only [Act.put, List.setIfInBounds_toArray, List.set_cons_zero, List.set_cons_succ]
          refine wpAnyH_ready (rs := [13]) (by kernel_rfl) (by simp) ?_
          refine (AllReadyH.cons rfl (fun K hK => ?_) AllReadyH.nil)
          refine Rc.step_append WdR rfl (.tmp 109) (.tmp 120) rfl (g + 1) (w6.heap.size + 1) _ _ _ [⟨[58], (pl : Int), (pc : Int), false, true⟩] rfl hL7.2.1 rfl (WdR.lit w6 ⟨[58], (pl : Int), (pc : Int), false, true⟩ #[.string ⟨#[58]⟩, .int .i64 (pl : Int), .int .i64 (pc : Int), .bool false, .bool true] rfl) (by simp) HLn hL7.size ?_
          intro g2 cap w7 hown7 hgrow7
          obtain ⟨c7, f7, hL8⟩ := hL7.pushed hgrow7 hown7 hgl
          refine hK.out _ _ trivial (fun _ => ?_)
          clear hK K
          try simp only [Act.put, List.setIfInBounds_toArray]
          refine wpAnyH_ready (rs := [14]) (by kernel_rfl) (by simp) ?_
          refine (AllReadyH.cons rfl (fun K hK => ?_) AllReadyH.nil)
          go_simp
          refine hK.out _ _ trivial (fun _ => ?_)
          clear hK K
          try simp only [Act.put, List.setIfInBounds_toArray, List.set_cons_zero, List.set_cons_succ]
          refine wpAnyH_ready (rs := [15]) (by kernel_rfl) (by simp) ?_
          refine (AllReadyH.cons rfl (fun K hK => ?_) AllReadyH.nil)
          go_simp
          refine hK.out _ _ trivial (fun _ => ?_)
          clear hK K
          try simp only [Act.put, List.setIfInBounds_toArray, List.set_cons_zero, List.set_cons_succ]
          refine wpAnyH_done (by kernel_rfl) ?_ _
          go_wp2
          refine ⟨?_, by simp [LnMu, intOf]; omega⟩
          unfold LnWI
          exact ⟨_, _, _, _, _, _, _, _, _, _, _, _, _, _, _, _, _, _, _, _, _, _, _, _, _, _, _, _, _, _, _, _, _, _, _, _, _, _, _, _, _, _, _, _, _, _, _, _, _, _, _, _, _, _, _, _, _, _, _, _, _, _, _, _, _, _, _, _, _, _, _, _, _, _, _, _, _, _, _, _, _, _, _, _, _, _, _, _, _, _, _, _, _, _, _, _, _, _, _, _, _, _, _, _, _, _, _, _, _, _, _, _, _, _, _, _, _, _, _, _, _, _, _, _, _, _, _, _, _, _, _, _, _, _, ⟨i + 1, acc ++ [⟨[58], av, false, true⟩], _, _, _, by omega, by omega, by first | rfl | go_num, by first | omega | (simp only [List.length_append, List.length_cons, List.length_nil]; omega), HA.out, by rw [List.map_append, List.map_cons, List.map_nil, told_eq hpl hpc]; rw [List.length_map] at hL8; exact hL8⟩, rfl⟩
        · go_simp
          refine (wordT_at s ⟨#[58]⟩ av false true _ (by omega) pl pc hpl hpc).mono ?_
          rintro e w6 ⟨rfl, hB6⟩
          have hL6 := (hL5).below hB6
          have l6 := hL6.cell2
          have hL7 := hL6.alloc (.cells #[.string ⟨#[58]⟩, .int .i64 (pl : Int), .int .i64 (pc : Int), .bool false, .bool true] 36)
          have l7 := hL7.cell2
          try go_wp2_with fail
          refine hK.out _ _ trivial (fun _ => ?_)
          clear hK K
          try simp only [Act.put, List.setIfInBounds_toArray, List.set_cons_zero, List.set_cons_succ]
          refine wpAnyH_ready (rs := [1, 12]) (by kernel_rfl) (by simp) ?_
          refine (AllReadyH.cons rfl (fun K hK => ?_) (AllReadyH.cons rfl (fun K hK => ?_) AllReadyH.nil))
          · go_simp
            refine hK.out _ _ trivial (fun _ => ?_)
            clear hK K
            try simp only [Act.put, List.setIfInBounds_toArray, List.set_cons_zero, List.set_cons_succ]
            refine wpAnyH_ready (rs := [12]) (by kernel_rfl) (by simp) ?_
            refine (AllReadyH.cons rfl (fun K hK => ?_) AllReadyH.nil)
            go_simp
            refine hK.out _ _ trivial (fun _ => ?_)
            clear hK K
            try simp only [Act.put, List.setIfInBounds_toArray, List.set_cons_zero, List.set_cons_succ]
            refine wpAnyH_ready (rs := [13]) (by kernel_rfl) (by simp) ?_
            refine (AllReadyH.cons rfl (fun K hK => ?_) AllReadyH.nil)
            refine Rc.step_append WdR rfl (.tmp 109) (.tmp 120) rfl (g + 1) (w6.heap.size + 1) _ _ _ [⟨[58], (pl : Int), (pc : Int), false, true⟩] rfl hL7.2.1 rfl (WdR.lit w6 ⟨[58], (pl : Int), (pc : Int), false, true⟩ #[.string ⟨#[58]⟩, .int .i64 (pl : Int), .int .i64 (pc : Int), .bool false, .bool true] rfl) (by simp) HLn hL7.size ?_
            intro g2 cap w7 hown7 hgrow7
            obtain ⟨c7, f7, hL8⟩ := hL7.pushed hgrow7 hown7 hgl
            refine hK.out _ _ trivial (fun _ => ?_)
            clear hK K
            try simp only [Act.put, List.setIfInBounds_toArray]
            refine wpAnyH_ready (rs := [14]) (by kernel_rfl) (by simp) ?_
            refine (AllReadyH.cons rfl (fun K hK => ?_) AllReadyH.nil)
            go_simp
            refine hK.out _ _ trivial (fun _ => ?_)
            clear hK K
            try simp only [Act.put, List.setIfInBounds_toArray, List.set_cons_zero, List.set_cons_succ]
            refine wpAnyH_ready (rs := [15]) (by kernel_rfl) (by simp) ?_
            refine (AllReadyH.cons rfl (fun K hK => ?_) AllReadyH.nil)
            go_simp
            refine hK.out _ _ trivial (fun _ => ?_)
            clear hK K
            try simp only [Act.put, List.setIfInBounds_toArray, List.set_cons_zero, List.set_cons_succ]
            refine wpAnyH_done (by kernel_rfl) ?_ _
            go_wp2
            refine ⟨?_, by simp [LnMu, intOf]; omega⟩
            unfold LnWI
            exact ⟨_, _, _, _, _, _, _, _, _, _, _, _, _, _, _, _, _, _, _, _, _, _, _, _, _, _, _, _, _, _, _, _, _, _, _, _, _, _, _, _, _, _, _, _, _, _, _, _, _, _, _, _, _, _, _, _, _, _, _, _, _, _, _, _, _, _, _, _, _, _, _, _, _, _, _, _, _, _, _, _, _, _, _, _, _, _, _, _, _, _, _, _, _, _, _, _, _, _, _, _, _, _, _, _, _, _, _, _, _, _, _, _, _, _, _, _, _, _, _, _, _, _, _, _, _, _, _, _, _, _, _, _, _, _, ⟨i + 1, acc ++ [⟨[58], av, false, true⟩], _, _, _, by omega, by omega, by first | rfl | go_num, by first | omega | (simp only [List.length_append, List.length_cons, List.length_nil]; omega), HA.out, by rw [List.map_append, List.map_cons, List.map_nil, told_eq hpl hpc]; rw [List.length_map] at hL8; exact hL8⟩, rfl⟩
          · go_simp
            refine hK.out _ _ trivial (fun _ => ?_)
            clear hK K
            try simp only [Act.put, List.setIfInBounds_toArray, List.set_cons_zero, List.set_cons_succ]
            refine wpAnyH_ready (rs := [1]) (by kernel_rfl) (by simp) ?_
            refine (AllReadyH.cons rfl (fun K hK => ?_) AllReadyH.nil)
            go_simp
            refine hK.out _ _ trivial (fun _ => ?_)
            clear hK K
            try simp only [Act.put, List.setIfInBounds_toArray, List.set_cons_zero, List.set_cons_succ]
            refine wpAnyH_ready (rs := [13]) (by kernel_rfl) (by simp) ?_
            refine (AllReadyH.cons rfl (fun K hK => ?_) AllReadyH.nil)
            refine Rc.step_append WdR rfl (.tmp 109) (.tmp 120) rfl (g + 1) (w6.heap.size + 1) _ _ _ [⟨[58], (pl : Int), (pc : Int), false, true⟩] rfl hL7.2.1 rfl (WdR.lit w6 ⟨[58], (pl : Int), (pc : Int), false, true⟩ #[.string ⟨#[58]⟩, .int .i64 (pl : Int), .int .i64 (pc : Int), .bool false, .bool true] rfl) (by simp) HLn hL7.size ?_
            intro g2 cap w7 hown7 hgrow7
            obtain ⟨c7, f7, hL8⟩ := hL7.pushed hgrow7 hown7 hgl
            refine hK.out _ _ trivial (fun _ => ?_)
            clear hK K
            try simp only [Act.put, List.setIfInBounds_toArray]
            refine wpAnyH_ready (rs := [14]) (by kernel_rfl) (by simp) ?_
            refine (AllReadyH.cons rfl (fun K hK => ?_) AllReadyH.nil)
            go_simp
            refine hK.out _ _ trivial (fun _ => ?_)
            clear hK K
            try simp only [Act.put, List.setIfInBounds_toArray, List.set_cons_zero, List.set_cons_succ]
            refine wpAnyH_ready (rs := [15]) (by kernel_rfl) (by simp) ?_
            refine (AllReadyH.cons rfl (fun K hK => ?_) AllReadyH.nil)
            go_simp
            refine hK.out _ _ trivial (fun _ => ?_)
            clear hK K
            try simp only [Act.put, List.setIfInBounds_toArray, List.set_cons_zero, List.set_cons_succ]
            refine wpAnyH_done (by kernel_rfl) ?_ _
            go_wp2
            refine ⟨?_, by simp [LnMu, intOf]; omega⟩
            unfold LnWI
            exact ⟨_, _, _, _, _, _, _, _, _, _, _, _, _, _, _, _, _, _, _, _, _, _, _, _, _, _, _, _, _, _, _, _, _, _, _, _, _, _, _, _, _, _, _, _, _, _, _, _, _, _, _, _, _, _, _, _, _, _, _, _, _, _, _, _, _, _, _, _, _, _, _, _, _, _, _, _, _, _, _, _, _, _, _, _, _, _, _, _, _, _, _, _, _, _, _, _, _, _, _, _, _, _, _, _, _, _, _, _, _, _, _, _, _, _, _, _, _, _, _, _, _, _, _, _, _, _, _, _, _, _, _, _, _, _, ⟨i + 1, acc ++ [⟨[58], av, false, true⟩], _, _, _, by omega, by omega, by first | rfl | go_num, by first | omega | (simp only [List.length_append, List.length_cons, List.length_nil]; omega), HA.out, by rw [List.map_append, List.map_cons, List.map_nil, told_eq hpl hpc]; rw [List.length_map] at hL8; exact hL8⟩, rfl⟩

end Go.Proofs.Ythpipbkbldlfjaa
