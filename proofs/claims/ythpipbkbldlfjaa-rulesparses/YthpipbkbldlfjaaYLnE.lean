/-
  THE DOCUMENT's Lines: what is wrong.
-/
import Derived.Test.YthpipbkbldlfjaaYLnK
namespace Go.Proofs.Ythpipbkbldlfjaa
open Go.RowKit

set_option maxRecDepth 1000000 in
set_option maxHeartbeats 4000000 in
theorem ln_qbad (s : ByteArray) (W0 : World) (BB : List (Lx.B Nat)) (b4 o4 c4 f t sp g num : Nat) (ind : Bool) (R : Lx.R Nat (List (Lx.W Nat))) (hx : LnCtx s W0 BB b4 o4 c4 f t sp g) (c1_ c5_ c6_ c15_ c16_ c17_ c18_ c19_ c20_ c21_ c22_ c23_ c24_ c25_ c26_ c27_ c28_ c29_ c30_ c31_ c32_ c33_ c34_ c35_ c36_ c37_ c38_ c39_ c40_ c41_ c42_ c43_ c44_ c45_ c46_ c47_ c48_ c49_ c50_ c51_ c52_ c53_ c54_ c55_ c56_ c57_ c58_ c59_ c60_ c61_ c62_ c63_ c64_ c65_ c193_ c194_ c195_ c196_ c197_ c198_ c199_ c200_ c201_ c202_ c203_ c204_ u2 u10 u11 u12 u13 u14 u66 u67 u68 u69 u70 u71 u72 u73 u74 u75 u76 u77 u78 u79 u80 u81 u82 u83 u84 u85 u86 u87 u88 u89 u90 u91 u92 u93 u94 u95 u96 u97 u98 u99 u100 u101 u102 u103 u104 u105 u106 u107 u108 u109 u110 u111 u112 u113 u114 u115 u116 u117 u118 u119 u120 u121 u122 u123 u124 u125 u126 u127 u128 u129 u130 u131 u132 u133 u134 u135 u136 u137 u138 u139 u140 u141 u142 u143 u144 u145 u146 u147 u148 u149 u150 u151 u152 u153 u154 u155 u156 u157 u158 u159 u160 u161 u162 u163 u164 u165 u166 u167 u168 u169 u170 u171 u172 u173 u174 u175 u176 u177 u178 u179 u180 u181 u182 u183 u184 u185 u186 u187 u188 u189 u190 u191 u192 : Value) (Q0 : Exit → Act → World → Prop) (hret : ∀ a' w'', LnWB s W0 BB b4 o4 c4 t sp g R c1_ c5_ c6_ c15_ c16_ c17_ c18_ c19_ c20_ c21_ c22_ c23_ c24_ c25_ c26_ c27_ c28_ c29_ c30_ c31_ c32_ c33_ c34_ c35_ c36_ c37_ c38_ c39_ c40_ c41_ c42_ c43_ c44_ c45_ c46_ c47_ c48_ c49_ c50_ c51_ c52_ c53_ c54_ c55_ c56_ c57_ c58_ c59_ c60_ c61_ c62_ c63_ c64_ c65_ c193_ c194_ c195_ c196_ c197_ c198_ c199_ c200_ c201_ c202_ c203_ c204_ a' w'' → Q0 .ret a' w'') (wr : World) (i : Nat) (acc : List (Lx.W Nat)) (ad : Option Addr) (n c : Nat) (hL : LW W0 g num ind (.slice ad n c) (acc.map (Lx.told (bs s))) wr) (av : Nat) (hit : i < t) (hav : (BB.getD i Lx.noB).at_ = av) (hfi : f ≤ i) (hc : (BB.getD i Lx.noB).c = 34) (x : Nat) (hq : qres (BB.take t).length ((BB.take t).getD i Lx.noB).at_ (Lx.quo ((BB.take t).drop (i + 1)) []) = #[.string .empty, .int .i64 0, .int .i64 (x : Int)]) (HA : Hid (R = .bad x)) :
    Code.wp Try.prog lnBody (Exit.then (fun a' w'' => LnWI s W0 BB b4 o4 c4 f t sp g num ind R c1_ c5_ c6_ c15_ c16_ c17_ c18_ c19_ c20_ c21_ c22_ c23_ c24_ c25_ c26_ c27_ c28_ c29_ c30_ c31_ c32_ c33_ c34_ c35_ c36_ c37_ c38_ c39_ c40_ c41_ c42_ c43_ c44_ c45_ c46_ c47_ c48_ c49_ c50_ c51_ c52_ c53_ c54_ c55_ c56_ c57_ c58_ c59_ c60_ c61_ c62_ c63_ c64_ c65_ c193_ c194_ c195_ c196_ c197_ c198_ c199_ c200_ c201_ c202_ c203_ c204_ a' w'' ∧ LnMu t a' w'' < LnMu t ⟨#[.string s, c1_, u2, .pointer (some ⟨sp, 0, none⟩), .slice (some ⟨b4, o4, none⟩) BB.length c4, c5_, c6_, .int .i64 (t : Int), .pointer (some ⟨g, 0, none⟩), .int .i64 (i : Int), u10, u11, u12, u13, u14, c15_, c16_, c17_, c18_, c19_, c20_, c21_, c22_, c23_, c24_, c25_, c26_, c27_, c28_, c29_, c30_, c31_, c32_, c33_, c34_, c35_, c36_, c37_, c38_, c39_, c40_, c41_, c42_, c43_, c44_, c45_, c46_, c47_, c48_, c49_, c50_, c51_, c52_, c53_, c54_, c55_, c56_, c57_, c58_, c59_, c60_, c61_, c62_, c63_, c64_, c65_, u66, u67, u68, u69, u70, u71, u72, u73, u74, u75, u76, u77, u78, u79, u80, u81, u82, u83, u84, u85, u86, u87, u88, u89, u90, u91, u92, u93, u94, u95, u96, u97, u98, u99, u100, u101, u102, u103, u104, u105, u106, u107, u108, u109, u110, u111, u112, u113, u114, u115, u116, u117, u118, u119, u120, u121, u122, u123, u124, u125, u126, u127, u128, u129, u130, u131, u132, u133, u134, u135, u136, u137, u138, u139, u140, u141, u142, u143, u144, u145, u146, u147, u148, u149, u150, u151, u152, u153, u154, u155, u156, u157, u158, u159, u160, u161, u162, u163, u164, u165, u166, u167, u168, u169, u170, u171, u172, u173, u174, u175, u176, u177, u178, u179, u180, u181, u182, u183, u184, u185, u186, u187, u188, u189, u190, u191, u192, c193_, c194_, c195_, c196_, c197_, c198_, c199_, c200_, c201_, c202_, c203_, c204_], []⟩ wr) Q0) ⟨#[.string s, c1_, u2, .pointer (some ⟨sp, 0, none⟩), .slice (some ⟨b4, o4, none⟩) BB.length c4, c5_, c6_, .int .i64 (t : Int), .pointer (some ⟨g, 0, none⟩), .int .i64 (i : Int), u10, u11, u12, u13, u14, c15_, c16_, c17_, c18_, c19_, c20_, c21_, c22_, c23_, c24_, c25_, c26_, c27_, c28_, c29_, c30_, c31_, c32_, c33_, c34_, c35_, c36_, c37_, c38_, c39_, c40_, c41_, c42_, c43_, c44_, c45_, c46_, c47_, c48_, c49_, c50_, c51_, c52_, c53_, c54_, c55_, c56_, c57_, c58_, c59_, c60_, c61_, c62_, c63_, c64_, c65_, u66, u67, u68, u69, u70, u71, u72, u73, u74, u75, u76, u77, u78, u79, u80, u81, u82, u83, u84, u85, u86, u87, u88, u89, u90, u91, u92, u93, u94, u95, u96, u97, u98, u99, u100, u101, u102, u103, u104, u105, u106, u107, u108, u109, u110, u111, u112, u113, u114, u115, u116, u117, u118, u119, u120, u121, u122, u123, u124, u125, u126, u127, u128, u129, u130, u131, u132, u133, u134, u135, u136, u137, u138, u139, u140, u141, u142, u143, u144, u145, u146, u147, u148, u149, u150, u151, u152, u153, u154, u155, u156, u157, u158, u159, u160, u161, u162, u163, u164, u165, u166, u167, u168, u169, u170, u171, u172, u173, u174, u175, u176, u177, u178, u179, u180, u181, u182, u183, u184, u185, u186, u187, u188, u189, u190, u191, u192, c193_, c194_, c195_, c196_, c197_, c198_, c199_, c200_, c201_, c202_, c203_, c204_], []⟩ wr := by
  conv => arg 2; whnf
  obtain ⟨hsm, hbb, hbl, htl, hsl, hno, hsv, hgg⟩ := hx
  have hgl : W0.heap.size ≤ g := Nat.le_of_eq hgg.symm
  have hslr := hsl.below hL.2.2 (Nat.le_refl _)
  obtain ⟨b', o', c'', e, hb4, q0, -, q2⟩ := ByR.at hslr i (Nat.lt_of_lt_of_le hit htl)
  simp only [Value.slice.injEq, Option.some.injEq, Addr.mk.injEq] at e
  obtain ⟨⟨rfl, rfl, -⟩, -, -⟩ := e
  rw [hav] at q2
  have i5 : (i : Int) < (t : Int) := by omega
  have i6 : (i : Int) < (BB.length : Int) := by omega
  have i7 : (i : Int) ≤ 32768 := by omega
  rw [hc, show (((34 : UInt8).toNat : Nat) : Int) = 34 from rfl] at q0
  have hsh : ∀ W : World, (Instr.slice 80 (.slice (some ⟨b4, o4, none⟩) BB.length c4) none (some (.int .i64 (t : Int))) none).run Try.prog W = .ok (.slice (some ⟨b4, o4, none⟩) t c4) W := fun W => ByR.slice_head W (some ⟨b4, o4, none⟩) BB.length c4 t (by obtain ⟨ad', c', e, hc'⟩ := hslr.shape; simp only [Value.slice.injEq] at e; omega)
  have hqc := quotedT_from wr W0.heap.size _ (BB.take t) i (Rc.Sl.head hslr t htl) hL.2.2.size (by rw [List.length_take]; omega) (fun b hb => hno b (by rw [← show f + (i + 1 - f) = i + 1 by omega, ← List.drop_drop] at hb; exact List.mem_of_mem_drop hb)) (by rw [List.length_take]; omega)
  rw [hq] at hqc
  clear hslr hsl hno hbb hb4 hgg hq hgl
  go_wp2_with fail
  refine hqc.mono ?_
  rintro e w5 ⟨rfl, hB5⟩
  have hL5 := hL.below hB5
  have hs1 : SV w5 sp 0 0 := (hL5.2.2.block sp hsv.lt).trans hsv
  obtain ⟨y0, y1⟩ := hs1.cells
  have y2 := hs1.free 0
  have y3 := hs1.free 1
  have i8 : (0 : Int) ≤ (x : Int) := by omega
  clear hqc q0 q2 hL hsv
  go_wp2
  first | refine hret _ _ ?_ | skip
  unfold LnWB
  exact ⟨_, _, _, _, _, _, _, _, _, _, _, _, _, _, _, _, _, _, _, _, _, _, _, _, _, _, _, _, _, _, _, _, _, _, _, _, _, _, _, _, _, _, _, _, _, _, _, _, _, _, _, _, _, _, _, _, _, _, _, _, _, _, _, _, _, _, _, _, _, _, _, _, _, _, _, _, _, _, _, _, _, _, _, _, _, _, _, _, _, _, _, _, _, _, _, _, _, _, _, _, _, _, _, _, _, _, _, _, _, _, _, _, _, _, _, _, _, _, _, _, _, _, _, _, _, _, _, _, _, _, _, _, _, _, ⟨x, HA.out, rfl, hs1.set 6 _, (((Turn.of_below hL5.2.2).mono (S' := [sp]) (by simp)).set (p := ⟨sp, 0, none⟩) (fun _ => by simp) _).set (p := ⟨sp, 1, none⟩) (fun _ => by simp) _⟩, rfl⟩

set_option maxRecDepth 1000000 in
set_option maxHeartbeats 4000000 in
theorem ln_bad (s : ByteArray) (W0 : World) (BB : List (Lx.B Nat)) (b4 o4 c4 f t sp g num : Nat) (ind : Bool) (R : Lx.R Nat (List (Lx.W Nat))) (hx : LnCtx s W0 BB b4 o4 c4 f t sp g) (c1_ c5_ c6_ c15_ c16_ c17_ c18_ c19_ c20_ c21_ c22_ c23_ c24_ c25_ c26_ c27_ c28_ c29_ c30_ c31_ c32_ c33_ c34_ c35_ c36_ c37_ c38_ c39_ c40_ c41_ c42_ c43_ c44_ c45_ c46_ c47_ c48_ c49_ c50_ c51_ c52_ c53_ c54_ c55_ c56_ c57_ c58_ c59_ c60_ c61_ c62_ c63_ c64_ c65_ c193_ c194_ c195_ c196_ c197_ c198_ c199_ c200_ c201_ c202_ c203_ c204_ u2 u10 u11 u12 u13 u14 u66 u67 u68 u69 u70 u71 u72 u73 u74 u75 u76 u77 u78 u79 u80 u81 u82 u83 u84 u85 u86 u87 u88 u89 u90 u91 u92 u93 u94 u95 u96 u97 u98 u99 u100 u101 u102 u103 u104 u105 u106 u107 u108 u109 u110 u111 u112 u113 u114 u115 u116 u117 u118 u119 u120 u121 u122 u123 u124 u125 u126 u127 u128 u129 u130 u131 u132 u133 u134 u135 u136 u137 u138 u139 u140 u141 u142 u143 u144 u145 u146 u147 u148 u149 u150 u151 u152 u153 u154 u155 u156 u157 u158 u159 u160 u161 u162 u163 u164 u165 u166 u167 u168 u169 u170 u171 u172 u173 u174 u175 u176 u177 u178 u179 u180 u181 u182 u183 u184 u185 u186 u187 u188 u189 u190 u191 u192 : Value) (Q0 : Exit → Act → World → Prop) (hret : ∀ a' w'', LnWB s W0 BB b4 o4 c4 t sp g R c1_ c5_ c6_ c15_ c16_ c17_ c18_ c19_ c20_ c21_ c22_ c23_ c24_ c25_ c26_ c27_ c28_ c29_ c30_ c31_ c32_ c33_ c34_ c35_ c36_ c37_ c38_ c39_ c40_ c41_ c42_ c43_ c44_ c45_ c46_ c47_ c48_ c49_ c50_ c51_ c52_ c53_ c54_ c55_ c56_ c57_ c58_ c59_ c60_ c61_ c62_ c63_ c64_ c65_ c193_ c194_ c195_ c196_ c197_ c198_ c199_ c200_ c201_ c202_ c203_ c204_ a' w'' → Q0 .ret a' w'') (wr : World) (i : Nat) (acc : List (Lx.W Nat)) (ad : Option Addr) (n c : Nat) (hL : LW W0 g num ind (.slice ad n c) (acc.map (Lx.told (bs s))) wr) (av : Nat) (hit : i < t) (hav : (BB.getD i Lx.noB).at_ = av) (xc : UInt8) (hc : (BB.getD i Lx.noB).c = xc) (h35 : xc ≠ 35) (h32 : xc ≠ 32) (h58 : xc ≠ 58) (h61 : xc ≠ 61) (h34 : xc ≠ 34) (hb : Lx.bare xc = false) (HA : Hid (R = .bad av)) :
    Code.wp Try.prog lnBody (Exit.then (fun a' w'' => LnWI s W0 BB b4 o4 c4 f t sp g num ind R c1_ c5_ c6_ c15_ c16_ c17_ c18_ c19_ c20_ c21_ c22_ c23_ c24_ c25_ c26_ c27_ c28_ c29_ c30_ c31_ c32_ c33_ c34_ c35_ c36_ c37_ c38_ c39_ c40_ c41_ c42_ c43_ c44_ c45_ c46_ c47_ c48_ c49_ c50_ c51_ c52_ c53_ c54_ c55_ c56_ c57_ c58_ c59_ c60_ c61_ c62_ c63_ c64_ c65_ c193_ c194_ c195_ c196_ c197_ c198_ c199_ c200_ c201_ c202_ c203_ c204_ a' w'' ∧ LnMu t a' w'' < LnMu t ⟨#[.string s, c1_, u2, .pointer (some ⟨sp, 0, none⟩), .slice (some ⟨b4, o4, none⟩) BB.length c4, c5_, c6_, .int .i64 (t : Int), .pointer (some ⟨g, 0, none⟩), .int .i64 (i : Int), u10, u11, u12, u13, u14, c15_, c16_, c17_, c18_, c19_, c20_, c21_, c22_, c23_, c24_, c25_, c26_, c27_, c28_, c29_, c30_, c31_, c32_, c33_, c34_, c35_, c36_, c37_, c38_, c39_, c40_, c41_, c42_, c43_, c44_, c45_, c46_, c47_, c48_, c49_, c50_, c51_, c52_, c53_, c54_, c55_, c56_, c57_, c58_, c59_, c60_, c61_, c62_, c63_, c64_, c65_, u66, u67, u68, u69, u70, u71, u72, u73, u74, u75, u76, u77, u78, u79, u80, u81, u82, u83, u84, u85, u86, u87, u88, u89, u90, u91, u92, u93, u94, u95, u96, u97, u98, u99, u100, u101, u102, u103, u104, u105, u106, u107, u108, u109, u110, u111, u112, u113, u114, u115, u116, u117, u118, u119, u120, u121, u122, u123, u124, u125, u126, u127, u128, u129, u130, u131, u132, u133, u134, u135, u136, u137, u138, u139, u140, u141, u142, u143, u144, u145, u146, u147, u148, u149, u150, u151, u152, u153, u154, u155, u156, u157, u158, u159, u160, u161, u162, u163, u164, u165, u166, u167, u168, u169, u170, u171, u172, u173, u174, u175, u176, u177, u178, u179, u180, u181, u182, u183, u184, u185, u186, u187, u188, u189, u190, u191, u192, c193_, c194_, c195_, c196_, c197_, c198_, c199_, c200_, c201_, c202_, c203_, c204_], []⟩ wr) Q0) ⟨#[.string s, c1_, u2, .pointer (some ⟨sp, 0, none⟩), .slice (some ⟨b4, o4, none⟩) BB.length c4, c5_, c6_, .int .i64 (t : Int), .pointer (some ⟨g, 0, none⟩), .int .i64 (i : Int), u10, u11, u12, u13, u14, c15_, c16_, c17_, c18_, c19_, c20_, c21_, c22_, c23_, c24_, c25_, c26_, c27_, c28_, c29_, c30_, c31_, c32_, c33_, c34_, c35_, c36_, c37_, c38_, c39_, c40_, c41_, c42_, c43_, c44_, c45_, c46_, c47_, c48_, c49_, c50_, c51_, c52_, c53_, c54_, c55_, c56_, c57_, c58_, c59_, c60_, c61_, c62_, c63_, c64_, c65_, u66, u67, u68, u69, u70, u71, u72, u73, u74, u75, u76, u77, u78, u79, u80, u81, u82, u83, u84, u85, u86, u87, u88, u89, u90, u91, u92, u93, u94, u95, u96, u97, u98, u99, u100, u101, u102, u103, u104, u105, u106, u107, u108, u109, u110, u111, u112, u113, u114, u115, u116, u117, u118, u119, u120, u121, u122, u123, u124, u125, u126, u127, u128, u129, u130, u131, u132, u133, u134, u135, u136, u137, u138, u139, u140, u141, u142, u143, u144, u145, u146, u147, u148, u149, u150, u151, u152, u153, u154, u155, u156, u157, u158, u159, u160, u161, u162, u163, u164, u165, u166, u167, u168, u169, u170, u171, u172, u173, u174, u175, u176, u177, u178, u179, u180, u181, u182, u183, u184, u185, u186, u187, u188, u189, u190, u191, u192, c193_, c194_, c195_, c196_, c197_, c198_, c199_, c200_, c201_, c202_, c203_, c204_], []⟩ wr := by
  conv => arg 2; whnf
  obtain ⟨hsm, hbb, hbl, htl, hsl, hno, hsv, hgg⟩ := hx
  have hgl : W0.heap.size ≤ g := Nat.le_of_eq hgg.symm
  have hslr := hsl.below hL.2.2 (Nat.le_refl _)
  obtain ⟨b', o', c'', e, hb4, q0, -, q2⟩ := ByR.at hslr i (Nat.lt_of_lt_of_le hit htl)
  simp only [Value.slice.injEq, Option.some.injEq, Addr.mk.injEq] at e
  obtain ⟨⟨rfl, rfl, -⟩, -, -⟩ := e
  rw [hav] at q2
  have i5 : (i : Int) < (t : Int) := by omega
  have i6 : (i : Int) < (BB.length : Int) := by omega
  have i7 : (i : Int) ≤ 32768 := by omega
  rw [hc] at q0
  have e35 := beq_lit xc 35
  rw [show (((35 : UInt8).toNat : Nat) : Int) = 35 from rfl, decide_eq_false h35] at e35
  have e32 := beq_lit xc 32
  rw [show (((32 : UInt8).toNat : Nat) : Int) = 32 from rfl, decide_eq_false h32] at e32
  have e58 := beq_lit xc 58
  rw [show (((58 : UInt8).toNat : Nat) : Int) = 58 from rfl, decide_eq_false h58] at e58
  have e61 := beq_lit xc 61
  rw [show (((61 : UInt8).toNat : Nat) : Int) = 61 from rfl, decide_eq_false h61] at e61
  have e34 := beq_lit xc 34
  rw [show (((34 : UInt8).toNat : Nat) : Int) = 34 from rfl, decide_eq_false h34] at e34
  have m35 : ((xc.toNat : Int) != 35) = true := by simpa [bne] using e35
  clear h35 h32 h58 h61 h34 e35
  have hs1 : SV wr sp 0 0 := (hL.2.2.block sp hsv.lt).trans hsv
  obtain ⟨y0, y1⟩ := hs1.cells
  have y2 := hs1.free 0
  have y3 := hs1.free 1
  have hbr := BareT_any xc wr
  rw [hb] at hbr
  clear hslr hsl hno hbb hb4 hgg hgl
  go_wp2_with fail
  refine hbr.mono ?_
  rintro e w5 ⟨rfl, rfl⟩
  clear hbr
  go_wp2
  first | refine hret _ _ ?_ | skip
  unfold LnWB
  exact ⟨_, _, _, _, _, _, _, _, _, _, _, _, _, _, _, _, _, _, _, _, _, _, _, _, _, _, _, _, _, _, _, _, _, _, _, _, _, _, _, _, _, _, _, _, _, _, _, _, _, _, _, _, _, _, _, _, _, _, _, _, _, _, _, _, _, _, _, _, _, _, _, _, _, _, _, _, _, _, _, _, _, _, _, _, _, _, _, _, _, _, _, _, _, _, _, _, _, _, _, _, _, _, _, _, _, _, _, _, _, _, _, _, _, _, _, _, _, _, _, _, _, _, _, _, _, _, _, _, _, _, _, _, _, _, ⟨av, HA.out, rfl, hs1.set 6 _, (((Turn.of_below hL.2.2).mono (S' := [sp]) (by simp)).set (p := ⟨sp, 0, none⟩) (fun _ => by simp) _).set (p := ⟨sp, 1, none⟩) (fun _ => by simp) _⟩, rfl⟩

end Go.Proofs.Ythpipbkbldlfjaa
