/-
  LexStands: a round of the loop over a line's words.
-/
import Derived.Test.YtdknggccjhillaaLStK
namespace Go.Proofs.Ytdknggccjhillaa
open Go.RowKit

set_option maxRecDepth 1000000 in
set_option maxHeartbeats 4000000 in
theorem st_m58 (s : ByteArray) (W3 : World) (ST : List Nat) (b4 o4 c5 b2 o2 c2 : Nat) (xw : List (Lx.W Nat)) (q' : Nat) (hx : StCtx s W3 ST b4 o4 c5 b2 o2 c2 xw q') (c1_ c3_ c4_ c6_ c8_ c9_ c14_ c15_ c16_ c17_ c18_ c19_ c20_ c21_ c22_ c23_ c24_ c25_ c26_ c27_ c28_ c29_ c30_ c31_ c32_ c33_ c34_ c35_ c36_ c37_ c38_ c39_ c40_ c41_ c42_ c43_ c44_ c45_ c46_ c47_ c48_ c49_ c50_ c51_ c52_ c53_ c54_ c55_ c56_ c57_ c58_ c59_ c60_ c61_ c62_ c63_ c64_ c65_ c66_ c67_ c68_ c69_ c70_ c71_ c72_ c73_ c74_ c75_ c76_ c77_ c78_ c79_ c80_ c81_ c82_ c83_ c84_ c85_ c86_ c87_ c88_ c89_ c90_ c91_ c92_ c93_ c94_ c95_ c96_ c97_ c98_ c99_ c100_ c101_ c102_ c103_ u2 u10 u11 u12 u13 u107 u108 u109 u110 u111 u112 u113 u114 u115 u116 u117 u118 u119 u120 u121 u122 u123 u124 u125 u126 u127 u128 u129 u130 u131 u132 u133 u134 u135 u136 u137 u138 u139 u140 u141 u142 u143 u144 u145 u146 u147 u148 u149 u150 u151 u152 u153 u154 u155 u156 u157 u158 u159 u160 u161 u162 u163 u164 u165 u166 u167 u168 u169 u170 u171 u172 u173 u174 u175 u176 u177 u178 u179 u180 u181 u182 u183 u184 u185 u186 u187 u188 u189 u190 u191 u192 u193 u194 u195 u196 u197 u198 u199 u200 u201 u202 u203 u204 u205 u206 u207 u208 u209 u210 u211 u212 u213 u214 u215 u216 u217 u218 u219 u220 u221 u222 u223 u224 u225 u226 u227 u228 : Value) (Q0 : Exit → Act → World → Prop) (wr : World) (n p : Nat) (la : Int) (hnl : n < xw.length) (hl2 : la < (p : Int)) (HRO : Lx.Row (bs s) p (xw.drop n)) (hBn : Below W3.heap.size W3 wr) (u : Lx.W Nat) (hu : xw[n]? = some u) (h1 : u.mark = true) (h2 : u.quoted = false) (h3 : u.text = [58]) :
    Code.wp Try.prog stBody (Exit.then (fun a' w'' => StWI s W3 ST b4 o4 c5 b2 o2 c2 xw q' c1_ c3_ c4_ c6_ c8_ c9_ c14_ c15_ c16_ c17_ c18_ c19_ c20_ c21_ c22_ c23_ c24_ c25_ c26_ c27_ c28_ c29_ c30_ c31_ c32_ c33_ c34_ c35_ c36_ c37_ c38_ c39_ c40_ c41_ c42_ c43_ c44_ c45_ c46_ c47_ c48_ c49_ c50_ c51_ c52_ c53_ c54_ c55_ c56_ c57_ c58_ c59_ c60_ c61_ c62_ c63_ c64_ c65_ c66_ c67_ c68_ c69_ c70_ c71_ c72_ c73_ c74_ c75_ c76_ c77_ c78_ c79_ c80_ c81_ c82_ c83_ c84_ c85_ c86_ c87_ c88_ c89_ c90_ c91_ c92_ c93_ c94_ c95_ c96_ c97_ c98_ c99_ c100_ c101_ c102_ c103_ a' w'' ∧ StMu xw a' w'' < StMu xw ⟨#[.string s, c1_, u2, c3_, c4_, .slice (some ⟨b4, o4, none⟩) ST.length c5, c6_, .int .i64 la, c8_, c9_, u10, u11, u12, u13, c14_, c15_, c16_, c17_, c18_, c19_, c20_, c21_, c22_, c23_, c24_, c25_, c26_, c27_, c28_, c29_, c30_, c31_, c32_, c33_, c34_, c35_, c36_, c37_, c38_, c39_, c40_, c41_, c42_, c43_, c44_, c45_, c46_, c47_, c48_, c49_, c50_, c51_, c52_, c53_, c54_, c55_, c56_, c57_, c58_, c59_, c60_, c61_, c62_, c63_, c64_, c65_, c66_, c67_, c68_, c69_, c70_, c71_, c72_, c73_, c74_, c75_, c76_, c77_, c78_, c79_, c80_, c81_, c82_, c83_, c84_, c85_, c86_, c87_, c88_, c89_, c90_, c91_, c92_, c93_, c94_, c95_, c96_, c97_, c98_, c99_, c100_, c101_, c102_, c103_, .slice (some ⟨b2, o2, none⟩) xw.length c2, .int .i64 (xw.length : Int), .int .i64 (n : Int), u107, u108, u109, u110, u111, u112, u113, u114, u115, u116, u117, u118, u119, u120, u121, u122, u123, u124, u125, u126, u127, u128, u129, u130, u131, u132, u133, u134, u135, u136, u137, u138, u139, u140, u141, u142, u143, u144, u145, u146, u147, u148, u149, u150, u151, u152, u153, u154, u155, u156, u157, u158, u159, u160, u161, u162, u163, u164, u165, u166, u167, u168, u169, u170, u171, u172, u173, u174, u175, u176, u177, u178, u179, u180, u181, u182, u183, u184, u185, u186, u187, u188, u189, u190, u191, u192, u193, u194, u195, u196, u197, u198, u199, u200, u201, u202, u203, u204, u205, u206, u207, u208, u209, u210, u211, u212, u213, u214, u215, u216, u217, u218, u219, u220, u221, u222, u223, u224, u225, u226, u227, u228], []⟩ wr) Q0) ⟨#[.string s, c1_, u2, c3_, c4_, .slice (some ⟨b4, o4, none⟩) ST.length c5, c6_, .int .i64 la, c8_, c9_, u10, u11, u12, u13, c14_, c15_, c16_, c17_, c18_, c19_, c20_, c21_, c22_, c23_, c24_, c25_, c26_, c27_, c28_, c29_, c30_, c31_, c32_, c33_, c34_, c35_, c36_, c37_, c38_, c39_, c40_, c41_, c42_, c43_, c44_, c45_, c46_, c47_, c48_, c49_, c50_, c51_, c52_, c53_, c54_, c55_, c56_, c57_, c58_, c59_, c60_, c61_, c62_, c63_, c64_, c65_, c66_, c67_, c68_, c69_, c70_, c71_, c72_, c73_, c74_, c75_, c76_, c77_, c78_, c79_, c80_, c81_, c82_, c83_, c84_, c85_, c86_, c87_, c88_, c89_, c90_, c91_, c92_, c93_, c94_, c95_, c96_, c97_, c98_, c99_, c100_, c101_, c102_, c103_, .slice (some ⟨b2, o2, none⟩) xw.length c2, .int .i64 (xw.length : Int), .int .i64 (n : Int), u107, u108, u109, u110, u111, u112, u113, u114, u115, u116, u117, u118, u119, u120, u121, u122, u123, u124, u125, u126, u127, u128, u129, u130, u131, u132, u133, u134, u135, u136, u137, u138, u139, u140, u141, u142, u143, u144, u145, u146, u147, u148, u149, u150, u151, u152, u153, u154, u155, u156, u157, u158, u159, u160, u161, u162, u163, u164, u165, u166, u167, u168, u169, u170, u171, u172, u173, u174, u175, u176, u177, u178, u179, u180, u181, u182, u183, u184, u185, u186, u187, u188, u189, u190, u191, u192, u193, u194, u195, u196, u197, u198, u199, u200, u201, u202, u203, u204, u205, u206, u207, u208, u209, u210, u211, u212, u213, u214, u215, u216, u217, u218, u219, u220, u221, u222, u223, u224, u225, u226, u227, u228], []⟩ wr := by
  conv => arg 2; whnf
  obtain ⟨hsm, hsl, hsa, hS3, hW3s, hR8, htt⟩ := hx
  have HSA : Hid _ := hsa
  have HR8 : Hid _ := hR8
  have HW : Hid _ := hW3s
  clear hsa hR8 hW3s
  have hb4 : b4 < W3.heap.size := by
    obtain ⟨b, o, c, e, hb, -⟩ := IntR.at hS3 0 (by have := HSA.out 0 (Nat.zero_le _); omega)
    simp only [Value.slice.injEq, Option.some.injEq, Addr.mk.injEq] at e
    obtain ⟨⟨rfl, -, -⟩, -, -⟩ := e
    exact hb
  have j2 : (n : Int) < (xw.length : Int) := by omega
  have hxl := Lx.wsum_len xw
  have hgu : (xw.map (Lx.told (bs s))).getD n Lx.noV = Lx.told (bs s) u := by simp [List.getD, hu]
  have hdu : xw.drop n = u :: xw.drop (n + 1) := by
    rw [List.drop_eq_getElem_cons hnl]
    rw [List.getElem?_eq_getElem hnl] at hu
    simp only [Option.some.injEq] at hu
    rw [hu]
  rw [hdu] at HRO
  obtain ⟨v1, v2, v3⟩ := HRO
  have v4 := HR8.out u (List.mem_of_getElem? hu)
  have HV3 : Hid _ := v3
  have HV2 : Hid _ := v2
  have v5 := v2.lt
  rw [bs_length] at v5
  clear hdu v2 v3
  have hWn : WdR.Sl wr W3.heap.size (.slice (some ⟨b2, o2, none⟩) xw.length c2) (xw.map (Lx.told (bs s))) := Rc.Sl.below (R := WdR) HW.out hBn (Nat.le_refl _)
  obtain ⟨b5, o5, c5', e, hb5, q0, q1, q2, q3, q4⟩ := WdR.at hWn n (by rw [List.length_map]; exact hnl)
  clear hWn
  simp only [Value.slice.injEq, Option.some.injEq, Addr.mk.injEq, List.length_map] at e
  obtain ⟨⟨rfl, rfl, -⟩, -, -⟩ := e
  rw [hgu] at q0 q1 q2 q3 q4
  have htx := Lx.wsum_mem (List.mem_of_getElem? hu)
  clear hgu hu
  obtain ⟨ut, ua, uq, um⟩ := u
  simp only [Lx.told] at q0 q1 q2 q3 q4 v1 v4 v5 HV3 htx
  obtain ⟨y1, y2, y3⟩ := HSA.out ua (by omega)
  have HPI : Hid (placeI (bs s) (ua : Int) = Lx.place (bs s) ua) := by show Lx.place _ _ = _; rw [Int.toNat_natCast]
  have hcle := (place_le s ua).2
  obtain ⟨m2, hm2⟩ : ∃ m, (Lx.place (bs s) ua).1 = m + 1 := ⟨(Lx.place (bs s) ua).1 - 1, by omega⟩
  obtain ⟨pc, hpc⟩ : ∃ c, (Lx.place (bs s) ua).2 = c := ⟨_, rfl⟩
  have HP1 : Hid _ := hm2
  have HP2 : Hid _ := hpc
  rw [hm2] at q1 y2 y3
  rw [hpc] at q2 y3 hcle
  rw [Nat.add_sub_cancel] at y3
  clear hm2 hpc y1
  rw [show ((m2 + 1 : Nat) : Int) = (m2 : Int) + 1 by omega] at q1
  obtain ⟨b6, o6, c6, e6, hb6, s1⟩ := IntR.at (hS3.below hBn (Nat.le_refl _)) m2 (by omega)
  simp only [Value.slice.injEq, Option.some.injEq, Addr.mk.injEq] at e6
  obtain ⟨⟨rfl, rfl, -⟩, -, -⟩ := e6
  rw [y3] at s1
  clear y3
  have hB5 := hBn.alloc hBn.size (.cells #[.string (str ut), .int .i64 ((m2 : Int) + 1), .int .i64 (pc : Int), .bool uq, .bool um] 35)
  have hW5 : WAt (wr.alloc (.cells #[.string (str ut), .int .i64 ((m2 : Int) + 1), .int .i64 (pc : Int), .bool uq, .bool um] 35)) wr.heap.size ⟨ut, (m2 : Int) + 1, (pc : Int), uq, um⟩ := heap_alloc_new wr _
  have S1 : (wr.alloc (.cells #[.string (str ut), .int .i64 ((m2 : Int) + 1), .int .i64 (pc : Int), .bool uq, .bool um] 35)).cell? ⟨b4, o4 + m2, none⟩ = some (.int .i64 ((ua - pc : Nat) : Int)) := by
    rw [((Below.refl wr.heap.size wr).alloc (Nat.le_refl _) _).cell (p := ⟨b4, o4 + m2, none⟩) (Nat.lt_of_lt_of_le hb4 hBn.size)]
    exact s1
  have k1 : ¬ (m2 : Int) + 1 < 1 := by omega
  have k2 : ¬ (ST.length : Int) < (m2 : Int) + 1 := by omega
  have k3 : ¬ (pc : Int) < 0 := by omega
  have k4 : (m2 : Int) < (ST.length : Int) := by omega
  have k5 : ((ua - pc : Nat) : Int) + (pc : Int) = (ua : Int) := by omega
  have k6 : (ua : Int) ≤ 32768 := by omega
  have k7 : (m2 : Int) ≤ 32768 := by omega
  go_upto_region 23 with fail
  clear q0 q1 q2 q3 q4 s1
  generalize wr.alloc (.cells #[.string (str ut), .int .i64 ((m2 : Int) + 1), .int .i64 (pc : Int), .bool uq, .bool um] 35) = WB at *
  generalize wr.heap.size = gw at *
  obtain ⟨z0, z1, z2, z3, z4⟩ := hW5.cells
  simp only at z0 z1 z2 z3 z4
  go_quiet (fail)
  have hWq : WAt (WB.drewN nq) gw ⟨ut, (m2 : Int) + 1, (pc : Int), uq, um⟩ := hW5
  have hBq : Below W3.heap.size W3 (WB.drewN nq) := below_drewN hB5 _
  clear hW5 hB5 z0 z1 z2 z3 z4 S1
  generalize WB.drewN nq = WC at *
  obtain ⟨z0, z1, z2, z3, z4⟩ := hWq.cells
  simp only at z0 z1 z2 z3 z4
  go_wp2_with fail
  refine (Place_any s (ua : Int) _ (by omega)).mono ?_
  rintro e w3 ⟨rfl, rfl⟩
  rw [HPI.out, HP1.out, HP2.out, show ((m2 + 1 : Nat) : Int) = (m2 : Int) + 1 by omega]
  have k8 : ¬ (ua : Int) ≤ la := by omega
  have k9 : ¬ (s.size : Int) ≤ (ua : Int) := by omega
  have k9' : (ua : Int) < (s.size : Int) := by omega
  have k10 : (((m2 : Int) + 1) != ((m2 : Int) + 1)) = false := by simp
  have k11 : ((pc : Int) != (pc : Int)) = false := by simp
  clear HPI HP1 HP2
  try simp only at h1 h2 h3
  subst h1 h2 h3
  have hbt : (bs s)[ua]? = some 58 := HV2.out.bare rfl 0 Nat.zero_lt_one
  have hex : s.extract ua (ua + 1) = ⟨#[58]⟩ := by
    rw [slice_str, take_byte s ua v5, List.drop_append_of_le_length (by rw [List.length_take, bs_length]; omega), List.drop_of_length_le (by rw [List.length_take]; omega), List.nil_append]
    rw [List.getElem?_eq_getElem (by rw [bs_length]; exact v5)] at hbt
    simp only [Option.some.injEq] at hbt
    have : s[ua] = 58 := hbt
    rw [this]; rfl
  have Z0 : w3.cell? ⟨gw, 0, none⟩ = some (.string ⟨#[58]⟩) := z0
  have k12 : ¬ IntKind.i64.wrap ((s.size : Int) - (ua : Int)) < 1 := by rw [IntKind.wrap_i64]; omega
  obtain ⟨E, hE⟩ : ∃ E, ua + 1 = E := ⟨_, rfl⟩
  have k13 : IntKind.i64.wrap ((ua : Int) + 1) = (E : Int) := by rw [IntKind.wrap_i64]; omega
  have k14 : (ua : Int) ≤ (E : Int) := by omega
  have k15 : (E : Int) ≤ (s.size : Int) := by omega
  rw [hE] at hex
  clear z0 hbt
  go_wp2_with fail
  go_quiet (fail)
  go_wp2
  refine ⟨?_, by simp [StMu, intOf]; omega⟩
  unfold StWI
  refine ⟨_, _, _, _, _, _, _, _, _, _, _, _, _, _, _, _, _, _, _, _, _, _, _, _, _, _, _, _, _, _, _, _, _, _, _, _, _, _, _, _, _, _, _, _, _, _, _, _, _, _, _, _, _, _, _, _, _, _, _, _, _, _, _, _, _, _, _, _, _, _, _, _, _, _, _, _, _, _, _, _, _, _, _, _, _, _, _, _, _, _, _, _, _, _, _, _, _, _, _, _, _, _, _, _, _, _, _, _, _, _, _, _, _, _, _, _, _, _, _, _, _, _, _, _, _, _, _, _, _, ⟨n + 1, ua + 1, (ua : Int), by omega, by first | rfl | go_num, rfl, by omega, by omega, by omega, HV3.out, by first | exact hBq | exact below_drewN hBq _⟩, rfl⟩

end Go.Proofs.Ytdknggccjhillaa
