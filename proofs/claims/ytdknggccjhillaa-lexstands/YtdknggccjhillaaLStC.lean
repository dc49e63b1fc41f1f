/-
  LexStands: a round of the loop over the lines.
-/
import Derived.Test.YtdknggccjhillaaLStB
namespace Go.Proofs.Ytdknggccjhillaa
open Go.RowKit

set_option maxRecDepth 1000000 in
set_option maxHeartbeats 4000000 in
theorem sb_step (s : ByteArray) (W3 : World) (ST : List Nat) (b4 o4 c5 : Nat) (ls : List (Lx.Ln Nat)) (a1 : Option Addr) (c1 : Nat) (hx : SbCtx s W3 ST b4 o4 c5 ls a1 c1) (c1_ c4_ c6_ c14_ c15_ c16_ c17_ c18_ c19_ c20_ c21_ c22_ c23_ c24_ c25_ c26_ c27_ c28_ c29_ c30_ c31_ c32_ c33_ c34_ c35_ c36_ c37_ c38_ c39_ c40_ c41_ c42_ u2 u9 u10 u11 u12 u13 u43 u44 u45 u46 u47 u48 u49 u50 u51 u52 u53 u54 u55 u56 u57 u58 u59 u60 u61 u62 u63 u64 u65 u66 u67 u68 u69 u70 u71 u72 u73 u74 u75 u76 u77 u78 u79 u80 u81 u82 u83 u84 u85 u86 u87 u88 u89 u90 u91 u92 u93 u94 u95 u96 u97 u98 u99 u100 u101 u102 u103 u104 u105 u106 u107 u108 u109 u110 u111 u112 u113 u114 u115 u116 u117 u118 u119 u120 u121 u122 u123 u124 u125 u126 u127 u128 u129 u130 u131 u132 u133 u134 u135 u136 u137 u138 u139 u140 u141 u142 u143 u144 u145 u146 u147 u148 u149 u150 u151 u152 u153 u154 u155 u156 u157 u158 u159 u160 u161 u162 u163 u164 u165 u166 u167 u168 u169 u170 u171 u172 u173 u174 u175 u176 u177 u178 u179 u180 u181 u182 u183 u184 u185 u186 u187 u188 u189 u190 u191 u192 u193 u194 u195 u196 u197 u198 u199 u200 u201 u202 u203 u204 u205 u206 u207 u208 u209 u210 u211 u212 u213 u214 u215 u216 u217 u218 u219 u220 u221 u222 u223 u224 u225 u226 u227 u228 : Value) (Q0 : Exit → Act → World → Prop) (wr : World) (k q : Nat) (last : Int) (hlt : k < ls.length) (hla1 : -1 ≤ last) (hla2 : last < (q : Int)) (HRW : Lx.Rows (bs s) q (ls.drop k)) (hB : Below W3.heap.size W3 wr) :
    Code.wp Try.prog sbBody (Exit.then (fun a' w'' => SbWI s W3 ST b4 o4 c5 ls a1 c1 c1_ c4_ c6_ c14_ c15_ c16_ c17_ c18_ c19_ c20_ c21_ c22_ c23_ c24_ c25_ c26_ c27_ c28_ c29_ c30_ c31_ c32_ c33_ c34_ c35_ c36_ c37_ c38_ c39_ c40_ c41_ c42_ a' w'' ∧ SbMu ls a' w'' < SbMu ls ⟨#[.string s, c1_, u2, .slice a1 ls.length c1, c4_, .slice (some ⟨b4, o4, none⟩) ST.length c5, c6_, .int .i64 last, .int .i64 (k : Int), u9, u10, u11, u12, u13, c14_, c15_, c16_, c17_, c18_, c19_, c20_, c21_, c22_, c23_, c24_, c25_, c26_, c27_, c28_, c29_, c30_, c31_, c32_, c33_, c34_, c35_, c36_, c37_, c38_, c39_, c40_, c41_, c42_, u43, u44, u45, u46, u47, u48, u49, u50, u51, u52, u53, u54, u55, u56, u57, u58, u59, u60, u61, u62, u63, u64, u65, u66, u67, u68, u69, u70, u71, u72, u73, u74, u75, u76, u77, u78, u79, u80, u81, u82, u83, u84, u85, u86, u87, u88, u89, u90, u91, u92, u93, u94, u95, u96, u97, u98, u99, u100, u101, u102, u103, u104, u105, u106, u107, u108, u109, u110, u111, u112, u113, u114, u115, u116, u117, u118, u119, u120, u121, u122, u123, u124, u125, u126, u127, u128, u129, u130, u131, u132, u133, u134, u135, u136, u137, u138, u139, u140, u141, u142, u143, u144, u145, u146, u147, u148, u149, u150, u151, u152, u153, u154, u155, u156, u157, u158, u159, u160, u161, u162, u163, u164, u165, u166, u167, u168, u169, u170, u171, u172, u173, u174, u175, u176, u177, u178, u179, u180, u181, u182, u183, u184, u185, u186, u187, u188, u189, u190, u191, u192, u193, u194, u195, u196, u197, u198, u199, u200, u201, u202, u203, u204, u205, u206, u207, u208, u209, u210, u211, u212, u213, u214, u215, u216, u217, u218, u219, u220, u221, u222, u223, u224, u225, u226, u227, u228], []⟩ wr) Q0) ⟨#[.string s, c1_, u2, .slice a1 ls.length c1, c4_, .slice (some ⟨b4, o4, none⟩) ST.length c5, c6_, .int .i64 last, .int .i64 (k : Int), u9, u10, u11, u12, u13, c14_, c15_, c16_, c17_, c18_, c19_, c20_, c21_, c22_, c23_, c24_, c25_, c26_, c27_, c28_, c29_, c30_, c31_, c32_, c33_, c34_, c35_, c36_, c37_, c38_, c39_, c40_, c41_, c42_, u43, u44, u45, u46, u47, u48, u49, u50, u51, u52, u53, u54, u55, u56, u57, u58, u59, u60, u61, u62, u63, u64, u65, u66, u67, u68, u69, u70, u71, u72, u73, u74, u75, u76, u77, u78, u79, u80, u81, u82, u83, u84, u85, u86, u87, u88, u89, u90, u91, u92, u93, u94, u95, u96, u97, u98, u99, u100, u101, u102, u103, u104, u105, u106, u107, u108, u109, u110, u111, u112, u113, u114, u115, u116, u117, u118, u119, u120, u121, u122, u123, u124, u125, u126, u127, u128, u129, u130, u131, u132, u133, u134, u135, u136, u137, u138, u139, u140, u141, u142, u143, u144, u145, u146, u147, u148, u149, u150, u151, u152, u153, u154, u155, u156, u157, u158, u159, u160, u161, u162, u163, u164, u165, u166, u167, u168, u169, u170, u171, u172, u173, u174, u175, u176, u177, u178, u179, u180, u181, u182, u183, u184, u185, u186, u187, u188, u189, u190, u191, u192, u193, u194, u195, u196, u197, u198, u199, u200, u201, u202, u203, u204, u205, u206, u207, u208, u209, u210, u211, u212, u213, u214, u215, u216, u217, u218, u219, u220, u221, u222, u223, u224, u225, u226, u227, u228], []⟩ wr := by
  conv => arg 2; whnf
  obtain ⟨hsm, hsl, hsa, hS3, hL3, hz, hln⟩ := hx
  have HSA : Hid _ := hsa
  clear hsa
  have i2 : (k : Int) < (ls.length : Int) := by omega
  have i3 : (k : Int) ≤ 98304 := by omega
  obtain ⟨x, hx⟩ : ∃ x, ls[k]? = some x := ⟨_, List.getElem?_eq_getElem hlt⟩
  have hgd : (ls.map (Lx.toldL (bs s))).getD k Lx.noL = Lx.toldL (bs s) x := by simp [List.getD, hx]
  have hdr : ls.drop k = x :: ls.drop (k + 1) := by
    rw [List.drop_eq_getElem_cons hlt]
    rw [List.getElem?_eq_getElem hlt] at hx
    simp only [Option.some.injEq] at hx
    rw [hx]
  rw [hdr] at HRW
  obtain ⟨r1, r2, r3, r4, r5, r6, q', r7, r8, r9⟩ := HRW
  rw [bs_length] at r3
  have htm := Lx.tot_mem (List.mem_of_getElem? hx)
  have hwl := Lx.wsum_len x.words
  clear hdr hx
  obtain ⟨b, o, c, ad, c2, e, hb, p0w, p1w, p2w, hW⟩ := hL3.at k (by rw [List.length_map]; exact hlt)
  simp only [Value.slice.injEq, List.length_map] at e
  obtain ⟨rfl, -, rfl⟩ := e
  have p0 := (hB.cell (p := ⟨b, o + k * 3, none⟩) hb).trans p0w
  have p1 := (hB.cell (p := ⟨b, o + k * 3 + 1, none⟩) hb).trans p1w
  have p2 := (hB.cell (p := ⟨b, o + k * 3 + 2, none⟩) hb).trans p2w
  clear p0w p1w p2w
  rw [hgd] at p0 p1 p2 hW
  obtain ⟨t1, t2, t3⟩ := HSA.out x.at_ (by omega)
  rw [place_begin s r2 (by omega), Nat.sub_zero] at t3
  obtain ⟨xa, xi, xw⟩ := x
  simp only [Lx.toldL, List.length_map] at p0 p1 p2 hW r1 r2 r3 r4 r5 r6 r7 r8 t1 t2 t3 htm hwl
  obtain ⟨m, hm⟩ : ∃ m, (Lx.place (bs s) xa).1 = m + 1 := ⟨(Lx.place (bs s) xa).1 - 1, by omega⟩
  have HM : Hid _ := hm
  rw [hm] at p0 t2 t3
  rw [Nat.add_sub_cancel] at t3
  clear hm t1
  have P0 : wr.cell? ⟨b, o + k * 3, none⟩ = some (.int .i64 ((m : Int) + 1)) := p0
  obtain ⟨b4', o4', c4, e4, hb4, s0⟩ := IntR.at (hS3.below hB (Nat.le_refl _)) m (by omega)
  rw [t3] at s0
  simp only [Value.slice.injEq, Option.some.injEq, Addr.mk.injEq] at e4
  obtain ⟨⟨rfl, rfl, -⟩, -, -⟩ := e4
  obtain ⟨hne, hok⟩ := r5
  simp only at hne hok
  have hwpos := List.length_pos_iff.2 hne
  obtain ⟨u0, hu0⟩ : ∃ u, xw[0]? = some u := ⟨_, List.getElem?_eq_getElem hwpos⟩
  have hl0 : xa ≤ u0.at_ := by
    cases xw with
    | nil => simp at hu0
    | cons y r =>
      simp only [List.getElem?_cons_zero, Option.some.injEq] at hu0
      rw [← hu0]; exact r6.1
  have hg0 : (xw.map (Lx.told (bs s))).getD 0 Lx.noV = Lx.told (bs s) u0 := by simp [List.getD, hu0]
  have hW0 := hW.below hB (Nat.le_refl _)
  obtain ⟨b2, o2, c3, e, hb2, -, q1, -, -, -⟩ := WdR.at hW0 0 (by rw [List.length_map]; exact hwpos)
  rw [hg0] at q1
  simp only [Value.slice.injEq, List.length_map] at e
  obtain ⟨rfl, -, rfl⟩ := e
  obtain ⟨n0, hn0⟩ : ∃ n, (Lx.place (bs s) u0.at_).1 = n := ⟨_, rfl⟩
  have hmn : m + 1 ≤ n0 := by
    have := place_mono (bs s) hl0
    rw [HM.out, hn0] at this
    exact this
  have Q1 : wr.cell? ⟨b2, o2 + 1, none⟩ = some (.int .i64 (n0 : Int)) := by
    rw [show o2 + 0 * 5 + 1 = o2 + 1 by omega] at q1
    rw [q1]
    show some (Value.int .i64 ((Lx.place (bs s) u0.at_).1 : Int)) = _
    rw [hn0]
  have j0 : ((xw.length : Int) == 0) = false := by rw [beq_eq_false_iff_ne]; omega
  have j1 : (0 : Int) < (xw.length : Int) := by omega
  have j2 : ¬ (m : Int) + 1 < 1 := by omega
  have j3 : ¬ (n0 : Int) < (m : Int) + 1 := by omega
  have j4 : (m : Int) < (ST.length : Int) := by omega
  have j5 : (xa : Int) < (s.size : Int) := by omega
  have j6 : (m : Int) ≤ 32768 := by omega
  have HR6 : Hid _ := r6
  have HR8 : Hid _ := r8
  have HR9 : Hid _ := r9
  have HW : Hid _ := hW
  have HTT : Hid (Lx.wsum xw ≤ 98304) := by show _ ≤ _; omega
  clear q1 hW0 hu0 hg0 hn0 hl0 r6 r8 r9 hW hok hne hwl p0 t3 hgd r2 htm
  have hxi : xi = decide (s[xa] = 9) := by
    have e : (bs s)[xa]? = some s[xa] := by rw [List.getElem?_eq_getElem (by rw [bs_length]; exact r3)]; rfl
    rw [e] at r4
    cases xi with
    | true => exact (decide_eq_true (by simpa using r4.1 rfl)).symm
    | false => exact (decide_eq_false (fun h => by simpa using r4.2 (by rw [h]))).symm
  have e9 : ((s[xa].toNat : Int) == 9) = xi := by
    rw [hxi]
    exact beq_lit s[xa] 9
  have e9' : (xi == xi) = true := by simp
  clear hxi r4
  go_upto_region 16 with fail
  go_quiet (fail)
  have hBA : Below W3.heap.size W3 (wr.drewN nq) := below_drewN hB _
  have P2 : (wr.drewN nq).cell? ⟨b, o + k * 3 + 2, none⟩ = some (.slice (some ⟨b2, o2, none⟩) xw.length c2) := p2
  clear p1 p2 P0 s0 Q1 e9' hB
  generalize wr.drewN nq = WA at *
  go_wp2
  clear P2
  refine st_loop s W3 ST _ _ _ _ _ _ xw q' ?_ _ _ _ _ _ _ _ _ _ _ _ _ _ _ _ _ _ _ _ _ _ _ _ _ _ _ _ _ _ _ _ _ _ _ _ _ _ _ _ _ _ _ _ _ _ _ _ _ _ _ _ _ _ _ _ _ _ _ _ _ _ _ _ _ _ _ _ _ _ _ _ _ _ _ _ _ _ _ _ _ _ _ _ _ _ _ _ _ _ _ _ _ _ _ _ _ _ _ _ _ _ _ _ _ _ _ _ _ _ _ _ _ _ _ _ _ _ _ _ _ _ _ _ _ _ _ _ _ _ _ _ _ _ _ _ _ _ _ _ _ _ _ _ _ _ _ _ _ _ _ _ _ _ _ _ _ _ _ _ _ _ _ _ _ _ _ _ _ _ _ _ _ _ _ _ _ _ _ _ _ _ _ _ _ _ _ _ _ _ _ _ _ _ _ _ _ _ _ _ _ _ _ _ _ _ _ _ _ _ _ _ _ _ _ _ _ _ _ _ _ _ _ _ _ _ _ _ ?_ ?_
  · exact ⟨hsm, hsl, HSA.out, hS3, HW.out, HR8.out, HTT.out⟩
  · exact ⟨0, xa, last, Nat.zero_le _, rfl, rfl, hla1, by omega, by omega, HR6.out, hBA⟩
  intro a' w'' hX
  clear HR6 hBA hla1 hla2
  unfold StWX at hX
  obtain ⟨u2, hX⟩ := hX
  obtain ⟨u7, hX⟩ := hX
  obtain ⟨u10, hX⟩ := hX
  obtain ⟨u11, hX⟩ := hX
  obtain ⟨u12, hX⟩ := hX
  obtain ⟨u13, hX⟩ := hX
  obtain ⟨u106, hX⟩ := hX
  obtain ⟨u107, hX⟩ := hX
  obtain ⟨u108, hX⟩ := hX
  obtain ⟨u109, hX⟩ := hX
  obtain ⟨u110, hX⟩ := hX
  obtain ⟨u111, hX⟩ := hX
  obtain ⟨u112, hX⟩ := hX
  obtain ⟨u113, hX⟩ := hX
  obtain ⟨u114, hX⟩ := hX
  obtain ⟨u115, hX⟩ := hX
  obtain ⟨u116, hX⟩ := hX
  obtain ⟨u117, hX⟩ := hX
  obtain ⟨u118, hX⟩ := hX
  obtain ⟨u119, hX⟩ := hX
  obtain ⟨u120, hX⟩ := hX
  obtain ⟨u121, hX⟩ := hX
  obtain ⟨u122, hX⟩ := hX
  obtain ⟨u123, hX⟩ := hX
  obtain ⟨u124, hX⟩ := hX
  obtain ⟨u125, hX⟩ := hX
  obtain ⟨u126, hX⟩ := hX
  obtain ⟨u127, hX⟩ := hX
  obtain ⟨u128, hX⟩ := hX
  obtain ⟨u129, hX⟩ := hX
  obtain ⟨u130, hX⟩ := hX
  obtain ⟨u131, hX⟩ := hX
  obtain ⟨u132, hX⟩ := hX
  obtain ⟨u133, hX⟩ := hX
  obtain ⟨u134, hX⟩ := hX
  obtain ⟨u135, hX⟩ := hX
  obtain ⟨u136, hX⟩ := hX
  obtain ⟨u137, hX⟩ := hX
  obtain ⟨u138, hX⟩ := hX
  obtain ⟨u139, hX⟩ := hX
  obtain ⟨u140, hX⟩ := hX
  obtain ⟨u141, hX⟩ := hX
  obtain ⟨u142, hX⟩ := hX
  obtain ⟨u143, hX⟩ := hX
  obtain ⟨u144, hX⟩ := hX
  obtain ⟨u145, hX⟩ := hX
  obtain ⟨u146, hX⟩ := hX
  obtain ⟨u147, hX⟩ := hX
  obtain ⟨u148, hX⟩ := hX
  obtain ⟨u149, hX⟩ := hX
  obtain ⟨u150, hX⟩ := hX
  obtain ⟨u151, hX⟩ := hX
  obtain ⟨u152, hX⟩ := hX
  obtain ⟨u153, hX⟩ := hX
  obtain ⟨u154, hX⟩ := hX
  obtain ⟨u155, hX⟩ := hX
  obtain ⟨u156, hX⟩ := hX
  obtain ⟨u157, hX⟩ := hX
  obtain ⟨u158, hX⟩ := hX
  obtain ⟨u159, hX⟩ := hX
  obtain ⟨u160, hX⟩ := hX
  obtain ⟨u161, hX⟩ := hX
  obtain ⟨u162, hX⟩ := hX
  obtain ⟨u163, hX⟩ := hX
  obtain ⟨u164, hX⟩ := hX
  obtain ⟨u165, hX⟩ := hX
  obtain ⟨u166, hX⟩ := hX
  obtain ⟨u167, hX⟩ := hX
  obtain ⟨u168, hX⟩ := hX
  obtain ⟨u169, hX⟩ := hX
  obtain ⟨u170, hX⟩ := hX
  obtain ⟨u171, hX⟩ := hX
  obtain ⟨u172, hX⟩ := hX
  obtain ⟨u173, hX⟩ := hX
  obtain ⟨u174, hX⟩ := hX
  obtain ⟨u175, hX⟩ := hX
  obtain ⟨u176, hX⟩ := hX
  obtain ⟨u177, hX⟩ := hX
  obtain ⟨u178, hX⟩ := hX
  obtain ⟨u179, hX⟩ := hX
  obtain ⟨u180, hX⟩ := hX
  obtain ⟨u181, hX⟩ := hX
  obtain ⟨u182, hX⟩ := hX
  obtain ⟨u183, hX⟩ := hX
  obtain ⟨u184, hX⟩ := hX
  obtain ⟨u185, hX⟩ := hX
  obtain ⟨u186, hX⟩ := hX
  obtain ⟨u187, hX⟩ := hX
  obtain ⟨u188, hX⟩ := hX
  obtain ⟨u189, hX⟩ := hX
  obtain ⟨u190, hX⟩ := hX
  obtain ⟨u191, hX⟩ := hX
  obtain ⟨u192, hX⟩ := hX
  obtain ⟨u193, hX⟩ := hX
  obtain ⟨u194, hX⟩ := hX
  obtain ⟨u195, hX⟩ := hX
  obtain ⟨u196, hX⟩ := hX
  obtain ⟨u197, hX⟩ := hX
  obtain ⟨u198, hX⟩ := hX
  obtain ⟨u199, hX⟩ := hX
  obtain ⟨u200, hX⟩ := hX
  obtain ⟨u201, hX⟩ := hX
  obtain ⟨u202, hX⟩ := hX
  obtain ⟨u203, hX⟩ := hX
  obtain ⟨u204, hX⟩ := hX
  obtain ⟨u205, hX⟩ := hX
  obtain ⟨u206, hX⟩ := hX
  obtain ⟨u207, hX⟩ := hX
  obtain ⟨u208, hX⟩ := hX
  obtain ⟨u209, hX⟩ := hX
  obtain ⟨u210, hX⟩ := hX
  obtain ⟨u211, hX⟩ := hX
  obtain ⟨u212, hX⟩ := hX
  obtain ⟨u213, hX⟩ := hX
  obtain ⟨u214, hX⟩ := hX
  obtain ⟨u215, hX⟩ := hX
  obtain ⟨u216, hX⟩ := hX
  obtain ⟨u217, hX⟩ := hX
  obtain ⟨u218, hX⟩ := hX
  obtain ⟨u219, hX⟩ := hX
  obtain ⟨u220, hX⟩ := hX
  obtain ⟨u221, hX⟩ := hX
  obtain ⟨u222, hX⟩ := hX
  obtain ⟨u223, hX⟩ := hX
  obtain ⟨u224, hX⟩ := hX
  obtain ⟨u225, hX⟩ := hX
  obtain ⟨u226, hX⟩ := hX
  obtain ⟨u227, hX⟩ := hX
  obtain ⟨u228, hX⟩ := hX
  obtain ⟨⟨la, e7, hl1, hl3, hBn⟩, ea⟩ := hX
  subst e7
  subst ea
  go_wp2
  refine ⟨?_, by simp [SbMu, intOf]; omega⟩
  unfold SbWI
  exact ⟨_, _, _, _, _, _, _, _, _, _, _, _, _, _, _, _, _, _, _, _, _, _, _, _, _, _, _, _, _, _, _, _, _, _, _, _, _, _, _, _, _, _, _, _, _, _, _, _, _, _, _, _, _, _, _, _, _, _, _, _, _, _, _, _, _, _, _, _, _, _, _, _, _, _, _, _, _, _, _, _, _, _, _, _, _, _, _, _, _, _, _, _, _, _, _, _, _, _, _, _, _, _, _, _, _, _, _, _, _, _, _, _, _, _, _, _, _, _, _, _, _, _, _, _, _, _, _, _, _, _, _, _, _, _, _, _, _, _, _, _, _, _, _, _, _, _, _, _, _, _, _, _, _, _, _, _, _, _, _, _, _, _, _, _, _, _, _, _, _, _, _, _, _, _, _, _, _, _, _, _, _, _, _, _, _, _, _, _, _, _, _, _, _, _, ⟨k + 1, q', la, by omega, by first | rfl | go_num, rfl, hl1, hl3, HR9.out, hBn⟩, rfl⟩


end Go.Proofs.Ytdknggccjhillaa
