/-
  LexStands ANSWERS true.
-/
import Derived.Test.YtdknggccjhillaaLBack
import Derived.Test.YtdknggccjhillaaZPlace
import Derived.BigQuiet
namespace Go.Proofs.Ytdknggccjhillaa
open Go.RowKit

/-- rows of numbers -/
def IntR : Rc Nat where
  e := 3
  st := 49
  k := 1
  bytes := 8
  z := .int .i64 0
  enc n := [.int .i64 (n : Int)]
  pos := by decide
  len _ := rfl
  one f u hu := by
    simp only [List.mem_cons, List.not_mem_nil, or_false] at hu
    rcases hu with rfl
    rfl
  info := by kernel_rfl
  under := Try.underlying49
  zk := rfl
  small := by decide
theorem IntR.at {w : World} {B : Nat} {v : Value} {l : List Nat} (h : IntR.Sl w B v l) (j : Nat) (hj : j < l.length) :
    ∃ b o c, v = .slice (some ⟨b, o, none⟩) l.length c ∧ b < B ∧ w.cell? ⟨b, o + j, none⟩ = some (.int .i64 (l.getD j 0 : Int)) := by
  obtain ⟨b, o, c, rfl, hb, hc⟩ := h.cells j hj
  have e : l.getD j 0 = l[j] := by simp [List.getD, List.getElem?_eq_getElem hj]
  rw [e]
  have := hc 0 (.int .i64 (l[j] : Int)) (by decide) rfl
  rw [show o + (j * IntR.k + 0) = o + j from by show o + (j * 1 + 0) = o + j; omega] at this
  exact ⟨b, o, c, rfl, hb, this⟩

/-- where the lines of a text's first k bytes begin -/
def starts (s : ByteArray) : Nat → List Nat
  | 0 => [0]
  | k + 1 => starts s k ++ (if s.data[k]? = some 10 then [k + 1] else [])
theorem byte_some (s : ByteArray) (k : Nat) (h : k < s.size) : s.data[k]? = some s[k] := by
  rw [Array.getElem?_eq_getElem h]; rfl
theorem starts_last (s : ByteArray) : ∀ k, k ≤ s.size → (starts s k).length = (Lx.place (bs s) k).1 ∧ (starts s k)[(Lx.place (bs s) k).1 - 1]? = some (k - (Lx.place (bs s) k).2)
  | 0, _ => by simp [starts, Lx.place]
  | k + 1, h => by
    obtain ⟨h1, h2⟩ := starts_last s k (by omega)
    have hst := place_step s k (by omega)
    have hle := place_le s k
    have hb := byte_some s k (by omega)
    rw [starts, hb]
    by_cases hx : s[k] = 10
    · rw [if_pos hx] at hst
      rw [hst, if_pos (by rw [hx]), List.length_append, h1]
      refine ⟨rfl, ?_⟩
      show (starts s k ++ [k + 1])[(Lx.place (bs s) k).1 + 1 - 1]? = some (k + 1 - 0)
      rw [Nat.add_sub_cancel, List.getElem?_append_right (by omega), h1]
      simp
    · rw [if_neg hx] at hst
      rw [hst, if_neg (by simpa using hx), List.append_nil, h1]
      refine ⟨rfl, ?_⟩
      show (starts s k)[(Lx.place (bs s) k).1 - 1]? = some (k + 1 - ((Lx.place (bs s) k).2 + 1))
      rw [h2]
      congr 1
      omega
theorem starts_more (s : ByteArray) (k : Nat) : ∀ n, k ≤ n → ∃ r, starts s n = starts s k ++ r
  | 0, h => ⟨[], by rw [show k = 0 by omega, List.append_nil]⟩
  | n + 1, h => by
    rcases Nat.lt_or_ge n k with hlt | hge
    · exact ⟨[], by rw [show k = n + 1 by omega, List.append_nil]⟩
    · obtain ⟨r, hr⟩ := starts_more s k n hge
      exact ⟨r ++ (if s.data[n]? = some 10 then [n + 1] else []), by rw [starts, hr, List.append_assoc]⟩
theorem starts_len (s : ByteArray) : ∀ k, 1 ≤ (starts s k).length ∧ (starts s k).length ≤ k + 1
  | 0 => by simp [starts]
  | k + 1 => by
    have := starts_len s k
    rw [starts, List.length_append]
    have : (if s.data[k]? = some 10 then [k + 1] else ([] : List Nat)).length ≤ 1 := by split <;> simp
    omega
/-- the line's beginning of a place -/
theorem starts_at (s : ByteArray) (a : Nat) (h : a ≤ s.size) : 1 ≤ (Lx.place (bs s) a).1 ∧ (Lx.place (bs s) a).1 ≤ (starts s s.size).length ∧ (starts s s.size).getD ((Lx.place (bs s) a).1 - 1) 0 = a - (Lx.place (bs s) a).2 := by
  obtain ⟨h1, h2⟩ := starts_last s a h
  obtain ⟨r, hr⟩ := starts_more s a s.size h
  have hl := starts_len s a
  refine ⟨by omega, by rw [hr, List.length_append]; omega, ?_⟩
  rw [hr, List.getD, List.getElem?_append_left (by omega), h2]
  rfl
theorem place_mono (t : List UInt8) {a b : Nat} (h : a ≤ b) : (Lx.place t a).1 ≤ (Lx.place t b).1 := by
  unfold Lx.place
  have : (t.take a).count 10 ≤ (t.take b).count 10 := by
    apply List.Sublist.count_le
    exact (List.take_prefix_take_left h).sublist
  show _ + 1 ≤ _ + 1
  omega
/-- at a line's beginning there is no byte ahead in it -/
theorem place_begin (s : ByteArray) {a : Nat} (h : Lx.Begins (bs s) a) (ha : a ≤ s.size) : (Lx.place (bs s) a).2 = 0 := by
  rcases h with rfl | ⟨q, rfl, hq⟩
  · simp [Lx.place]
  · have hq' : q < s.size := by omega
    rw [place_step s q hq']
    have : s[q] = 10 := by
      have h2 := hq
      rw [List.getElem?_eq_getElem (by rw [bs_length]; exact hq')] at h2
      simp only [Option.some.injEq] at h2
      exact h2
    rw [if_pos this]

/-- the loops of a code, the outer ones first -/
def loopsOf : Code → List Code
  | .loop c => c :: loopsOf c
  | .seq a b => loopsOf a ++ loopsOf b
  | .block _ c => loopsOf c
  | .scope c => loopsOf c
  | .cond _ a b => loopsOf a ++ loopsOf b
  | _ => []
noncomputable def stBody : Code := ((Try.f10.body.map loopsOf).getD []).getD 2 .skip
/-- what a line's words are held against -/
structure StCtx (s : ByteArray) (W3 : World) (ST : List Nat) (b4 o4 c5 b2 o2 c2 : Nat) (xw : List (Lx.W Nat)) (q' : Nat) : Prop where
  sm : s.size ≤ 32768
  sl : ST.length ≤ s.size + 1
  sa : ∀ a, a ≤ s.size → 1 ≤ (Lx.place (bs s) a).1 ∧ (Lx.place (bs s) a).1 ≤ ST.length ∧ ST.getD ((Lx.place (bs s) a).1 - 1) 0 = a - (Lx.place (bs s) a).2
  st : IntR.Sl W3 W3.heap.size (.slice (some ⟨b4, o4, none⟩) ST.length c5) ST
  ws : WdR.Sl W3 W3.heap.size (.slice (some ⟨b2, o2, none⟩) xw.length c2) (xw.map (Lx.told (bs s)))
  lt : ∀ w ∈ xw, w.at_ < q'
  tot : Lx.wsum xw ≤ 98304
def StRel (s : ByteArray) (W3 : World) (_ : List Nat) (_ _ _ _ _ _ : Nat) (xw : List (Lx.W Nat)) (q' : Nat) (la i : Value) (w' : World) : Prop := ∃ (n p : Nat) (last : Int), n ≤ xw.length ∧ i = .int .i64 (n : Int) ∧ la = .int .i64 last ∧ -1 ≤ last ∧ last < (p : Int) ∧ last < (q' : Int) ∧ Lx.Row (bs s) p (xw.drop n) ∧ Below W3.heap.size W3 w'
set_option maxRecDepth 1000000 in
def StWI (s : ByteArray) (W3 : World) (ST : List Nat) (b4 o4 c5 b2 o2 c2 : Nat) (xw : List (Lx.W Nat)) (q' : Nat) (c1_ c3_ c4_ c6_ c8_ c9_ c14_ c15_ c16_ c17_ c18_ c19_ c20_ c21_ c22_ c23_ c24_ c25_ c26_ c27_ c28_ c29_ c30_ c31_ c32_ c33_ c34_ c35_ c36_ c37_ c38_ c39_ c40_ c41_ c42_ c43_ c44_ c45_ c46_ c47_ c48_ c49_ c50_ c51_ c52_ c53_ c54_ c55_ c56_ c57_ c58_ c59_ c60_ c61_ c62_ c63_ c64_ c65_ c66_ c67_ c68_ c69_ c70_ c71_ c72_ c73_ c74_ c75_ c76_ c77_ c78_ c79_ c80_ c81_ c82_ c83_ c84_ c85_ c86_ c87_ c88_ c89_ c90_ c91_ c92_ c93_ c94_ c95_ c96_ c97_ c98_ c99_ c100_ c101_ c102_ c103_ : Value) (a : Act) (w' : World) : Prop := ∃ u2 u7 u10 u11 u12 u13 u106 u107 u108 u109 u110 u111 u112 u113 u114 u115 u116 u117 u118 u119 u120 u121 u122 u123 u124 u125 u126 u127 u128 u129 u130 u131 u132 u133 u134 u135 u136 u137 u138 u139 u140 u141 u142 u143 u144 u145 u146 u147 u148 u149 u150 u151 u152 u153 u154 u155 u156 u157 u158 u159 u160 u161 u162 u163 u164 u165 u166 u167 u168 u169 u170 u171 u172 u173 u174 u175 u176 u177 u178 u179 u180 u181 u182 u183 u184 u185 u186 u187 u188 u189 u190 u191 u192 u193 u194 u195 u196 u197 u198 u199 u200 u201 u202 u203 u204 u205 u206 u207 u208 u209 u210 u211 u212 u213 u214 u215 u216 u217 u218 u219 u220 u221 u222 u223 u224 u225 u226 u227 u228 : Value, StRel s W3 ST b4 o4 c5 b2 o2 c2 xw q' u7 u106 w' ∧ a = ⟨#[.string s, c1_, u2, c3_, c4_, .slice (some ⟨b4, o4, none⟩) ST.length c5, c6_, u7, c8_, c9_, u10, u11, u12, u13, c14_, c15_, c16_, c17_, c18_, c19_, c20_, c21_, c22_, c23_, c24_, c25_, c26_, c27_, c28_, c29_, c30_, c31_, c32_, c33_, c34_, c35_, c36_, c37_, c38_, c39_, c40_, c41_, c42_, c43_, c44_, c45_, c46_, c47_, c48_, c49_, c50_, c51_, c52_, c53_, c54_, c55_, c56_, c57_, c58_, c59_, c60_, c61_, c62_, c63_, c64_, c65_, c66_, c67_, c68_, c69_, c70_, c71_, c72_, c73_, c74_, c75_, c76_, c77_, c78_, c79_, c80_, c81_, c82_, c83_, c84_, c85_, c86_, c87_, c88_, c89_, c90_, c91_, c92_, c93_, c94_, c95_, c96_, c97_, c98_, c99_, c100_, c101_, c102_, c103_, .slice (some ⟨b2, o2, none⟩) xw.length c2, .int .i64 (xw.length : Int), u106, u107, u108, u109, u110, u111, u112, u113, u114, u115, u116, u117, u118, u119, u120, u121, u122, u123, u124, u125, u126, u127, u128, u129, u130, u131, u132, u133, u134, u135, u136, u137, u138, u139, u140, u141, u142, u143, u144, u145, u146, u147, u148, u149, u150, u151, u152, u153, u154, u155, u156, u157, u158, u159, u160, u161, u162, u163, u164, u165, u166, u167, u168, u169, u170, u171, u172, u173, u174, u175, u176, u177, u178, u179, u180, u181, u182, u183, u184, u185, u186, u187, u188, u189, u190, u191, u192, u193, u194, u195, u196, u197, u198, u199, u200, u201, u202, u203, u204, u205, u206, u207, u208, u209, u210, u211, u212, u213, u214, u215, u216, u217, u218, u219, u220, u221, u222, u223, u224, u225, u226, u227, u228], []⟩
def StMu (xw : List (Lx.W Nat)) (a : Act) (_ : World) : Nat := xw.length - (intOf (a.tmps.getD 106 undef)).toNat

end Go.Proofs.Ytdknggccjhillaa
