/-
  LexTwo ANSWERS true.
-/
import Derived.Test.YtdknggccjhillaaLBack
import Derived.Test.YtdknggccjhillaaZFocus
import Derived.Test.YtdknggccjhillaaXBad
import Derived.Deep.RegionHeld3
namespace Go.Proofs.Ytdknggccjhillaa
open Go.RowKit

/-- so many lines further down -/
def Lx.shiftV (d : Int) (v : Lx.V) : Lx.V := ⟨v.text, v.line + d, v.col, v.quoted, v.mark⟩
def Lx.shiftL (d : Int) (x : Lx.L) : Lx.L := ⟨x.num + d, x.ind, x.words.map (Lx.shiftV d)⟩
/-- the same words at other lines -/
def Lx.moveL (d : Int) (x : Lx.L) : Lx.L := ⟨x.num, x.ind, x.words.map (Lx.shiftV d)⟩
theorem row_lt {t : List UInt8} : ∀ {p : Nat} {ws : List (Lx.W Nat)}, Lx.Row t p ws → ∀ w ∈ ws, w.at_ < t.length
  | _, [], _, _, h => by cases h
  | _, u :: r, h, w, hw => by
    rcases List.mem_cons.1 hw with rfl | hw
    · exact h.2.1.lt
    · exact row_lt h.2.2 w hw
theorem rows_lt {t : List UInt8} : ∀ {p : Nat} {ls : List (Lx.Ln Nat)}, Lx.Rows t p ls → ∀ x ∈ ls, x.at_ < t.length ∧ (∀ w ∈ x.words, w.at_ < t.length) ∧ x.words ≠ []
  | _, [], _, _, h => by cases h
  | _, l :: r, h, x, hx => by
    obtain ⟨-, -, h3, -, h5, h6, q, -, -, h9⟩ := h
    rcases List.mem_cons.1 hx with rfl | hx
    · exact ⟨h3, row_lt h6, h5.1⟩
    · exact rows_lt h9 x hx
theorem told_low {a c : List UInt8} {x : Lx.Ln Nat} (h : x.at_ < a.length ∧ (∀ w ∈ x.words, w.at_ < a.length) ∧ x.words ≠ []) : Lx.toldL (a ++ c) x = Lx.toldL a x := by
  unfold Lx.toldL
  rw [Lx.place_low (by omega)]
  congr 1
  apply List.map_congr_left
  intro w hw
  unfold Lx.told
  rw [Lx.place_low (by have := h.2.1 w hw; omega)]
theorem told_high (a b : List UInt8) (x : Lx.Ln Nat) : Lx.toldL (a ++ 10 :: b) (x.map (· + (a.length + 1))) = Lx.shiftL ((a.count 10 + 1 : Nat) : Int) (Lx.toldL b x) := by
  unfold Lx.toldL Lx.shiftL Lx.Ln.map
  simp only [Lx.place_high, List.map_map]
  congr 1
  apply List.map_congr_left
  intro w _
  simp only [Function.comp, Lx.told, Lx.W.map, Lx.shiftV, Lx.place_high]
  congr 1
/-- the lines of both texts, as they are told -/
theorem told_two {a b : List UInt8} {l m : List (Lx.Ln Nat)} (hl : Lx.lex a = .ok l) : (l ++ m.map (Lx.Ln.map (· + (a.length + 1)))).map (Lx.toldL (a ++ 10 :: b)) = l.map (Lx.toldL a) ++ (m.map (Lx.toldL b)).map (Lx.shiftL ((a.count 10 + 1 : Nat) : Int)) := by
  rw [List.map_append, List.map_map, List.map_map]
  congr 1
  · exact List.map_congr_left fun x hx => told_low (rows_lt (Lx.lex_stands hl) x hx)
  · exact List.map_congr_left fun x _ => told_high a b x
theorem bare_shift (d : Int) (M : List Lx.L) : (M.map (Lx.shiftL d)).map Lx.bareL = (M.map (Lx.moveL d)).map Lx.bareL := by
  rw [List.map_map, List.map_map]
  rfl

theorem lns_step {M : List Lx.L} {d : Int} {i : Nat} (hi : i < M.length) : ((M.take i).map (Lx.moveL d) ++ M.drop i).set i ⟨(M.getD i Lx.noL).num, (M.getD i Lx.noL).ind, (M.getD i Lx.noL).words.map (Lx.shiftV d)⟩ = (M.take (i + 1)).map (Lx.moveL d) ++ M.drop (i + 1) := by
  have e : M.getD i Lx.noL = M[i] := by simp [List.getD, List.getElem?_eq_getElem hi]
  rw [e, List.set_append_right _ _ (by rw [List.length_map, List.length_take]; omega), List.length_map, List.length_take, Nat.min_eq_left (by omega), Nat.sub_self, List.drop_eq_getElem_cons hi, List.set_cons_zero, List.take_succ_eq_append_getElem hi, List.map_append, List.append_assoc]
  rfl
theorem lns_getD {M : List Lx.L} {d : Int} {i : Nat} (hi : i < M.length) : ((M.take i).map (Lx.moveL d) ++ M.drop i).getD i Lx.noL = M.getD i Lx.noL := by
  simp only [List.getD]
  rw [List.getElem?_append_right (by rw [List.length_map, List.length_take]; omega), List.length_map, List.length_take, Nat.min_eq_left (by omega), Nat.sub_self, List.getElem?_drop, Nat.add_zero]
theorem vs_step {M : List Lx.V} {d : Int} {i : Nat} (hi : i < M.length) : ((M.take i).map (Lx.shiftV d) ++ M.drop i).set i (Lx.shiftV d (M.getD i Lx.noV)) = (M.take (i + 1)).map (Lx.shiftV d) ++ M.drop (i + 1) := by
  have e : M.getD i Lx.noV = M[i] := by simp [List.getD, List.getElem?_eq_getElem hi]
  rw [e, List.set_append_right _ _ (by rw [List.length_map, List.length_take]; omega), List.length_map, List.length_take, Nat.min_eq_left (by omega), Nat.sub_self, List.drop_eq_getElem_cons hi, List.set_cons_zero, List.take_succ_eq_append_getElem hi, List.map_append, List.append_assoc]
  rfl
theorem vs_getD {M : List Lx.V} {d : Int} {i : Nat} (hi : i < M.length) : ((M.take i).map (Lx.shiftV d) ++ M.drop i).getD i Lx.noV = M.getD i Lx.noV := by
  simp only [List.getD]
  rw [List.getElem?_append_right (by rw [List.length_map, List.length_take]; omega), List.length_map, List.length_take, Nat.min_eq_left (by omega), Nat.sub_self, List.getElem?_drop, Nat.add_zero]
theorem vs_getD2 {M : List Lx.V} {d : Int} {i : Nat} (hi : i < M.length) : ((M.take (i + 1)).map (Lx.shiftV d) ++ M.drop (i + 1)).getD i Lx.noV = Lx.shiftV d (M.getD i Lx.noV) := by
  rw [← vs_step hi]
  simp only [List.getD]
  rw [List.getElem?_set_self (by rw [List.length_append, List.length_map, List.length_take, List.length_drop]; omega)]
  rfl
theorem half_len {γ : Type} (f : γ → γ) (M : List γ) {i : Nat} (hi : i ≤ M.length) : ((M.take i).map f ++ M.drop i).length = M.length := by
  rw [List.length_append, List.length_map, List.length_take, List.length_drop]; omega
/-- a word's line, set -/
theorem WdR.line {w : World} {base g cap n : Nat} {l : List Lx.V} (h : WdR.Own w base (.slice (some ⟨g, 0, none⟩) n cap) l) (k : Nat) (hk : k < l.length) :
    w.frozen? ⟨g, k * 5 + 1, none⟩ = false ∧ ∀ z : Int, WdR.Own (w.setCell ⟨g, k * 5 + 1, none⟩ (.int .i64 z)) base (.slice (some ⟨g, 0, none⟩) n cap) (l.set k ⟨(l.getD k Lx.noV).text, z, (l.getD k Lx.noV).col, (l.getD k Lx.noV).quoted, (l.getD k Lx.noV).mark⟩) := by
  obtain ⟨g', cap', e, -, -, hf, hs⟩ := h.set k 1 hk (by decide)
  simp only [Value.slice.injEq, Option.some.injEq, Addr.mk.injEq] at e
  obtain ⟨⟨rfl, -, -⟩, -, rfl⟩ := e
  have e2 : l.getD k Lx.noV = l[k] := by simp [List.getD, List.getElem?_eq_getElem hk]
  refine ⟨hf, fun z => ?_⟩
  rw [e2]
  exact hs _ _ rfl

theorem bs_two (a b : ByteArray) : bs (a ++ (⟨#[10]⟩ : ByteArray) ++ b) = bs a ++ 10 :: bs b := by simp [bs, ByteArray.data_append]
theorem size_two (a b : ByteArray) : (a ++ (⟨#[10]⟩ : ByteArray) ++ b).size = a.size + 1 + b.size := by
  rw [ByteArray.size_append, ByteArray.size_append]
  rfl
theorem last_not (s : ByteArray) (h : ¬ ∃ q, ∃ hq : q < s.size, s.size = q + 1 ∧ s[q] = 92) : (bs s).getLast? ≠ some 92 := by
  intro e
  rw [List.getLast?_eq_getElem?, bs_length] at e
  obtain ⟨h1, h2⟩ := List.getElem?_eq_some_iff.1 e
  rw [bs_length] at h1
  exact h ⟨s.size - 1, h1, by omega, h2⟩

/-- the words of these lines lie below a block -/
def MUp (w : World) (ad : Option Addr) (n U : Nat) : Prop := ∀ i, i < n → ∃ b g k c, ad = some ⟨b, 0, none⟩ ∧ w.cell? ⟨b, i * 3 + 2, none⟩ = some (.slice (some ⟨g, 0, none⟩) k c) ∧ g < U ∧ b < w.heap.size
theorem MUp.of {w : World} {base n c : Nat} {ad : Option Addr} {L : List Lx.L} (h : LnsOwn w base (.slice ad n c) L) (hne : ∀ x ∈ L, x.words ≠ []) (hn : n = L.length) : MUp w ad n w.heap.size := by
  intro i hi
  have hi' : i < L.length := by omega
  obtain ⟨b, c', g, cap, e, hbg, -, hg, -, -, p2, -, -⟩ := h.focus i hi' (hne _ (by simp [List.getD, List.getElem?_eq_getElem hi']))
  obtain ⟨b', o', c'', ad', c2, e', hb', -⟩ := h.s.at i hi'
  rw [e] at e'
  simp only [Value.slice.injEq, Option.some.injEq, Addr.mk.injEq] at e e'
  obtain ⟨⟨rfl, -, -⟩, -, -⟩ := e'
  exact ⟨b, g, _, cap, e.1, p2, hg, hb'⟩
theorem MUp.below {w w' : World} {ad : Option Addr} {n U : Nat} (h : MUp w ad n U) (hb : Below w.heap.size w w') : MUp w' ad n U := by
  intro i hi
  obtain ⟨b, g, k, c, e, p, hg, hl⟩ := h i hi
  exact ⟨b, g, k, c, e, (hb.cell (p := ⟨b, i * 3 + 2, none⟩) hl).trans p, hg, Nat.lt_of_lt_of_le hl hb.size⟩
theorem MUp.mono {w : World} {ad : Option Addr} {n U U' : Nat} (h : MUp w ad n U) (hU : U ≤ U') : MUp w ad n U' := by
  intro i hi
  obtain ⟨b, g, k, c, e, p, hg, hl⟩ := h i hi
  exact ⟨b, g, k, c, e, p, Nat.lt_of_lt_of_le hg hU, hl⟩
theorem MUp.turn {w w' : World} {b g : Nat} {n U : Nat} (h : MUp w (some ⟨b, 0, none⟩) n U) (ht : Turn [g] w w') (hbg : b ≠ g) : MUp w' (some ⟨b, 0, none⟩) n U := by
  intro i hi
  obtain ⟨b', g', k, c, e, p, hg, hl⟩ := h i hi
  simp only [Option.some.injEq, Addr.mk.injEq, and_true] at e
  subst e
  exact ⟨b, g', k, c, rfl, (ht.cell (p := ⟨b, i * 3 + 2, none⟩) hl (by simpa using hbg)).trans p, hg, Nat.lt_of_lt_of_le hl ht.size⟩
/-- the cells of a word in a row that begins its block -/
theorem WdR.own_at {w : World} {base g cap n : Nat} {l : List Lx.V} (h : WdR.Own w base (.slice (some ⟨g, 0, none⟩) n cap) l) (k : Nat) (hk : k < l.length) :
    w.cell? ⟨g, k * 5, none⟩ = some (.string (str (l.getD k Lx.noV).text)) ∧ w.cell? ⟨g, k * 5 + 1, none⟩ = some (.int .i64 (l.getD k Lx.noV).line) ∧ w.cell? ⟨g, k * 5 + 2, none⟩ = some (.int .i64 (l.getD k Lx.noV).col) ∧ w.cell? ⟨g, k * 5 + 3, none⟩ = some (.bool (l.getD k Lx.noV).quoted) ∧ w.cell? ⟨g, k * 5 + 4, none⟩ = some (.bool (l.getD k Lx.noV).mark) := by
  obtain ⟨b, o, c, e, -, q0, q1, q2, q3, q4⟩ := WdR.at h.sl k hk
  simp only [Value.slice.injEq, Option.some.injEq, Addr.mk.injEq] at e
  obtain ⟨⟨rfl, rfl, -⟩, -, -⟩ := e
  rw [Nat.zero_add] at q0 q1 q2 q3 q4
  exact ⟨q0, q1, q2, q3, q4⟩

set_option maxRecDepth 100000 in
set_option maxHeartbeats 4000000 in
theorem two_walk (sa sb : ByteArray) (w : World) (hra : sa.size ≤ 140737488351232) (hrb : sb.size ≤ 140737488351232) : Calls Try.prog 9 #[.string sa, .string sb] w fun e w' => e = .returned (.bool true) ∧ Below w.heap.size w w' := by
  have eS := eql_spot
  have nS := neq_spot
  have gS := guard_spot
  go_enter Try.func9, Try.ntmps9
  go_wp2_with fail
  refine (works_any _).mono ?_
  rintro e w1 ⟨rfl, hB1⟩
  rcases Nat.lt_or_ge (sa.size + sb.size) 32768 with hsm | hbig
  rotate_left
  · have i0 : (32768 : Int) ≤ (sa.size : Int) + (sb.size : Int) := by omega
    go_wp2
    go_ret
    exact ⟨rfl, hB1⟩
  obtain ⟨n, hn⟩ : ∃ n : Nat, (sa.size : Int) + (sb.size : Int) = (n : Int) := ⟨sa.size + sb.size, by omega⟩
  have i0 : (n : Int) ≤ 32767 := by omega
  have i8 : decide ((32768 : Int) ≤ (n : Int)) = false := decide_eq_false (by omega)
  have i6 : (sa.size : Int) ≤ 32768 := by omega
  have HSM : Hid _ := hsm
  clear hsm hra hrb
  by_cases hl92 : ∃ q, ∃ hq : q < sa.size, sa.size = q + 1 ∧ sa[q] = 92
  · obtain ⟨q, hq, e, hx⟩ := hl92
    have i1 : (0 : Int) < (sa.size : Int) := by omega
    have i2 : (sa.size : Int) - 1 = (q : Int) := by omega
    have i3 : (q : Int) < (sa.size : Int) := by omega
    have i5 : (q : Int) ≤ 32768 := by omega
    have HE : Hid _ := e
    clear e
    have e92 : ((sa[q].toNat : Int) == 92) = true := byte_eq hx
    clear hx
    go_wp2
    go_ret
    exact ⟨rfl, hB1⟩
  have HLA : Hid _ := last_not sa hl92
  have hTwo : ∀ W : World, Calls Try.prog 14 #[.string (sa ++ (⟨#[10]⟩ : ByteArray) ++ sb)] W fun e w' => LsEnd (sa ++ (⟨#[10]⟩ : ByteArray) ++ sb) W.heap.size e w' (Lx.lex (bs sa ++ 10 :: bs sb)) ∧ Below W.heap.size W w' := fun W => by
    have := Lines_any (sa ++ (⟨#[10]⟩ : ByteArray) ++ sb) W (by rw [size_two]; have := HSM.out; omega)
    rwa [bs_two] at this
  have HTWO : Hid _ := hTwo
  have hlx2 := Lx.lex_two HLA.out (b := bs sb)
  have HLX2 : Hid _ := hlx2
  clear hTwo hlx2
  have j1 : ¬ 9223372036854775807 < sa.size + 1 := by omega
  have j2 : ¬ 9223372036854775807 < sa.size + 1 + sb.size := by omega
  have J1 : Hid _ := j1
  have J2 : Hid _ := j2
  clear j1 j2
  go_upto_region 3 with fail
  go_cut [37] (fun v W => v = .bool false ∧ W = w1)
  case first =>
    by_cases h0 : sa.size = 0
    · have i1 : ¬ (0 : Int) < (sa.size : Int) := by omega
      clear h0
      go_wp2
      go_meet
      case rel => exact ⟨rfl, rfl⟩
    · obtain ⟨q, hq⟩ : ∃ q, sa.size = q + 1 := ⟨sa.size - 1, by omega⟩
      have i1 : (0 : Int) < (sa.size : Int) := by omega
      have i2 : (sa.size : Int) - 1 = (q : Int) := by omega
      have i3 : (q : Int) < (sa.size : Int) := by omega
      have i5 : (q : Int) ≤ 32768 := by omega
      have hql : q < sa.size := by omega
      have e92 : ((sa[q].toNat : Int) == 92) = false := byte_ne fun e => hl92 ⟨q, hql, hq, e⟩
      clear h0 hl92 hq
      go_wp2
      go_meet
      case rel => exact ⟨rfl, rfl⟩
  case rest =>
  obtain ⟨rfl, rfl⟩ := hcut
  clear hl92
  go_upto_region 5 with fail
  go_wp2_with fail
  have hsa : sa.size ≤ 32768 := by have := HSM.out; omega
  have hsb : sb.size ≤ 32768 := by have := HSM.out; omega
  have hla := Lines_any sa wc hsa
  have HN : Hid _ := hn
  clear i0 i6 i8 hn
  cases hxa : Lx.lex (bs sa) with
  | bad x =>
    rw [hxa] at hla HLX2
    clear hxa
    refine hla.mono ?_
    rintro e w2 ⟨hq, hB2⟩
    simp only [LsEnd] at hq
    subst hq
    have hC2 := hB1.trans (hB2.mono hB1.size)
    have hD2 := hC2.alloc hC2.size (.cells #[.int .i64 6, .int .i64 (x : Int)] 27)
    have s2 := SV.new w2 6 (x : Int)
    clear hB1 hB2 hC2 hla
    go_wp2_with fail
    generalize w2.alloc (.cells #[.int .i64 6, .int .i64 (x : Int)] 27) = W2 at *
    generalize w2.heap.size = g2 at *
    have hE : ∀ W : World, Calls Try.prog 14 #[.string sb] W fun e w' => (∃ ad n c x y, e = .returned (.tuple #[.slice ad n c, .agg #[.int .i64 x, .int .i64 y]])) ∧ Below W.heap.size W w' := fun W => by
      refine (Lines_any sb W hsb).mono ?_
      rintro e w' ⟨h, hB⟩
      refine ⟨?_, hB⟩
      cases hx : Lx.lex (bs sb) with
      | bad y => rw [hx] at h; exact ⟨_, _, _, _, _, h⟩
      | ok ls =>
        rw [hx] at h
        obtain ⟨v, rfl, hL⟩ := h
        obtain ⟨ad, n, c, rfl⟩ := hL.isSl
        exact ⟨_, _, _, _, _, rfl⟩
    refine (hE _).mono ?_
    rintro e w3 ⟨⟨ad3, n3, c3, x3, y3, rfl⟩, hB3⟩
    have hC3 := hD2.trans (hB3.mono hD2.size)
    have hD3 := hC3.alloc hC3.size (.cells #[.int .i64 x3, .int .i64 y3] 27)
    have s3 := (s2.below hB3).alloc (.cells #[.int .i64 x3, .int .i64 y3] 27)
    clear hD2 hB3 hC3 s2 hE
    have j1 := J1.out
    have j2 := J2.out
    go_wp2_with fail
    clear j1 j2
    generalize w3.alloc (.cells #[.int .i64 x3, .int .i64 y3] 27) = W3 at *
    have hT := HTWO.out W3
    rw [HLX2.out] at hT
    refine hT.mono ?_
    rintro e w4 ⟨hq, hB4⟩
    simp only [Lx.R.andThen, LsEnd] at hq
    subst hq
    have hC4 := hD3.trans (hB4.mono hD3.size)
    have hD4 := hC4.alloc hC4.size (.cells #[.int .i64 6, .int .i64 (x : Int)] 27)
    obtain ⟨x0, y0⟩ := ((s3.below hB4).alloc (.cells #[.int .i64 6, .int .i64 (x : Int)] 27)).cells
    obtain ⟨x1, y1⟩ := (SV.new w4 6 (x : Int)).cells
    clear hT hD3 hB4 hC4 s3
    go_wp2
    go_ret
    exact ⟨rfl, hD4⟩
  | ok l =>
    rw [hxa] at hla HLX2
    have HXA : Hid _ := hxa
    have hza : Lx.tot l ≤ 98304 := by
      have := Lx.lex_size hxa
      rw [bs_length] at this
      omega
    clear hxa
    refine hla.mono ?_
    rintro e w2 ⟨⟨va, rfl, hL⟩, hB2⟩
    have hC2 := hB1.trans (hB2.mono hB1.size)
    have hD2 := hC2.alloc hC2.size (.cells #[.int .i64 0, .int .i64 0] 27)
    have s2 := SV.new w2 0 0
    have hLa := hL.alloc (.cells #[.int .i64 0, .int .i64 0] 27)
    clear hB1 hB2 hC2 hla hL
    obtain ⟨a1, c1, rfl, -⟩ := hLa.s.shape
    rw [List.length_map] at *
    go_wp2_with fail
    generalize w2.alloc (.cells #[.int .i64 0, .int .i64 0] 27) = W2 at *
    generalize w2.heap.size = g2 at *
    have hlb := Lines_any sb W2 hsb
    cases hxb : Lx.lex (bs sb) with
    | bad y =>
      rw [hxb] at hlb HLX2
      have hy : y < sb.size := by
        have := Lx.lex_bad_lt hxb
        rwa [bs_length] at this
      clear hxb
      refine hlb.mono ?_
      rintro e w3 ⟨hq, hB3⟩
      simp only [LsEnd] at hq
      subst hq
      have hC3 := hD2.trans (hB3.mono hD2.size)
      have hD3 := hC3.alloc hC3.size (.cells #[.int .i64 6, .int .i64 (y : Int)] 27)
      have s3 := (s2.below hB3).alloc (.cells #[.int .i64 6, .int .i64 (y : Int)] 27)
      have t3 := SV.new w3 6 (y : Int)
      clear hD2 hB3 hC3 s2 hlb hLa
      have j1 := J1.out
      have j2 := J2.out
      go_wp2_with fail
      clear j1 j2
      generalize w3.alloc (.cells #[.int .i64 6, .int .i64 (y : Int)] 27) = W3 at *
      generalize w3.heap.size = g3 at *
      have hT := HTWO.out W3
      rw [HLX2.out] at hT
      refine hT.mono ?_
      rintro e w4 ⟨hq, hB4⟩
      simp only [Lx.R.andThen, Lx.R.map, id, LsEnd] at hq
      rw [bs_length, show ((y + (sa.size + 1) : Nat) : Int) = (y : Int) + (sa.size : Int) + 1 by omega] at hq
      subst hq
      have hC4 := hD3.trans (hB4.mono hD3.size)
      have hD4 := hC4.alloc hC4.size (.cells #[.int .i64 6, .int .i64 ((y : Int) + (sa.size : Int) + 1)] 27)
      obtain ⟨x0, y0⟩ := ((s3.below hB4).alloc (.cells #[.int .i64 6, .int .i64 ((y : Int) + (sa.size : Int) + 1)] 27)).cells
      obtain ⟨x1, y1⟩ := ((t3.below hB4).alloc (.cells #[.int .i64 6, .int .i64 ((y : Int) + (sa.size : Int) + 1)] 27)).cells
      obtain ⟨x2, y2⟩ := (SV.new w4 6 ((y : Int) + (sa.size : Int) + 1)).cells
      have k1 : (y : Int) ≤ 32768 := by omega
      have k2 : (sa.size : Int) ≤ 32768 := by omega
      clear hT hD3 hB4 hC4 s3 t3
      go_wp2
      go_ret
      exact ⟨rfl, hD4⟩
    | ok m =>
      rw [hxb] at hlb HLX2
      have HXB : Hid _ := hxb
      have hzb : Lx.tot m ≤ 98304 := by
        have := Lx.lex_size hxb
        rw [bs_length] at this
        omega
      have HNE : Hid (∀ x ∈ m.map (Lx.toldL (bs sb)), x.words ≠ []) := fun x hx => by
        obtain ⟨y, hy, rfl⟩ := List.mem_map.1 hx
        have := (rows_lt (Lx.lex_stands hxb) y hy).2.2
        intro e
        exact this (List.map_eq_nil_iff.1 e)
      clear hxb
      refine hlb.mono ?_
      rintro e w3 ⟨⟨vb, rfl, hL⟩, hB3⟩
      have hC3 := hD2.trans (hB3.mono hD2.size)
      have hD3 := hC3.alloc hC3.size (.cells #[.int .i64 0, .int .i64 0] 27)
      have s3 := (s2.below hB3).alloc (.cells #[.int .i64 0, .int .i64 0] 27)
      have t3 := SV.new w3 0 0
      have hLa3 := (hLa.below hB3 (Nat.le_refl _)).alloc (.cells #[.int .i64 0, .int .i64 0] 27)
      have hM3 := hL.alloc (.cells #[.int .i64 0, .int .i64 0] 27)
      have hbm : w.heap.size ≤ W2.heap.size := hD2.size
      clear hD2 hB3 hC3 s2 hlb hLa hL
      obtain ⟨a2, c2, rfl, -⟩ := hM3.s.shape
      rw [List.length_map] at *
      have hU3 := MUp.of hM3 HNE.out (by rw [List.length_map])
      have j1 := J1.out
      have j2 := J2.out
      go_wp2_with fail
      clear j1 j2
      generalize w3.alloc (.cells #[.int .i64 0, .int .i64 0] 27) = W3 at *
      generalize w3.heap.size = g3 at *
      have hT := HTWO.out W3
      rw [HLX2.out] at hT
      refine hT.mono ?_
      rintro e w4 ⟨hq, hB4⟩
      simp only [Lx.R.andThen, Lx.R.map, LsEnd] at hq
      rw [bs_two, told_two HXA.out] at hq
      obtain ⟨vc, rfl, hL⟩ := hq
      have hC4 := hD3.trans (hB4.mono hD3.size)
      have hD4 := hC4.alloc hC4.size (.cells #[.int .i64 0, .int .i64 0] 27)
      obtain ⟨x0, y0⟩ := ((s3.below hB4).alloc (.cells #[.int .i64 0, .int .i64 0] 27)).cells
      obtain ⟨x1, y1⟩ := ((t3.below hB4).alloc (.cells #[.int .i64 0, .int .i64 0] 27)).cells
      obtain ⟨x2, y2⟩ := (SV.new w4 0 0).cells
      have hLa4 := (hLa3.below hB4 (Nat.le_refl _)).alloc (.cells #[.int .i64 0, .int .i64 0] 27)
      have hM4 := (hM3.below hB4 (Nat.le_refl _)).alloc (.cells #[.int .i64 0, .int .i64 0] 27)
      have hU4 := (hU3.below hB4).below ((Below.refl w4.heap.size w4).alloc (Nat.le_refl _) (.cells #[.int .i64 0, .int .i64 0] 27))
      have hA4 := hL.alloc (.cells #[.int .i64 0, .int .i64 0] 27)
      clear hT hD3 hB4 hC4 s3 t3 hLa3 hM3 hU3 hL
      obtain ⟨dn, hdn⟩ : ∃ d : Nat, (bs sa).count 10 + 1 = d := ⟨_, rfl⟩
      have hdl : dn ≤ 32769 := by
        have := List.count_le_length (a := (10 : UInt8)) (l := bs sa)
        rw [bs_length] at this
        omega
      have HDN : Hid _ := hdn
      rw [hdn] at hA4
      clear hdn
      obtain ⟨LA, hLA⟩ : ∃ L, l.map (Lx.toldL (bs sa)) = L := ⟨_, rfl⟩
      obtain ⟨MB, hMB⟩ : ∃ L, m.map (Lx.toldL (bs sb)) = L := ⟨_, rfl⟩
      have hLl : l.length = LA.length := by rw [← hLA, List.length_map]
      have hMl : m.length = MB.length := by rw [← hMB, List.length_map]
      have hLn : LA.length ≤ 98304 := by have := Lx.tot_len l; omega
      have hMn : MB.length ≤ 98304 := by have := Lx.tot_len m; omega
      have HLW : Hid (∀ x ∈ LA, x.words.length ≤ 98304) := fun x hx => by
        rw [← hLA] at hx
        obtain ⟨y, hy, rfl⟩ := List.mem_map.1 hx
        have h1 := Lx.tot_mem hy
        have h2 := Lx.wsum_len y.words
        show (y.words.map (Lx.told (bs sa))).length ≤ _
        rw [List.length_map]; omega
      have HMW : Hid (∀ x ∈ MB, x.words.length ≤ 98304 ∧ 0 ≤ x.num ∧ x.num ≤ 32769 ∧ ∀ u ∈ x.words, 0 ≤ u.line ∧ u.line ≤ 32769) := fun x hx => by
        rw [← hMB] at hx
        obtain ⟨y, hy, rfl⟩ := List.mem_map.1 hx
        have h1 := Lx.tot_mem hy
        have h2 := Lx.wsum_len y.words
        obtain ⟨h3, h4, -⟩ := rows_lt (Lx.lex_stands HXB.out) y hy
        rw [bs_length] at h3
        have h5 := (place_le sb y.at_).1
        refine ⟨by show (y.words.map (Lx.told (bs sb))).length ≤ _; rw [List.length_map]; omega, by show (0 : Int) ≤ ((Lx.place (bs sb) y.at_).1 : Int); omega, by show ((Lx.place (bs sb) y.at_).1 : Int) ≤ _; omega, fun u hu => ?_⟩
        obtain ⟨z, hz, rfl⟩ := List.mem_map.1 hu
        have h6 := h4 z hz
        rw [bs_length] at h6
        have h7 := (place_le sb z.at_).1
        exact ⟨by show (0 : Int) ≤ ((Lx.place (bs sb) z.at_).1 : Int); omega, by show ((Lx.place (bs sb) z.at_).1 : Int) ≤ _; omega⟩
      rw [hLA] at hLa4 hA4
      rw [hMB] at hM4 hA4 HNE
      rw [hLl] at hLa4 ⊢
      rw [hMl] at hM4 hU4 ⊢
      clear hLA hMB hLl hMl HXA HXB hza hzb HLX2 HTWO
      obtain ⟨a3, c3, e3, hc3⟩ := hA4.s.shape
      rw [List.length_append, List.length_map] at e3 hc3
      subst e3
      have hhd := hA4.s.head LA.length (by rw [List.length_append]; omega)
      rw [List.take_left' rfl] at hhd
      have hsl : ∀ W : World, (Instr.slice 24 (.slice a3 (LA.length + MB.length) c3) none (some (.int .i64 (LA.length : Int))) none).run Try.prog W = .ok (.slice a3 LA.length c3) W := fun W => LnR.slice_head W a3 _ c3 LA.length (by omega)
      have hsame := SameT_any _ _ LA LA _ _ hhd hLa4.s (by omega) (fun x hx => by have := HLW.out x hx; omega)
      rw [decide_eq_true rfl] at hsame
      have k1 : (LA.length : Int) ≤ 98304 := by omega
      have k2 : (MB.length : Int) ≤ 98304 := by omega
      go_wp2_with fail
      clear x0 y0 x1 y1 x2 y2
      generalize w4.alloc (.cells #[.int .i64 0, .int .i64 0] 27) = W4 at *
      generalize w4.heap.size = g4 at *
      refine hsame.mono ?_
      rintro e w5 ⟨rfl, hB5⟩
      have hD5 := hD4.trans (hB5.mono hD4.size)
      have hM5 := hM4.below hB5 (Nat.le_refl _)
      have hA5 := hA4.below hB5 (Nat.le_refl _)
      have hU5 := hU4.below hB5
      clear hsame hhd hLa4 hD4 hM4 hA4 hU4 hB5 hsl HLW
      go_wp2
      go_loopw [11, 12] (fun li i wr => ∃ k : Nat, k ≤ sa.size ∧ i = .int .i64 (k : Int) ∧ li = .int .i64 ((((bs sa).take k).count 10 : Nat) + 1 : Int) ∧ wr = w5) (fun _ i _ => sa.size - (intOf i).toNat)
      case atStart => exact ⟨0, Nat.zero_le _, rfl, rfl, rfl⟩
      case round =>
      obtain ⟨k, hk, rfl, rfl, rfl⟩ := hrel
      have hcl : ((bs sa).take k).count 10 ≤ 32768 := by
        have := List.count_le_length (a := (10 : UInt8)) (l := (bs sa).take k)
        rw [List.length_take] at this
        omega
      by_cases hlt : k < sa.size
      · have i1 : (k : Int) < (sa.size : Int) := by omega
        have HTB : Hid _ := take_byte sa k hlt
        obtain ⟨C, hC⟩ : ∃ C, ((bs sa).take k).count 10 = C := ⟨_, rfl⟩
        rw [hC] at hcl ⊢
        have HC : Hid _ := hC
        clear hC
        by_cases hx : sa[k] = 10
        · have e10 : ((sa[k].toNat : Int) == 10) = true := byte_eq hx
          have HC2 : Hid (((bs sa).take (k + 1)).count 10 = C + 1) := by
            show _ = _
            rw [HTB.out, List.count_append, HC.out, hx]; rfl
          clear hx
          go_wp2
          exact ⟨⟨k + 1, by omega, by go_num, by rw [HC2.out]; go_num, trivial⟩, by simp [intOf]; omega⟩
        · have e10 : ((sa[k].toNat : Int) == 10) = false := byte_ne hx
          have HC2 : Hid (((bs sa).take (k + 1)).count 10 = C) := by
            show _ = _
            rw [HTB.out, List.count_append, HC.out, List.count_eq_zero.2 (by simpa using fun e => hx e.symm)]
            rfl
          clear hx
          go_wp2
          exact ⟨⟨k + 1, by omega, by go_num, by rw [HC2.out], trivial⟩, by simp [intOf]; omega⟩
      obtain rfl : k = sa.size := by omega
      have i1 : ¬ (sa.size : Int) < (sa.size : Int) := by omega
      rw [show ((((bs sa).take sa.size).count 10 : Nat) : Int) + 1 = (dn : Int) by rw [List.take_of_length_le (by rw [bs_length]; exact Nat.le_refl _), ← HDN.out]; rfl]
      clear hcl hlt hk HDN
      go_wp2
      go_loopw [13] (fun i w' => ∃ k : Nat, k ≤ MB.length ∧ i = .int .i64 (k : Int) ∧ LnsOwn w' W2.heap.size (.slice a2 MB.length c2) ((MB.take k).map (Lx.moveL (dn : Int)) ++ MB.drop k) ∧ LnsOwn w' W3.heap.size (.slice a3 (LA.length + MB.length) c3) (LA ++ MB.map (Lx.shiftL (dn : Int))) ∧ MUp w' a2 MB.length W3.heap.size ∧ Below w.heap.size w w') (fun i _ => MB.length - (intOf i).toNat)
      case atStart => exact ⟨0, Nat.zero_le _, rfl, hM5, hA5, hU5, hD5⟩
      case round =>
      clear hM5 hA5 hU5 hD5
      obtain ⟨k, hk, rfl, hM, hA, hU, hD⟩ := hrel
      have HHL : Hid _ := half_len (Lx.moveL (dn : Int)) MB hk
      by_cases hlt : k < MB.length
      · have i2 : (k : Int) < (MB.length : Int) := by omega
        have HGD : Hid _ := lns_getD (d := (dn : Int)) hlt
        have HST : Hid _ := lns_step (d := (dn : Int)) hlt
        obtain ⟨y, hy⟩ : ∃ y, MB.getD k Lx.noL = y := ⟨_, rfl⟩
        have hym : y ∈ MB := by rw [← hy]; simp [List.getD, List.getElem?_eq_getElem hlt]
        obtain ⟨bm', cm, g, cap, e, hbg, hg1, hg2, p0, p1, p2, hWO, hre⟩ := hM.focus k (by rw [HHL.out]; exact hlt) (by rw [HGD.out, hy]; exact HNE.out y hym)
        rw [HGD.out, hy] at p0 p1 p2 hWO hre
        simp only [Value.slice.injEq] at e
        obtain ⟨rfl, -, rfl⟩ := e
        have HRE : Hid _ := hre
        obtain ⟨b', g', k', c', e', p2', hgU, hbl⟩ := hU k hlt
        simp only [Option.some.injEq, Addr.mk.injEq, and_true] at e'
        subst e'
        have hgg : g = g' := by
          rw [p2] at p2'
          simp only [Option.some.injEq, Value.slice.injEq, Addr.mk.injEq, and_true] at p2'
          exact p2'.1
        subst hgg
        clear hre p2'
        have hgA : (LA ++ MB.map (Lx.shiftL (dn : Int))).getD (LA.length + k) Lx.noL = Lx.shiftL (dn : Int) y := by
          simp only [List.getD]
          rw [List.getElem?_append_right (by omega), Nat.add_sub_cancel_left, List.getElem?_map, ← hy]
          simp [List.getD, List.getElem?_eq_getElem hlt]
        obtain ⟨bA, cA, gX, capX, e, hbA, hX1, hX2, r0, r1, r2, hXO, -⟩ := hA.focus (LA.length + k) (by rw [List.length_append, List.length_map]; omega) (by
          rw [hgA]
          intro e
          exact HNE.out y hym (List.map_eq_nil_iff.1 e))
        rw [hgA] at r0 r1 r2 hXO
        simp only [Value.slice.injEq] at e
        obtain ⟨rfl, -, rfl⟩ := e
        obtain ⟨hyw, hy0, hy1, hyl⟩ := HMW.out y hym
        have HYL : Hid _ := hyl
        rw [hy] at HST
        clear hy hym hyl hgA
        obtain ⟨yn, yi, yw⟩ := y
        simp only [Lx.shiftL, List.length_map] at p0 p1 p2 hWO r0 r1 r2 hXO hyw hy0 hy1 HYL HST HRE
        obtain ⟨N, hN⟩ : ∃ N : Nat, (LA.length : Int) + (k : Int) = (N : Int) := ⟨LA.length + k, by omega⟩
        have hN' : LA.length + k = N := by omega
        rw [hN'] at r0 r1 r2
        have i3 : (N : Int) < (LA.length : Int) + (MB.length : Int) := by omega
        have i4 : (N : Int) ≤ 200000 := by omega
        have i4' : (0 : Int) ≤ (N : Int) := by omega
        have i4'' : IntKind.i64.wrap (N : Int) = (N : Int) := by rw [IntKind.wrap_i64]; omega
        have i3' : N < LA.length + MB.length := by omega
        have HN' : Hid _ := hN'
        clear hN'
        obtain ⟨WO, hWOe⟩ : ∃ X, X = wr := ⟨_, rfl⟩
        subst hWOe
        go_upto_region 23 with fail
        go_cut [14, 15] (fun t14 t15 X => ∃ gx gy : Nat, t14 = .pointer (some ⟨gx, 0, none⟩) ∧ t15 = .pointer (some ⟨gy, 0, none⟩) ∧ LBk X gx (yn + (dn : Int)) yi (.slice (some ⟨gX, 0, none⟩) yw.length capX) ∧ LBk X gy yn yi (.slice (some ⟨g, 0, none⟩) yw.length cap) ∧ WO.heap.size ≤ gx ∧ WO.heap.size ≤ gy ∧ Turn [] WO X)
        case first =>
          have hTA : ∀ o1 o2 : Obj, Turn [] WO ((WO.alloc o1).alloc o2).drew := fun o1 o2 => (((Turn.refl [] WO).alloc o1).alloc o2).drew
          go_region_held3 (fun X : World => X.cell? ⟨bA, N * 3, none⟩ = some (.int .i64 (yn + (dn : Int))) ∧ X.cell? ⟨bA, N * 3 + 1, none⟩ = some (.bool yi) ∧ X.cell? ⟨bA, N * 3 + 2, none⟩ = some (.slice (some ⟨gX, 0, none⟩) yw.length capX) ∧ X.cell? ⟨bm', k * 3, none⟩ = some (.int .i64 yn) ∧ X.cell? ⟨bm', k * 3 + 1, none⟩ = some (.bool yi) ∧ X.cell? ⟨bm', k * 3 + 2, none⟩ = some (.slice (some ⟨g, 0, none⟩) yw.length cap)) (go_keep) (fail)
          all_goals go_wp2
          all_goals (go_meet; first | exact ⟨_, _, rfl, rfl, heap_alloc2_old _ _ _, heap_alloc2_new _ _ _, by omega, by omega, hTA _ _⟩ | exact ⟨_, _, rfl, rfl, heap_alloc2_new _ _ _, heap_alloc2_old _ _ _, by omega, by omega, hTA _ _⟩)
        case rest =>
        obtain ⟨gx, gy, rfl, rfl, hbx, hby, hgx, hgy, hTc⟩ := hcut
        have hWc : WdR.Own wc W2.heap.size (.slice (some ⟨g, 0, none⟩) yw.length cap) yw := Row.turn hWO hTc (by simp)
        have hXc : WdR.Own wc W3.heap.size (.slice (some ⟨gX, 0, none⟩) yw.length capX) (yw.map (Lx.shiftV (dn : Int))) := Row.turn hXO hTc (by simp)
        have hTg : Turn [g] WO wc := hTc.mono (by simp)
        obtain ⟨u0, u1, u2⟩ := hbx.cells
        obtain ⟨v0, v1, v2⟩ := hby.cells
        have m0 : ((yn + (dn : Int)) != (yn + (dn : Int))) = false := by simp
        have m1 : yn + (dn : Int) ≤ 70000 := by omega
        have m2 : 0 ≤ yn + (dn : Int) := by omega
        clear p0 p1 p2 r0 r1 r2 hWO hXO hTc
        go_wp2
        clear u0 u1 u2 v0 v1 v2
        go_loopw [16] (fun i w' => ∃ q : Nat, q ≤ yw.length ∧ i = .int .i64 (q : Int) ∧ WdR.Own w' W2.heap.size (.slice (some ⟨g, 0, none⟩) yw.length cap) ((yw.take q).map (Lx.shiftV (dn : Int)) ++ yw.drop q) ∧ WdR.Own w' W3.heap.size (.slice (some ⟨gX, 0, none⟩) yw.length capX) (yw.map (Lx.shiftV (dn : Int))) ∧ LBk w' gx (yn + (dn : Int)) yi (.slice (some ⟨gX, 0, none⟩) yw.length capX) ∧ LBk w' gy yn yi (.slice (some ⟨g, 0, none⟩) yw.length cap) ∧ Turn [g] WO w') (fun i _ => yw.length - (intOf i).toNat)
        case atStart => exact ⟨0, Nat.zero_le _, rfl, hWc, hXc, hbx, hby, hTg⟩
        case round =>
        clear hWc hXc hbx hby hTg
        obtain ⟨q, hq, rfl, hWq, hXq, hbx, hby, hTg⟩ := hrel
        obtain ⟨u0, u1, u2⟩ := hbx.cells
        obtain ⟨v0, v1, v2⟩ := hby.cells
        clear u0 u1 v0 v1
        by_cases hql : q < yw.length
        · have i5 : (q : Int) < (yw.length : Int) := by omega
          have HVS : Hid _ := vs_step (d := (dn : Int)) hql
          have hqh : q < ((yw.take q).map (Lx.shiftV (dn : Int)) ++ yw.drop q).length := by rw [half_len _ _ hq]; exact hql
          obtain ⟨o0, o1, o2, o3, o4⟩ := WdR.own_at hWq q hqh
          obtain ⟨hfz, hset⟩ := WdR.line hWq q hqh
          rw [vs_getD hql] at o0 o1 o2 o3 o4 hset
          obtain ⟨x0, x1, x2, x3, x4⟩ := WdR.own_at hXq q (by rw [List.length_map]; exact hql)
          have hgX : (yw.map (Lx.shiftV (dn : Int))).getD q Lx.noV = Lx.shiftV (dn : Int) (yw.getD q Lx.noV) := by
            simp [List.getD, List.getElem?_eq_getElem hql]
          rw [hgX] at x0 x1 x2 x3 x4
          obtain ⟨z, hz⟩ : ∃ z, yw.getD q Lx.noV = z := ⟨_, rfl⟩
          obtain ⟨hz0, hz1⟩ := HYL.out z (by rw [← hz]; simp [List.getD, List.getElem?_eq_getElem hql])
          have HG2 : Hid _ := vs_getD2 (d := (dn : Int)) hql
          rw [hz] at o0 o1 o2 o3 o4 hset x0 x1 x2 x3 x4 HVS HG2 hgX
          clear hz hqh
          have hS := hset (z.line + (dn : Int))
          have hS' : WdR.Own (wr.setCell ⟨g, q * 5 + 1, none⟩ (.int .i64 (z.line + (dn : Int)))) W2.heap.size (.slice (some ⟨g, 0, none⟩) yw.length cap) ((yw.take (q + 1)).map (Lx.shiftV (dn : Int)) ++ yw.drop (q + 1)) := by
            rw [← HVS.out]; exact hS
          clear hS hset HVS
          have hT1 := Turn.set1 wr g (q * 5 + 1) (.int .i64 (z.line + (dn : Int)))
          have hX' : WdR.Own (wr.setCell ⟨g, q * 5 + 1, none⟩ (.int .i64 (z.line + (dn : Int)))) W3.heap.size (.slice (some ⟨gX, 0, none⟩) yw.length capX) (yw.map (Lx.shiftV (dn : Int))) := row_turn hXq hT1 hgU
          have hbx' := hbx.turn hT1 (by simp only [List.mem_singleton]; omega)
          have hby' := hby.turn hT1 (by simp only [List.mem_singleton]; omega)
          have hTg' := hTg.trans hT1 (by simp)
          obtain ⟨zt, zl, zc, zq, zm⟩ := z
          simp only [Lx.shiftV] at o0 o1 o2 o3 o4 x0 x1 x2 x3 x4 hz0 hz1 hS' hX' hbx' hby' hTg' hT1
          have hne : gX ≠ g := by omega
          have hge : g ≠ gX := by omega
          have hgx' : gx ≠ g := by omega
          have hgy' : gy ≠ g := by omega
          have m3 : zl + (dn : Int) ≤ 70000 := by omega
          have m4 : 0 ≤ zl + (dn : Int) := by omega
          go_upto_region 30 with fail
          clear o0 o1 o2 o3 o4 x0 x1 x2 x3 x4 u2 v2 hbx hby hWq hXq hTg hT1 hfz
          generalize wr.setCell ⟨g, q * 5 + 1, none⟩ (.int .i64 (zl + (dn : Int))) = YW at *
          obtain ⟨-, -, u2⟩ := hbx'.cells
          obtain ⟨-, -, v2⟩ := hby'.cells
          obtain ⟨o0, o1, o2, o3, o4⟩ := WdR.own_at hS' q (by rw [half_len _ _ (by omega)]; exact hql)
          obtain ⟨x0, x1, x2, x3, x4⟩ := WdR.own_at hX' q (by rw [List.length_map]; exact hql)
          rw [HG2.out] at o0 o1 o2 o3 o4
          rw [hgX] at x0 x1 x2 x3 x4
          simp only [Lx.shiftV] at o0 o1 o2 o3 o4 x0 x1 x2 x3 x4
          have nW : ∀ W : World, (binOp .neq 35 (.agg #[.string (str zt), .int .i64 (zl + (dn : Int)), .int .i64 zc, .bool zq, .bool zm]) (.agg #[.string (str zt), .int .i64 (zl + (dn : Int)), .int .i64 zc, .bool zq, .bool zm])).run Try.prog W = .ok (.bool false) W := fun W => by
            have := neq_word W ⟨zt, zl + (dn : Int), zc, zq, zm⟩ ⟨zt, zl + (dn : Int), zc, zq, zm⟩
            unfold wdA at this
            simp only [decide_true, Bool.not_true] at this
            exact this
          have gW := guard_word
          go_quiet (fail)
          go_wp2
          exact ⟨⟨q + 1, by omega, by go_num, hS', hX', hbx', hby', hTg'.drewN _⟩, by simp [intOf]; omega⟩
        · obtain rfl : q = yw.length := by omega
          have i5 : ¬ (yw.length : Int) < (yw.length : Int) := by omega
          have hfin := HRE.out wr (yw.map (Lx.shiftV (dn : Int))) hTg (by
            rw [List.take_length, List.drop_length, List.append_nil] at hWq
            exact hWq)
          rw [HST.out] at hfin
          have hA' := hA.turn1 hTg hgU
          have hU' := hU.turn hTg hbg
          have hD' : Below w.heap.size w wr := hD.trans (hTg.below' hD.size (fun x hx => by rw [List.mem_singleton] at hx; omega))
          go_wp2
          exact ⟨⟨k + 1, by omega, by go_num, hfin, hA', hU', hD'⟩, by simp [intOf]; omega⟩
      · obtain rfl : k = MB.length := by omega
        have i2 : ¬ (MB.length : Int) < (MB.length : Int) := by omega
        rw [List.take_length, List.drop_length, List.append_nil] at hM
        obtain ⟨A, hrun, hTl⟩ := hA.s.tail LA.length (by rw [List.length_append]; omega)
        rw [List.drop_left' rfl, Nat.add_sub_cancel_left] at hTl
        rw [Nat.add_sub_cancel_left] at hrun
        have hal := alike_any _ _ _ _ wr wr.heap.size hTl hM.s (Nat.le_refl _) (by rw [List.length_map]; omega) (fun x hx => by
          obtain ⟨y, hy, rfl⟩ := List.mem_map.1 hx
          have := (HMW.out y hy).1
          show (y.words.map _).length ≤ _
          rw [List.length_map]; omega)
        rw [decide_eq_true (bare_shift (dn : Int) MB)] at hal
        clear hTl hM hA hU
        go_wp2_with fail
        refine hal.mono ?_
        rintro e w6 ⟨rfl, hB6⟩
        go_wp2
        go_ret
        exact ⟨rfl, hD.trans (hB6.mono hD.size)⟩

end Go.Proofs.Ytdknggccjhillaa
