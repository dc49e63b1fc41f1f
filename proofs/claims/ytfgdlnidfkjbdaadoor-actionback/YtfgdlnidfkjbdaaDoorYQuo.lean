/-
  WHAT THE DOCUMENT's quoted DOES.
-/
import Derived.Test.YtfgdlnidfkjbdaaDoorYText
namespace Go.Proofs.YtfgdlnidfkjbdaaDoor
open Go.RowKit

/-- what quoted answers -/
def qres (n a : Nat) : Lx.R Nat (Option (List UInt8 × List (Lx.B Nat))) → Array Value
  | .bad x => #[.string .empty, .int .i64 0, .int .i64 (x : Int)]
  | .ok none => #[.string .empty, .int .i64 0, .int .i64 (a : Int)]
  | .ok (some (s, r)) => #[.string (str s), .int .i64 ((n - r.length : Nat) : Int), .int .i64 (-1)]
theorem drop_at {l : List (Lx.B Nat)} {k : Nat} (h : k < l.length) : l.drop k = l.getD k Lx.noB :: l.drop (k + 1) := by
  rw [List.drop_eq_getElem_cons h]
  simp [List.getD, List.getElem?_eq_getElem h]

end Go.Proofs.YtfgdlnidfkjbdaaDoor

namespace Go.Proofs.YtfgdlnidfkjbdaaDoor
open Go.RowKit

/-- a word as it is told: its place as a line and a column, or made by hand -/
structure Lx.V where
  text : List UInt8
  line : Int
  col : Int
  quoted : Bool
  mark : Bool
deriving DecidableEq
/-- a word of a text, told -/
def Lx.told (t : List UInt8) (x : Lx.W Nat) : Lx.V := ⟨x.text, (Lx.place t x.at_).1, (Lx.place t x.at_).2, x.quoted, x.mark⟩
/-- a word's value -/
def wdV (v : Lx.V) : Value := .agg #[.string (str v.text), .int .i64 v.line, .int .i64 v.col, .bool v.quoted, .bool v.mark]
/-- rows of words -/
def WdR : Rc Lx.V where
  e := 48
  st := 44
  k := 5
  bytes := 40
  z := .agg #[.string .empty, .int .i64 0, .int .i64 0, .bool false, .bool false]
  enc v := [.string (str v.text), .int .i64 v.line, .int .i64 v.col, .bool v.quoted, .bool v.mark]
  pos := by decide
  len _ := rfl
  one f u hu := by
    simp only [List.mem_cons, List.not_mem_nil, or_false] at hu
    rcases hu with rfl | rfl | rfl | rfl | rfl <;> rfl
  info := by kernel_rfl
  under := Tryd.underlying44
  zk := rfl
  small := by decide

end Go.Proofs.YtfgdlnidfkjbdaaDoor

namespace Go.Proofs.YtfgdlnidfkjbdaaDoor
open Go.RowKit

/-- a line as it lies in a row -/
structure RawL where
  num : Int
  ind : Bool
  ad : Option Addr
  n : Nat
  c : Nat
def RawL.words (r : RawL) : Value := .slice r.ad r.n r.c
/-- rows of lines as they lie -/
def LnR : Rc RawL where
  e := 46
  st := 41
  k := 3
  bytes := 40
  z := .agg #[.int .i64 0, .bool false, .slice none 0 0]
  enc r := [.int .i64 r.num, .bool r.ind, .slice r.ad r.n r.c]
  pos := by decide
  len _ := rfl
  one f u hu := by
    simp only [List.mem_cons, List.not_mem_nil, or_false] at hu
    rcases hu with rfl | rfl | rfl <;> rfl
  info := by kernel_rfl
  under := Tryd.underlying41
  zk := rfl
  small := by decide
/-- a line as it is told -/
structure Lx.L where
  num : Int
  ind : Bool
  words : List Lx.V
deriving DecidableEq
def Lx.toldL (t : List UInt8) (x : Lx.Ln Nat) : Lx.L := ⟨(Lx.place t x.at_).1, x.ind, x.words.map (Lx.told t)⟩
/-- a line as it lies, and what it tells -/
def LineOf (w : World) (base : Nat) (r : RawL) (x : Lx.L) : Prop := r.num = x.num ∧ r.ind = x.ind ∧ WdR.Own w base r.words x.words
/-- two lines' words lie in two blocks -/
def Apart (p q : RawL × Lx.L) : Prop := ∀ g, p.1.words.ownBlock = some g → q.1.words.ownBlock ≠ some g
/-- v is a row of lines, all of it among the blocks from base on; each line's words lie in a block of their own -/
def LnsOwn (w : World) (base : Nat) (v : Value) (L : List Lx.L) : Prop :=
  ∃ ps : List (RawL × Lx.L), LnR.Own w base v (ps.map Prod.fst) ∧ L = ps.map Prod.snd ∧ (∀ p ∈ ps, LineOf w base p.1 p.2) ∧ ps.Pairwise Apart

theorem LineOf.below {w w' : World} {base B : Nat} {r : RawL} {x : Lx.L} (h : LineOf w base r x) (hb : Below B w w') (hB : w.heap.size ≤ B) : LineOf w' base r x :=
  ⟨h.1, h.2.1, h.2.2.below hb hB⟩
theorem LineOf.alloc {w : World} {base : Nat} {r : RawL} {x : Lx.L} (h : LineOf w base r x) (o : Obj) : LineOf (w.alloc o) base r x := ⟨h.1, h.2.1, h.2.2.alloc o⟩
/-- rows of two types lie in two blocks -/
theorem own_apart {α β : Type} {R : Rc α} {S : Rc β} {w : World} {b1 b2 : Nat} {u v : Value} {l : List α} {m : List β} (hu : R.Own w b1 u l) (hv : S.Own w b2 v m) (he : R.e ≠ S.e) : u.ownBlock = none ∨ u.ownBlock ≠ v.ownBlock := by
  rcases hu.2 with ⟨rfl, -⟩ | ⟨g, cap, cur, rfl, -, hg, -⟩
  · exact .inl rfl
  · rcases hv.2 with ⟨rfl, -⟩ | ⟨g', cap', cur', rfl, -, hg', -⟩
    · right; simp [Value.ownBlock]
    · right
      simp only [Value.ownBlock, ne_eq, Option.some.injEq]
      rintro rfl
      rw [hg] at hg'
      simp only [Option.some.injEq, Obj.cells.injEq] at hg'
      exact he hg'.2.1
theorem LineOf.grown {w w' : World} {base : Nat} {r : RawL} {x : Lx.L} {v : Value} {rl : List RawL} (h : LineOf w base r x) (hv : LnR.Own w base v rl) (hg : w.grownBy w' v.ownBlock) : LineOf w' base r x :=
  ⟨h.1, h.2.1, World.ownsRow.kept h.2.2 hg (own_apart h.2.2 hv (by decide))⟩
theorem LnsOwn.nil (w : World) (base : Nat) : LnsOwn w base (.slice none 0 0) [] := ⟨[], Rc.Own.nil _ _, rfl, (fun _ h => by cases h), .nil⟩
theorem LnsOwn.below {w w' : World} {base B : Nat} {v : Value} {L : List Lx.L} (h : LnsOwn w base v L) (hb : Below B w w') (hB : w.heap.size ≤ B) : LnsOwn w' base v L := by
  obtain ⟨ps, h1, h2, h3, h4⟩ := h
  exact ⟨ps, h1.below hb hB, h2, (fun p hp => (h3 p hp).below hb hB), h4⟩
theorem LnsOwn.alloc {w : World} {base : Nat} {v : Value} {L : List Lx.L} (h : LnsOwn w base v L) (o : Obj) : LnsOwn (w.alloc o) base v L := by
  obtain ⟨ps, h1, h2, h3, h4⟩ := h
  exact ⟨ps, h1.alloc o, h2, (fun p hp => (h3 p hp).alloc o), h4⟩
theorem LnsOwn.isSl {w : World} {base : Nat} {v : Value} {L : List Lx.L} (h : LnsOwn w base v L) : ∃ ad n c, v = .slice ad n c := by
  obtain ⟨ps, h1, -, -⟩ := h
  exact h1.isSl

/-- v reads as lines -/
def LnsS (w : World) (B : Nat) (v : Value) (L : List Lx.L) : Prop :=
  ∃ ps : List (RawL × Lx.L), LnR.Sl w B v (ps.map Prod.fst) ∧ L = ps.map Prod.snd ∧ ∀ p ∈ ps, p.1.num = p.2.num ∧ p.1.ind = p.2.ind ∧ WdR.Sl w B p.1.words p.2.words
theorem LnsOwn.s {w : World} {base : Nat} {v : Value} {L : List Lx.L} (h : LnsOwn w base v L) : LnsS w w.heap.size v L := by
  obtain ⟨ps, h1, h2, h3, -⟩ := h
  exact ⟨ps, h1.sl, h2, fun p hp => ⟨(h3 p hp).1, (h3 p hp).2.1, (h3 p hp).2.2.sl⟩⟩
theorem LnsS.below {w w' : World} {B B' : Nat} {v : Value} {L : List Lx.L} (h : LnsS w B v L) (hb : Below B' w w') (hB : B ≤ B') : LnsS w' B v L := by
  obtain ⟨ps, h1, h2, h3⟩ := h
  exact ⟨ps, h1.below hb hB, h2, fun p hp => ⟨(h3 p hp).1, (h3 p hp).2.1, (h3 p hp).2.2.below hb hB⟩⟩
theorem LnsS.shape {w : World} {B : Nat} {v : Value} {L : List Lx.L} (h : LnsS w B v L) : ∃ ad c, v = .slice ad L.length c ∧ L.length ≤ c := by
  obtain ⟨ps, h1, rfl, -⟩ := h
  obtain ⟨ad, c, e, hc⟩ := h1.shape
  rw [List.length_map] at e hc ⊢
  exact ⟨ad, c, e, hc⟩
def Lx.noL : Lx.L := ⟨0, false, []⟩
/-- the cells of a line, and its words -/
theorem LnsS.at {w : World} {B : Nat} {v : Value} {L : List Lx.L} (h : LnsS w B v L) (j : Nat) (hj : j < L.length) :
    ∃ b o c ad c2, v = .slice (some ⟨b, o, none⟩) L.length c ∧ b < B ∧ w.cell? ⟨b, o + j * 3, none⟩ = some (.int .i64 (L.getD j Lx.noL).num) ∧ w.cell? ⟨b, o + j * 3 + 1, none⟩ = some (.bool (L.getD j Lx.noL).ind) ∧ w.cell? ⟨b, o + j * 3 + 2, none⟩ = some (.slice ad (L.getD j Lx.noL).words.length c2) ∧ WdR.Sl w B (.slice ad (L.getD j Lx.noL).words.length c2) (L.getD j Lx.noL).words := by
  obtain ⟨ps, h1, rfl, h3⟩ := h
  rw [List.length_map] at hj
  obtain ⟨b, o, c, e, hb, hc⟩ := h1.cells j (by rw [List.length_map]; exact hj)
  have hg : (ps.map Prod.snd).getD j Lx.noL = ps[j].2 := by simp [List.getD, List.getElem?_eq_getElem hj]
  rw [hg]
  obtain ⟨k1, k2, k3⟩ := h3 ps[j] (List.getElem_mem hj)
  obtain ⟨ad, c2, e2, -⟩ := k3.shape
  rw [e2] at k3
  refine ⟨b, o, c, ad, c2, by rw [e]; simp, hb, ?_, ?_, ?_, k3⟩
  · rw [← k1]; exact hc 0 _ (by decide) (by simp [LnR])
  · rw [← k2]; exact hc 1 _ (by decide) (by simp [LnR])
  · rw [← e2]; exact hc 2 _ (by decide) (by simp [LnR, RawL.words])

/-- up to t there is no byte 10 from f on -/
def Lx.Upto (l : List (Lx.B Nat)) (f t : Nat) : Prop := f ≤ t ∧ t ≤ l.length ∧ ∀ b ∈ (l.take t).drop f, b.c ≠ 10
theorem Lx.Upto.start {l : List (Lx.B Nat)} {f : Nat} (h : f ≤ l.length) : Lx.Upto l f f :=
  ⟨Nat.le_refl _, h, fun b hb => by rw [List.drop_of_length_le (by rw [List.length_take]; omega)] at hb; cases hb⟩
theorem take_at {l : List (Lx.B Nat)} {k : Nat} (h : k < l.length) : l.take (k + 1) = l.take k ++ [l.getD k Lx.noB] := by
  rw [List.take_succ_eq_append_getElem h]
  simp [List.getD, List.getElem?_eq_getElem h]
theorem Lx.Upto.more {l : List (Lx.B Nat)} {f t : Nat} (h : Lx.Upto l f t) (ht : t < l.length) (hx : (l.getD t Lx.noB).c ≠ 10) : Lx.Upto l f (t + 1) := by
  obtain ⟨h1, h2, h3⟩ := h
  refine ⟨by omega, by omega, fun b hb => ?_⟩
  rw [take_at ht, List.drop_append_of_le_length (by rw [List.length_take]; omega)] at hb
  rcases List.mem_append.1 hb with hb | hb
  · exact h3 b hb
  · rw [List.mem_singleton] at hb
    rw [hb]; exact hx
theorem split_at (l : List (Lx.B Nat)) {f t : Nat} (h : f ≤ t) (ht : t ≤ l.length) : l.drop f = (l.take t).drop f ++ l.drop t := by
  conv => lhs; rw [← List.take_append_drop t l]
  rw [List.drop_append_of_le_length (by rw [List.length_take]; omega)]
/-- a line ends at the first byte 10 or at the text's end -/
theorem Lx.Upto.ends {l : List (Lx.B Nat)} {f t : Nat} (h : Lx.Upto l f t) (he : t = l.length ∨ (l.getD t Lx.noB).c = 10) :
    (l.drop f).takeWhile (fun x => x.c != 10) = (l.take t).drop f ∧ (l.drop f).dropWhile (fun x => x.c != 10) = l.drop t := by
  obtain ⟨h1, h2, h3⟩ := h
  have hp : ∀ b ∈ (l.take t).drop f, (b.c != 10) = true := fun b hb => by simpa using h3 b hb
  rw [split_at l h1 h2, List.takeWhile_append_of_pos hp, List.dropWhile_append_of_pos hp]
  rcases Nat.lt_or_ge t l.length with hlt | hge
  · have hx : (l.getD t Lx.noB).c = 10 := he.resolve_left (by omega)
    rw [drop_at hlt, List.takeWhile_cons, List.dropWhile_cons, if_neg (by rw [hx]; decide), if_neg (by rw [hx]; decide), List.append_nil]
    exact ⟨rfl, rfl⟩
  · rw [List.drop_of_length_le hge]
    simp
/-- the lines from a place on: this one, and those behind it -/
theorem lns_from {l : List (Lx.B Nat)} {f t : Nat} (hf : f < l.length) (h : Lx.Upto l f t) (he : t = l.length ∨ (l.getD t Lx.noB).c = 10) :
    Lx.lns (l.drop f) = (Lx.line ((l.take t).drop f)).andThen fun (i, ws) => (Lx.lns (l.drop (t + 1))).map id fun T => if ws = [] then T else ⟨(l.getD f Lx.noB).at_, i, ws⟩ :: T := by
  obtain ⟨e1, e2⟩ := h.ends he
  rw [drop_at hf] at e1 e2 ⊢
  rw [Lx.lns, e1, e2, List.drop_drop]

end Go.Proofs.YtfgdlnidfkjbdaaDoor

namespace Go.Proofs.YtfgdlnidfkjbdaaDoor
open Go.RowKit

def Lx.vtext (v : Lx.V) : List UInt8 := if v.mark = true then v.text else if v.quoted = true then Lx.quote v.text else Lx.show_ v.text
/-- the words from a place on, a blank ahead of each but the line's first -/
def Lx.wrest : Bool → List Lx.V → List UInt8
  | _, [] => []
  | first, v :: r => (if first = true then [] else [32]) ++ (Lx.vtext v ++ Lx.wrest false r)
def Lx.vline (l : Lx.L) : List UInt8 := (if l.ind = true then [9] else []) ++ (Lx.wrest true l.words ++ [10])
def Lx.vwrite (L : List Lx.L) : List UInt8 := L.flatMap Lx.vline
theorem Lx.wrest_one (b : Bool) (ws : List Lx.V) (hb : b = true ∨ ws = []) : Lx.wrest b ws = Lx.inter (ws.map Lx.vtext) := by
  cases ws with
  | nil => simp [Lx.wrest, Lx.inter]
  | cons v r =>
    rcases hb with rfl | hb
    · rw [Lx.wrest, if_pos rfl, List.nil_append]
      induction r generalizing v with
      | nil => simp [Lx.wrest, Lx.inter]
      | cons u r ih =>
        rw [Lx.wrest, if_neg (by simp), ih u]
        simp [Lx.inter, List.intercalate]
    · cases hb
theorem bs_str (l : List UInt8) : bs (str l) = l := str_toList l
def Lx.noV : Lx.V := ⟨[], 0, 0, false, false⟩
theorem Lx.vdrop {l : List Lx.V} {k : Nat} (h : k < l.length) : l.drop k = l.getD k Lx.noV :: l.drop (k + 1) := by
  rw [List.drop_eq_getElem_cons h]
  simp [List.getD, List.getElem?_eq_getElem h]
theorem Lx.ldrop {l : List Lx.L} {k : Nat} (h : k < l.length) : l.drop k = l.getD k Lx.noL :: l.drop (k + 1) := by
  rw [List.drop_eq_getElem_cons h]
  simp [List.getD, List.getElem?_eq_getElem h]
theorem WdR.at {w : World} {B : Nat} {v : Value} {l : List Lx.V} (h : WdR.Sl w B v l) (j : Nat) (hj : j < l.length) :
    ∃ b o c, v = .slice (some ⟨b, o, none⟩) l.length c ∧ b < B ∧ w.cell? ⟨b, o + j * 5, none⟩ = some (.string (str (l.getD j Lx.noV).text)) ∧ w.cell? ⟨b, o + j * 5 + 1, none⟩ = some (.int .i64 (l.getD j Lx.noV).line) ∧ w.cell? ⟨b, o + j * 5 + 2, none⟩ = some (.int .i64 (l.getD j Lx.noV).col) ∧ w.cell? ⟨b, o + j * 5 + 3, none⟩ = some (.bool (l.getD j Lx.noV).quoted) ∧ w.cell? ⟨b, o + j * 5 + 4, none⟩ = some (.bool (l.getD j Lx.noV).mark) := by
  obtain ⟨b, o, c, rfl, hb, hc⟩ := h.cells j hj
  have e : l.getD j Lx.noV = l[j] := by simp [List.getD, List.getElem?_eq_getElem hj]
  rw [e]
  exact ⟨b, o, c, rfl, hb, hc 0 _ (by decide) rfl, hc 1 _ (by decide) rfl, hc 2 _ (by decide) rfl, hc 3 _ (by decide) rfl, hc 4 _ (by decide) rfl⟩

end Go.Proofs.YtfgdlnidfkjbdaaDoor
