/-
  LINES AS THEY LIE: rows of rows of texts; WHAT THE DOCUMENT's Alike DOES.
-/
import Derived.Test.YtfgdlnidfkjbdaaDoorARow
namespace Go.Proofs.YtfgdlnidfkjbdaaDoor
open Go.RowKit

/-- a line as it lies in a row -/
structure RawT where
  a : Option Addr
  n : Nat
  c : Nat
def RawT.val (r : RawT) : Value := .slice r.a r.n r.c
/-- rows of lines as they lie -/
def LiR : Rc RawT where
  e := 32
  st := 22
  k := 1
  bytes := 24
  z := .slice none 0 0
  enc r := [.slice r.a r.n r.c]
  pos := by decide
  len _ := rfl
  one f u hu := by
    simp only [List.mem_cons, List.not_mem_nil, or_false] at hu
    subst hu; rfl
  info := by kernel_rfl
  under := Tryd.underlying22
  zk := rfl
  small := by decide
/-- rows of lines that lie here read as these -/
def LiRow (w : World) (B : Nat) : List (List (List UInt8)) → List RawT → Prop
  | [], rs => rs = []
  | a :: t, rs => ∃ r rs', rs = r :: rs' ∧ TxR.Sl w B r.val a ∧ LiRow w B t rs'
/-- v reads as these lines -/
def LiS (w : World) (B : Nat) (v : Value) (l : List (List (List UInt8))) : Prop := ∃ rs, LiR.Sl w B v rs ∧ LiRow w B l rs
theorem LiRow.below {w w' : World} {B B' : Nat} (hb : Below B' w w') (hB : B ≤ B') : ∀ {l : List (List (List UInt8))} {rs : List RawT}, LiRow w B l rs → LiRow w' B l rs
  | [], _, h => h
  | _ :: _, _, ⟨r, rs', h1, h2, h3⟩ => ⟨r, rs', h1, h2.below hb hB, LiRow.below hb hB h3⟩
theorem LiRow.mono {w : World} {B B' : Nat} (hB : B ≤ B') : ∀ {l : List (List (List UInt8))} {rs : List RawT}, LiRow w B l rs → LiRow w B' l rs
  | [], _, h => h
  | _ :: _, _, ⟨r, rs', h1, h2, h3⟩ => ⟨r, rs', h1, h2.mono hB, LiRow.mono hB h3⟩
theorem LiRow.len {w : World} {B : Nat} : ∀ {l : List (List (List UInt8))} {rs : List RawT}, LiRow w B l rs → rs.length = l.length
  | [], _, h => by rw [h]; rfl
  | _ :: _, _, ⟨r, rs', h1, _, h3⟩ => by rw [h1, List.length_cons, LiRow.len h3]; rfl
theorem LiRow.at {w : World} {B : Nat} : ∀ {l : List (List (List UInt8))} {rs : List RawT} (_ : LiRow w B l rs) {k : Nat} (hl : k < l.length) (hk : k < rs.length), TxR.Sl w B rs[k].val l[k]
  | [], _, _, k, hl, _ => absurd hl (Nat.not_lt_zero _)
  | _ :: _, _, ⟨r, rs', h1, h2, _⟩, 0, _, _ => by subst h1; exact h2
  | _ :: _, _, ⟨r, rs', h1, _, h3⟩, k + 1, hl, hk => by
    subst h1
    exact LiRow.at h3 (k := k) (by simpa using hl) (by simpa using hk)
theorem LiS.below {w w' : World} {B B' : Nat} {v : Value} {l : List (List (List UInt8))} (h : LiS w B v l) (hb : Below B' w w') (hB : B ≤ B') : LiS w' B v l := by
  obtain ⟨rs, h1, h2⟩ := h
  exact ⟨rs, h1.below hb hB, h2.below hb hB⟩
theorem LiS.mono {w : World} {B B' : Nat} {v : Value} {l : List (List (List UInt8))} (h : LiS w B v l) (hB : B ≤ B') : LiS w B' v l := by
  obtain ⟨rs, h1, h2⟩ := h
  exact ⟨rs, h1.mono hB, h2.mono hB⟩
theorem LiS.shape {w : World} {B : Nat} {v : Value} {l : List (List (List UInt8))} (h : LiS w B v l) : ∃ ad c, v = .slice ad l.length c ∧ l.length ≤ c := by
  obtain ⟨rs, h1, h2⟩ := h
  obtain ⟨ad, c, e, hc⟩ := h1.shape
  rw [h2.len] at e hc
  exact ⟨ad, c, e, hc⟩
theorem LiS.at {w : World} {B : Nat} {v : Value} {l : List (List (List UInt8))} (h : LiS w B v l) {k : Nat} (hk : k < l.length) :
    ∃ g o c aa ac, v = .slice (some ⟨g, o, none⟩) l.length c ∧ g < B ∧ w.cell? ⟨g, o + k, none⟩ = some (.slice aa l[k].length ac) ∧ TxR.Sl w B (.slice aa l[k].length ac) l[k] := by
  obtain ⟨rs, h1, h2⟩ := h
  have hl := h2.len
  have hk' : k < rs.length := by omega
  obtain ⟨g, o, c, e1, hg, hc⟩ := h1.cells k hk'
  have q := h2.at hk hk'
  obtain ⟨aa, ac, ea, -⟩ := q.shape
  have c0 := hc 0 _ (by decide) rfl
  rw [show o + (k * LiR.k + 0) = o + k by show o + (k * 1 + 0) = _; omega] at c0
  rw [ea] at q
  unfold RawT.val at ea
  rw [ea] at c0
  exact ⟨g, o, c, aa, ac, by rw [e1, hl], hg, c0, q⟩
theorem TxR.at {w : World} {B : Nat} {v : Value} {l : List (List UInt8)} (h : TxR.Sl w B v l) {k : Nat} (hk : k < l.length) :
    ∃ g o c, v = .slice (some ⟨g, o, none⟩) l.length c ∧ g < B ∧ w.cell? ⟨g, o + k, none⟩ = some (.string (str l[k])) := by
  obtain ⟨g, o, c, e1, hg, hc⟩ := h.cells k hk
  have c0 := hc 0 _ (by decide) rfl
  rw [show o + (k * TxR.k + 0) = o + k by show o + (k * 1 + 0) = _; omega] at c0
  exact ⟨g, o, c, e1, hg, c0⟩

end Go.Proofs.YtfgdlnidfkjbdaaDoor
