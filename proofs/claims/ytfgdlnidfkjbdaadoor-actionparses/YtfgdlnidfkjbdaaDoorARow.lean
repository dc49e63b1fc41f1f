/-
  STATEMENTS AS THEY LIE: rows of statements, each with a row of words and a body.
-/
import Derived.Test.YtfgdlnidfkjbdaaDoorAcMath
import Derived.Test.YtfgdlnidfkjbdaaDoorKit
namespace Go.Proofs.YtfgdlnidfkjbdaaDoor
open Go.RowKit

/-- rows of texts -/
def TxR : Rc (List UInt8) where
  e := 9
  st := 32
  k := 1
  bytes := 16
  z := .string .empty
  enc s := [.string (str s)]
  pos := by decide
  len _ := rfl
  one f u hu := by
    simp only [List.mem_cons, List.not_mem_nil, or_false] at hu
    subst hu; rfl
  info := by kernel_rfl
  under := Tryd.underlying32
  zk := rfl
  small := by decide
/-- a statement as it lies in a row -/
structure RawS where
  op : Int
  aa : Option Addr
  an : Nat
  ac : Nat
  n : Int
  ba : Option Addr
  bn : Nat
  bc : Nat
def RawS.args (r : RawS) : Value := .slice r.aa r.an r.ac
def RawS.body (r : RawS) : Value := .slice r.ba r.bn r.bc
/-- rows of statements as they lie -/
def SmR : Rc RawS where
  e := 34
  st := 25
  k := 4
  bytes := 64
  z := .agg #[.int .i64 0, .slice none 0 0, .int .i64 0, .slice none 0 0]
  enc r := [.int .i64 r.op, .slice r.aa r.an r.ac, .int .i64 r.n, .slice r.ba r.bn r.bc]
  pos := by decide
  len _ := rfl
  one f u hu := by
    simp only [List.mem_cons, List.not_mem_nil, or_false] at hu
    rcases hu with rfl | rfl | rfl | rfl <;> rfl
  info := by kernel_rfl
  under := Tryd.underlying25
  zk := rfl
  small := by decide
namespace Ac
def Fo.drop : Nat → Fo → Fo
  | 0, f => f
  | _ + 1, .nil => .nil
  | k + 1, .cons _ _ _ _ r => r.drop k
theorem Fo.drop_nil : ∀ k : Nat, Fo.drop k .nil = .nil
  | 0 => rfl
  | _ + 1 => rfl
theorem Fo.drop_next : ∀ {f : Fo} {k : Nat} {o : Int} {a : List (List UInt8)} {n : Int} {b r : Fo}, f.drop k = .cons o a n b r → f.drop (k + 1) = r
  | .nil, k, _, _, _, _, _, h => by rw [Fo.drop_nil] at h; cases h
  | .cons _ _ _ _ t, 0, _, _, _, _, _, h => by
    simp only [Fo.drop, Fo.cons.injEq] at h
    exact h.2.2.2.2
  | .cons _ _ _ _ t, k + 1, _, _, _, _, _, h => Fo.drop_next (f := t) (k := k) h
theorem Fo.drop_lt : ∀ {f : Fo} {k : Nat}, k < f.len → ∃ o a n b r, f.drop k = .cons o a n b r
  | .nil, _, h => by simp [Fo.len] at h
  | .cons o a n b t, 0, _ => ⟨o, a, n, b, t, rfl⟩
  | .cons _ _ _ _ t, k + 1, h => Fo.drop_lt (f := t) (k := k) (by simp only [Fo.len] at h; omega)
theorem Fo.drop_len : ∀ (f : Fo), f.drop f.len = .nil
  | .nil => rfl
  | .cons _ _ _ _ t => Fo.drop_len t
/-- a body is smaller than the list in which it stands -/
theorem size_body : ∀ {f : Fo} {k : Nat} {o : Int} {a : List (List UInt8)} {n : Int} {b r : Fo}, f.drop k = .cons o a n b r → size b < size f
  | .nil, k, _, _, _, _, _, h => by rw [Fo.drop_nil] at h; cases h
  | .cons _ _ _ _ t, 0, _, _, _, _, _, h => by
    simp only [Fo.drop, Fo.cons.injEq] at h
    rw [size, h.2.2.2.1]
    omega
  | .cons _ _ _ _ t, k + 1, _, _, _, _, _, h => by
    have := size_body (f := t) (k := k) h
    rw [size]
    omega
/-- what holds of a list where it holds of all its bodies, holds of all lists -/
theorem fo_ind {P : Fo → Prop} (h : ∀ f, (∀ k o a n b r, f.drop k = .cons o a n b r → P b) → P f) : ∀ f, P f := by
  have : ∀ m f, size f < m → P f := by
    intro m
    induction m with
    | zero => intro f hf; omega
    | succ m ih => exact fun f hf => h f fun k o a n b r e => ih b (by have := size_body e; omega)
  exact fun f => this (size f + 1) f (Nat.lt_succ_self _)
end Ac
/-- rows of statements that lie here read as these -/
def FoRow (w : World) (B : Nat) : Ac.Fo → List RawS → Prop
  | .nil, rs => rs = []
  | .cons op a n b t, rs => ∃ r rs', rs = r :: rs' ∧ r.op = op ∧ r.n = n ∧ TxR.Sl w B r.args a ∧ (∃ bs, SmR.Sl w B r.body bs ∧ FoRow w B b bs) ∧ FoRow w B t rs'
/-- v reads as these statements -/
def FoS (w : World) (B : Nat) (v : Value) (f : Ac.Fo) : Prop := ∃ rs, SmR.Sl w B v rs ∧ FoRow w B f rs
theorem FoRow.below {w w' : World} {B B' : Nat} (hb : Below B' w w') (hB : B ≤ B') : ∀ {f : Ac.Fo} {rs : List RawS}, FoRow w B f rs → FoRow w' B f rs
  | .nil, _, h => h
  | .cons _ _ _ _ _, _, ⟨r, rs', h1, h2, h3, h4, ⟨bs, h5, h6⟩, h7⟩ => ⟨r, rs', h1, h2, h3, h4.below hb hB, ⟨bs, h5.below hb hB, FoRow.below hb hB h6⟩, FoRow.below hb hB h7⟩
theorem FoRow.mono {w : World} {B B' : Nat} (hB : B ≤ B') : ∀ {f : Ac.Fo} {rs : List RawS}, FoRow w B f rs → FoRow w B' f rs
  | .nil, _, h => h
  | .cons _ _ _ _ _, _, ⟨r, rs', h1, h2, h3, h4, ⟨bs, h5, h6⟩, h7⟩ => ⟨r, rs', h1, h2, h3, h4.mono hB, ⟨bs, h5.mono hB, FoRow.mono hB h6⟩, FoRow.mono hB h7⟩
theorem FoRow.len {w : World} {B : Nat} : ∀ {f : Ac.Fo} {rs : List RawS}, FoRow w B f rs → rs.length = f.len
  | .nil, _, h => by rw [h]; rfl
  | .cons _ _ _ _ t, _, ⟨r, rs', h1, _, _, _, _, h7⟩ => by rw [h1, List.length_cons, FoRow.len h7]; rfl
theorem FoRow.at {w : World} {B : Nat} : ∀ {f : Ac.Fo} {rs : List RawS} (_ : FoRow w B f rs) {k : Nat} {o : Int} {a : List (List UInt8)} {n : Int} {b r : Ac.Fo} (_ : f.drop k = .cons o a n b r) (hk : k < rs.length), rs[k].op = o ∧ rs[k].n = n ∧ TxR.Sl w B rs[k].args a ∧ FoS w B rs[k].body b
  | .nil, _, _, k, _, _, _, _, _, e, _ => by rw [Ac.Fo.drop_nil] at e; cases e
  | .cons _ _ _ _ t, _, ⟨r, rs', h1, h2, h3, h4, h5, h7⟩, 0, _, _, _, _, _, e, hk => by
    simp only [Ac.Fo.drop, Ac.Fo.cons.injEq] at e
    obtain ⟨rfl, rfl, rfl, rfl, rfl⟩ := e
    subst h1
    exact ⟨h2, h3, h4, h5⟩
  | .cons _ _ _ _ t, _, ⟨r, rs', h1, h2, h3, h4, h5, h7⟩, k + 1, _, _, _, _, _, e, hk => by
    subst h1
    exact FoRow.at h7 (k := k) e (by simpa using hk)
theorem FoS.below {w w' : World} {B B' : Nat} {v : Value} {f : Ac.Fo} (h : FoS w B v f) (hb : Below B' w w') (hB : B ≤ B') : FoS w' B v f := by
  obtain ⟨rs, h1, h2⟩ := h
  exact ⟨rs, h1.below hb hB, h2.below hb hB⟩
theorem FoS.mono {w : World} {B B' : Nat} {v : Value} {f : Ac.Fo} (h : FoS w B v f) (hB : B ≤ B') : FoS w B' v f := by
  obtain ⟨rs, h1, h2⟩ := h
  exact ⟨rs, h1.mono hB, h2.mono hB⟩
theorem FoS.shape {w : World} {B : Nat} {v : Value} {f : Ac.Fo} (h : FoS w B v f) : ∃ ad c, v = .slice ad f.len c ∧ f.len ≤ c := by
  obtain ⟨rs, h1, h2⟩ := h
  obtain ⟨ad, c, e, hc⟩ := h1.shape
  rw [h2.len] at e hc
  exact ⟨ad, c, e, hc⟩
/-- the cells of a statement, its words and its body -/
theorem FoS.at {w : World} {B : Nat} {v : Value} {f : Ac.Fo} (h : FoS w B v f) {k : Nat} {op : Int} {a : List (List UInt8)} {n : Int} {b r : Ac.Fo} (e : f.drop k = .cons op a n b r) (hk : k < f.len) :
    ∃ g o c aa ac ba bc, v = .slice (some ⟨g, o, none⟩) f.len c ∧ g < B ∧ w.cell? ⟨g, o + k * 4, none⟩ = some (.int .i64 op) ∧ w.cell? ⟨g, o + k * 4 + 1, none⟩ = some (.slice aa a.length ac) ∧ w.cell? ⟨g, o + k * 4 + 2, none⟩ = some (.int .i64 n) ∧ w.cell? ⟨g, o + k * 4 + 3, none⟩ = some (.slice ba b.len bc) ∧
      TxR.Sl w B (.slice aa a.length ac) a ∧ FoS w B (.slice ba b.len bc) b := by
  obtain ⟨rs, h1, h2⟩ := h
  have hl := h2.len
  have hk' : k < rs.length := by omega
  obtain ⟨g, o, c, e1, hg, hc⟩ := h1.cells k hk'
  obtain ⟨q1, q2, q3, q4⟩ := h2.at e hk'
  obtain ⟨aa, ac, ea, -⟩ := q3.shape
  obtain ⟨ba, bc, eb, -⟩ := q4.shape
  have c0 := hc 0 _ (by decide) rfl
  have c1 := hc 1 _ (by decide) rfl
  have c2 := hc 2 _ (by decide) rfl
  have c3 := hc 3 _ (by decide) rfl
  rw [show o + (k * SmR.k + 0) = o + k * 4 by show o + (k * 4 + 0) = _; omega] at c0
  rw [show o + (k * SmR.k + 1) = o + k * 4 + 1 by show o + (k * 4 + 1) = _; omega] at c1
  rw [show o + (k * SmR.k + 2) = o + k * 4 + 2 by show o + (k * 4 + 2) = _; omega] at c2
  rw [show o + (k * SmR.k + 3) = o + k * 4 + 3 by show o + (k * 4 + 3) = _; omega] at c3
  rw [ea] at q3
  rw [eb] at q4
  unfold RawS.args at ea
  unfold RawS.body at eb
  rw [ea] at c1
  rw [eb] at c3
  rw [q1] at c0
  rw [q2] at c2
  exact ⟨g, o, c, aa, ac, ba, bc, by rw [e1, hl], hg, c0, c1, c2, c3, q3, q4⟩

end Go.Proofs.YtfgdlnidfkjbdaaDoor
