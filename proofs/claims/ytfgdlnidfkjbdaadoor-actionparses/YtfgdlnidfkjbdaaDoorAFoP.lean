/-
  STATEMENTS AS THEY LIE, with a word on their blocks; a list while it is read.
-/
import Derived.Test.YtfgdlnidfkjbdaaDoorATake
namespace Go.Proofs.YtfgdlnidfkjbdaaDoor
open Go.RowKit

/-- v is a slice whose elements, in w, are l; their block is a P -/
def Rc.SlP {α : Type} (R : Rc α) (w : World) (P : Nat → Prop) (v : Value) (l : List α) : Prop :=
  ∃ ad c, v = .slice ad l.length c ∧ l.length ≤ c ∧ (ad = none → c = 0) ∧ (l ≠ [] → ∃ b o, ad = some ⟨b, o, none⟩ ∧ P b ∧ ∀ j u, (R.vals l)[j]? = some u → w.cell? ⟨b, o + j, none⟩ = some u)
theorem Rc.SlP.keep {α : Type} {R : Rc α} {w w' : World} {P P' : Nat → Prop} {v : Value} {l : List α} (h : R.SlP w P v l) (hk : ∀ b, P b → w'.heap[b]? = w.heap[b]?) (hP : ∀ b, P b → P' b) : R.SlP w' P' v l := by
  obtain ⟨ad, c, hv, hle, hn, h⟩ := h
  refine ⟨ad, c, hv, hle, hn, fun hne => ?_⟩
  obtain ⟨b, o, ha, hp, hc⟩ := h hne
  exact ⟨b, o, ha, hP b hp, fun j u hu => (World.cell?_of_block (hk b hp)).trans (hc j u hu)⟩
theorem Rc.SlP.sl {α : Type} {R : Rc α} {w : World} {P : Nat → Prop} {B : Nat} {v : Value} {l : List α} (h : R.SlP w P v l) (hP : ∀ b, P b → b < B) : R.Sl w B v l := by
  obtain ⟨ad, c, hv, hle, hn, h⟩ := h
  refine ⟨ad, c, hv, hle, hn, fun hne => ?_⟩
  obtain ⟨b, o, ha, hp, hc⟩ := h hne
  exact ⟨b, o, ha, hP b hp, hc⟩
theorem Rc.Own.slP {α : Type} {R : Rc α} {w : World} {base : Nat} {v : Value} {l : List α} (h : R.Own w base v l) : R.SlP w (fun b => v.ownBlock = some b) v l := by
  have hcs := fun g hg => World.ownsRow.cells (g := g) h hg
  rcases h.2 with ⟨rfl, h0⟩ | ⟨g, cap, cur, rfl, _, _, hle, _⟩
  · refine ⟨none, 0, by rw [h0], by omega, fun _ => rfl, fun hne => ?_⟩
    exact absurd (List.eq_nil_of_length_eq_zero h0) hne
  · refine ⟨_, _, rfl, hle, (fun h => by cases h), fun _ => ⟨g, 0, rfl, rfl, fun j u hu => ?_⟩⟩
    have := hcs g rfl j u hu
    rwa [addr_at] at this
/-- rows of statements that lie here, in blocks that are P, read as these -/
def FoRowP (w : World) (P : Nat → Prop) : Ac.Fo → List RawS → Prop
  | .nil, rs => rs = []
  | .cons op a n b t, rs => ∃ r rs', rs = r :: rs' ∧ r.op = op ∧ r.n = n ∧ TxR.SlP w P r.args a ∧ (∃ bs, SmR.SlP w P r.body bs ∧ FoRowP w P b bs) ∧ FoRowP w P t rs'
def FoP (w : World) (P : Nat → Prop) (v : Value) (f : Ac.Fo) : Prop := ∃ rs, SmR.SlP w P v rs ∧ FoRowP w P f rs
theorem FoRowP.keep {w w' : World} {P P' : Nat → Prop} (hk : ∀ b, P b → w'.heap[b]? = w.heap[b]?) (hP : ∀ b, P b → P' b) : ∀ {f : Ac.Fo} {rs : List RawS}, FoRowP w P f rs → FoRowP w' P' f rs
  | .nil, _, h => h
  | .cons _ _ _ _ _, _, ⟨r, rs', h1, h2, h3, h4, ⟨bs, h5, h6⟩, h7⟩ => ⟨r, rs', h1, h2, h3, h4.keep hk hP, ⟨bs, h5.keep hk hP, FoRowP.keep hk hP h6⟩, FoRowP.keep hk hP h7⟩
theorem FoP.keep {w w' : World} {P P' : Nat → Prop} {v : Value} {f : Ac.Fo} (h : FoP w P v f) (hk : ∀ b, P b → w'.heap[b]? = w.heap[b]?) (hP : ∀ b, P b → P' b) : FoP w' P' v f := by
  obtain ⟨rs, h1, h2⟩ := h
  exact ⟨rs, h1.keep hk hP, h2.keep hk hP⟩
theorem FoRowP.foRow {w : World} {P : Nat → Prop} {B : Nat} (hP : ∀ b, P b → b < B) : ∀ {f : Ac.Fo} {rs : List RawS}, FoRowP w P f rs → FoRow w B f rs
  | .nil, _, h => h
  | .cons _ _ _ _ _, _, ⟨r, rs', h1, h2, h3, h4, ⟨bs, h5, h6⟩, h7⟩ => ⟨r, rs', h1, h2, h3, h4.sl hP, ⟨bs, h5.sl hP, FoRowP.foRow hP h6⟩, FoRowP.foRow hP h7⟩
theorem FoP.foS {w : World} {P : Nat → Prop} {B : Nat} {v : Value} {f : Ac.Fo} (h : FoP w P v f) (hP : ∀ b, P b → b < B) : FoS w B v f := by
  obtain ⟨rs, h1, h2⟩ := h
  exact ⟨rs, h1.sl hP, h2.foRow hP⟩
/-- the statements of a list while it is read: their words and bodies are new, and lie in no block that is the list's own -/
def Els (w : World) (base : Nat) (own : Option Nat) : Ac.Fo → List RawS → Prop
  | .nil, rs => rs = []
  | .cons op a n b t, rs => ∃ r rs', rs = r :: rs' ∧ r.op = op ∧ r.n = n ∧ TxR.Own w base r.args a ∧ FoP w (fun k => base ≤ k ∧ k < w.heap.size ∧ own ≠ some k) r.body b ∧ Els w base own t rs'
/-- a list that was read: all of it is new -/
def FoNew (w : World) (base : Nat) (v : Value) (f : Ac.Fo) : Prop := ∃ rs, SmR.Own w base v rs ∧ Els w base v.ownBlock f rs
theorem Els.len {w : World} {base : Nat} {own : Option Nat} : ∀ {f : Ac.Fo} {rs : List RawS}, Els w base own f rs → rs.length = f.len
  | .nil, _, h => by rw [h]; rfl
  | .cons _ _ _ _ _, _, ⟨r, rs', h1, _, _, _, _, h7⟩ => by rw [h1, List.length_cons, Els.len h7]; rfl
/-- words and bodies stay where only other blocks turn -/
theorem Els.turn {w w' : World} {base : Nat} {own own' : Option Nat} {S : List Nat} (hT : Turn S w w') (hS : ∀ x ∈ S, x < base ∨ (own = some x ∧ ∃ cs t, Rw w x cs t ∧ t ≠ 9)) (ho : ∀ k, k < w.heap.size → own ≠ some k → own' ≠ some k) : ∀ {f : Ac.Fo} {rs : List RawS}, Els w base own f rs → Els w' base own' f rs
  | .nil, _, h => h
  | .cons _ _ _ _ _, _, ⟨r, rs', h1, h2, h3, h4, h5, h7⟩ => by
    refine ⟨r, rs', h1, h2, h3, Row.turn h4 hT fun g hg hx => ?_, h5.keep (fun b hb => hT.block b hb.2.1 fun hx => ?_) (fun b hb => ⟨hb.1, Nat.lt_of_lt_of_le hb.2.1 hT.size, ho b hb.2.1 hb.2.2⟩), Els.turn hT hS ho h7⟩
    · rcases hS g hx with h | ⟨_, cs, t, hR, ht⟩
      · have := (h4.lt g hg).1
        omega
      · exact Rw.ne_row hR h4 ht hg rfl
    · rcases hS b hx with h | ⟨h, -⟩
      · have := hb.1
        omega
      · exact hb.2.2 h
theorem Els.snoc {w : World} {base : Nat} {own : Option Nat} : ∀ {f : Ac.Fo} {rs : List RawS}, Els w base own f rs → ∀ {op : Int} {a : List (List UInt8)} {n : Int} {b : Ac.Fo} {r : RawS}, r.op = op → r.n = n → TxR.Own w base r.args a → FoP w (fun k => base ≤ k ∧ k < w.heap.size ∧ own ≠ some k) r.body b → Els w base own (f.app (.cons op a n b .nil)) (rs ++ [r])
  | .nil, _, h, op, a, n, b, r, h1, h2, h3, h4 => by
    rw [show _ = _ from h]
    exact ⟨r, [], rfl, h1, h2, h3, h4, rfl⟩
  | .cons _ _ _ _ _, _, ⟨r', rs', h1, h2, h3, h4, h5, h7⟩, op, a, n, b, r, k1, k2, k3, k4 => ⟨r', rs' ++ [r], by rw [h1]; rfl, h2, h3, h4, h5, Els.snoc h7 k1 k2 k3 k4⟩
theorem Els.rowP {w : World} {base : Nat} {own : Option Nat} {P : Nat → Prop} (hP : ∀ b, base ≤ b → b < w.heap.size → P b) : ∀ {f : Ac.Fo} {rs : List RawS}, Els w base own f rs → FoRowP w P f rs
  | .nil, _, h => h
  | .cons _ _ _ _ _, _, ⟨r, rs', h1, h2, h3, h4, h5, h7⟩ => by
    refine ⟨r, rs', h1, h2, h3, h4.slP.keep (fun _ _ => rfl) (fun b hb => hP b (h4.lt b hb).1 (h4.lt b hb).2), ?_, Els.rowP hP h7⟩
    exact h5.keep (fun _ _ => rfl) (fun b hb => hP b hb.1 hb.2.1)
theorem FoNew.foP {w : World} {base : Nat} {v : Value} {f : Ac.Fo} (h : FoNew w base v f) {P : Nat → Prop} (hP : ∀ b, base ≤ b → b < w.heap.size → P b) : FoP w P v f := by
  obtain ⟨rs, h1, h2⟩ := h
  exact ⟨rs, h1.slP.keep (fun _ _ => rfl) (fun b hb => hP b (h1.lt b hb).1 (h1.lt b hb).2), h2.rowP hP⟩
theorem FoNew.foS {w : World} {base : Nat} {v : Value} {f : Ac.Fo} (h : FoNew w base v f) : FoS w w.heap.size v f := (h.foP (P := fun b => b < w.heap.size) fun _ _ h => h).foS fun _ h => h
theorem FoNew.nil (w : World) (base : Nat) : FoNew w base (.slice none 0 0) .nil := ⟨[], Rc.Own.nil _ _, rfl⟩

end Go.Proofs.YtfgdlnidfkjbdaaDoor
