/-
  WHAT THE LANDED CODE's readLine DOES.
-/
import Derived.Test.YtnobmgkdieaclaaGreatDoorAcLaid
import Derived.Deep.MidRow
import Derived.Test.YtnobmgkdieaclaaGreatDoorKit
import Derived.BigQuiet
import Derived.Deep.RegionHeld3
namespace Go.Proofs.YtnobmgkdieaclaaGreatDoor
open Go.RowKit

namespace Ac
theorem rd_none {wd : List UInt8} {r : List (List UInt8)} (h : ∀ j, j < 13 → kw j ≠ wd) : rdLine (wd :: r) = none := by
  have h0 : sEnd ≠ wd := h 0 (by omega)
  unfold rdLine
  rw [if_neg (fun e => h0 (List.cons.inj e).1.symm), stmtOf_cons]
  cases ho : opOf wd with
  | none => rfl
  | some op =>
    obtain ⟨rfl, hw⟩ := opOf_some ho
    rcases word_of hw with rfl | rfl | rfl | rfl | rfl | rfl | rfl | rfl | rfl | rfl | rfl | rfl
    · exact absurd rfl (h 1 (by omega))
    · exact absurd rfl (h 2 (by omega))
    · exact absurd rfl (h 3 (by omega))
    · exact absurd rfl (h 4 (by omega))
    · exact absurd rfl (h 5 (by omega))
    · exact absurd rfl (h 6 (by omega))
    · exact absurd rfl (h 7 (by omega))
    · exact absurd rfl (h 8 (by omega))
    · exact absurd rfl (h 9 (by omega))
    · exact absurd rfl (h 10 (by omega))
    · exact absurd rfl (h 11 (by omega))
    · exact absurd rfl (h 12 (by omega))
/-- what is read, with its kind -/
def withOp (op : Int) : Option (List (List UInt8) × Int) → Option (Int × List (List UInt8) × Int)
  | none => none
  | some (a, n) => some (op, a, n)
theorem rd_found {k : Nat} {wd : List UInt8} {r : List (List UInt8)} (hk : k < 13) (h : kw k = wd) (hr : r.length ≤ 1099511627) : rdLine (wd :: r) = withOp (k : Int) (fillP (kl k) (km k) (kn k) r) := by
  by_cases h0 : k = 0
  · subst h0
    have hw : wd = sEnd := h.symm
    subst hw
    unfold rdLine fillP
    rw [if_neg (show ¬ kn 0 = true by decide)]
    cases r with
    | nil => rw [if_pos rfl, if_pos (by decide)]; rfl
    | cons s t =>
      rw [if_neg (by simp), if_neg, stmtOf_cons, opOf_end]
      · rfl
      · rintro ⟨-, h2⟩
        have : km 0 = 0 := rfl
        rw [this, List.length_cons] at h2
        omega
  · have hk2 : kw k = word (k : Int) := by unfold kw; rw [if_neg h0]
    rw [hk2] at h
    have hne : word (k : Int) ≠ [] := by
      have : ∀ i : Fin 13, i.1 ≠ 0 → word (i.1 : Int) ≠ [] := by decide
      exact this ⟨k, hk⟩ h0
    have hnE : word (k : Int) ≠ sEnd := by
      have : ∀ i : Fin 13, i.1 ≠ 0 → word (i.1 : Int) ≠ sEnd := by decide
      exact this ⟨k, hk⟩ h0
    unfold rdLine
    rw [if_neg (fun e => hnE (h.trans (List.cons.inj e).1)), stmtOf_cons, ← h, opOf_word hne, Option.bind_some, stmtW]
    unfold fillP
    by_cases h10 : k = 10
    · subst h10
      rw [if_pos (show ((10 : Nat) : Int) = 10 from rfl), if_pos (show kn 10 = true from rfl)]
      cases r with
      | nil => rfl
      | cons s t =>
        cases t with
        | nil =>
          rw [repOf]
          cases hn : number s with
          | none => simp [withOp, hn]
          | some n => simp [withOp, hn, kl, km]
        | cons u t =>
          rw [repOf]
          · cases hn : number s with
            | none => simp [withOp, hn]
            | some n =>
              have : ¬ ((t.length : Int) + 1 ≤ 0) := by omega
              simp [withOp, hn, kl, km, this]
          · simp
    · rw [if_neg (by omega), if_neg (show ¬ kn k = true by unfold kn; simpa using h10)]
      have hA : argsOk (k : Int) r.length = true ↔ (kl k ≤ (r.length : Int) ∧ (r.length : Int) ≤ km k) := by
        unfold argsOk km kl
        by_cases c1 : k = 1 ∨ k = 2 ∨ k = 8 ∨ k = 11
        · rw [if_pos (show (k : Int) = 1 ∨ (k : Int) = 2 ∨ (k : Int) = 8 ∨ (k : Int) = 11 by omega), if_neg (show ¬ (k = 3 ∨ k = 9) by omega), if_pos c1, decide_eq_true_iff]; omega
        · rw [if_neg (show ¬ ((k : Int) = 1 ∨ (k : Int) = 2 ∨ (k : Int) = 8 ∨ (k : Int) = 11) by omega), if_neg c1]
          by_cases c2 : k = 3 ∨ k = 9
          · rw [if_pos (show (k : Int) = 3 ∨ (k : Int) = 9 by omega), if_pos c2, if_neg (show ¬ k = 12 by omega)]
            simp only [true_iff]
            omega
          · rw [if_neg (show ¬ ((k : Int) = 3 ∨ (k : Int) = 9) by omega), if_neg c2]
            by_cases c3 : k = 12
            · rw [if_pos (show (k : Int) = 12 by omega), if_pos c3, decide_eq_true_iff]; omega
            · rw [if_neg (show ¬ (k : Int) = 12 by omega), if_neg c3, decide_eq_true_iff]; omega
      by_cases hc : argsOk (k : Int) r.length = true
      · rw [if_pos hc, if_pos (hA.1 hc)]; rfl
      · rw [if_neg hc, if_neg (fun e => hc (hA.2 e))]; rfl
end Ac
theorem kidx0 (W : World) : (Instr.index 121 (.agg Ac.kCells.toArray) (.int .i64 ((0 : Nat) : Int))).run Tryz.prog W = .ok (.agg #[.string (str (Ac.kw 0)), .int .i64 (Ac.kl 0), .int .i64 (Ac.km 0), .bool (Ac.kn 0), .bool (Ac.kb 0)]) W := by kernel_rfl
theorem kidx1 (W : World) : (Instr.index 121 (.agg Ac.kCells.toArray) (.int .i64 ((1 : Nat) : Int))).run Tryz.prog W = .ok (.agg #[.string (str (Ac.kw 1)), .int .i64 (Ac.kl 1), .int .i64 (Ac.km 1), .bool (Ac.kn 1), .bool (Ac.kb 1)]) W := by kernel_rfl
theorem kidx2 (W : World) : (Instr.index 121 (.agg Ac.kCells.toArray) (.int .i64 ((2 : Nat) : Int))).run Tryz.prog W = .ok (.agg #[.string (str (Ac.kw 2)), .int .i64 (Ac.kl 2), .int .i64 (Ac.km 2), .bool (Ac.kn 2), .bool (Ac.kb 2)]) W := by kernel_rfl
theorem kidx3 (W : World) : (Instr.index 121 (.agg Ac.kCells.toArray) (.int .i64 ((3 : Nat) : Int))).run Tryz.prog W = .ok (.agg #[.string (str (Ac.kw 3)), .int .i64 (Ac.kl 3), .int .i64 (Ac.km 3), .bool (Ac.kn 3), .bool (Ac.kb 3)]) W := by kernel_rfl
theorem kidx4 (W : World) : (Instr.index 121 (.agg Ac.kCells.toArray) (.int .i64 ((4 : Nat) : Int))).run Tryz.prog W = .ok (.agg #[.string (str (Ac.kw 4)), .int .i64 (Ac.kl 4), .int .i64 (Ac.km 4), .bool (Ac.kn 4), .bool (Ac.kb 4)]) W := by kernel_rfl
theorem kidx5 (W : World) : (Instr.index 121 (.agg Ac.kCells.toArray) (.int .i64 ((5 : Nat) : Int))).run Tryz.prog W = .ok (.agg #[.string (str (Ac.kw 5)), .int .i64 (Ac.kl 5), .int .i64 (Ac.km 5), .bool (Ac.kn 5), .bool (Ac.kb 5)]) W := by kernel_rfl
theorem kidx6 (W : World) : (Instr.index 121 (.agg Ac.kCells.toArray) (.int .i64 ((6 : Nat) : Int))).run Tryz.prog W = .ok (.agg #[.string (str (Ac.kw 6)), .int .i64 (Ac.kl 6), .int .i64 (Ac.km 6), .bool (Ac.kn 6), .bool (Ac.kb 6)]) W := by kernel_rfl
theorem kidx7 (W : World) : (Instr.index 121 (.agg Ac.kCells.toArray) (.int .i64 ((7 : Nat) : Int))).run Tryz.prog W = .ok (.agg #[.string (str (Ac.kw 7)), .int .i64 (Ac.kl 7), .int .i64 (Ac.km 7), .bool (Ac.kn 7), .bool (Ac.kb 7)]) W := by kernel_rfl
theorem kidx8 (W : World) : (Instr.index 121 (.agg Ac.kCells.toArray) (.int .i64 ((8 : Nat) : Int))).run Tryz.prog W = .ok (.agg #[.string (str (Ac.kw 8)), .int .i64 (Ac.kl 8), .int .i64 (Ac.km 8), .bool (Ac.kn 8), .bool (Ac.kb 8)]) W := by kernel_rfl
theorem kidx9 (W : World) : (Instr.index 121 (.agg Ac.kCells.toArray) (.int .i64 ((9 : Nat) : Int))).run Tryz.prog W = .ok (.agg #[.string (str (Ac.kw 9)), .int .i64 (Ac.kl 9), .int .i64 (Ac.km 9), .bool (Ac.kn 9), .bool (Ac.kb 9)]) W := by kernel_rfl
theorem kidx10 (W : World) : (Instr.index 121 (.agg Ac.kCells.toArray) (.int .i64 ((10 : Nat) : Int))).run Tryz.prog W = .ok (.agg #[.string (str (Ac.kw 10)), .int .i64 (Ac.kl 10), .int .i64 (Ac.km 10), .bool (Ac.kn 10), .bool (Ac.kb 10)]) W := by kernel_rfl
theorem kidx11 (W : World) : (Instr.index 121 (.agg Ac.kCells.toArray) (.int .i64 ((11 : Nat) : Int))).run Tryz.prog W = .ok (.agg #[.string (str (Ac.kw 11)), .int .i64 (Ac.kl 11), .int .i64 (Ac.km 11), .bool (Ac.kn 11), .bool (Ac.kb 11)]) W := by kernel_rfl
theorem kidx12 (W : World) : (Instr.index 121 (.agg Ac.kCells.toArray) (.int .i64 ((12 : Nat) : Int))).run Tryz.prog W = .ok (.agg #[.string (str (Ac.kw 12)), .int .i64 (Ac.kl 12), .int .i64 (Ac.km 12), .bool (Ac.kn 12), .bool (Ac.kb 12)]) W := by kernel_rfl
theorem kidx (i : Nat) (hi : i < 13) (W : World) : (Instr.index 121 (.agg Ac.kCells.toArray) (.int .i64 (i : Int))).run Tryz.prog W = .ok (.agg #[.string (str (Ac.kw i)), .int .i64 (Ac.kl i), .int .i64 (Ac.km i), .bool (Ac.kn i), .bool (Ac.kb i)]) W := by
  match i, hi with
  | 0, _ => exact kidx0 W
  | 1, _ => exact kidx1 W
  | 2, _ => exact kidx2 W
  | 3, _ => exact kidx3 W
  | 4, _ => exact kidx4 W
  | 5, _ => exact kidx5 W
  | 6, _ => exact kidx6 W
  | 7, _ => exact kidx7 W
  | 8, _ => exact kidx8 W
  | 9, _ => exact kidx9 W
  | 10, _ => exact kidx10 W
  | 11, _ => exact kidx11 W
  | 12, _ => exact kidx12 W
theorem Laid.load {w : World} (h : Laid w) : (Instr.loadAt 121 (.pointer (some ⟨0, 0, none⟩))).run Tryz.prog w = .ok (.agg Ac.kCells.toArray) w :=
  run_loadAt_mid w _ 0 _ Ac.kCells _ (fun j v hv => by rw [Nat.zero_add]; exact h.kinds j v hv) Tryz.underlying121 rfl (by kernel_rfl)

/-- how the reading of a line ends -/
def LnEnd (w : World) (base : Nat) : Option (Int × List (List UInt8) × Int) → Value → Prop
  | none, v => v = .tuple #[.agg #[.int .i64 0, .slice none 0 0, .int .i64 0, .slice none 0 0], .bool false]
  | some (op, a, n), v => ∃ va, v = .tuple #[.agg #[.int .i64 op, va, .int .i64 n, .slice none 0 0], .bool true] ∧ TxR.Own w base va a

end Go.Proofs.YtnobmgkdieaclaaGreatDoor

namespace Go.Proofs.YtnobmgkdieaclaaGreatDoor
open Go.RowKit

end Go.Proofs.YtnobmgkdieaclaaGreatDoor

namespace Go.Proofs.YtnobmgkdieaclaaGreatDoor
open Go.RowKit

/-- v is a slice whose elements, in w, are l; their block is a P -/
def Rc.SlP {α : Type} (R : Rc α) (w : World) (P : Nat → Prop) (v : Value) (l : List α) : Prop :=
  ∃ ad c, v = .slice ad l.length c ∧ l.length ≤ c ∧ (ad = none → c = 0) ∧ (l ≠ [] → ∃ b o, ad = some ⟨b, o, none⟩ ∧ P b ∧ ∀ j u, (R.vals l)[j]? = some u → w.cell? ⟨b, o + j, none⟩ = some u)
theorem Rc.SlP.keep {α : Type} {R : Rc α} {w w' : World} {P P' : Nat → Prop} {v : Value} {l : List α} (h : R.SlP w P v l) (hk : ∀ b, P b → w'.heap[b]? = w.heap[b]?) (hP : ∀ b, P b → P' b) : R.SlP w' P' v l := by
  obtain ⟨ad, c, hv, hle, hn, h⟩ := h
  refine ⟨ad, c, hv, hle, hn, fun hne => ?_⟩
  obtain ⟨b, o, ha, hp, hc⟩ := h hne
  exact ⟨b, o, ha, hP b hp, fun j u hu => (World.cell?_of_block (hk b hp)).trans (hc j u hu)⟩
theorem Rc.SlP.sl {α : Type} {R : Rc α} {w : World} {P : Nat → Prop} {B : Nat} {v : Value} {l : List α} (h : R.SlP w P v l) (hP : ∀ b, P b → b < B) : R.Sl w B v l := by
  obtain ⟨ad, c, hv, hle, hn, h⟩ := h
  refine ⟨ad, c, hv, hle, hn, fun hne => ?_⟩
  obtain ⟨b, o, ha, hp, hc⟩ := h hne
  exact ⟨b, o, ha, hP b hp, hc⟩
theorem Rc.Own.slP {α : Type} {R : Rc α} {w : World} {base : Nat} {v : Value} {l : List α} (h : R.Own w base v l) : R.SlP w (fun b => v.ownBlock = some b) v l := by
  have hcs := fun g hg => World.ownsRow.cells (g := g) h hg
  rcases h.2 with ⟨rfl, h0⟩ | ⟨g, cap, cur, rfl, _, _, hle, _⟩
  · refine ⟨none, 0, by rw [h0], by omega, fun _ => rfl, fun hne => ?_⟩
    exact absurd (List.eq_nil_of_length_eq_zero h0) hne
  · refine ⟨_, _, rfl, hle, (fun h => by cases h), fun _ => ⟨g, 0, rfl, rfl, fun j u hu => ?_⟩⟩
    have := hcs g rfl j u hu
    rwa [addr_at] at this
/-- rows of statements that lie here, in blocks that are P, read as these -/
def FoRowP (w : World) (P : Nat → Prop) : Ac.Fo → List RawS → Prop
  | .nil, rs => rs = []
  | .cons op a n b t, rs => ∃ r rs', rs = r :: rs' ∧ r.op = op ∧ r.n = n ∧ TxR.SlP w P r.args a ∧ (∃ bs, SmR.SlP w P r.body bs ∧ FoRowP w P b bs) ∧ FoRowP w P t rs'
def FoP (w : World) (P : Nat → Prop) (v : Value) (f : Ac.Fo) : Prop := ∃ rs, SmR.SlP w P v rs ∧ FoRowP w P f rs
theorem FoRowP.keep {w w' : World} {P P' : Nat → Prop} (hk : ∀ b, P b → w'.heap[b]? = w.heap[b]?) (hP : ∀ b, P b → P' b) : ∀ {f : Ac.Fo} {rs : List RawS}, FoRowP w P f rs → FoRowP w' P' f rs
  | .nil, _, h => h
  | .cons _ _ _ _ _, _, ⟨r, rs', h1, h2, h3, h4, ⟨bs, h5, h6⟩, h7⟩ => ⟨r, rs', h1, h2, h3, h4.keep hk hP, ⟨bs, h5.keep hk hP, FoRowP.keep hk hP h6⟩, FoRowP.keep hk hP h7⟩
theorem FoP.keep {w w' : World} {P P' : Nat → Prop} {v : Value} {f : Ac.Fo} (h : FoP w P v f) (hk : ∀ b, P b → w'.heap[b]? = w.heap[b]?) (hP : ∀ b, P b → P' b) : FoP w' P' v f := by
  obtain ⟨rs, h1, h2⟩ := h
  exact ⟨rs, h1.keep hk hP, h2.keep hk hP⟩
theorem FoRowP.foRow {w : World} {P : Nat → Prop} {B : Nat} (hP : ∀ b, P b → b < B) : ∀ {f : Ac.Fo} {rs : List RawS}, FoRowP w P f rs → FoRow w B f rs
  | .nil, _, h => h
  | .cons _ _ _ _ _, _, ⟨r, rs', h1, h2, h3, h4, ⟨bs, h5, h6⟩, h7⟩ => ⟨r, rs', h1, h2, h3, h4.sl hP, ⟨bs, h5.sl hP, FoRowP.foRow hP h6⟩, FoRowP.foRow hP h7⟩
theorem FoP.foS {w : World} {P : Nat → Prop} {B : Nat} {v : Value} {f : Ac.Fo} (h : FoP w P v f) (hP : ∀ b, P b → b < B) : FoS w B v f := by
  obtain ⟨rs, h1, h2⟩ := h
  exact ⟨rs, h1.sl hP, h2.foRow hP⟩
/-- the statements of a list while it is read: their words and bodies are new, and lie in no block that is the list's own -/
def Els (w : World) (base : Nat) (own : Option Nat) : Ac.Fo → List RawS → Prop
  | .nil, rs => rs = []
  | .cons op a n b t, rs => ∃ r rs', rs = r :: rs' ∧ r.op = op ∧ r.n = n ∧ TxR.Own w base r.args a ∧ FoP w (fun k => base ≤ k ∧ k < w.heap.size ∧ own ≠ some k) r.body b ∧ Els w base own t rs'
/-- a list that was read: all of it is new -/
def FoNew (w : World) (base : Nat) (v : Value) (f : Ac.Fo) : Prop := ∃ rs, SmR.Own w base v rs ∧ Els w base v.ownBlock f rs
theorem Els.len {w : World} {base : Nat} {own : Option Nat} : ∀ {f : Ac.Fo} {rs : List RawS}, Els w base own f rs → rs.length = f.len
  | .nil, _, h => by rw [h]; rfl
  | .cons _ _ _ _ _, _, ⟨r, rs', h1, _, _, _, _, h7⟩ => by rw [h1, List.length_cons, Els.len h7]; rfl
/-- words and bodies stay where only other blocks turn -/
theorem Els.turn {w w' : World} {base : Nat} {own own' : Option Nat} {S : List Nat} (hT : Turn S w w') (hS : ∀ x ∈ S, x < base ∨ (own = some x ∧ ∃ cs t, Rw w x cs t ∧ t ≠ 9)) (ho : ∀ k, k < w.heap.size → own ≠ some k → own' ≠ some k) : ∀ {f : Ac.Fo} {rs : List RawS}, Els w base own f rs → Els w' base own' f rs
  | .nil, _, h => h
  | .cons _ _ _ _ _, _, ⟨r, rs', h1, h2, h3, h4, h5, h7⟩ => by
    refine ⟨r, rs', h1, h2, h3, Row.turn h4 hT fun g hg hx => ?_, h5.keep (fun b hb => hT.block b hb.2.1 fun hx => ?_) (fun b hb => ⟨hb.1, Nat.lt_of_lt_of_le hb.2.1 hT.size, ho b hb.2.1 hb.2.2⟩), Els.turn hT hS ho h7⟩
    · rcases hS g hx with h | ⟨_, cs, t, hR, ht⟩
      · have := (h4.lt g hg).1
        omega
      · exact Rw.ne_row hR h4 ht hg rfl
    · rcases hS b hx with h | ⟨h, -⟩
      · have := hb.1
        omega
      · exact hb.2.2 h
theorem Els.snoc {w : World} {base : Nat} {own : Option Nat} : ∀ {f : Ac.Fo} {rs : List RawS}, Els w base own f rs → ∀ {op : Int} {a : List (List UInt8)} {n : Int} {b : Ac.Fo} {r : RawS}, r.op = op → r.n = n → TxR.Own w base r.args a → FoP w (fun k => base ≤ k ∧ k < w.heap.size ∧ own ≠ some k) r.body b → Els w base own (f.app (.cons op a n b .nil)) (rs ++ [r])
  | .nil, _, h, op, a, n, b, r, h1, h2, h3, h4 => by
    rw [show _ = _ from h]
    exact ⟨r, [], rfl, h1, h2, h3, h4, rfl⟩
  | .cons _ _ _ _ _, _, ⟨r', rs', h1, h2, h3, h4, h5, h7⟩, op, a, n, b, r, k1, k2, k3, k4 => ⟨r', rs' ++ [r], by rw [h1]; rfl, h2, h3, h4, h5, Els.snoc h7 k1 k2 k3 k4⟩
theorem Els.rowP {w : World} {base : Nat} {own : Option Nat} {P : Nat → Prop} (hP : ∀ b, base ≤ b → b < w.heap.size → P b) : ∀ {f : Ac.Fo} {rs : List RawS}, Els w base own f rs → FoRowP w P f rs
  | .nil, _, h => h
  | .cons _ _ _ _ _, _, ⟨r, rs', h1, h2, h3, h4, h5, h7⟩ => by
    refine ⟨r, rs', h1, h2, h3, h4.slP.keep (fun _ _ => rfl) (fun b hb => hP b (h4.lt b hb).1 (h4.lt b hb).2), ?_, Els.rowP hP h7⟩
    exact h5.keep (fun _ _ => rfl) (fun b hb => hP b hb.1 hb.2.1)
theorem FoNew.foP {w : World} {base : Nat} {v : Value} {f : Ac.Fo} (h : FoNew w base v f) {P : Nat → Prop} (hP : ∀ b, base ≤ b → b < w.heap.size → P b) : FoP w P v f := by
  obtain ⟨rs, h1, h2⟩ := h
  exact ⟨rs, h1.slP.keep (fun _ _ => rfl) (fun b hb => hP b (h1.lt b hb).1 (h1.lt b hb).2), h2.rowP hP⟩
theorem FoNew.foS {w : World} {base : Nat} {v : Value} {f : Ac.Fo} (h : FoNew w base v f) : FoS w w.heap.size v f := (h.foP (P := fun b => b < w.heap.size) fun _ _ h => h).foS fun _ h => h
theorem FoNew.nil (w : World) (base : Nat) : FoNew w base (.slice none 0 0) .nil := ⟨[], Rc.Own.nil _ _, rfl⟩

end Go.Proofs.YtnobmgkdieaclaaGreatDoor

namespace Go.Proofs.YtnobmgkdieaclaaGreatDoor
open Go.ChangeShapes Go.WideShapes Go.ChangeAt Go.RowKit

instance : Inhabited RawT := ⟨⟨none, 0, 0⟩⟩
instance : Inhabited RawS := ⟨⟨0, none, 0, 0, 0, none, 0, 0⟩⟩
theorem cellsA3 : Tryz.prog.cellsOf 3 = 1 := by kernel_rfl
theorem cellsA9 : Tryz.prog.cellsOf 9 = 1 := by kernel_rfl
theorem cellsAT : Tryz.prog.cellsOf 23 = 1 := by kernel_rfl
theorem cellsAS : Tryz.prog.cellsOf 75 = 4 := by kernel_rfl
theorem cellsAL : Tryz.prog.cellsOf 22 = 1 := by kernel_rfl
theorem bytesA9 : 1 ≤ Tryz.prog.bytesOf 9 := by
  rw [show Tryz.prog.bytesOf 9 = 16 by kernel_rfl]; decide
theorem bytesAT : 1 ≤ Tryz.prog.bytesOf 23 := by
  rw [show Tryz.prog.bytesOf 23 = 24 by kernel_rfl]; decide
theorem bytesAS : 1 ≤ Tryz.prog.bytesOf 75 := by
  rw [show Tryz.prog.bytesOf 75 = 64 by kernel_rfl]; decide
theorem reach_is : reachBytes = 140737488351232 := rfl

set_option maxRecDepth 100000 in
theorem open_texts {H : Type} {enc : TypeId × Value → H} {W : World} {fuel0 : Nat} {v : Value} {d : DataW H} {p : List MemPlace} (hf : DataW.trod enc Tryz.prog W 0 (fun _ => true) true fuel0 23 [v] = some (d, p)) :
    ∃ l : List (List UInt8), TxR.Sl W W.heap.size v l ∧ ((∀ n ∈ d.weights Tryz.prog 23, n ≤ reachBytes) → l.length * 16 ≤ reachBytes ∧ ∀ s ∈ l, s.length ≤ reachBytes) := by
  obtain ⟨l, h1, h2, h3⟩ := Rc.openSized TxR cellsA9 hf (fun s d' => (∀ n ∈ d'.weights Tryz.prog 9, n ≤ reachBytes) → s.length ≤ reachBytes) (by
    intro fuel cs x hlen htr _
    obtain ⟨k, e, hx, _⟩ := DataW.trod_string Tryz.underlying9 htr
    refine ⟨bs k, by show [Value.string (str (bs k))] = _; rw [show str (bs k) = k from str_of k, e], fun hw => ?_⟩
    rw [hx] at hw
    exact hw _ (by simp [DataW.weights, bs]))
  refine ⟨l, h1, fun hw => ⟨?_, fun s hs => ?_⟩⟩
  · rcases h3 with rfl | ⟨n, hn, hl⟩
    · exact Nat.zero_le _
    · have h9 := hw n hn
      have e16 : Tryz.prog.bytesOf 9 = 16 := by kernel_rfl
      have hl' : l.length * 16 ≤ n := by rw [← e16]; exact hl
      omega
  · obtain ⟨d', k1, k2⟩ := h2 s hs
    exact k1 fun n hn => hw n (k2 n hn)
/-- how great statements that come in can be -/
def Ac.SzE : Ac.Fo → Prop
  | .nil => True
  | .cons _ a _ b t => a.length * 16 ≤ reachBytes ∧ (∀ s ∈ a, s.length ≤ reachBytes) ∧ b.len ≤ reachBytes ∧ Ac.SzE b ∧ Ac.SzE t
theorem foRow_of {W : World} {B : Nat} : ∀ (l : List RawS), (∀ r ∈ l, ∃ a b, TxR.Sl W B r.args a ∧ FoS W B r.body b ∧ a.length * 16 ≤ reachBytes ∧ (∀ s ∈ a, s.length ≤ reachBytes) ∧ b.len ≤ reachBytes ∧ Ac.SzE b) → ∃ f, FoRow W B f l ∧ f.len = l.length ∧ Ac.SzE f
  | [], _ => ⟨.nil, rfl, rfl, trivial⟩
  | r :: rest, h => by
    obtain ⟨a, b, h1, ⟨bs, h2, h3⟩, h4⟩ := h r (List.mem_cons_self ..)
    obtain ⟨f, k1, k2, k3⟩ := foRow_of rest fun y hy => h y (List.mem_cons_of_mem _ hy)
    exact ⟨.cons r.op a r.n b f, ⟨r, rest, rfl, rfl, rfl, h1, ⟨bs, h2, h3⟩, k1⟩, by simp [Ac.Fo.len, k2], h4.1, h4.2.1, h4.2.2.1, h4.2.2.2, k3⟩
set_option maxRecDepth 100000 in
theorem open_fo {H : Type} {enc : TypeId × Value → H} {W : World} : ∀ (N : Nat) (fuel0 : Nat) (v : Value) (d : DataW H) (p : List MemPlace), SizeOf.sizeOf d < N → DataW.trod enc Tryz.prog W 0 (fun _ => true) true fuel0 22 [v] = some (d, p) → (∀ n ∈ d.weights Tryz.prog 22, n ≤ reachBytes) →
    ∃ f, FoS W W.heap.size v f ∧ f.len ≤ reachBytes ∧ Ac.SzE f := by
  intro N
  induction N with
  | zero => intro fuel0 v d p h; omega
  | succ N ih =>
    intro fuel0 v d p hN hf hsz
    obtain ⟨l, h1, h2, h3⟩ := Rc.openSized SmR cellsAS hf (fun r d' => (∀ n ∈ d'.weights Tryz.prog 75, n ≤ reachBytes) → ∃ a b, TxR.Sl W W.heap.size r.args a ∧ FoS W W.heap.size r.body b ∧ a.length * 16 ≤ reachBytes ∧ (∀ s ∈ a, s.length ≤ reachBytes) ∧ b.len ≤ reachBytes ∧ Ac.SzE b) (by
      intro fuel cs x hlen htr hsx
      obtain ⟨xs, n', _, hDx, hl', hlen', hfld⟩ := DataW.trod_struct Tryz.underlying75 htr
      match xs, hlen' with
      | [y0, y1, y2, y3], _ =>
        match cs, hlen with
        | [c0, c1, c2, c3], _ =>
          have t0 : DataW.trod enc Tryz.prog W 0 (fun _ => true) true n' 3 [c0] = some y0 := by
            have t : DataW.trod enc Tryz.prog W 0 (fun _ => true) true n' 3 (([c0, c1, c2, c3].drop 0).take (Tryz.prog.cellsOf 3)) = some y0 := hfld 0 _ rfl
            rw [cellsA3] at t
            exact t
          have t1 : DataW.trod enc Tryz.prog W 0 (fun _ => true) true n' 23 [c1] = some y1 := by
            have t : DataW.trod enc Tryz.prog W 0 (fun _ => true) true n' 23 (([c0, c1, c2, c3].drop 1).take (Tryz.prog.cellsOf 23)) = some y1 := hfld 1 _ rfl
            rw [cellsAT] at t
            exact t
          have t2 : DataW.trod enc Tryz.prog W 0 (fun _ => true) true n' 3 [c2] = some y2 := by
            have t : DataW.trod enc Tryz.prog W 0 (fun _ => true) true n' 3 (([c0, c1, c2, c3].drop 2).take (Tryz.prog.cellsOf 3)) = some y2 := hfld 2 _ rfl
            rw [cellsA3] at t
            exact t
          have t3 : DataW.trod enc Tryz.prog W 0 (fun _ => true) true n' 22 [c3] = some y3 := by
            have t : DataW.trod enc Tryz.prog W 0 (fun _ => true) true n' 22 (([c0, c1, c2, c3].drop 3).take (Tryz.prog.cellsOf 22)) = some y3 := hfld 3 _ rfl
            rw [cellsAL] at t
            exact t
          have hD : x.1 = .agg [y0.1, y1.1, y2.1, y3.1] := by rw [hDx]; rfl
          have hy3 : SizeOf.sizeOf y3.1 < N := by
            have : SizeOf.sizeOf y3.1 < SizeOf.sizeOf x.1 := by
              rw [hD, DataW.agg.sizeOf_spec]
              have := List.sizeOf_lt_of_mem (show y3.1 ∈ [y0.1, y1.1, y2.1, y3.1] by simp)
              omega
            omega
          obtain ⟨k0, e0, _, _⟩ := DataW.trod_int Tryz.underlying3 t0
          obtain ⟨k2, e2, _, _⟩ := DataW.trod_int Tryz.underlying3 t2
          obtain ⟨ts, hts, hbt⟩ := open_texts (d := y1.1) (p := y1.2) t1
          obtain ⟨ta, tc, rfl, _⟩ := hts.shape
          rcases Deep.open_slice SmR.under t3 with ⟨hcs, _⟩ | ⟨ba, bl, bc, _, _, _, _, hcs, _⟩
          · simp only [List.cons.injEq, and_true] at e0 e2 hcs
            subst e0 e2 hcs
            refine ⟨⟨k0, ta, ts.length, tc, k2, none, 0, 0⟩, rfl, fun hw => ?_⟩
            have g : ∀ n ∈ DataW.weightsEach Tryz.prog [3, 23, 3, 22] [y0.1, y1.1, y2.1, y3.1], n ≤ reachBytes := fun n hn => hw n (by
              rw [hD]
              simp only [DataW.weights, Tryz.underlying75]
              exact hn)
            obtain ⟨a1, a2⟩ := hbt fun n hn => g n (DataW.weights_mem_each (j := 1) rfl rfl n hn)
            obtain ⟨b, b1, b2, b3⟩ := ih n' _ y3.1 y3.2 hy3 t3 fun n hn => g n (DataW.weights_mem_each (j := 3) rfl rfl n hn)
            exact ⟨ts, b, hts, b1, a1, a2, b2, b3⟩
          · simp only [List.cons.injEq, and_true] at e0 e2 hcs
            subst e0 e2 hcs
            refine ⟨⟨k0, ta, ts.length, tc, k2, some ba, bl, bc⟩, rfl, fun hw => ?_⟩
            have g : ∀ n ∈ DataW.weightsEach Tryz.prog [3, 23, 3, 22] [y0.1, y1.1, y2.1, y3.1], n ≤ reachBytes := fun n hn => hw n (by
              rw [hD]
              simp only [DataW.weights, Tryz.underlying75]
              exact hn)
            obtain ⟨a1, a2⟩ := hbt fun n hn => g n (DataW.weights_mem_each (j := 1) rfl rfl n hn)
            obtain ⟨b, b1, b2, b3⟩ := ih n' _ y3.1 y3.2 hy3 t3 fun n hn => g n (DataW.weights_mem_each (j := 3) rfl rfl n hn)
            exact ⟨ts, b, hts, b1, a1, a2, b2, b3⟩)
    obtain ⟨f, k1, k2, k3⟩ := foRow_of (W := W) (B := W.heap.size) l fun r hr => by
      obtain ⟨d', q1, q2⟩ := h2 r hr
      exact q1 fun n hn => hsz n (q2 n hn)
    refine ⟨f, ⟨l, h1, k1⟩, ?_, k3⟩
    rcases h3 with rfl | ⟨n, hn, hl⟩
    · rw [k2]; exact Nat.zero_le _
    · have := hsz n hn
      have := Nat.mul_le_mul_left l.length bytesAS
      have e : l.length * Tryz.prog.bytesOf SmR.e = l.length * Tryz.prog.bytesOf 75 := rfl
      omega
set_option maxRecDepth 100000 in
theorem open_actS {H : Type} {enc : TypeId × Value → H} {W : World} {base : Nat} {v : Value} {d : DataW H} {p : List MemPlace} (hok : Value.okWide Tryz.prog W .any base 22 v) (h : DataW.Trod enc Tryz.prog W 0 (fun _ => true) true 22 v d p) (hsz : ∀ n ∈ d.weights Tryz.prog 22, n ≤ reachBytes) :
    ∃ f, FoS W W.heap.size v f ∧ f.len ≤ reachBytes ∧ Ac.SzE f := by
  obtain ⟨a0, len, cap, rfl⟩ := okWide_slice Tryz.underlying22 hok
  obtain ⟨fuel, hf⟩ := h
  exact open_fo _ fuel _ d p (Nat.lt_succ_self _) hf hsz

end Go.Proofs.YtnobmgkdieaclaaGreatDoor

namespace Go.Proofs.YtnobmgkdieaclaaGreatDoor
open Go.RowKit

theorem below_drewA {B : Nat} {a w : World} (h : Below B a w) (n : Nat) : Below B a (w.drewN n) := ⟨h.os, h.tape, h.output, h.size, h.block⟩
theorem take_moreA {α : Type} {a c : List α} {k : Nat} (h1 : k < a.length) (h2 : k < c.length) (h : a.take k = c.take k) (e : a[k] = c[k]) : a.take (k + 1) = c.take (k + 1) := by
  rw [List.take_succ_eq_append_getElem h1, List.take_succ_eq_append_getElem h2, h, e]

end Go.Proofs.YtnobmgkdieaclaaGreatDoor

namespace Go.Proofs.YtnobmgkdieaclaaGreatDoor
open Go.RowKit

theorem cell_belowA {B b : Nat} {w w' : World} (h : Below B w w') (hb : b < B) (o : Nat) : w'.cell? ⟨b, o, none⟩ = w.cell? ⟨b, o, none⟩ := by
  simp only [World.cell?, h.block b hb]
/-- no statement has more than N words -/
def Ac.nar (N : Nat) : Ac.Fo → Prop
  | .nil => True
  | .cons _ a _ b t => a.length ≤ N ∧ Ac.nar N b ∧ Ac.nar N t
theorem Ac.nar_at {N : Nat} : ∀ {f : Ac.Fo} {k : Nat} {o : Int} {a : List (List UInt8)} {n : Int} {b r : Ac.Fo}, Ac.nar N f → f.drop k = .cons o a n b r → a.length ≤ N ∧ Ac.nar N b
  | .nil, k, _, _, _, _, _, _, e => by rw [Ac.Fo.drop_nil] at e; cases e
  | .cons _ _ _ _ _, 0, _, _, _, _, _, h, e => by
    simp only [Ac.Fo.drop, Ac.Fo.cons.injEq] at e
    obtain ⟨rfl, rfl, rfl, rfl, rfl⟩ := e
    exact ⟨h.1, h.2.1⟩
  | .cons _ _ _ _ _, k + 1, _, _, _, _, _, h, e => Ac.nar_at (k := k) h.2.2 e
theorem Ac.len_size : ∀ f : Ac.Fo, f.len ≤ Ac.size f
  | .nil => Nat.le_refl _
  | .cons _ _ _ _ t => by have := Ac.len_size t; rw [Ac.Fo.len, Ac.size]; omega

end Go.Proofs.YtnobmgkdieaclaaGreatDoor

namespace Go.Proofs.YtnobmgkdieaclaaGreatDoor
open Go.RowKit

theorem Ac.ht_drop : ∀ {f : Ac.Fo} {k : Nat} {o : Int} {a : List (List UInt8)} {n : Int} {b r : Ac.Fo}, f.drop k = .cons o a n b r → 1 + Ac.ht b ≤ Ac.ht f
  | .nil, k, _, _, _, _, _, h => by rw [Ac.Fo.drop_nil] at h; cases h
  | .cons _ _ _ _ t, 0, _, _, _, _, _, h => by
    simp only [Ac.Fo.drop, Ac.Fo.cons.injEq] at h
    rw [Ac.ht, h.2.2.2.1]
    omega
  | .cons _ _ _ _ t, k + 1, _, _, _, _, _, h => by
    have := Ac.ht_drop (f := t) (k := k) h
    rw [Ac.ht]
    omega
theorem Ac.size_le_drop : ∀ (f : Ac.Fo) (k : Nat), Ac.size (f.drop k) ≤ Ac.size f
  | _, 0 => Nat.le_refl _
  | .nil, _ + 1 => Nat.le_refl _
  | .cons _ _ _ _ t, k + 1 => by
    have := Ac.size_le_drop t k
    rw [Ac.Fo.drop, Ac.size]
    omega
/-- has a statement a body? -/
def Ac.hasB (op : Int) (b : Ac.Fo) : Bool := Ac.opens op || decide (b ≠ .nil)
theorem Ac.len_pos {b : Ac.Fo} : 0 < b.len ↔ b ≠ .nil := by
  cases b with
  | nil => simp [Ac.Fo.len]
  | cons _ _ _ _ _ => simp [Ac.Fo.len]
end Go.Proofs.YtnobmgkdieaclaaGreatDoor
