/-
  WORDS FOR BYTES IN THE WALKS OF LAYER 3 (disk).
-/
import Derived.Test.YtppcfidaalejfaaProg
import Derived.WalkKit
import Derived.WalkSpells
import Derived.WalkLawsBesides
import Derived.Lib.AppendStr
import Derived.Laws.CopyOwn
import Derived.Laws.AppendOwnNone
import Derived.Lib.AppendZeros
import Derived.Lib.SliceRun
import Derived.BigQuiet
import Derived.Deep.QuietTactic
import Derived.Deep.DeepCutAuto
import Derived.Deep.CutBlock
import Derived.Deep.RegionWith
import Derived.Deep.Slices
namespace Go.Proofs.Ytppcfidaalejfaa
open Go.RowKit

/-- bytes as cells -/
def bV (l : List UInt8) : List Value := l.map fun b => Value.int .u8 b.toNat

theorem info5 : (Try.prog.info? 5).map (fun i => (i.zero, i.size, i.bytes)) = some (some (.int .u8 0), 1, 1) := by kernel_rfl

theorem bV_length (l : List UInt8) : (bV l).length = l.length := by simp [bV]
theorem bV_append (a b : List UInt8) : bV (a ++ b) = bV a ++ bV b := by simp [bV]

/-- w's row v, among the blocks from base on, holds just the bytes l -/
def Own (w : World) (base : Nat) (v : Value) (l : List UInt8) : Prop := w.ownsRow base 5 1 v l.length (bV l)

theorem Own.alloc {w : World} {base : Nat} {v : Value} {l : List UInt8} (h : Own w base v l) (o : Obj) : Own (w.alloc o) base v l := World.ownsRow.alloc h o

theorem Own.nil (w : World) (base : Nat) : Own w base (.slice none 0 0) [] := World.ownsRow_nil w base 5 1

/-- v is a slice whose elements, in w, are the bytes l; they lie below block B -/
def Byts (w : World) (B : Nat) (v : Value) (l : List UInt8) : Prop :=
  ∃ ad c, v = .slice ad l.length c ∧ l.length ≤ c ∧ (ad = none → c = 0) ∧ (l ≠ [] → ∃ b o, ad = some ⟨b, o, none⟩ ∧ b < B ∧ ∀ j, j < l.length → w.cell? ⟨b, o + j, none⟩ = some (.int .u8 ((l.getD j 0).toNat : Int)))

theorem Byts.below {w w' : World} {B B' : Nat} {v : Value} {l : List UInt8} (h : Byts w B v l) (hb : Below B' w w') (hB : B ≤ B') : Byts w' B v l := by
  obtain ⟨ad, c, hv, hle, hn, h⟩ := h
  refine ⟨ad, c, hv, hle, hn, fun hne => ?_⟩
  obtain ⟨b, o, ha, hlt, hc⟩ := h hne
  exact ⟨b, o, ha, hlt, fun j hj => (hb.cell (p := ⟨b, o + j, none⟩) (Nat.lt_of_lt_of_le hlt hB)).trans (hc j hj)⟩
theorem Byts.mono {w : World} {B B' : Nat} {v : Value} {l : List UInt8} (h : Byts w B v l) (hB : B ≤ B') : Byts w B' v l := by
  obtain ⟨ad, c, hv, hle, hn, h⟩ := h
  refine ⟨ad, c, hv, hle, hn, fun hne => ?_⟩
  obtain ⟨b, o, ha, hlt, hc⟩ := h hne
  exact ⟨b, o, ha, Nat.lt_of_lt_of_le hlt hB, hc⟩
theorem Byts.nil (w : World) (B : Nat) : Byts w B (.slice none 0 0) [] := ⟨none, 0, rfl, Nat.le_refl _, fun _ => rfl, fun h => absurd rfl h⟩

/-- a row of the call's own, read -/
theorem Own.byts {w : World} {base : Nat} {v : Value} {l : List UInt8} (h : Own w base v l) : Byts w w.heap.size v l := by
  have hlt := World.ownsRow.lt h
  have hcs := fun g hg => World.ownsRow.cells (g := g) h hg
  rcases h.2 with ⟨rfl, h0⟩ | ⟨g, cap, cur, rfl, _, _, hle, _⟩
  · refine ⟨none, 0, by rw [h0], by omega, fun _ => rfl, fun hne => ?_⟩
    exact absurd (List.eq_nil_of_length_eq_zero h0) hne
  · refine ⟨_, _, rfl, hle, (fun h => by cases h), fun _ => ⟨g, 0, rfl, (hlt g rfl).2, fun j hj => ?_⟩⟩
    have := hcs g rfl j (.int .u8 ((l.getD j 0).toNat : Int)) (by simp [bV, List.getD, List.getElem?_eq_getElem hj])
    have e : (⟨g, 0, none⟩ : Addr).add j = ⟨g, 0 + j, none⟩ := by unfold Addr.add; split <;> simp_all
    rwa [e] at this

end Go.Proofs.Ytppcfidaalejfaa
