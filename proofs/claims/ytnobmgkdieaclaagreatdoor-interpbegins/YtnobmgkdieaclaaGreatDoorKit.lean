/-
  WORDS FOR BYTES IN THE WALKS OF LAYER 3 (disk).
-/
import Derived.Test.YtnobmgkdieaclaaGreatDoorProg
import Derived.WalkKit
import Derived.WalkSpells
import Derived.WalkLawsBesides
import Derived.Lib.AppendStr
import Derived.Laws.CopyOwn
import Derived.Laws.AppendOwnNone
import Derived.Lib.AppendZeros
import Derived.Lib.SliceRun
import Derived.BigQuiet
import Derived.Deep.QuietTactic
import Derived.Deep.DeepCutAuto
import Derived.Deep.CutBlock
import Derived.Deep.RegionWith
import Derived.Deep.Slices
import Derived.Deep.AppendLies
import Derived.Test.YtnobmgkdieaclaaGreatDoorRows
import Derived.ProofKit
import Derived.OpenShut
import Derived.SliceStrings
import Derived.JoinedCond
import Derived.Carry
import Derived.Deep.Strs
import Derived.SizedLaws
namespace Go.Proofs.YtnobmgkdieaclaaGreatDoor
open Go.RowKit

/-- bytes as cells -/
def bV (l : List UInt8) : List Value := l.map fun b => Value.int .u8 b.toNat

theorem info5 : (Tryz.prog.info? 5).map (fun i => (i.zero, i.size, i.bytes)) = some (some (.int .u8 0), 1, 1) := by kernel_rfl

theorem bV_length (l : List UInt8) : (bV l).length = l.length := by simp [bV]
theorem bV_append (a b : List UInt8) : bV (a ++ b) = bV a ++ bV b := by simp [bV]

/-- w's row v, among the blocks from base on, holds just the bytes l -/
def Own (w : World) (base : Nat) (v : Value) (l : List UInt8) : Prop := w.ownsRow base 5 1 v l.length (bV l)

theorem Own.alloc {w : World} {base : Nat} {v : Value} {l : List UInt8} (h : Own w base v l) (o : Obj) : Own (w.alloc o) base v l := World.ownsRow.alloc h o

theorem Own.nil (w : World) (base : Nat) : Own w base (.slice none 0 0) [] := World.ownsRow_nil w base 5 1

/-- v is a slice whose elements, in w, are the bytes l; they lie below block B -/
def Byts (w : World) (B : Nat) (v : Value) (l : List UInt8) : Prop :=
  ∃ ad c, v = .slice ad l.length c ∧ l.length ≤ c ∧ (ad = none → c = 0) ∧ (l ≠ [] → ∃ b o, ad = some ⟨b, o, none⟩ ∧ b < B ∧ ∀ j, j < l.length → w.cell? ⟨b, o + j, none⟩ = some (.int .u8 ((l.getD j 0).toNat : Int)))

theorem Byts.below {w w' : World} {B B' : Nat} {v : Value} {l : List UInt8} (h : Byts w B v l) (hb : Below B' w w') (hB : B ≤ B') : Byts w' B v l := by
  obtain ⟨ad, c, hv, hle, hn, h⟩ := h
  refine ⟨ad, c, hv, hle, hn, fun hne => ?_⟩
  obtain ⟨b, o, ha, hlt, hc⟩ := h hne
  exact ⟨b, o, ha, hlt, fun j hj => (hb.cell (p := ⟨b, o + j, none⟩) (Nat.lt_of_lt_of_le hlt hB)).trans (hc j hj)⟩
theorem Byts.mono {w : World} {B B' : Nat} {v : Value} {l : List UInt8} (h : Byts w B v l) (hB : B ≤ B') : Byts w B' v l := by
  obtain ⟨ad, c, hv, hle, hn, h⟩ := h
  refine ⟨ad, c, hv, hle, hn, fun hne => ?_⟩
  obtain ⟨b, o, ha, hlt, hc⟩ := h hne
  exact ⟨b, o, ha, Nat.lt_of_lt_of_le hlt hB, hc⟩
theorem Byts.nil (w : World) (B : Nat) : Byts w B (.slice none 0 0) [] := ⟨none, 0, rfl, Nat.le_refl _, fun _ => rfl, fun h => absurd rfl h⟩

/-- a row of the call's own, read -/
theorem Own.byts {w : World} {base : Nat} {v : Value} {l : List UInt8} (h : Own w base v l) : Byts w w.heap.size v l := by
  have hlt := World.ownsRow.lt h
  have hcs := fun g hg => World.ownsRow.cells (g := g) h hg
  rcases h.2 with ⟨rfl, h0⟩ | ⟨g, cap, cur, rfl, _, _, hle, _⟩
  · refine ⟨none, 0, by rw [h0], by omega, fun _ => rfl, fun hne => ?_⟩
    exact absurd (List.eq_nil_of_length_eq_zero h0) hne
  · refine ⟨_, _, rfl, hle, (fun h => by cases h), fun _ => ⟨g, 0, rfl, (hlt g rfl).2, fun j hj => ?_⟩⟩
    have := hcs g rfl j (.int .u8 ((l.getD j 0).toNat : Int)) (by simp [bV, List.getD, List.getElem?_eq_getElem hj])
    have e : (⟨g, 0, none⟩ : Addr).add j = ⟨g, 0 + j, none⟩ := by unfold Addr.add; split <;> simp_all
    rwa [e] at this

end Go.Proofs.YtnobmgkdieaclaaGreatDoor

namespace Go.Proofs.YtnobmgkdieaclaaGreatDoor
open Go.RowKit

/-- how things lie in a row: the element's type, the slice's type, an element's cells -/
structure Rc (α : Type) where
  e : TypeId
  st : TypeId
  k : Nat
  bytes : Nat
  z : Value
  enc : α → List Value
  pos : 0 < k
  len : ∀ x, (enc x).length = k
  one : ∀ x, ∀ u ∈ enc x, u.oneCell' = true
  info : (Tryz.prog.info? e).map (fun i => (i.zero, i.size, i.bytes)) = some (some z, k, bytes)
  under : Tryz.prog.underlying st = some (.slice e)
  zk : z.cells.size = k
  small : bytes ≤ 1024

theorem addr_at (b o m : Nat) : (⟨b, o, none⟩ : Addr).add m = ⟨b, o + m, none⟩ := by unfold Addr.add; split <;> simp_all

namespace Rc
variable {α : Type} (R : Rc α)

/-- the cells of a row -/
def vals (l : List α) : List Value := l.flatMap R.enc
theorem vals_nil : R.vals [] = [] := rfl
theorem vals_append (a b : List α) : R.vals (a ++ b) = R.vals a ++ R.vals b := by simp [vals]
theorem vals_length (l : List α) : (R.vals l).length = l.length * R.k := by
  induction l with
  | nil => simp [vals]
  | cons x r ih =>
    show (R.enc x ++ R.vals r).length = _
    rw [List.length_append, ih, R.len, List.length_cons, Nat.add_mul]
    omega
theorem vals_one (l : List α) : ∀ u ∈ R.vals l, u.oneCell' = true := by
  intro u hu
  simp only [vals, List.mem_flatMap] at hu
  obtain ⟨x, _, hx⟩ := hu
  exact R.one x u hx
theorem vals_take (l : List α) (m : Nat) : R.vals (l.take m) = (R.vals l).take (m * R.k) := by
  induction l generalizing m with
  | nil => simp [vals]
  | cons x r ih =>
    cases m with
    | zero => simp [vals]
    | succ m =>
      show R.enc x ++ R.vals (r.take m) = (R.enc x ++ R.vals r).take _
      rw [ih, List.take_append, R.len, Nat.add_mul, Nat.one_mul, List.take_of_length_le (l := R.enc x) (by rw [R.len]; omega), Nat.add_sub_cancel]
theorem vals_drop (l : List α) (m : Nat) : R.vals (l.drop m) = (R.vals l).drop (m * R.k) := by
  induction l generalizing m with
  | nil => simp [vals]
  | cons x r ih =>
    cases m with
    | zero => simp
    | succ m =>
      show R.vals (r.drop m) = (R.enc x ++ R.vals r).drop _
      rw [ih, List.drop_append, R.len, Nat.add_mul, Nat.one_mul, List.drop_of_length_le (l := R.enc x) (by rw [R.len]; omega), List.nil_append, Nat.add_sub_cancel]
theorem vals_get (l : List α) (j f : Nat) (hj : j < l.length) (hf : f < R.k) : (R.vals l)[j * R.k + f]? = (R.enc l[j])[f]? := by
  have h1 : R.vals (l.drop j) = R.enc l[j] ++ R.vals (l.drop (j + 1)) := by
    rw [List.drop_eq_getElem_cons hj]; rfl
  rw [← List.getElem?_drop, ← R.vals_drop, h1, List.getElem?_append_left (by rw [R.len]; exact hf)]

/-- v is a slice whose elements, in w, are l; they lie below block B -/
def Sl (w : World) (B : Nat) (v : Value) (l : List α) : Prop :=
  ∃ ad c, v = .slice ad l.length c ∧ l.length ≤ c ∧ (ad = none → c = 0) ∧ (l ≠ [] → ∃ b o, ad = some ⟨b, o, none⟩ ∧ b < B ∧ ∀ j u, (R.vals l)[j]? = some u → w.cell? ⟨b, o + j, none⟩ = some u)
/-- w's row v, among the blocks from base on, holds just l -/
def Own (w : World) (base : Nat) (v : Value) (l : List α) : Prop := w.ownsRow base R.e R.k v l.length (R.vals l)

variable {R}
theorem Sl.below {w w' : World} {B B' : Nat} {v : Value} {l : List α} (h : R.Sl w B v l) (hb : Below B' w w') (hB : B ≤ B') : R.Sl w' B v l := by
  obtain ⟨ad, c, hv, hle, hn, h⟩ := h
  refine ⟨ad, c, hv, hle, hn, fun hne => ?_⟩
  obtain ⟨b, o, ha, hlt, hc⟩ := h hne
  exact ⟨b, o, ha, hlt, fun j u hu => (hb.cell (p := ⟨b, o + j, none⟩) (Nat.lt_of_lt_of_le hlt hB)).trans (hc j u hu)⟩
theorem Sl.mono {w : World} {B B' : Nat} {v : Value} {l : List α} (h : R.Sl w B v l) (hB : B ≤ B') : R.Sl w B' v l := by
  obtain ⟨ad, c, hv, hle, hn, h⟩ := h
  refine ⟨ad, c, hv, hle, hn, fun hne => ?_⟩
  obtain ⟨b, o, ha, hlt, hc⟩ := h hne
  exact ⟨b, o, ha, Nat.lt_of_lt_of_le hlt hB, hc⟩
theorem Sl.alloc {w : World} {B : Nat} {v : Value} {l : List α} (h : R.Sl w B v l) (hB : B ≤ w.heap.size) (o : Obj) : R.Sl (w.alloc o) B v l := h.below ((Below.refl w.heap.size w).alloc (Nat.le_refl _) o) hB
theorem Sl.nil (w : World) (B : Nat) : R.Sl w B (.slice none 0 0) [] := ⟨none, 0, rfl, Nat.le_refl _, fun _ => rfl, fun h => absurd rfl h⟩
theorem Sl.shape {w : World} {B : Nat} {v : Value} {l : List α} (h : R.Sl w B v l) : ∃ ad c, v = .slice ad l.length c ∧ l.length ≤ c := by
  obtain ⟨ad, c, hv, hle, -⟩ := h
  exact ⟨ad, c, hv, hle⟩
/-- an element's cells -/
theorem Sl.cells {w : World} {B : Nat} {v : Value} {l : List α} (h : R.Sl w B v l) (j : Nat) (hj : j < l.length) :
    ∃ b o c, v = .slice (some ⟨b, o, none⟩) l.length c ∧ b < B ∧ ∀ f u, f < R.k → (R.enc l[j])[f]? = some u → w.cell? ⟨b, o + (j * R.k + f), none⟩ = some u := by
  obtain ⟨ad, c, rfl, hle, hn, h⟩ := h
  obtain ⟨b, o, rfl, hlt, hc⟩ := h (by rintro rfl; simp at hj)
  exact ⟨b, o, c, rfl, hlt, fun f u hf hu => hc _ u ((R.vals_get l j f hj hf).trans hu)⟩
theorem Sl.head {w : World} {B : Nat} {ad : Option Addr} {n c : Nat} {l : List α} (h : R.Sl w B (.slice ad n c) l) (m : Nat) (hm : m ≤ l.length) : R.Sl w B (.slice ad m c) (l.take m) := by
  obtain ⟨ad', c', hv, hle, hn0, h⟩ := h
  simp only [Value.slice.injEq] at hv
  obtain ⟨rfl, rfl, rfl⟩ := hv
  have e : (l.take m).length = m := by simp; omega
  refine ⟨ad, c, by rw [e], by omega, hn0, fun hne => ?_⟩
  have hl : l ≠ [] := by intro h0; subst h0; simp at hne
  obtain ⟨b, o, ha, hb, hcell⟩ := h hl
  refine ⟨b, o, ha, hb, fun j u hu => hcell j u ?_⟩
  rw [R.vals_take] at hu
  rw [List.getElem?_take] at hu
  split at hu
  · exact hu
  · cases hu
theorem elem_st (R : Rc α) : Tryz.prog.elem R.st = R.e := by simp [Program.elem, R.under]
theorem size_e (R : Rc α) (w : World) : (Go.sizeOf R.e).run Tryz.prog w = .ok R.k w := by
  obtain ⟨i0, hi, hz0, hz1, hz2⟩ := info_parts R.info
  simp [sizeOf, typeInfo, hi, hz1]
/-- 's[:m]' -/
theorem slice_head (R : Rc α) (W : World) (ad : Option Addr) (n c m : Nat) (hm : m ≤ c) :
    (Instr.slice R.st (.slice ad n c) none (some (.int .i64 (m : Int))) none).run Tryz.prog W = .ok (.slice ad m c) W := by
  rw [run_slice_h W R.st ad n c (by rw [R.elem_st]; exact R.under) .i64 (m : Int) (by omega) (by omega), R.elem_st, R.size_e]
  cases ad <;> simp [Result.andThen, sliced, Addr.add]
/-- 's[m:]' -/
theorem slice_tail {w : World} {B : Nat} {ad : Option Addr} {n c : Nat} {l : List α} (h : R.Sl w B (.slice ad n c) l) (m : Nat) (hm : m ≤ l.length) :
    ∃ A, (∀ W : World, (Instr.slice R.st (.slice ad n c) (some (.int .i64 (m : Int))) none none).run Tryz.prog W = .ok (.slice A (n - m) (c - m)) W) ∧ R.Sl w B (.slice A (n - m) (c - m)) (l.drop m) := by
  obtain ⟨ad', c', hv, hle, hn0, h⟩ := h
  simp only [Value.slice.injEq] at hv
  obtain ⟨rfl, rfl, rfl⟩ := hv
  refine ⟨if c = m then ad else ad.map (·.add (m * R.k)), fun W => ?_, if c = m then ad else ad.map (·.add (m * R.k)), c - m, by rw [List.length_drop], by rw [List.length_drop]; omega, fun h0 => ?_, fun hne => ?_⟩
  · rw [run_slice_l W R.st ad l.length c (by rw [R.elem_st]; exact R.under) .i64 (m : Int) (by omega) (by omega), R.elem_st, R.size_e]
    simp [Result.andThen, sliced]
  · by_cases hcm : c = m
    · omega
    · rw [if_neg hcm] at h0
      cases ad with
      | none => have := hn0 rfl; omega
      | some x => simp at h0
  · have hlm : m < l.length := by
      rcases Nat.lt_or_ge m l.length with h | h
      · exact h
      · exact absurd (List.drop_eq_nil_of_le h) hne
    obtain ⟨b, o, rfl, hb, hcell⟩ := h (by intro e; subst e; simp at hlm)
    rw [if_neg (by omega)]
    refine ⟨b, o + m * R.k, by simp [addr_at], hb, fun j u hu => ?_⟩
    rw [R.vals_drop, List.getElem?_drop] at hu
    rw [Nat.add_assoc]
    exact hcell _ u hu

theorem Own.nil (w : World) (base : Nat) : R.Own w base (.slice none 0 0) [] := by
  refine ⟨by simp [vals], .inl ⟨rfl, rfl⟩⟩
theorem Own.alloc {w : World} {base : Nat} {v : Value} {l : List α} (h : R.Own w base v l) (o : Obj) : R.Own (w.alloc o) base v l := World.ownsRow.alloc h o
theorem Own.below {w w' : World} {base B : Nat} {v : Value} {l : List α} (h : R.Own w base v l) (hb : Below B w w') (hB : w.heap.size ≤ B) : R.Own w' base v l :=
  World.ownsRow.kept h (row := none) ⟨hb.os, hb.tape, hb.output, hb.size, fun k hk _ => hb.block k (by omega)⟩ (by cases hv : v.ownBlock <;> simp)
theorem Own.low {w : World} {B B' : Nat} {v : Value} {l : List α} (h : R.Own w B v l) (hB : B' ≤ B) : R.Own w B' v l := by
  refine ⟨h.1, ?_⟩
  rcases h.2 with h | ⟨g, cap, cur, rfl, h2, h3⟩
  · exact .inl h
  · exact .inr ⟨g, cap, cur, rfl, Nat.le_trans hB h2, h3⟩
theorem Own.sl {w : World} {base : Nat} {v : Value} {l : List α} (h : R.Own w base v l) : R.Sl w w.heap.size v l := by
  have hlt := World.ownsRow.lt h
  have hcs := fun g hg => World.ownsRow.cells (g := g) h hg
  rcases h.2 with ⟨rfl, h0⟩ | ⟨g, cap, cur, rfl, _, _, hle, _⟩
  · refine ⟨none, 0, by rw [h0], by omega, fun _ => rfl, fun hne => ?_⟩
    exact absurd (List.eq_nil_of_length_eq_zero h0) hne
  · refine ⟨_, _, rfl, hle, (fun h => by cases h), fun _ => ⟨g, 0, rfl, (hlt g rfl).2, fun j u hu => ?_⟩⟩
    have := hcs g rfl j u hu
    rwa [addr_at] at this
theorem Own.isSl {w : World} {base : Nat} {v : Value} {l : List α} (h : R.Own w base v l) : ∃ ad n c, v = .slice ad n c := by
  obtain ⟨ad, c, rfl, -⟩ := h.sl
  exact ⟨ad, _, c, rfl⟩
theorem Own.lt {w : World} {base : Nat} {v : Value} {l : List α} (h : R.Own w base v l) : ∀ g, v.ownBlock = some g → base ≤ g ∧ g < w.heap.size := World.ownsRow.lt h

/-- 'append(out, m...)' on a row of the call's own, m whatever -/
theorem append {ops : Array Oper} {rest : List Oper} {o : Oper} {a : Act} {Q : Exit → Act → World → Prop} {w : World} (R : Rc α) (hgd : o.guard = none) (s x : Operand)
    (ho : o.op = .call { callee := .builtin .append, args := #[s, x], argTypes := #[R.st, R.st] }) (base B : Nat) (v vx : Value) (l m : List α)
    (hs : a.eval s = v) (hown : R.Own w base v l) (hx : a.eval x = vx) (hb : R.Sl w B vx m) (hlen : Hid (l.length + m.length ≤ 1099511627)) (hbase : base ≤ w.heap.size)
    (h : ∀ v' w', R.Own w' base v' (l ++ m) → w.grownBy w' v.ownBlock → wpList Tryz.prog ops Q rest (a.put o.dst v') w') :
    wpList Tryz.prog ops Q (o :: rest) a w := by
  obtain ⟨i0, hi, hz0, hz1, hz2⟩ := info_parts R.info
  have hl := hlen.out
  obtain ⟨ad, c, rfl, hle, hn, hcells⟩ := hb
  cases ad with
  | none =>
    have hc0 := hn rfl
    subst hc0
    have hm : m = [] := List.eq_nil_of_length_eq_zero (by omega)
    subst hm
    refine wpList_append_own_none hgd s x R.st ho base R.e i0 R.k R.under hi v l.length (R.vals l) hs hown hx ?_
    refine h v w ?_ ⟨rfl, rfl, rfl, Nat.le_refl _, fun _ _ _ => rfl⟩
    rw [List.append_nil]; exact hown
  | some ad =>
    refine wpList_append_own _ hgd s x R.st ho base R.e i0 _ R.k R.bytes R.under hi hz0 hz1 hz2 R.zk R.pos v l.length (R.vals l) hs hown ad m.length c (R.vals m) hx (R.vals_length m) ?_ (R.vals_one m) ?_ ?_ hbase ?_
    · by_cases hne : m = []
      · subst hne; intro j u hu; simp [vals] at hu
      · obtain ⟨b, o', e, _, hcell⟩ := hcells hne
        simp only [Option.some.injEq] at e
        subst e
        intro j u hu
        rw [addr_at]
        exact hcell j u hu
    · unfold maxLen; omega
    · have := R.small
      have h1 : (l.length + m.length) * R.bytes ≤ 1099511627 * 1024 := Nat.mul_le_mul hl this
      omega
    · intro v' w' h1 h2 _
      refine h v' w' ?_ h2
      unfold Own; rw [R.vals_append, List.length_append]; exact h1

/-- 'append(out, m...)', m not empty, and where the row then lies -/
theorem append_at {ops : Array Oper} {rest : List Oper} {o : Oper} {a : Act} {Q : Exit → Act → World → Prop} {w : World} (R : Rc α) (hgd : o.guard = none) (s x : Operand)
    (ho : o.op = .call { callee := .builtin .append, args := #[s, x], argTypes := #[R.st, R.st] }) (base B : Nat) (v vx : Value) (l m : List α)
    (hs : a.eval s = v) (hown : R.Own w base v l) (hx : a.eval x = vx) (hb : R.Sl w B vx m) (hm : m ≠ []) (hlen : Hid (l.length + m.length ≤ 1099511627)) (hbase : base ≤ w.heap.size)
    (h : ∀ g cap w', R.Own w' base (.slice (some ⟨g, 0, none⟩) (l.length + m.length) cap) (l ++ m) → w.grownBy w' v.ownBlock → (v.ownBlock = some g ∨ g = w.heap.size) → g < w'.heap.size → wpList Tryz.prog ops Q rest (a.put o.dst (.slice (some ⟨g, 0, none⟩) (l.length + m.length) cap)) w') :
    wpList Tryz.prog ops Q (o :: rest) a w := by
  obtain ⟨i0, hi, hz0, hz1, hz2⟩ := info_parts R.info
  have hl := hlen.out
  obtain ⟨ad, c, rfl, hle, hn, hcells⟩ := hb
  obtain ⟨b, o', rfl, _, hcell⟩ := hcells hm
  have hm1 : 0 < m.length := List.length_pos_iff.2 hm
  refine wpList_append_lies _ hgd s x R.st ho base R.e i0 _ R.k R.bytes R.under hi hz0 hz1 hz2 R.zk R.pos v l.length (R.vals l) hs hown ⟨b, o', none⟩ m.length c (R.vals m) hx (R.vals_length m) ?_ (R.vals_one m) hm1 ?_ ?_ hbase w.heap.size rfl ?_
  · intro j u hu
    rw [addr_at]
    exact hcell j u hu
  · unfold maxLen; omega
  · have h1 : (l.length + m.length) * R.bytes ≤ 1099511627 * 1024 := Nat.mul_le_mul hl R.small
    omega
  · intro g cap w' h1 h2 h3 h4
    refine h g cap w' ?_ h2 h3 h4
    unfold Own; rw [R.vals_append, List.length_append]; exact h1

/-- a row of one, laid at once -/
theorem lit (w : World) (x : α) (cs : Array Value) (hcs : cs.toList = R.enc x) : R.Sl (w.alloc (.cells cs R.e)) (w.heap.size + 1) (.slice (some ⟨w.heap.size, 0, none⟩) 1 1) [x] := by
  refine ⟨_, 1, rfl, Nat.le_refl _, (fun h => by cases h), fun _ => ⟨w.heap.size, 0, rfl, Nat.lt_succ_self _, fun j u hu => ?_⟩⟩
  have hv : R.vals [x] = cs.toList := by simp [vals, hcs]
  rw [hv] at hu
  rw [Nat.zero_add]
  rw [cell_of_row (w.alloc (.cells cs R.e)) w.heap.size j cs R.e (0, 0) (heap_alloc_new w _)]
  rw [← Array.getElem?_toList]; exact hu

end Rc
end Go.Proofs.YtnobmgkdieaclaaGreatDoor

namespace Go.Proofs.YtnobmgkdieaclaaGreatDoor
open Go.ChangeShapes Go.WideShapes Go.ChangeAt Go.RowKit

theorem own : ownKnob Tryz.prog.godebug = none := by kernel_rfl
theorem laidOut : laidOutB Tryz.prog = true := by kernel_rfl

section
variable {H : Type} {enc : TypeId × Value → H}

theorem trodAll_below {W W' : World} (hb : Below W.heap.size W W') : ∀ (ts : List TypeId) (vs : List Value) (ds : List (DataW H)) (p : List MemPlace), (∀ t ∈ ts, Tryz.prog.readableRec t = true ∧ t < Tryz.prog.types.size) →
    DataW.TrodAll enc Tryz.prog W 0 (fun _ => true) true ts vs ds p → DataW.TrodAll enc Tryz.prog W' 0 (fun b => decide (b < W.heap.size)) true ts vs ds p := by
  intro ts
  induction ts with
  | nil =>
    intro vs ds p _ h
    obtain ⟨rfl, rfl, rfl⟩ := trodAll_nil h
    exact trodAll_mk0
  | cons t ts ih =>
    intro vs ds p hr h
    obtain ⟨v, vs', d, ds', p1, q1, rfl, rfl, rfl, h1, h2⟩ := trodAll_cons h
    have ht := hr t (by simp)
    have hlt : ∀ x ∈ p1, x.block < W.heap.size := by obtain ⟨m, hm⟩ := h1; exact DataW.trod_lt m _ _ _ hm
    exact trodAll_cons_mk (Below.trod laidOut ht.1 ht.2 h1 hb hlt) (ih vs' ds' q1 (fun t' ht' => hr t' (by simp [ht'])) h2)

theorem law_post {f : Func} {s : ChangeSpec} {W W' : World} {args : Array Value} {ds gs : List (DataW H)} {before : List MemPlace} (hv : s.vars = []) (hrt : f.resultTypes = #[4])
    (hread : ∀ t ∈ f.params.toList, Tryz.prog.readableRec t = true ∧ t < Tryz.prog.types.size) (hspec : s.fn H (ds ++ gs) = { results := [.lit (.bool true)], args := ds })
    (hW : DataW.Whole enc Tryz.prog f.params.toList s.vars false W args.toList ds gs before) (hb : Below W.heap.size W W') : s.post enc Tryz.prog f false true false false W args (.bool true) W' := by
  have hW' := hW
  obtain ⟨p, q, hA, hV, rfl, hfz, hnd⟩ := hW
  refine ⟨ds, gs, _, [], p, [], hW', ?_, ?_, ?_, hb.frame _, fun h => by cases h⟩
  · rw [hspec, hrt]
    exact trodAll_mk1 (shut_bool Tryz.underlying4 _)
  · rw [hspec]
    exact trodAll_below hb _ _ _ _ hread hA
  · rw [hspec, hv]
    rfl

theorem spot_none {w : World} {x : Addr} {v : Value} (h : w.cell? (x.add 0) = some v) : x.spot = none := by
  simpa [Addr.add] using World.cell?_spot h

theorem wf_u8 {n : Int} (h : (Lit.int .u8 n).wf = true) : 0 ≤ n ∧ n < 256 := by
  have : 0 ≤ n ∧ n ≤ 255 := by simpa [Lit.wf, IntKind.min, IntKind.max, IntKind.signed, IntKind.bits] using h
  omega
theorem wf_u32 {n : Int} (h : (Lit.int .u32 n).wf = true) : ∃ m : Nat, n = (m : Int) ∧ m < 4294967296 := by
  have : 0 ≤ n ∧ n ≤ 4294967295 := by simpa [Lit.wf, IntKind.min, IntKind.max, IntKind.signed, IntKind.bits] using h
  exact ⟨n.toNat, by omega, by omega⟩

end
end Go.Proofs.YtnobmgkdieaclaaGreatDoor

namespace Go.Proofs.YtnobmgkdieaclaaGreatDoor
open Go.ChangeShapes Go.WideShapes Go.ChangeAt Go.RowKit

theorem weights_mem_all {H : Type} {P : Program} {e : TypeId} : ∀ {ds : List (DataW H)} {d : DataW H}, d ∈ ds → ∀ n ∈ d.weights P e, n ∈ DataW.weightsAll P e ds
  | d0 :: ds, d, hd, n, hn => by
    simp only [DataW.weightsAll, List.mem_append]
    rcases List.mem_cons.1 hd with rfl | hd
    · exact .inl hn
    · exact .inr (weights_mem_all hd n hn)
set_option maxRecDepth 100000 in
theorem Rc.openRows {α : Type} (R : Rc α) [Inhabited α] {H : Type} {enc : TypeId × Value → H} {W : World} {base : Nat} {v : Value} {d : DataW H} {p : List MemPlace} (hce : Tryz.prog.cellsOf R.e = R.k)
    (hok : Value.okWide Tryz.prog W .any base R.st v) (h : DataW.Trod enc Tryz.prog W 0 (fun _ => true) true R.st v d p) (Q : α → DataW H → Prop)
    (one : ∀ fuel cs x, cs.length = R.k → DataW.trod enc Tryz.prog W 0 (fun _ => true) true fuel R.e cs = some x → ∃ a, R.enc a = cs ∧ Q a x.1) :
    ∃ l : List α, R.Sl W W.heap.size v l ∧ (∀ a ∈ l, ∃ d', Q a d' ∧ ∀ n ∈ d'.weights Tryz.prog R.e, n ∈ d.weights Tryz.prog R.st) ∧ (l = [] ∨ ∃ n ∈ d.weights Tryz.prog R.st, l.length * Tryz.prog.bytesOf R.e ≤ n) := by
  obtain ⟨a0, len, cap, rfl⟩ := okWide_slice R.under hok
  obtain ⟨fuel, hf⟩ := h
  rcases Deep.open_slice R.under hf with ⟨hcs, _⟩ | ⟨x, l, c, m, n, D, Pl, hcs, _, hl, hm, hz, hx, hel⟩
  · simp [Value.cells] at hcs
    obtain ⟨rfl, rfl, rfl⟩ := hcs
    exact ⟨[], Rc.Sl.nil W _, by simp, .inl rfl⟩
  · simp [Value.cells] at hcs
    obtain ⟨rfl, rfl, rfl⟩ := hcs
    simp only [if_true] at hz
    subst hz
    simp only [Prod.mk.injEq] at hx
    obtain ⟨hxd, -⟩ := hx
    have each : ∀ i, i < m → ∃ t : α, (∀ s u, (R.enc t)[s]? = some u → W.cell? ((x.add (i * R.k)).add s) = some u) ∧ Q t (D i) := by
      intro i hi
      obtain ⟨cs', hcs', htr⟩ := hel i hi
      rw [hce] at hcs'
      obtain ⟨_, hlen, hcell⟩ := World.cells?_some hcs'
      obtain ⟨a, ha, hq⟩ := one _ cs' _ hlen htr
      refine ⟨a, fun s u hu => ?_, hq⟩
      rw [ha] at hu
      have hs : s < R.k := by rw [← hlen]; exact (List.getElem?_eq_some_iff.1 hu).1
      rw [hcell s hs]
      exact hu
    obtain ⟨f, hf'⟩ := Deep.choose_lt each
    have hql : ((List.range len).map f).length = len := by simp
    refine ⟨(List.range len).map f, ⟨some x, m, by rw [hql], by rw [hql]; omega, (fun h => by cases h), fun hne => ?_⟩, fun a ha => ?_, .inr ⟨(len + (m - len)) * Tryz.prog.bytesOf R.e, ?_, ?_⟩⟩
    · have hpos : 0 < len := by
        rcases Nat.eq_zero_or_pos len with h0 | h0
        · subst h0; exact absurd (by simp) hne
        · exact h0
      have hk0 : 0 < R.k := R.pos
      have hel0 : 0 < (R.enc (f 0)).length := by rw [R.len]; exact hk0
      have hz : (x.add (0 * R.k)).add 0 = x.add 0 := by
        rw [Nat.zero_mul]
        unfold Addr.add
        split <;> simp_all
      have h00 := (hf' 0 (by omega)).1 0 _ (List.getElem?_eq_getElem hel0)
      rw [hz] at h00
      have hs := spot_none (x := x) h00
      obtain ⟨b, o, sp⟩ := x
      simp only at hs
      subst hs
      refine ⟨b, o, rfl, World.block_lt_of_cell? W _ (by simpa [Addr.add] using h00), fun q u hu => ?_⟩
      have hqlt : q < len * R.k := by
        have := (List.getElem?_eq_some_iff.1 hu).1
        rw [R.vals_length, hql] at this
        exact this
      have hj : q / R.k < len := (Nat.div_lt_iff_lt_mul hk0).2 hqlt
      have hfm : q % R.k < R.k := Nat.mod_lt _ hk0
      have hq : q / R.k * R.k + q % R.k = q := by rw [Nat.mul_comm]; exact Nat.div_add_mod q R.k
      have hv := R.vals_get ((List.range len).map f) (q / R.k) (q % R.k) (by rw [hql]; exact hj) hfm
      rw [hq, hu] at hv
      have e : ((List.range len).map f)[q / R.k]'(by rw [hql]; exact hj) = f (q / R.k) := by simp
      rw [e] at hv
      have g0 := (hf' (q / R.k) (by omega)).1 _ _ hv.symm
      rw [addr_at, addr_at, Nat.add_assoc, hq] at g0
      exact g0
    · obtain ⟨j, hj, rfl⟩ := List.mem_map.1 ha
      rw [List.mem_range] at hj
      refine ⟨D j, (hf' j (by omega)).2, fun n hn => ?_⟩
      rw [hxd]
      simp only [DataW.weights, R.under, List.mem_cons, List.mem_append]
      exact .inr (.inl (weights_mem_all (List.mem_map.2 ⟨j, List.mem_range.2 hj, rfl⟩) n hn))
    · rw [hxd]
      simp only [DataW.weights, R.under, List.mem_cons, List.length_map, List.length_range]
      exact .inl (by simp)
    · rw [hql]
      exact Nat.mul_le_mul_right _ (by omega)

end Go.Proofs.YtnobmgkdieaclaaGreatDoor

namespace Go.Proofs.YtnobmgkdieaclaaGreatDoor
open Go.ChangeShapes Go.WideShapes Go.ChangeAt Go.RowKit

set_option maxRecDepth 100000 in
theorem Rc.openSized {α : Type} (R : Rc α) [Inhabited α] {H : Type} {enc : TypeId × Value → H} {W : World} {fuel0 : Nat} {v : Value} {d : DataW H} {p : List MemPlace} (hce : Tryz.prog.cellsOf R.e = R.k)
    (hf : DataW.trod enc Tryz.prog W 0 (fun _ => true) true fuel0 R.st [v] = some (d, p)) (Q : α → DataW H → Prop)
    (one : ∀ fuel cs x, cs.length = R.k → DataW.trod enc Tryz.prog W 0 (fun _ => true) true fuel R.e cs = some x → SizeOf.sizeOf x.1 < SizeOf.sizeOf d → ∃ a, R.enc a = cs ∧ Q a x.1) :
    ∃ l : List α, R.Sl W W.heap.size v l ∧ (∀ a ∈ l, ∃ d', Q a d' ∧ ∀ n ∈ d'.weights Tryz.prog R.e, n ∈ d.weights Tryz.prog R.st) ∧ (l = [] ∨ ∃ n ∈ d.weights Tryz.prog R.st, l.length * Tryz.prog.bytesOf R.e ≤ n) := by
  rcases Deep.open_slice R.under hf with ⟨hcs, _⟩ | ⟨x, len, cap, m, n, D, Pl, hcs, _, hl, hm, hz, hx, hel⟩
  · simp only [List.cons.injEq, and_true] at hcs
    subst hcs
    exact ⟨[], Rc.Sl.nil W _, by simp, .inl rfl⟩
  · simp only [List.cons.injEq, and_true] at hcs
    subst hcs
    simp only [if_true] at hz
    subst hz
    simp only [Prod.mk.injEq] at hx
    obtain ⟨hxd, -⟩ := hx
    have each : ∀ i, i < m → ∃ t : α, (∀ s u, (R.enc t)[s]? = some u → W.cell? ((x.add (i * R.k)).add s) = some u) ∧ Q t (D i) := by
      intro i hi
      obtain ⟨cs', hcs', htr⟩ := hel i hi
      rw [hce] at hcs'
      obtain ⟨_, hlen, hcell⟩ := World.cells?_some hcs'
      have hsz : SizeOf.sizeOf (D i) < SizeOf.sizeOf d := by
        rw [hxd, DataW.slice.sizeOf_spec]
        by_cases hil : i < len
        · have := List.sizeOf_lt_of_mem (show D i ∈ (List.range len).map D from List.mem_map.2 ⟨i, List.mem_range.2 hil, rfl⟩)
          omega
        · have := List.sizeOf_lt_of_mem (show D i ∈ (List.range (m - len)).map fun j => D (len + j) from List.mem_map.2 ⟨i - len, List.mem_range.2 (by omega), by rw [show len + (i - len) = i by omega]⟩)
          omega
      obtain ⟨a, ha, hq⟩ := one _ cs' _ hlen htr hsz
      refine ⟨a, fun s u hu => ?_, hq⟩
      rw [ha] at hu
      have hs : s < R.k := by rw [← hlen]; exact (List.getElem?_eq_some_iff.1 hu).1
      rw [hcell s hs]
      exact hu
    obtain ⟨f, hf'⟩ := Deep.choose_lt each
    have hql : ((List.range len).map f).length = len := by simp
    refine ⟨(List.range len).map f, ⟨some x, m, by rw [hql], by rw [hql]; omega, (fun h => by cases h), fun hne => ?_⟩, fun a ha => ?_, .inr ⟨(len + (m - len)) * Tryz.prog.bytesOf R.e, ?_, ?_⟩⟩
    · have hpos : 0 < len := by
        rcases Nat.eq_zero_or_pos len with h0 | h0
        · subst h0; exact absurd (by simp) hne
        · exact h0
      have hk0 : 0 < R.k := R.pos
      have hel0 : 0 < (R.enc (f 0)).length := by rw [R.len]; exact hk0
      have hz : (x.add (0 * R.k)).add 0 = x.add 0 := by
        rw [Nat.zero_mul]
        unfold Addr.add
        split <;> simp_all
      have h00 := (hf' 0 (by omega)).1 0 _ (List.getElem?_eq_getElem hel0)
      rw [hz] at h00
      have hs := spot_none (x := x) h00
      obtain ⟨b, o, sp⟩ := x
      simp only at hs
      subst hs
      refine ⟨b, o, rfl, World.block_lt_of_cell? W _ (by simpa [Addr.add] using h00), fun q u hu => ?_⟩
      have hqlt : q < len * R.k := by
        have := (List.getElem?_eq_some_iff.1 hu).1
        rw [R.vals_length, hql] at this
        exact this
      have hj : q / R.k < len := (Nat.div_lt_iff_lt_mul hk0).2 hqlt
      have hfm : q % R.k < R.k := Nat.mod_lt _ hk0
      have hq : q / R.k * R.k + q % R.k = q := by rw [Nat.mul_comm]; exact Nat.div_add_mod q R.k
      have hv := R.vals_get ((List.range len).map f) (q / R.k) (q % R.k) (by rw [hql]; exact hj) hfm
      rw [hq, hu] at hv
      have e : ((List.range len).map f)[q / R.k]'(by rw [hql]; exact hj) = f (q / R.k) := by simp
      rw [e] at hv
      have g0 := (hf' (q / R.k) (by omega)).1 _ _ hv.symm
      rw [addr_at, addr_at, Nat.add_assoc, hq] at g0
      exact g0
    · obtain ⟨j, hj, rfl⟩ := List.mem_map.1 ha
      rw [List.mem_range] at hj
      refine ⟨D j, (hf' j (by omega)).2, fun n hn => ?_⟩
      rw [hxd]
      simp only [DataW.weights, R.under, List.mem_cons, List.mem_append]
      exact .inr (.inl (weights_mem_all (List.mem_map.2 ⟨j, List.mem_range.2 hj, rfl⟩) n hn))
    · rw [hxd]
      simp only [DataW.weights, R.under, List.mem_cons, List.length_map, List.length_range]
      exact .inl (by simp)
    · rw [hql]
      exact Nat.mul_le_mul_right _ (by omega)


theorem pairs_of {α β : Type} {P : α → β → Prop} : ∀ (l : List α), (∀ a ∈ l, ∃ b, P a b) → ∃ ps : List (α × β), ps.map Prod.fst = l ∧ ∀ p ∈ ps, P p.1 p.2
  | [], _ => ⟨[], rfl, fun _ h => by cases h⟩
  | a :: r, h => by
    obtain ⟨b, hb⟩ := h a (List.mem_cons_self ..)
    obtain ⟨ps, h1, h2⟩ := pairs_of r fun x hx => h x (List.mem_cons_of_mem _ hx)
    refine ⟨(a, b) :: ps, by rw [List.map_cons, h1], fun p hp => ?_⟩
    rcases List.mem_cons.1 hp with rfl | hp
    · exact hb
    · exact h2 p hp

end Go.Proofs.YtnobmgkdieaclaaGreatDoor

namespace Go.Proofs.YtnobmgkdieaclaaGreatDoor.Lx

/-- a byte of a text, a join told as a blank, and where it stands -/
structure B (α : Type) where
  c : UInt8
  join : Bool
  at_ : α
/-- a word, and where it stands -/
structure W (α : Type) where
  text : List UInt8
  at_ : α
  quoted : Bool
  mark : Bool
/-- an answer, or where it goes wrong -/
inductive R (α β : Type) where
  | bad (a : α)
  | ok (b : β)
def R.map {α β γ δ : Type} (f : α → γ) (g : β → δ) : R α β → R γ δ
  | .bad a => .bad (f a)
  | .ok b => .ok (g b)
def R.andThen {α β γ : Type} (r : R α β) (f : β → R α γ) : R α γ :=
  match r with
  | .bad a => .bad a
  | .ok b => f b
variable {α β : Type}
def B.map (f : α → β) (b : B α) : B β := ⟨b.c, b.join, f b.at_⟩
def W.map (f : α → β) (w : W α) : W β := ⟨w.text, f w.at_, w.quoted, w.mark⟩

def bare (c : UInt8) : Bool := decide (33 ≤ c.toNat ∧ c.toNat ≤ 126 ∧ c ≠ 34 ∧ c ≠ 35 ∧ c ≠ 58 ∧ c ≠ 61 ∧ c ≠ 92)
/-- what a byte behind a backslash within quotes tells -/
def esc (c : UInt8) : Option UInt8 := if c = 34 ∨ c = 92 then some c else if c = 110 then some 10 else if c = 116 then some 9 else none
/-- a quoted word from behind its first quote on: none: it has no end -/
def quo : List (B α) → List UInt8 → R α (Option (List UInt8 × List (B α)))
  | [], _ => .ok none
  | b :: r, acc =>
    if b.c = 34 then .ok (some (acc, r))
    else if b.c ≠ 92 then quo r (acc ++ [b.c])
    else qesc b.at_ r acc
where
  /-- behind a backslash -/
  qesc (a : α) : List (B α) → List UInt8 → R α (Option (List UInt8 × List (B α)))
  | [], _ => .bad a
  | e :: r', acc => if e.join = true then .bad a else match esc e.c with
    | some x => quo r' (acc ++ [x])
    | none => .bad a
theorem quo_len : ∀ (n : Nat) (l : List (B α)) (acc s : List UInt8) (r : List (B α)), l.length ≤ n → quo l acc = .ok (some (s, r)) → r.length < l.length := by
  intro n
  induction n with
  | zero =>
    intro l acc s r hl h
    cases l with
    | nil => simp [quo] at h
    | cons b t => simp at hl
  | succ n ih =>
    intro l acc s r hl h
    cases l with
    | nil => simp [quo] at h
    | cons b t =>
      rw [quo] at h
      simp only [List.length_cons] at hl ⊢
      split at h
      · simp only [R.ok.injEq, Option.some.injEq, Prod.mk.injEq] at h
        rw [← h.2]; omega
      · split at h
        · have := ih t _ s r (by omega) h; omega
        · cases t with
          | nil => simp [quo.qesc] at h
          | cons e t' =>
            rw [quo.qesc] at h
            split at h
            · cases h
            · split at h
              · simp only [List.length_cons] at hl ⊢
                have := ih t' _ s r (by omega) h; omega
              · cases h
/-- the words of a logical line, from a place on -/
def rd : List (B α) → R α (List (W α))
  | [] => .ok []
  | b :: r =>
    if b.c = 35 then .ok []
    else if b.c = 32 then rd r
    else if b.c = 58 ∨ b.c = 61 then (rd r).map id (⟨[b.c], b.at_, false, true⟩ :: ·)
    else if b.c = 34 then
      match _h : quo r [] with
      | .bad a => .bad a
      | .ok none => .bad b.at_
      | .ok (some (s, r')) => (rd r').map id (⟨s, b.at_, true, false⟩ :: ·)
    else if bare b.c = true then (rd (r.dropWhile fun x => bare x.c)).map id (⟨b.c :: (r.takeWhile fun x => bare x.c).map B.c, b.at_, false, false⟩ :: ·)
    else .bad b.at_
termination_by l => l.length
decreasing_by
  all_goals simp only [List.length_cons]
  · omega
  · omega
  · have := quo_len _ r [] s r' (Nat.le_refl _) _h; omega
  · have := List.Sublist.length_le (List.dropWhile_sublist (fun x : B α => bare x.c) (l := r)); omega
/-- a logical line: where it begins, whether it is indented, its words -/
structure Ln (α : Type) where
  at_ : α
  ind : Bool
  words : List (W α)
def Ln.map (f : α → β) (l : Ln α) : Ln β := ⟨f l.at_, l.ind, l.words.map (W.map f)⟩
def line : List (B α) → R α (Bool × List (W α))
  | [] => .ok (false, [])
  | b :: r => if b.c = 9 then (rd r).map id (true, ·) else (rd (b :: r)).map id (false, ·)
/-- the logical lines that have a word -/
def lns : List (B α) → R α (List (Ln α))
  | [] => .ok []
  | b :: r =>
    (line ((b :: r).takeWhile fun x => x.c != 10)).andThen fun (i, ws) =>
      (lns (((b :: r).dropWhile fun x => x.c != 10).drop 1)).map id fun t => if ws = [] then t else ⟨b.at_, i, ws⟩ :: t
termination_by l => l.length
decreasing_by
  simp only [List.length_cons, List.length_drop]
  have := List.Sublist.length_le (List.dropWhile_sublist (fun x : B α => x.c != 10) (l := b :: r))
  simp only [List.length_cons] at this
  omega

/-- a text's bytes from the p-th on -/
def bytes : Nat → List UInt8 → List (B Nat)
  | _, [] => []
  | p, 92 :: 10 :: r => ⟨32, true, p⟩ :: bytes (p + 2) r
  | p, c :: r => ⟨c, false, p⟩ :: bytes (p + 1) r
def lex (t : List UInt8) : R Nat (List (Ln Nat)) := lns (bytes 0 t)
/-- the line and the byte of it of the byte at -/
def place (t : List UInt8) (n : Nat) : Nat × Nat := ((t.take n).count 10 + 1, ((t.take n).reverse.takeWhile fun c => c != 10).length)

def plain (s : List UInt8) : Bool := !s.isEmpty && s.all bare
def qb (c : UInt8) : List UInt8 := if c = 34 ∨ c = 92 then [92, c] else if c = 10 then [92, 110] else if c = 9 then [92, 116] else [c]
def quote (s : List UInt8) : List UInt8 := 34 :: (s.flatMap qb ++ [34])
def show_ (s : List UInt8) : List UInt8 := if plain s = true then s else quote s
def wtext (w : W α) : List UInt8 := if w.mark = true then w.text else if w.quoted = true then quote w.text else show_ w.text
def inter (l : List (List UInt8)) : List UInt8 := List.intercalate [32] l
def wline (l : Ln α) : List UInt8 := (if l.ind = true then [9] else []) ++ (inter (l.words.map wtext) ++ [10])
def write (l : List (Ln α)) : List UInt8 := l.flatMap wline

end Go.Proofs.YtnobmgkdieaclaaGreatDoor.Lx
