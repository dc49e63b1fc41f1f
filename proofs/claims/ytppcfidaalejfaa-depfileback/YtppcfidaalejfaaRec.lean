/-
  ROWS OF RECORDS, whatever they hold: what a slice reads as, a call's own rows; append, a row's head and tail.
-/
import Derived.Test.YtppcfidaalejfaaKit
import Derived.Deep.AppendLies
namespace Go.Proofs.Ytppcfidaalejfaa
open Go.RowKit

/-- how things lie in a row: the element's type, the slice's type, an element's cells -/
structure Rc (α : Type) where
  e : TypeId
  st : TypeId
  k : Nat
  bytes : Nat
  z : Value
  enc : α → List Value
  pos : 0 < k
  len : ∀ x, (enc x).length = k
  one : ∀ x, ∀ u ∈ enc x, u.oneCell' = true
  info : (Try.prog.info? e).map (fun i => (i.zero, i.size, i.bytes)) = some (some z, k, bytes)
  under : Try.prog.underlying st = some (.slice e)
  zk : z.cells.size = k
  small : bytes ≤ 1024

theorem addr_at (b o m : Nat) : (⟨b, o, none⟩ : Addr).add m = ⟨b, o + m, none⟩ := by unfold Addr.add; split <;> simp_all

namespace Rc
variable {α : Type} (R : Rc α)

/-- the cells of a row -/
def vals (l : List α) : List Value := l.flatMap R.enc
theorem vals_nil : R.vals [] = [] := rfl
theorem vals_append (a b : List α) : R.vals (a ++ b) = R.vals a ++ R.vals b := by simp [vals]
theorem vals_length (l : List α) : (R.vals l).length = l.length * R.k := by
  induction l with
  | nil => simp [vals]
  | cons x r ih =>
    show (R.enc x ++ R.vals r).length = _
    rw [List.length_append, ih, R.len, List.length_cons, Nat.add_mul]
    omega
theorem vals_one (l : List α) : ∀ u ∈ R.vals l, u.oneCell' = true := by
  intro u hu
  simp only [vals, List.mem_flatMap] at hu
  obtain ⟨x, _, hx⟩ := hu
  exact R.one x u hx
theorem vals_take (l : List α) (m : Nat) : R.vals (l.take m) = (R.vals l).take (m * R.k) := by
  induction l generalizing m with
  | nil => simp [vals]
  | cons x r ih =>
    cases m with
    | zero => simp [vals]
    | succ m =>
      show R.enc x ++ R.vals (r.take m) = (R.enc x ++ R.vals r).take _
      rw [ih, List.take_append, R.len, Nat.add_mul, Nat.one_mul, List.take_of_length_le (l := R.enc x) (by rw [R.len]; omega), Nat.add_sub_cancel]
theorem vals_drop (l : List α) (m : Nat) : R.vals (l.drop m) = (R.vals l).drop (m * R.k) := by
  induction l generalizing m with
  | nil => simp [vals]
  | cons x r ih =>
    cases m with
    | zero => simp
    | succ m =>
      show R.vals (r.drop m) = (R.enc x ++ R.vals r).drop _
      rw [ih, List.drop_append, R.len, Nat.add_mul, Nat.one_mul, List.drop_of_length_le (l := R.enc x) (by rw [R.len]; omega), List.nil_append, Nat.add_sub_cancel]
theorem vals_get (l : List α) (j f : Nat) (hj : j < l.length) (hf : f < R.k) : (R.vals l)[j * R.k + f]? = (R.enc l[j])[f]? := by
  have h1 : R.vals (l.drop j) = R.enc l[j] ++ R.vals (l.drop (j + 1)) := by
    rw [List.drop_eq_getElem_cons hj]; rfl
  rw [← List.getElem?_drop, ← R.vals_drop, h1, List.getElem?_append_left (by rw [R.len]; exact hf)]

/-- v is a slice whose elements, in w, are l; they lie below block B -/
def Sl (w : World) (B : Nat) (v : Value) (l : List α) : Prop :=
  ∃ ad c, v = .slice ad l.length c ∧ l.length ≤ c ∧ (ad = none → c = 0) ∧ (l ≠ [] → ∃ b o, ad = some ⟨b, o, none⟩ ∧ b < B ∧ ∀ j u, (R.vals l)[j]? = some u → w.cell? ⟨b, o + j, none⟩ = some u)
/-- w's row v, among the blocks from base on, holds just l -/
def Own (w : World) (base : Nat) (v : Value) (l : List α) : Prop := w.ownsRow base R.e R.k v l.length (R.vals l)

variable {R}
theorem Sl.below {w w' : World} {B B' : Nat} {v : Value} {l : List α} (h : R.Sl w B v l) (hb : Below B' w w') (hB : B ≤ B') : R.Sl w' B v l := by
  obtain ⟨ad, c, hv, hle, hn, h⟩ := h
  refine ⟨ad, c, hv, hle, hn, fun hne => ?_⟩
  obtain ⟨b, o, ha, hlt, hc⟩ := h hne
  exact ⟨b, o, ha, hlt, fun j u hu => (hb.cell (p := ⟨b, o + j, none⟩) (Nat.lt_of_lt_of_le hlt hB)).trans (hc j u hu)⟩
theorem Sl.mono {w : World} {B B' : Nat} {v : Value} {l : List α} (h : R.Sl w B v l) (hB : B ≤ B') : R.Sl w B' v l := by
  obtain ⟨ad, c, hv, hle, hn, h⟩ := h
  refine ⟨ad, c, hv, hle, hn, fun hne => ?_⟩
  obtain ⟨b, o, ha, hlt, hc⟩ := h hne
  exact ⟨b, o, ha, Nat.lt_of_lt_of_le hlt hB, hc⟩
theorem Sl.alloc {w : World} {B : Nat} {v : Value} {l : List α} (h : R.Sl w B v l) (hB : B ≤ w.heap.size) (o : Obj) : R.Sl (w.alloc o) B v l := h.below ((Below.refl w.heap.size w).alloc (Nat.le_refl _) o) hB
theorem Sl.nil (w : World) (B : Nat) : R.Sl w B (.slice none 0 0) [] := ⟨none, 0, rfl, Nat.le_refl _, fun _ => rfl, fun h => absurd rfl h⟩
theorem Sl.shape {w : World} {B : Nat} {v : Value} {l : List α} (h : R.Sl w B v l) : ∃ ad c, v = .slice ad l.length c ∧ l.length ≤ c := by
  obtain ⟨ad, c, hv, hle, -⟩ := h
  exact ⟨ad, c, hv, hle⟩
/-- an element's cells -/
theorem Sl.cells {w : World} {B : Nat} {v : Value} {l : List α} (h : R.Sl w B v l) (j : Nat) (hj : j < l.length) :
    ∃ b o c, v = .slice (some ⟨b, o, none⟩) l.length c ∧ b < B ∧ ∀ f u, f < R.k → (R.enc l[j])[f]? = some u → w.cell? ⟨b, o + (j * R.k + f), none⟩ = some u := by
  obtain ⟨ad, c, rfl, hle, hn, h⟩ := h
  obtain ⟨b, o, rfl, hlt, hc⟩ := h (by rintro rfl; simp at hj)
  exact ⟨b, o, c, rfl, hlt, fun f u hf hu => hc _ u ((R.vals_get l j f hj hf).trans hu)⟩
theorem Sl.head {w : World} {B : Nat} {ad : Option Addr} {n c : Nat} {l : List α} (h : R.Sl w B (.slice ad n c) l) (m : Nat) (hm : m ≤ l.length) : R.Sl w B (.slice ad m c) (l.take m) := by
  obtain ⟨ad', c', hv, hle, hn0, h⟩ := h
  simp only [Value.slice.injEq] at hv
  obtain ⟨rfl, rfl, rfl⟩ := hv
  have e : (l.take m).length = m := by simp; omega
  refine ⟨ad, c, by rw [e], by omega, hn0, fun hne => ?_⟩
  have hl : l ≠ [] := by intro h0; subst h0; simp at hne
  obtain ⟨b, o, ha, hb, hcell⟩ := h hl
  refine ⟨b, o, ha, hb, fun j u hu => hcell j u ?_⟩
  rw [R.vals_take] at hu
  rw [List.getElem?_take] at hu
  split at hu
  · exact hu
  · cases hu
theorem elem_st (R : Rc α) : Try.prog.elem R.st = R.e := by simp [Program.elem, R.under]
theorem size_e (R : Rc α) (w : World) : (Go.sizeOf R.e).run Try.prog w = .ok R.k w := by
  obtain ⟨i0, hi, hz0, hz1, hz2⟩ := info_parts R.info
  simp [sizeOf, typeInfo, hi, hz1]
/-- 's[:m]' -/
theorem slice_head (R : Rc α) (W : World) (ad : Option Addr) (n c m : Nat) (hm : m ≤ c) :
    (Instr.slice R.st (.slice ad n c) none (some (.int .i64 (m : Int))) none).run Try.prog W = .ok (.slice ad m c) W := by
  rw [run_slice_h W R.st ad n c (by rw [R.elem_st]; exact R.under) .i64 (m : Int) (by omega) (by omega), R.elem_st, R.size_e]
  cases ad <;> simp [Result.andThen, sliced, Addr.add]
/-- 's[m:]' -/
theorem slice_tail {w : World} {B : Nat} {ad : Option Addr} {n c : Nat} {l : List α} (h : R.Sl w B (.slice ad n c) l) (m : Nat) (hm : m ≤ l.length) :
    ∃ A, (∀ W : World, (Instr.slice R.st (.slice ad n c) (some (.int .i64 (m : Int))) none none).run Try.prog W = .ok (.slice A (n - m) (c - m)) W) ∧ R.Sl w B (.slice A (n - m) (c - m)) (l.drop m) := by
  obtain ⟨ad', c', hv, hle, hn0, h⟩ := h
  simp only [Value.slice.injEq] at hv
  obtain ⟨rfl, rfl, rfl⟩ := hv
  refine ⟨if c = m then ad else ad.map (·.add (m * R.k)), fun W => ?_, if c = m then ad else ad.map (·.add (m * R.k)), c - m, by rw [List.length_drop], by rw [List.length_drop]; omega, fun h0 => ?_, fun hne => ?_⟩
  · rw [run_slice_l W R.st ad l.length c (by rw [R.elem_st]; exact R.under) .i64 (m : Int) (by omega) (by omega), R.elem_st, R.size_e]
    simp [Result.andThen, sliced]
  · by_cases hcm : c = m
    · omega
    · rw [if_neg hcm] at h0
      cases ad with
      | none => have := hn0 rfl; omega
      | some x => simp at h0
  · have hlm : m < l.length := by
      rcases Nat.lt_or_ge m l.length with h | h
      · exact h
      · exact absurd (List.drop_eq_nil_of_le h) hne
    obtain ⟨b, o, rfl, hb, hcell⟩ := h (by intro e; subst e; simp at hlm)
    rw [if_neg (by omega)]
    refine ⟨b, o + m * R.k, by simp [addr_at], hb, fun j u hu => ?_⟩
    rw [R.vals_drop, List.getElem?_drop] at hu
    rw [Nat.add_assoc]
    exact hcell _ u hu

theorem Own.nil (w : World) (base : Nat) : R.Own w base (.slice none 0 0) [] := by
  refine ⟨by simp [vals], .inl ⟨rfl, rfl⟩⟩
theorem Own.alloc {w : World} {base : Nat} {v : Value} {l : List α} (h : R.Own w base v l) (o : Obj) : R.Own (w.alloc o) base v l := World.ownsRow.alloc h o
theorem Own.below {w w' : World} {base B : Nat} {v : Value} {l : List α} (h : R.Own w base v l) (hb : Below B w w') (hB : w.heap.size ≤ B) : R.Own w' base v l :=
  World.ownsRow.kept h (row := none) ⟨hb.os, hb.tape, hb.output, hb.size, fun k hk _ => hb.block k (by omega)⟩ (by cases hv : v.ownBlock <;> simp)
theorem Own.low {w : World} {B B' : Nat} {v : Value} {l : List α} (h : R.Own w B v l) (hB : B' ≤ B) : R.Own w B' v l := by
  refine ⟨h.1, ?_⟩
  rcases h.2 with h | ⟨g, cap, cur, rfl, h2, h3⟩
  · exact .inl h
  · exact .inr ⟨g, cap, cur, rfl, Nat.le_trans hB h2, h3⟩
theorem Own.sl {w : World} {base : Nat} {v : Value} {l : List α} (h : R.Own w base v l) : R.Sl w w.heap.size v l := by
  have hlt := World.ownsRow.lt h
  have hcs := fun g hg => World.ownsRow.cells (g := g) h hg
  rcases h.2 with ⟨rfl, h0⟩ | ⟨g, cap, cur, rfl, _, _, hle, _⟩
  · refine ⟨none, 0, by rw [h0], by omega, fun _ => rfl, fun hne => ?_⟩
    exact absurd (List.eq_nil_of_length_eq_zero h0) hne
  · refine ⟨_, _, rfl, hle, (fun h => by cases h), fun _ => ⟨g, 0, rfl, (hlt g rfl).2, fun j u hu => ?_⟩⟩
    have := hcs g rfl j u hu
    rwa [addr_at] at this
theorem Own.isSl {w : World} {base : Nat} {v : Value} {l : List α} (h : R.Own w base v l) : ∃ ad n c, v = .slice ad n c := by
  obtain ⟨ad, c, rfl, -⟩ := h.sl
  exact ⟨ad, _, c, rfl⟩
theorem Own.lt {w : World} {base : Nat} {v : Value} {l : List α} (h : R.Own w base v l) : ∀ g, v.ownBlock = some g → base ≤ g ∧ g < w.heap.size := World.ownsRow.lt h

/-- 'append(out, m...)' on a row of the call's own, m whatever -/
theorem append {ops : Array Oper} {rest : List Oper} {o : Oper} {a : Act} {Q : Exit → Act → World → Prop} {w : World} (R : Rc α) (hgd : o.guard = none) (s x : Operand)
    (ho : o.op = .call { callee := .builtin .append, args := #[s, x], argTypes := #[R.st, R.st] }) (base B : Nat) (v vx : Value) (l m : List α)
    (hs : a.eval s = v) (hown : R.Own w base v l) (hx : a.eval x = vx) (hb : R.Sl w B vx m) (hlen : Hid (l.length + m.length ≤ 1099511627)) (hbase : base ≤ w.heap.size)
    (h : ∀ v' w', R.Own w' base v' (l ++ m) → w.grownBy w' v.ownBlock → wpList Try.prog ops Q rest (a.put o.dst v') w') :
    wpList Try.prog ops Q (o :: rest) a w := by
  obtain ⟨i0, hi, hz0, hz1, hz2⟩ := info_parts R.info
  have hl := hlen.out
  obtain ⟨ad, c, rfl, hle, hn, hcells⟩ := hb
  cases ad with
  | none =>
    have hc0 := hn rfl
    subst hc0
    have hm : m = [] := List.eq_nil_of_length_eq_zero (by omega)
    subst hm
    refine wpList_append_own_none hgd s x R.st ho base R.e i0 R.k R.under hi v l.length (R.vals l) hs hown hx ?_
    refine h v w ?_ ⟨rfl, rfl, rfl, Nat.le_refl _, fun _ _ _ => rfl⟩
    rw [List.append_nil]; exact hown
  | some ad =>
    refine wpList_append_own _ hgd s x R.st ho base R.e i0 _ R.k R.bytes R.under hi hz0 hz1 hz2 R.zk R.pos v l.length (R.vals l) hs hown ad m.length c (R.vals m) hx (R.vals_length m) ?_ (R.vals_one m) ?_ ?_ hbase ?_
    · by_cases hne : m = []
      · subst hne; intro j u hu; simp [vals] at hu
      · obtain ⟨b, o', e, _, hcell⟩ := hcells hne
        simp only [Option.some.injEq] at e
        subst e
        intro j u hu
        rw [addr_at]
        exact hcell j u hu
    · unfold maxLen; omega
    · have := R.small
      have h1 : (l.length + m.length) * R.bytes ≤ 1099511627 * 1024 := Nat.mul_le_mul hl this
      omega
    · intro v' w' h1 h2 _
      refine h v' w' ?_ h2
      unfold Own; rw [R.vals_append, List.length_append]; exact h1

/-- 'append(out, m...)', m not empty, and where the row then lies -/
theorem append_at {ops : Array Oper} {rest : List Oper} {o : Oper} {a : Act} {Q : Exit → Act → World → Prop} {w : World} (R : Rc α) (hgd : o.guard = none) (s x : Operand)
    (ho : o.op = .call { callee := .builtin .append, args := #[s, x], argTypes := #[R.st, R.st] }) (base B : Nat) (v vx : Value) (l m : List α)
    (hs : a.eval s = v) (hown : R.Own w base v l) (hx : a.eval x = vx) (hb : R.Sl w B vx m) (hm : m ≠ []) (hlen : Hid (l.length + m.length ≤ 1099511627)) (hbase : base ≤ w.heap.size)
    (h : ∀ g cap w', R.Own w' base (.slice (some ⟨g, 0, none⟩) (l.length + m.length) cap) (l ++ m) → w.grownBy w' v.ownBlock → (v.ownBlock = some g ∨ g = w.heap.size) → g < w'.heap.size → wpList Try.prog ops Q rest (a.put o.dst (.slice (some ⟨g, 0, none⟩) (l.length + m.length) cap)) w') :
    wpList Try.prog ops Q (o :: rest) a w := by
  obtain ⟨i0, hi, hz0, hz1, hz2⟩ := info_parts R.info
  have hl := hlen.out
  obtain ⟨ad, c, rfl, hle, hn, hcells⟩ := hb
  obtain ⟨b, o', rfl, _, hcell⟩ := hcells hm
  have hm1 : 0 < m.length := List.length_pos_iff.2 hm
  refine wpList_append_lies _ hgd s x R.st ho base R.e i0 _ R.k R.bytes R.under hi hz0 hz1 hz2 R.zk R.pos v l.length (R.vals l) hs hown ⟨b, o', none⟩ m.length c (R.vals m) hx (R.vals_length m) ?_ (R.vals_one m) hm1 ?_ ?_ hbase w.heap.size rfl ?_
  · intro j u hu
    rw [addr_at]
    exact hcell j u hu
  · unfold maxLen; omega
  · have h1 : (l.length + m.length) * R.bytes ≤ 1099511627 * 1024 := Nat.mul_le_mul hl R.small
    omega
  · intro g cap w' h1 h2 h3 h4
    refine h g cap w' ?_ h2 h3 h4
    unfold Own; rw [R.vals_append, List.length_append]; exact h1

/-- a row of one, laid at once -/
theorem lit (w : World) (x : α) (cs : Array Value) (hcs : cs.toList = R.enc x) : R.Sl (w.alloc (.cells cs R.e)) (w.heap.size + 1) (.slice (some ⟨w.heap.size, 0, none⟩) 1 1) [x] := by
  refine ⟨_, 1, rfl, Nat.le_refl _, (fun h => by cases h), fun _ => ⟨w.heap.size, 0, rfl, Nat.lt_succ_self _, fun j u hu => ?_⟩⟩
  have hv : R.vals [x] = cs.toList := by simp [vals, hcs]
  rw [hv] at hu
  rw [Nat.zero_add]
  rw [cell_of_row (w.alloc (.cells cs R.e)) w.heap.size j cs R.e (0, 0) (heap_alloc_new w _)]
  rw [← Array.getElem?_toList]; exact hu

end Rc
end Go.Proofs.Ytppcfidaalejfaa
