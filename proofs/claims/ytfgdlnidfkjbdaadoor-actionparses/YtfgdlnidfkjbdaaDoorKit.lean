/-
  WORDS FOR BYTES IN THE WALKS OF LAYER 3 (disk).
-/
import Derived.Test.YtfgdlnidfkjbdaaDoorProg
import Derived.WalkKit
import Derived.WalkSpells
import Derived.WalkLawsBesides
import Derived.Lib.AppendStr
import Derived.Laws.CopyOwn
import Derived.Laws.AppendOwnNone
import Derived.Lib.AppendZeros
import Derived.Lib.SliceRun
import Derived.BigQuiet
import Derived.Deep.QuietTactic
import Derived.Deep.DeepCutAuto
import Derived.Deep.CutBlock
import Derived.Deep.RegionWith
import Derived.Deep.Slices
import Derived.Deep.AppendLies
namespace Go.Proofs.YtfgdlnidfkjbdaaDoor
open Go.RowKit

/-- bytes as cells -/
def bV (l : List UInt8) : List Value := l.map fun b => Value.int .u8 b.toNat

theorem info5 : (Tryd.prog.info? 5).map (fun i => (i.zero, i.size, i.bytes)) = some (some (.int .u8 0), 1, 1) := by kernel_rfl

theorem bV_length (l : List UInt8) : (bV l).length = l.length := by simp [bV]
theorem bV_append (a b : List UInt8) : bV (a ++ b) = bV a ++ bV b := by simp [bV]

/-- w's row v, among the blocks from base on, holds just the bytes l -/
def Own (w : World) (base : Nat) (v : Value) (l : List UInt8) : Prop := w.ownsRow base 5 1 v l.length (bV l)

theorem Own.alloc {w : World} {base : Nat} {v : Value} {l : List UInt8} (h : Own w base v l) (o : Obj) : Own (w.alloc o) base v l := World.ownsRow.alloc h o

theorem Own.nil (w : World) (base : Nat) : Own w base (.slice none 0 0) [] := World.ownsRow_nil w base 5 1

/-- v is a slice whose elements, in w, are the bytes l; they lie below block B -/
def Byts (w : World) (B : Nat) (v : Value) (l : List UInt8) : Prop :=
  ∃ ad c, v = .slice ad l.length c ∧ l.length ≤ c ∧ (ad = none → c = 0) ∧ (l ≠ [] → ∃ b o, ad = some ⟨b, o, none⟩ ∧ b < B ∧ ∀ j, j < l.length → w.cell? ⟨b, o + j, none⟩ = some (.int .u8 ((l.getD j 0).toNat : Int)))

theorem Byts.below {w w' : World} {B B' : Nat} {v : Value} {l : List UInt8} (h : Byts w B v l) (hb : Below B' w w') (hB : B ≤ B') : Byts w' B v l := by
  obtain ⟨ad, c, hv, hle, hn, h⟩ := h
  refine ⟨ad, c, hv, hle, hn, fun hne => ?_⟩
  obtain ⟨b, o, ha, hlt, hc⟩ := h hne
  exact ⟨b, o, ha, hlt, fun j hj => (hb.cell (p := ⟨b, o + j, none⟩) (Nat.lt_of_lt_of_le hlt hB)).trans (hc j hj)⟩
theorem Byts.mono {w : World} {B B' : Nat} {v : Value} {l : List UInt8} (h : Byts w B v l) (hB : B ≤ B') : Byts w B' v l := by
  obtain ⟨ad, c, hv, hle, hn, h⟩ := h
  refine ⟨ad, c, hv, hle, hn, fun hne => ?_⟩
  obtain ⟨b, o, ha, hlt, hc⟩ := h hne
  exact ⟨b, o, ha, Nat.lt_of_lt_of_le hlt hB, hc⟩
theorem Byts.nil (w : World) (B : Nat) : Byts w B (.slice none 0 0) [] := ⟨none, 0, rfl, Nat.le_refl _, fun _ => rfl, fun h => absurd rfl h⟩

/-- a row of the call's own, read -/
theorem Own.byts {w : World} {base : Nat} {v : Value} {l : List UInt8} (h : Own w base v l) : Byts w w.heap.size v l := by
  have hlt := World.ownsRow.lt h
  have hcs := fun g hg => World.ownsRow.cells (g := g) h hg
  rcases h.2 with ⟨rfl, h0⟩ | ⟨g, cap, cur, rfl, _, _, hle, _⟩
  · refine ⟨none, 0, by rw [h0], by omega, fun _ => rfl, fun hne => ?_⟩
    exact absurd (List.eq_nil_of_length_eq_zero h0) hne
  · refine ⟨_, _, rfl, hle, (fun h => by cases h), fun _ => ⟨g, 0, rfl, (hlt g rfl).2, fun j hj => ?_⟩⟩
    have := hcs g rfl j (.int .u8 ((l.getD j 0).toNat : Int)) (by simp [bV, List.getD, List.getElem?_eq_getElem hj])
    have e : (⟨g, 0, none⟩ : Addr).add j = ⟨g, 0 + j, none⟩ := by unfold Addr.add; split <;> simp_all
    rwa [e] at this

end Go.Proofs.YtfgdlnidfkjbdaaDoor

namespace Go.Proofs.YtfgdlnidfkjbdaaDoor
open Go.RowKit

theorem bV_oneCell (l : List UInt8) : ∀ u ∈ bV l, u.oneCell' = true := by
  intro u hu
  simp only [bV, List.mem_map] at hu
  obtain ⟨b, _, rfl⟩ := hu
  rfl

/-- the cells that an append copies -/
theorem byts_news {w : World} {b o : Nat} {l : List UInt8} (h : ∀ j, j < l.length → w.cell? ⟨b, o + j, none⟩ = some (.int .u8 ((l.getD j 0).toNat : Int))) :
    ∀ j u, (bV l)[j]? = some u → w.cell? ((⟨b, o, none⟩ : Addr).add j) = some u := by
  intro j u hu
  have hj : j < l.length := by
    rcases Nat.lt_or_ge j l.length with h | h
    · exact h
    · rw [List.getElem?_eq_none (by rw [bV_length]; exact h)] at hu; cases hu
  have e : (⟨b, o, none⟩ : Addr).add j = ⟨b, o + j, none⟩ := by unfold Addr.add; split <;> simp_all
  rw [e, h j hj]
  simp only [bV, List.getElem?_map, List.getElem?_eq_getElem hj, Option.map_some, Option.some.injEq] at hu
  rw [← hu]
  simp [List.getD, List.getElem?_eq_getElem hj]

/-- 'append(out, b...)' on a row of the call's own, b whatever bytes -/
theorem wpList_append_byts {ops : Array Oper} {rest : List Oper} {o : Oper} {a : Act} {Q : Exit → Act → World → Prop} {w : World} (hgd : o.guard = none) (s x : Operand)
    (ho : o.op = .call { callee := .builtin .append, args := #[s, x], argTypes := #[64, 64] }) (base B : Nat) (v vx : Value) (l m : List UInt8)
    (hs : a.eval s = v) (hown : Own w base v l) (hx : a.eval x = vx) (hb : Byts w B vx m) (hlen : Hid (l.length + m.length ≤ 1099511627800)) (hbase : base ≤ w.heap.size)
    (h : ∀ v' w', Own w' base v' (l ++ m) → w.grownBy w' v.ownBlock → wpList Tryd.prog ops Q rest (a.put o.dst v') w') :
    wpList Tryd.prog ops Q (o :: rest) a w := by
  obtain ⟨i0, hi, hz0, hz1, hz2⟩ := info_parts info5
  have hl := hlen.out
  obtain ⟨ad, c, rfl, hle, hn, hcells⟩ := hb
  cases ad with
  | none =>
    have hc0 := hn rfl
    subst hc0
    have hm : m = [] := List.eq_nil_of_length_eq_zero (by omega)
    subst hm
    refine wpList_append_own_none hgd s x 64 ho base 5 i0 1 Tryd.underlying64 hi v l.length (bV l) hs hown hx ?_
    refine h v w ?_ (World.grownBy.refl w _)
    rw [List.append_nil]; exact hown
  | some ad =>
    refine wpList_append_own _ hgd s x 64 ho base 5 i0 (.int .u8 0) 1 1 Tryd.underlying64 hi hz0 hz1 hz2 rfl (by decide) v l.length (bV l) hs hown ad m.length c (bV m) hx (by rw [bV_length, Nat.mul_one]) ?_ (bV_oneCell m) ?_ ?_ hbase ?_
    · by_cases hne : m = []
      · subst hne; intro j u hu; simp [bV] at hu
      · obtain ⟨b, o', e, _, hcell⟩ := hcells hne
        simp only [Option.some.injEq] at e
        subst e
        exact byts_news hcell
    · unfold maxLen; omega
    · omega
    · intro v' w' h1 h2 _
      refine h v' w' ?_ h2
      unfold Own; rw [bV_append, List.length_append]; exact h1

/-- one byte more: 'append(out, b)' on a row of the call's own -/
theorem wpList_append_byte {ops : Array Oper} {rest : List Oper} {o : Oper} {a : Act} {Q : Exit → Act → World → Prop} (w0 : World) (hgd : o.guard = none) (s x : Operand)
    (ho : o.op = .call { callee := .builtin .append, args := #[s, x], argTypes := #[64, 64] }) (base : Nat) (v : Value) (l : List UInt8) (c : Int) (b : UInt8) (hc : c = (b.toNat : Int))
    (hs : a.eval s = v) (hown : Own w0 base v l) (hx : a.eval x = .slice (some ⟨w0.heap.size, 0, none⟩) 1 1) (hlen : Hid (l.length ≤ 1099511627800)) (hbase : base ≤ w0.heap.size)
    (h : ∀ v' w', Own w' base v' (l ++ [b]) → Below base w0 w' → wpList Tryd.prog ops Q rest (a.put o.dst v') w') :
    wpList Tryd.prog ops Q (o :: rest) a (w0.alloc (.cells #[.int .u8 c] 5)) := by
  obtain ⟨i0, hi, hz0, hz1, hz2⟩ := info_parts info5
  have hl := hlen.out
  subst hc
  refine wpList_append_own _ hgd s x 64 ho base 5 i0 (.int .u8 0) 1 1 Tryd.underlying64 hi hz0 hz1 hz2 rfl (by decide) v l.length (bV l) hs (hown.alloc _) ⟨w0.heap.size, 0, none⟩ 1 1 [.int .u8 (b.toNat : Int)] hx rfl
    (cell_one_new _ _ _) ?_ ?_ ?_ ?_ ?_
  · intro u hu; simp at hu; subst hu; rfl
  · unfold maxLen; omega
  · omega
  · simp; omega
  · intro v' w' h1 h2 _
    refine h v' w' ?_ ?_
    · unfold Own; rw [bV_append, List.length_append]; exact h1
    · refine ((Below.refl base w0).alloc hbase _).grown h2 (by simp; omega) fun k hk => ?_
      exact (World.ownsRow.lt hown k hk).1

/-- bytes that are laid out in the text -/
theorem byts_lit (w : World) (cs : Array Value) (l : List UInt8) (n : Nat) (h : cs.toList = bV l) (hn : n = l.length) : Byts (w.alloc (.cells cs 5)) (w.heap.size + 1) (.slice (some ⟨w.heap.size, 0, none⟩) n n) l := by
  subst hn
  refine ⟨_, _, rfl, Nat.le_refl _, (fun h => by cases h), fun _ => ⟨w.heap.size, 0, rfl, by omega, fun j hj => ?_⟩⟩
  have h1 := cell_of_row (w.alloc (.cells cs 5)) w.heap.size (0 + j) cs 5 (0, 0) (heap_alloc_new w _)
  rw [h1, ← Array.getElem?_toList, h]
  simp [bV, List.getD, List.getElem?_eq_getElem hj]
theorem Byts.alloc {w : World} {B : Nat} {v : Value} {l : List UInt8} (h : Byts w B v l) (hB : B ≤ w.heap.size) (o : Obj) : Byts (w.alloc o) B v l := h.below ((Below.refl w.heap.size w).alloc (Nat.le_refl _) o) hB
theorem Own.below {w w' : World} {base B : Nat} {v : Value} {l : List UInt8} (h : Own w base v l) (hb : Below B w w') (hB : w.heap.size ≤ B) : Own w' base v l :=
  World.ownsRow.kept h (row := none) ⟨hb.os, hb.tape, hb.output, hb.size, fun k hk _ => hb.block k (by omega)⟩ (by cases hv : v.ownBlock <;> simp)
theorem below_grow {B : Nat} {a w w' : World} {p : Nat} (h : Below B a w) (hg : w.grownBy w' (some p)) (hB : B ≤ w.heap.size) (hp : B ≤ p) : Below B a w' :=
  h.grown hg hB fun k hk => by simp only [Option.some.injEq] at hk; omega

/-- a list of bytes as a text -/
def str (l : List UInt8) : ByteArray := ⟨l.toArray⟩
theorem str_toList (l : List UInt8) : (str l).data.toList = l := by simp [str]
theorem str_size (l : List UInt8) : (str l).size = l.length := by simp [str, ByteArray.size]
theorem str_of (s : ByteArray) : str s.data.toList = s := by cases s; simp [str]

theorem strOfNums_str (t : List UInt8) : strOfNums (t.map fun b => (b.toNat : Int)) = str t := by
  unfold strOfNums str
  congr 1
  rw [List.map_map]
  congr 1
  conv => rhs; rw [← List.map_id t]
  apply List.map_congr_left
  intro x _
  simp

theorem conv_byts {W : World} {B : Nat} {v : Value} {t : List UInt8} (h : Byts W B v t) : (convert 64 9 v).run Tryd.prog W = .ok (.string (str t)) W := by
  obtain ⟨ad, c, rfl, _, _, hc⟩ := h
  by_cases hne : t = []
  · subst hne
    cases ad with
    | none => rw [run_convert_bytes_nil (P := Tryd.prog) W 64 5 Tryd.underlying64 Tryd.underlying5 _ _ 9 Tryd.underlying9]; rfl
    | some x =>
      rw [run_convert_bytes_string W 64 9 5 _ _ c Tryd.underlying64 Tryd.underlying5 Tryd.underlying9]
      have hl := run_loadCells_list (P := Tryd.prog) W x [] (fun j v hj => by simp at hj)
      have := run_bytesToString (P := Tryd.prog) W x 0 c [] (by simpa using hl)
      rw [List.length_nil, this]
      rfl
  · obtain ⟨b, o, rfl, _, hcell⟩ := hc hne
    have := run_convert_bytes_arg (P := Tryd.prog) W 64 5 Tryd.underlying64 Tryd.underlying5 b o t.length c (t.map fun b => (b.toNat : Int)) (by simp) (fun i hi => by
      rw [hcell i hi]
      simp [List.getD, List.getElem?_eq_getElem hi]) 9 Tryd.underlying9
    rw [this, strOfNums_str]

/-- a part of bytes -/
theorem Byts.sub {W : World} {B g n cap : Nat} {t : List UInt8} (h : Byts W B (.slice (some ⟨g, 0, none⟩) t.length n) t) (l m : Nat) (hlm : l + m ≤ t.length) (hcap : l + m ≤ cap) :
    Byts W B (.slice (if cap = l then some ⟨g, 0, none⟩ else some ⟨g, l, none⟩) (l + m - l) (cap - l)) ((t.drop l).take m) := by
  have e : l + m - l = ((t.drop l).take m).length := by simp; omega
  rw [e]
  refine ⟨if cap = l then some ⟨g, 0, none⟩ else some ⟨g, l, none⟩, cap - l, rfl, by rw [← e]; omega, (fun h => by split at h <;> cases h), fun hne => ?_⟩
  have hm : m ≠ 0 := by intro h0; subst h0; simp at hne
  rw [if_neg (by omega)]
  obtain ⟨ad, c', hv, _, _, h⟩ := h
  simp only [Value.slice.injEq] at hv
  obtain ⟨rfl, _, rfl⟩ := hv
  have htn : t ≠ [] := by intro e; subst e; simp at hne
  obtain ⟨b, o, ha, hb, hcell⟩ := h htn
  simp only [Option.some.injEq, Addr.mk.injEq] at ha
  obtain ⟨rfl, rfl, _⟩ := ha
  refine ⟨g, l, rfl, hb, fun j hj => ?_⟩
  have hjm : j < m := by simp at hj; omega
  have := hcell (l + j) (by omega)
  rw [Nat.zero_add] at this
  rw [this]
  simp [List.getD, hjm, List.getElem?_drop]

theorem Byts.kept {w w' : World} {B g n c : Nat} {o : Nat} {l : List UInt8} {row : Option Nat} (h : Byts w B (.slice (some ⟨g, o, none⟩) n c) l) (hg : w.grownBy w' row) (hB : B ≤ w.heap.size) (hne : some g ≠ row) : Byts w' B (.slice (some ⟨g, o, none⟩) n c) l := by
  obtain ⟨ad, c', hv, hle, hn0, h⟩ := h
  simp only [Value.slice.injEq] at hv
  obtain ⟨rfl, rfl, rfl⟩ := hv
  refine ⟨_, _, rfl, hle, hn0, fun hn => ?_⟩
  obtain ⟨b, o', ha, hb, hcell⟩ := h hn
  simp only [Option.some.injEq, Addr.mk.injEq, and_true] at ha
  obtain ⟨rfl, rfl⟩ := ha
  exact ⟨g, o, rfl, hb, fun j hj => (World.cell?_of_block (a := ⟨g, o + j, none⟩) (hg.block g (Nat.lt_of_lt_of_le hb hB) hne)).trans (hcell j hj)⟩

theorem beq_str (la lb : List UInt8) : ((str la).toList == (str lb).toList) = decide (la = lb) := by
  rw [ByteArray.toList_eq, ByteArray.toList_eq, str_toList, str_toList, Bool.eq_iff_iff]
  simp

theorem Byts.head {w : World} {B : Nat} {ad : Option Addr} {n c : Nat} {l : List UInt8} (h : Byts w B (.slice ad n c) l) (m : Nat) (hm : m ≤ l.length) : Byts w B (.slice ad m c) (l.take m) := by
  obtain ⟨ad', c', hv, hle, hn0, h⟩ := h
  simp only [Value.slice.injEq] at hv
  obtain ⟨rfl, rfl, rfl⟩ := hv
  have e : (l.take m).length = m := by simp; omega
  refine ⟨ad, c, by rw [e], by omega, hn0, fun hne => ?_⟩
  have hl : l ≠ [] := by intro h0; subst h0; simp at hne
  obtain ⟨b, o, ha, hb, hcell⟩ := h hl
  refine ⟨b, o, ha, hb, fun j hj => ?_⟩
  rw [hcell j (by omega)]
  simp [List.getD, show j < m by omega]

theorem addr_add_zero (x : Addr) : x.add 0 = x := rfl
theorem map_add_zero (ad : Option Addr) : ad.map (fun x => x.add 0) = ad := by cases ad <;> rfl
theorem size5 (w : World) : (Go.sizeOf 5).run Tryd.prog w = .ok 1 w := by
  obtain ⟨i0, hi, hz0, hz1, hz2⟩ := info_parts info5
  simp [sizeOf, typeInfo, hi, hz1]
theorem elem27 : Tryd.prog.elem 64 = 5 := by simp [Program.elem, Tryd.underlying64]

theorem slice_head (W : World) (ad : Option Addr) (n c m : Nat) (hm : m ≤ c) :
    (Instr.slice 64 (.slice ad n c) none (some (.int .i64 (m : Int))) none).run Tryd.prog W = .ok (.slice ad m c) W := by
  rw [run_slice_h W 64 ad n c (by rw [elem27]; exact Tryd.underlying64) .i64 (m : Int) (by omega) (by omega), elem27, size5]
  simp [Result.andThen, sliced, addr_add_zero]

theorem Own_zeros (w : World) (n c : Nat) (hn : n ≤ c) (hc : c ≤ maxLen) : Own (w.alloc (.cells (Builtin.zeroCells (Value.int .u8 0).cells n ++ Builtin.zeroCells (Value.int .u8 0).cells (c - n)) 5)) w.heap.size (.slice (some ⟨w.heap.size, 0, none⟩) 0 c) [] := by
  refine ⟨by simp [bV], .inr ⟨w.heap.size, c, _, rfl, Nat.le_refl _, heap_alloc_new w _, Nat.zero_le _, hc, ?_, by simp [bV]⟩⟩
  rw [Array.size_append, size_zeroCells, size_zeroCells]
  have : (Value.int IntKind.u8 0).cells.size = 1 := rfl
  rw [this]
  omega

theorem addr_add (b o m : Nat) : (⟨b, o, none⟩ : Addr).add m = ⟨b, o + m, none⟩ := by unfold Addr.add; split <;> simp_all

/-- 's[m:]' -/
theorem slice_tail {w : World} {B : Nat} {ad : Option Addr} {n c : Nat} {l : List UInt8} (h : Byts w B (.slice ad n c) l) (m : Nat) (hm : m ≤ l.length) :
    ∃ A, (∀ W : World, (Instr.slice 64 (.slice ad n c) (some (.int .i64 (m : Int))) none none).run Tryd.prog W = .ok (.slice A (n - m) (c - m)) W) ∧ Byts w B (.slice A (n - m) (c - m)) (l.drop m) := by
  obtain ⟨ad', c', hv, hle, hn0, h⟩ := h
  simp only [Value.slice.injEq] at hv
  obtain ⟨rfl, rfl, rfl⟩ := hv
  refine ⟨if c = m then ad else ad.map (·.add m), fun W => ?_, if c = m then ad else ad.map (·.add m), c - m, by rw [List.length_drop], by rw [List.length_drop]; omega, fun h0 => ?_, fun hne => ?_⟩
  · rw [run_slice_l W 64 ad l.length c (by rw [elem27]; exact Tryd.underlying64) .i64 (m : Int) (by omega) (by omega), elem27, size5]
    simp [Result.andThen, sliced]
  · by_cases hcm : c = m
    · omega
    · rw [if_neg hcm] at h0
      cases ad with
      | none => have := hn0 rfl; omega
      | some x => simp at h0
  · have hlm : m < l.length := by
      rcases Nat.lt_or_ge m l.length with h | h
      · exact h
      · exact absurd (List.drop_eq_nil_of_le h) hne
    obtain ⟨b, o, rfl, hb, hcell⟩ := h (by intro e; subst e; simp at hlm)
    rw [if_neg (by omega)]
    refine ⟨b, o + m, by simp [addr_add], hb, fun j hj => ?_⟩
    rw [List.length_drop] at hj
    rw [Nat.add_assoc, hcell (m + j) (by omega)]
    simp [List.getD, List.getElem?_drop]

/-- block g holds just the bytes X, and may be written -/
def Blk (w : World) (g : Nat) (X : List UInt8) : Prop := w.heap[g]? = some (.cells (bV X).toArray 5 (0, 0))

theorem Blk.cell {w : World} {g : Nat} {X : List UInt8} (h : Blk w g X) (j : Nat) (hj : j < X.length) : w.cell? ⟨g, j, none⟩ = some (.int .u8 ((X.getD j 0).toNat : Int)) := by
  rw [cell_of_row w g j _ 5 (0, 0) h]
  simp [bV, List.getD, List.getElem?_eq_getElem hj]
theorem Blk.free {w : World} {g : Nat} {X : List UInt8} (h : Blk w g X) (j : Nat) : w.frozen? ⟨g, j, none⟩ = false := by
  unfold Blk at h
  simp [World.frozen?, h]
theorem Blk.lt {w : World} {g : Nat} {X : List UInt8} (h : Blk w g X) : g < w.heap.size := by
  unfold Blk at h
  rcases Nat.lt_or_ge g w.heap.size with h1 | h1
  · exact h1
  · rw [Array.getElem?_eq_none h1] at h; cases h
theorem Blk.set {w : World} {g : Nat} {X : List UInt8} (h : Blk w g X) (j : Nat) (b : UInt8) : Blk (w.setCell ⟨g, j, none⟩ (.int .u8 (b.toNat : Int))) g (X.set j b) := by
  have hlt := h.lt
  unfold Blk at h ⊢
  have h1 : w.heap[g] = .cells (bV X).toArray 5 (0, 0) := by
    rw [Array.getElem?_eq_getElem hlt] at h
    exact Option.some.inj h
  have h2 : bV (X.set j b) = (bV X).set j (.int .u8 (b.toNat : Int)) := by simp [bV, List.map_set]
  rw [h2]
  simp [World.setCell, hlt]
  rw [Array.getElem_modify_self, h1]
  simp
theorem Blk.below {w w' : World} {B g : Nat} {X : List UInt8} (h : Blk w g X) (hb : Below B w w') (hg : g < B) : Blk w' g X := (hb.block g hg).trans h
theorem Blk.byts {w : World} {g : Nat} {X : List UInt8} (h : Blk w g X) (off n c : Nat) (hn : off + n ≤ X.length) (hc : n ≤ c) : Byts w (g + 1) (.slice (some ⟨g, off, none⟩) n c) ((X.drop off).take n) := by
  have e : ((X.drop off).take n).length = n := by simp; omega
  refine ⟨_, c, by rw [e], by rw [e]; exact hc, (fun h => by cases h), fun _ => ⟨g, off, rfl, by omega, fun j hj => ?_⟩⟩
  rw [e] at hj
  rw [h.cell (off + j) (by omega)]
  simp [List.getD, hj, List.getElem?_drop]

theorem zeros_cells (n : Nat) : madeCells (Value.int .u8 0).cells n = (bV (List.replicate n 0)).toArray := by
  apply Array.ext
  · simp [size_madeCells, bV]
  · intro j h1 h2
    have hz : (Value.int IntKind.u8 0).cells = #[Value.int .u8 0] := rfl
    simp [madeCells, bV, hz, Nat.mod_one]

/-- 'make([]byte, n)' -/
theorem make_byts (z : Int) (n : Nat) (hz : z = (n : Int)) (hn : n ≤ 1099511627800) (W : World) :
    (Instr.makeSlice 64 (.int .i64 z) (.int .i64 z)).run Tryd.prog W = .ok (.slice (some ⟨W.heap.size, 0, none⟩) n n) (W.alloc (.cells (bV (List.replicate n 0)).toArray 5)) := by
  obtain ⟨i0, hi, hz0, hz1, hz2⟩ := info_parts info5
  subst hz
  rw [run_make W 64 5 i0 (.int .u8 0) Tryd.underlying64 hi hz0 .i64 .i64 (n : Int) (n : Int) (by omega) (by omega) (by rw [hz2]; omega) (by omega), hz1]
  simp only [Int.toNat_natCast, Nat.mul_one, zeros_cells]
theorem Blk.made (W : World) (X : List UInt8) : Blk (W.alloc (.cells (bV X).toArray 5)) W.heap.size X := heap_alloc_new W _
end Go.Proofs.YtfgdlnidfkjbdaaDoor

namespace Go.Proofs.YtfgdlnidfkjbdaaDoor.Pm

abbrev B := List UInt8
/-- a byte of a segment -/
def okB (c : UInt8) : Bool := (97 ≤ c && c ≤ 122) || (48 ≤ c && c ≤ 57) || c == 95 || c == 46 || c == 45
/-- a segment -/
def seg (s : B) : Bool := decide (1 ≤ s.length) && decide (s.length ≤ 32) && !decide (s = [46]) && !decide (s = [46, 46]) && s.all okB
/-- the pieces between a text's slashes -/
def cut : B → List B
  | [] => [[]]
  | c :: r => if c = 47 then [] :: cut r else match cut r with
    | [] => [[c]]
    | p :: ps => (c :: p) :: ps
/-- pieces, a slash between two -/
def join : List B → B
  | [] => []
  | [a] => a
  | a :: b :: r => a ++ 47 :: join (b :: r)
/-- a path -/
def isP (s : B) : Bool := decide (s.length ≤ 60) && (cut s).all seg
/-- what is kept, behind one piece more; none: refused -/
def step (k : Option (List B)) (p : B) : Option (List B) :=
  match k with
  | none => none
  | some k => if p = [] ∨ p = [46] then some k else if p = [46, 46] then (if k = [] then none else some k.dropLast) else if seg p = true then some (k ++ [p]) else none
/-- what is kept of the pieces -/
def kept (l : List B) : Option (List B) := l.foldl step (some [])
/-- what comes of what is kept -/
def told : Option (List B) → B × Nat
  | none => ([], 2)
  | some [] => ([], 2)
  | some (a :: r) => if 60 < (join (a :: r)).length then ([], 3) else (join (a :: r), 0)
def norm (s : B) : B × Nat := told (kept (cut s))

theorem cut_ne (s : B) : cut s ≠ [] := by
  cases s with
  | nil => simp [cut]
  | cons c r =>
    unfold cut
    split
    · simp
    · split <;> simp
theorem cut_slash (a b : B) : cut (a ++ 47 :: b) = cut a ++ cut b := by
  induction a with
  | nil => simp [cut]
  | cons c r ih =>
    rw [List.cons_append]
    by_cases hc : c = 47
    · simp [cut, hc, ih]
    · have e1 : cut (c :: (r ++ 47 :: b)) = match cut (r ++ 47 :: b) with | [] => [[c]] | p :: ps => (c :: p) :: ps := by rw [cut, if_neg hc]
      have e2 : cut (c :: r) = match cut r with | [] => [[c]] | p :: ps => (c :: p) :: ps := by rw [cut, if_neg hc]
      rw [e1, e2, ih]
      cases h : cut r with
      | nil => exact absurd h (cut_ne r)
      | cons p ps => rfl
theorem cut_plain (s : B) (h : (47 : UInt8) ∉ s) : cut s = [s] := by
  induction s with
  | nil => rfl
  | cons c r ih =>
    simp only [List.mem_cons, not_or] at h
    rw [cut, if_neg (fun e => h.1 e.symm), ih h.2]
theorem join_cons (a : B) (l : List B) (h : l ≠ []) : join (a :: l) = a ++ 47 :: join l := by
  cases l with
  | nil => exact absurd rfl h
  | cons b r => rfl
/-- a piece has no slash -/
theorem cut_mem (s : B) : ∀ p ∈ cut s, (47 : UInt8) ∉ p := by
  induction s with
  | nil => simp [cut]
  | cons c r ih =>
    by_cases hc : c = 47
    · rw [cut, if_pos hc]
      intro p hp
      rcases List.mem_cons.1 hp with rfl | h
      · simp
      · exact ih p h
    · rw [cut, if_neg hc]
      cases h : cut r with
      | nil => exact absurd h (cut_ne r)
      | cons q qs =>
        rw [h] at ih
        intro p hp
        rcases List.mem_cons.1 hp with rfl | h'
        · simp only [List.mem_cons, not_or]
          exact ⟨fun e => hc e.symm, ih q (by simp)⟩
        · exact ih p (by simp [h'])
theorem join_cut (s : B) : join (cut s) = s := by
  induction s with
  | nil => rfl
  | cons c r ih =>
    by_cases hc : c = 47
    · rw [cut, if_pos hc, join_cons _ _ (cut_ne r), ih, hc]; rfl
    · rw [cut, if_neg hc]
      cases h : cut r with
      | nil => exact absurd h (cut_ne r)
      | cons q qs =>
        rw [h] at ih
        cases qs with
        | nil => simp only [join] at ih ⊢; rw [ih]
        | cons q2 q3 => simp only [join] at ih ⊢; rw [← ih]; rfl
theorem cut_join (l : List B) (hne : l ≠ []) (h : ∀ p ∈ l, (47 : UInt8) ∉ p) : cut (join l) = l := by
  induction l with
  | nil => exact absurd rfl hne
  | cons a r ih =>
    cases r with
    | nil => exact cut_plain a (h a (by simp))
    | cons b r =>
      rw [join_cons a (b :: r) (by simp), cut_slash, ih (by simp) (fun p hp => h p (by simp [hp])), cut_plain a (h a (by simp))]
      rfl

theorem seg_facts {s : B} (h : seg s = true) : s ≠ [] ∧ s ≠ [46] ∧ s ≠ [46, 46] ∧ (47 : UInt8) ∉ s := by
  simp only [seg, Bool.and_eq_true, decide_eq_true_eq, Bool.not_eq_true', decide_eq_false_iff_not, List.all_eq_true] at h
  obtain ⟨⟨⟨⟨h1, -⟩, h3⟩, h4⟩, h5⟩ := h
  refine ⟨?_, h3, h4, fun hm => ?_⟩
  · rintro rfl; simp at h1
  · have := h5 47 hm; exact absurd this (by decide)
theorem step_seg {p : B} (h : seg p = true) (k : List B) : step (some k) p = some (k ++ [p]) := by
  obtain ⟨h1, h2, h3, -⟩ := seg_facts h
  simp only [step]
  rw [if_neg (by simp [h1, h2]), if_neg h3, if_pos h]
theorem step_none (l : List B) : l.foldl step none = none := by
  induction l with
  | nil => rfl
  | cons a r ih => simpa [step] using ih
theorem fold_segs (l : List B) : ∀ k : List B, (∀ p ∈ l, seg p = true) → l.foldl step (some k) = some (k ++ l) := by
  induction l with
  | nil => intro k _; simp
  | cons a r ih =>
    intro k h
    rw [List.foldl_cons, step_seg (h a (by simp)), ih _ (fun p hp => h p (by simp [hp]))]
    simp
/-- what is kept are segments -/
theorem fold_kept (l : List B) : ∀ k k' : List B, (∀ p ∈ k, seg p = true) → l.foldl step (some k) = some k' → ∀ p ∈ k', seg p = true := by
  induction l with
  | nil => intro k k' h e; simp at e; subst e; exact h
  | cons a r ih =>
    intro k k' h e
    rw [List.foldl_cons] at e
    cases hs : step (some k) a with
    | none => rw [hs, step_none] at e; cases e
    | some k2 =>
      rw [hs] at e
      refine ih k2 k' ?_ e
      simp only [step] at hs
      split at hs
      · simp at hs; subst hs; exact h
      · split at hs
        · split at hs
          · cases hs
          · simp at hs; subst hs; exact fun p hp => h p (List.dropLast_subset k hp)
        · split at hs
          · rename_i hg
            simp at hs; subst hs
            intro p hp
            rcases List.mem_append.1 hp with h' | h'
            · exact h p h'
            · simp at h'; subst h'; exact hg
          · cases hs

theorem told_zero {o : Option (List B)} {p : B} (h : told o = (p, 0)) : ∃ a r, o = some (a :: r) ∧ p = join (a :: r) ∧ p.length ≤ 60 := by
  match o with
  | none => simp [told] at h
  | some [] => simp [told] at h
  | some (a :: r) =>
    simp only [told] at h
    split at h
    · simp at h
    · simp only [Prod.mk.injEq, and_true] at h
      subst h
      exact ⟨a, r, rfl, rfl, by omega⟩
theorem told_no {o : Option (List B)} {p : B} {e : Nat} (h : told o = (p, e)) (he : e ≠ 0) : p = [] ∧ (e = 2 ∨ e = 3) := by
  match o with
  | none => simp [told] at h; exact ⟨h.1, .inl h.2.symm⟩
  | some [] => simp [told] at h; exact ⟨h.1, .inl h.2.symm⟩
  | some (a :: r) =>
    simp only [told] at h
    split at h
    · simp at h; exact ⟨h.1, .inr h.2.symm⟩
    · simp at h; exact absurd h.2.symm he
/-- P9.5: what Norm answers is a path, and of a path it answers the path -/
theorem norm_path {s p : B} (h : norm s = (p, 0)) : isP p = true ∧ norm p = (p, 0) := by
  obtain ⟨a, r, h1, rfl, h3⟩ := told_zero h
  have hs := fold_kept (cut s) [] (a :: r) (by simp) h1
  have hc := cut_join (a :: r) (by simp) (fun p hp => (seg_facts (hs p hp)).2.2.2)
  refine ⟨by simp only [isP, hc, Bool.and_eq_true, decide_eq_true_eq, List.all_eq_true]; exact ⟨h3, hs⟩, ?_⟩
  unfold norm kept
  rw [hc, fold_segs _ _ hs]
  simp only [List.nil_append, told]
  rw [if_neg (by omega)]
theorem isP_parts {s : B} (h : isP s = true) : s.length ≤ 60 ∧ ∀ p ∈ cut s, seg p = true := by
  simpa [isP, Bool.and_eq_true, List.all_eq_true] using h
theorem norm_of_path {s : B} (h : isP s = true) : norm s = (s, 0) := by
  obtain ⟨h1, h2⟩ := isP_parts h
  unfold norm kept
  rw [fold_segs _ _ h2, List.nil_append]
  cases hc : cut s with
  | nil => exact absurd hc (cut_ne s)
  | cons a r =>
    simp only [told]
    rw [← hc, join_cut, if_neg (by omega)]
/-- P9.6: two paths, one behind the other -/
theorem norm_two {p q : B} (hp : isP p = true) (hq : isP q = true) : norm (p ++ 47 :: q) = if 60 < (p ++ 47 :: q).length then ([], 3) else (p ++ 47 :: q, 0) := by
  obtain ⟨-, h2⟩ := isP_parts hp
  obtain ⟨-, h4⟩ := isP_parts hq
  unfold norm kept
  rw [cut_slash, fold_segs _ _ (fun x hx => (List.mem_append.1 hx).elim (h2 x) (h4 x)), List.nil_append]
  have hj : join (cut p ++ cut q) = p ++ 47 :: q := by rw [← cut_slash, join_cut]
  cases hc : cut p ++ cut q with
  | nil => exact absurd (List.append_eq_nil_iff.1 hc).1 (cut_ne p)
  | cons a r => simp only [told]; rw [← hc, hj]
/-- P9.5: detours change nothing -/
theorem fold_detour (l1 l2 d : List B) (hd : ∀ k : List B, d.foldl step (some k) = some k) : (l1 ++ d ++ l2).foldl step (some []) = (l1 ++ l2).foldl step (some []) := by
  rw [List.foldl_append, List.foldl_append, List.foldl_append]
  cases h : l1.foldl step (some []) with
  | none => rw [step_none]
  | some k => rw [hd]
theorem way_none : ∀ k : List B, [([] : B)].foldl step (some k) = some k := fun k => by simp [step]
theorem way_dot : ∀ k : List B, [([46] : B)].foldl step (some k) = some k := fun k => by simp [step]
theorem way_seg {s : B} (h : seg s = true) : ∀ k : List B, [s, [46, 46]].foldl step (some k) = some k := fun k => by
  rw [List.foldl_cons, step_seg h]
  simp [step]
/-- behind a slash, or at the beginning: what is put in there -/
theorem norm_detour (a b more : B) (d : List B) (ha : a = [] ∨ ∃ a', a = a' ++ [47]) (hm : ∃ m, more = m ++ [47] ∧ cut m = d) (hd : ∀ k : List B, d.foldl step (some k) = some k) : norm (a ++ more ++ b) = norm (a ++ b) := by
  obtain ⟨m, rfl, hc⟩ := hm
  unfold norm kept
  rcases ha with rfl | ⟨a', rfl⟩
  · rw [List.nil_append, List.nil_append, List.append_assoc, List.singleton_append, cut_slash, hc]
    have := fold_detour [] (cut b) d hd
    rw [List.nil_append, List.nil_append] at this
    rw [this]
  · have e1 : a' ++ [47] ++ (m ++ [47]) ++ b = a' ++ 47 :: (m ++ 47 :: b) := by simp
    have e2 : a' ++ [47] ++ b = a' ++ 47 :: b := by simp
    rw [e1, e2, cut_slash, cut_slash, cut_slash, hc, ← List.append_assoc, fold_detour _ _ d hd]

end Go.Proofs.YtfgdlnidfkjbdaaDoor.Pm

namespace Go.Proofs.YtfgdlnidfkjbdaaDoor.Pm

def parent (p : B) : B × Bool := if isP p = true ∧ 2 ≤ (cut p).length then (join (cut p).dropLast, true) else ([], false)
def base (p : B) : B := if isP p = true then (cut p).getLastD [] else []
theorem seg_len {s : B} (h : seg s = true) : s.length ≤ 32 := by
  simp only [seg, Bool.and_eq_true, decide_eq_true_eq] at h
  exact h.1.1.1.2
theorem join_append (l : List B) (hl : l ≠ []) (a : B) : join (l ++ [a]) = join l ++ 47 :: a := by
  induction l with
  | nil => exact absurd rfl hl
  | cons b r ih =>
    cases r with
    | nil => rfl
    | cons c r =>
      rw [List.cons_append, join_cons b _ (by simp), ih (by simp), join_cons b (c :: r) (by simp)]
      simp
theorem cut_last (p : B) : (cut p).dropLast ++ [(cut p).getLastD []] = cut p := by
  have h := cut_ne p
  rw [List.getLastD_eq_getLast?, List.getLast?_eq_some_getLast h]
  exact List.dropLast_concat_getLast h
/-- P9.6: parent, slash, base -/
theorem parent_base {p q : B} (h : parent p = (q, true)) : isP p = true ∧ isP q = true ∧ q ++ 47 :: base p = p := by
  unfold parent at h
  split at h
  · rename_i hp
    simp only [Prod.mk.injEq, and_true] at h
    obtain ⟨hp1, hp2⟩ := hp
    have hne : (cut p).dropLast ≠ [] := by
      intro e
      have := congrArg List.length e
      rw [List.length_dropLast] at this
      simp at this
      omega
    have hb : q ++ 47 :: base p = p := by
      rw [← h, base, if_pos hp1, ← join_append _ hne, cut_last, join_cut]
    obtain ⟨h60, hs⟩ := isP_parts hp1
    have hds : ∀ x ∈ (cut p).dropLast, seg x = true := fun x hx => hs x (List.dropLast_subset _ hx)
    refine ⟨hp1, ?_, hb⟩
    have hc := cut_join _ hne (fun x hx => (seg_facts (hds x hx)).2.2.2)
    rw [h] at hc
    simp only [isP, hc, Bool.and_eq_true, decide_eq_true_eq, List.all_eq_true]
    refine ⟨?_, hds⟩
    have := congrArg List.length hb
    simp only [List.length_append, List.length_cons] at this
    omega
  · simp at h
theorem parent_none {p q : B} (hp : isP p = true) (h : parent p = (q, false)) : q = [] ∧ cut p = [p] ∧ base p = p := by
  unfold parent at h
  split at h
  · simp at h
  · rename_i hn
    simp only [Prod.mk.injEq, and_true] at h
    have hl : (cut p).length ≤ 1 := by
      rcases Nat.lt_or_ge (cut p).length 2 with h' | h'
      · omega
      · exact absurd ⟨hp, h'⟩ hn
    have hc : cut p = [p] := by
      cases he : cut p with
      | nil => exact absurd he (cut_ne p)
      | cons a r =>
        rw [he] at hl
        have : r = [] := List.eq_nil_of_length_eq_zero (by simp only [List.length_cons] at hl; omega)
        subst this
        have hj := join_cut p
        rw [he] at hj
        simp only [join] at hj
        rw [hj]
    exact ⟨h.symm, hc, by rw [base, if_pos hp, hc]; rfl⟩
/-- P9.5, P9.6: a path, and .. behind it -/
theorem norm_up {p : B} (hp : isP p = true) : norm (p ++ [47, 46, 46]) = if (parent p).2 = true then ((parent p).1, 0) else ([], 2) := by
  obtain ⟨h60, hs⟩ := isP_parts hp
  have e : cut (p ++ 47 :: [46, 46]) = cut p ++ [[46, 46]] := by rw [cut_slash]; rfl
  unfold norm kept
  rw [e, List.foldl_append, fold_segs _ _ hs, List.nil_append]
  simp only [List.foldl_cons, List.foldl_nil, step]
  rw [if_neg (by simp), if_pos trivial, if_neg (cut_ne p)]
  cases hq : parent p with
  | mk q b =>
    cases b with
    | true =>
      obtain ⟨-, hq1, -⟩ := parent_base hq
      have h2 : parent p = (q, true) := hq
      unfold parent at h2
      split at h2
      · simp only [Prod.mk.injEq, and_true] at h2
        rename_i hc
        cases hd : (cut p).dropLast with
        | nil =>
          have := congrArg List.length hd
          rw [List.length_dropLast] at this
          simp at this
          omega
        | cons a r =>
          simp only [told]
          rw [← hd, h2, if_neg (by have := (isP_parts hq1).1; omega)]
          rfl
      · simp at h2
    | false =>
      obtain ⟨-, hc, -⟩ := parent_none hp hq
      rw [hc]
      rfl
theorem base_two {p q : B} (hq : isP q = true) (hn : isP (p ++ 47 :: q) = true) : base (p ++ 47 :: q) = base q := by
  unfold base
  rw [if_pos hn, if_pos hq, cut_slash]
  have h := cut_ne q
  rw [List.getLastD_eq_getLast?, List.getLastD_eq_getLast?, List.getLast?_append]
  rw [List.getLast?_eq_some_getLast h]
  rfl

/-- a pattern filled with a stem -/
def fill (p stem : B) : B := p.flatMap fun c => if c = 37 then stem else [c]
/-- how often the mark stands in a text -/
def marks (p : B) : Nat := p.countP (· == 37)
/-- P9.3 -/
def matchP (p s : B) : B × Bool :=
  if marks p = 0 then ([], decide (p = s))
  else if marks p = 1 ∧ p.length ≤ s.length ∧ (p.takeWhile (· != 37)).isPrefixOf s = true ∧ ((p.dropWhile (· != 37)).drop 1).isSuffixOf s = true then ((s.drop (p.takeWhile (· != 37)).length).take (s.length - (p.length - 1)), true) else ([], false)
theorem fill_plain (p stem : B) (h : (37 : UInt8) ∉ p) : fill p stem = p := by
  induction p with
  | nil => rfl
  | cons c r ih =>
    simp only [List.mem_cons, not_or] at h
    simp only [fill, List.flatMap_cons, if_neg (fun e : c = 37 => h.1 e.symm)]
    rw [show List.flatMap (fun c => if c = 37 then stem else [c]) r = r from ih h.2]
    rfl
theorem fill_one (a b stem : B) (ha : (37 : UInt8) ∉ a) (hb : (37 : UInt8) ∉ b) : fill (a ++ 37 :: b) stem = a ++ stem ++ b := by
  have e1 := fill_plain a stem ha
  have e2 := fill_plain b stem hb
  unfold fill at e1 e2 ⊢
  rw [List.flatMap_append, List.flatMap_cons, e1, e2, if_pos rfl, List.append_assoc]
theorem marks_one (a b : B) (ha : (37 : UInt8) ∉ a) (hb : (37 : UInt8) ∉ b) : marks (a ++ 37 :: b) = 1 := by
  have e1 : a.countP (· == 37) = 0 := List.countP_eq_zero.2 fun x hx => by simp; rintro rfl; exact ha hx
  have e2 : b.countP (· == 37) = 0 := List.countP_eq_zero.2 fun x hx => by simp; rintro rfl; exact hb hx
  unfold marks
  rw [List.countP_append, List.countP_cons, e1, e2]
  rfl
theorem take_mark (a b : B) (ha : (37 : UInt8) ∉ a) : (a ++ 37 :: b).takeWhile (· != 37) = a ∧ ((a ++ 37 :: b).dropWhile (· != 37)).drop 1 = b := by
  induction a with
  | nil => simp
  | cons c r ih =>
    simp only [List.mem_cons, not_or] at ha
    have hc : (c != 37) = true := by simp; exact fun e => ha.1 e.symm
    obtain ⟨h1, h2⟩ := ih ha.2
    simp only [List.cons_append, List.takeWhile_cons, List.dropWhile_cons, hc, if_true]
    exact ⟨by rw [h1], h2⟩
/-- what Match says of a pattern with one mark -/
theorem match_one (a b s : B) (ha : (37 : UInt8) ∉ a) (hb : (37 : UInt8) ∉ b) :
    (∃ st, st ≠ [] ∧ s = a ++ st ++ b ∧ matchP (a ++ 37 :: b) s = (st, true)) ∨ ((∀ st, st ≠ [] → s ≠ a ++ st ++ b) ∧ matchP (a ++ 37 :: b) s = ([], false)) := by
  obtain ⟨e1, e2⟩ := take_mark a b ha
  have e3 := marks_one a b ha hb
  unfold matchP
  rw [e1, e2, e3]
  simp only [Nat.one_ne_zero, if_false, true_and]
  by_cases h : ∃ st, st ≠ [] ∧ s = a ++ st ++ b
  · obtain ⟨st, hst, rfl⟩ := h
    left
    refine ⟨st, hst, rfl, ?_⟩
    have hl : 1 ≤ st.length := by cases st with | nil => exact absurd rfl hst | cons => simp
    rw [if_pos ⟨by simp; omega, by rw [List.append_assoc]; simp, by rw [List.isSuffixOf_iff_suffix]; exact ⟨a ++ st, rfl⟩⟩]
    simp only [Prod.mk.injEq, and_true, List.append_assoc, List.drop_left, List.length_append, List.length_cons]
    rw [show a.length + (st.length + b.length) - (a.length + (b.length + 1) - 1) = st.length by omega, List.take_left]
  · right
    refine ⟨fun st h1 h2 => h ⟨st, h1, h2⟩, ?_⟩
    rw [if_neg]
    rintro ⟨h1, h2, h3⟩
    rw [List.isPrefixOf_iff_prefix] at h2
    rw [List.isSuffixOf_iff_suffix] at h3
    obtain ⟨t, rfl⟩ := h2
    obtain ⟨u, hu⟩ := h3
    simp only [List.length_append, List.length_cons] at h1
    have hlu := congrArg List.length hu
    simp only [List.length_append] at hlu
    have hua : a.length ≤ u.length := by omega
    have h4 : u.take a.length = a := by
      have := congrArg (List.take a.length) hu
      rw [List.take_append_of_le_length hua, List.take_left] at this
      exact this
    refine h ⟨u.drop a.length, ?_, ?_⟩
    · intro e
      have := congrArg List.length e
      rw [List.length_drop] at this
      simp at this
      omega
    · rw [← hu]
      conv => lhs; rw [← List.take_append_drop a.length u, h4]

end Go.Proofs.YtfgdlnidfkjbdaaDoor.Pm

namespace Go.Proofs.YtfgdlnidfkjbdaaDoor
open Go.RowKit

/-- a text's bytes -/
abbrev bs (s : ByteArray) : List UInt8 := s.data.toList
theorem bs_length (s : ByteArray) : (bs s).length = s.size := by rw [Array.length_toList]; rfl

theorem okB_iff (c : UInt8) : Pm.okB c = decide ((97 ≤ c.toNat ∧ c.toNat ≤ 122) ∨ (48 ≤ c.toNat ∧ c.toNat ≤ 57) ∨ c.toNat = 95 ∨ c.toNat = 46 ∨ c.toNat = 45) := by
  have h : ∀ n : Fin 256, Pm.okB (UInt8.ofNat n.1) = decide ((97 ≤ n.1 ∧ n.1 ≤ 122) ∨ (48 ≤ n.1 ∧ n.1 ≤ 57) ∨ n.1 = 95 ∨ n.1 = 46 ∨ n.1 = 45) := by decide +kernel
  have := h ⟨c.toNat, c.toNat_lt⟩
  simpa using this
theorem seg_no {s : List UInt8} (h : s.length < 1 ∨ 32 < s.length ∨ s = [46] ∨ s = [46, 46]) : Pm.seg s = false := by
  unfold Pm.seg
  rcases h with h | h | rfl | rfl
  · rw [show decide (1 ≤ s.length) = false from decide_eq_false (by omega)]; rfl
  · rw [show decide (s.length ≤ 32) = false from decide_eq_false (by omega)]; simp
  · rfl
  · rfl
theorem seg_all {s : List UInt8} (h1 : ¬ s.length < 1) (h2 : ¬ 32 < s.length) (h3 : s ≠ [46]) (h4 : s ≠ [46, 46]) : Pm.seg s = s.all Pm.okB := by
  unfold Pm.seg
  rw [show decide (1 ≤ s.length) = true from decide_eq_true (by omega), show decide (s.length ≤ 32) = true from decide_eq_true (by omega), show decide (s = [46]) = false from decide_eq_false h3, show decide (s = [46, 46]) = false from decide_eq_false h4]
  rfl
theorem bs_extract (s : ByteArray) (a b : Nat) : bs (s.extract a b) = ((bs s).drop a).take (b - a) := by
  simp [bs, ByteArray.data_extract, Array.toList_extract, List.extract_eq_take_drop]
theorem bs_inj {s t : ByteArray} (h : bs s = bs t) : s = t := ByteArray.ext (Array.toList_inj.1 h)
/-- a text's size -/
def szOf : Value → Nat
  | .string s => s.size
  | _ => 0
theorem bs_bV (s : ByteArray) : Lib.strCells s = bV (bs s) := rfl
/-- 'append(out, x...)' on a row of the call's own, x a text -/
theorem wpList_append_text {ops : Array Oper} {rest : List Oper} {o : Oper} {a : Act} {Q : Exit → Act → World → Prop} {w : World} (hgd : o.guard = none) (s x : Operand)
    (ho : o.op = .call { callee := .builtin .append, args := #[s, x], argTypes := #[64, 9] }) (base : Nat) (v : Value) (l : List UInt8) (t : ByteArray)
    (hs : a.eval s = v) (hown : Own w base v l) (hx : a.eval x = .string t) (hlen : Hid (l.length + t.size ≤ 1099511627800)) (hbase : base ≤ w.heap.size)
    (h : ∀ v' w', Own w' base v' (l ++ bs t) → Below base w w' → wpList Tryd.prog ops Q rest (a.put o.dst v') w') :
    wpList Tryd.prog ops Q (o :: rest) a w := by
  obtain ⟨i0, hi, hz0, hz1, hz2⟩ := info_parts info5
  have hl := hlen.out
  refine Lib.wpList_append_own_string _ hgd s x 64 9 ho base 5 i0 Tryd.underlying64 Tryd.underlying9 hi hz0 hz1 hz2 v _ _ hs hown t hx ?_ ?_ hbase ?_
  · unfold maxLen; omega
  · omega
  · intro v' w' h1 h2 _
    refine h v' w' ?_ ((Below.refl base w).grown h2 hbase fun k hk => (World.ownsRow.lt hown k hk).1)
    unfold Own
    rw [bV_append, List.length_append, bs_length]
    exact h1
theorem beq_lit (x n : UInt8) : ((x.toNat : Int) == (n.toNat : Int)) = decide (x = n) := by
  by_cases h : x = n
  · subst h; simp
  · rw [decide_eq_false h, beq_eq_false_iff_ne]
    intro e
    exact h (UInt8.toNat_inj.1 (by omega))

end Go.Proofs.YtfgdlnidfkjbdaaDoor

namespace Go.Proofs.YtfgdlnidfkjbdaaDoor
open Go.RowKit

/-- how things lie in a row: the element's type, the slice's type, an element's cells -/
structure Rc (α : Type) where
  e : TypeId
  st : TypeId
  k : Nat
  bytes : Nat
  z : Value
  enc : α → List Value
  pos : 0 < k
  len : ∀ x, (enc x).length = k
  one : ∀ x, ∀ u ∈ enc x, u.oneCell' = true
  info : (Tryd.prog.info? e).map (fun i => (i.zero, i.size, i.bytes)) = some (some z, k, bytes)
  under : Tryd.prog.underlying st = some (.slice e)
  zk : z.cells.size = k
  small : bytes ≤ 1024

theorem addr_at (b o m : Nat) : (⟨b, o, none⟩ : Addr).add m = ⟨b, o + m, none⟩ := by unfold Addr.add; split <;> simp_all

namespace Rc
variable {α : Type} (R : Rc α)

/-- the cells of a row -/
def vals (l : List α) : List Value := l.flatMap R.enc
theorem vals_nil : R.vals [] = [] := rfl
theorem vals_append (a b : List α) : R.vals (a ++ b) = R.vals a ++ R.vals b := by simp [vals]
theorem vals_length (l : List α) : (R.vals l).length = l.length * R.k := by
  induction l with
  | nil => simp [vals]
  | cons x r ih =>
    show (R.enc x ++ R.vals r).length = _
    rw [List.length_append, ih, R.len, List.length_cons, Nat.add_mul]
    omega
theorem vals_one (l : List α) : ∀ u ∈ R.vals l, u.oneCell' = true := by
  intro u hu
  simp only [vals, List.mem_flatMap] at hu
  obtain ⟨x, _, hx⟩ := hu
  exact R.one x u hx
theorem vals_take (l : List α) (m : Nat) : R.vals (l.take m) = (R.vals l).take (m * R.k) := by
  induction l generalizing m with
  | nil => simp [vals]
  | cons x r ih =>
    cases m with
    | zero => simp [vals]
    | succ m =>
      show R.enc x ++ R.vals (r.take m) = (R.enc x ++ R.vals r).take _
      rw [ih, List.take_append, R.len, Nat.add_mul, Nat.one_mul, List.take_of_length_le (l := R.enc x) (by rw [R.len]; omega), Nat.add_sub_cancel]
theorem vals_drop (l : List α) (m : Nat) : R.vals (l.drop m) = (R.vals l).drop (m * R.k) := by
  induction l generalizing m with
  | nil => simp [vals]
  | cons x r ih =>
    cases m with
    | zero => simp
    | succ m =>
      show R.vals (r.drop m) = (R.enc x ++ R.vals r).drop _
      rw [ih, List.drop_append, R.len, Nat.add_mul, Nat.one_mul, List.drop_of_length_le (l := R.enc x) (by rw [R.len]; omega), List.nil_append, Nat.add_sub_cancel]
theorem vals_get (l : List α) (j f : Nat) (hj : j < l.length) (hf : f < R.k) : (R.vals l)[j * R.k + f]? = (R.enc l[j])[f]? := by
  have h1 : R.vals (l.drop j) = R.enc l[j] ++ R.vals (l.drop (j + 1)) := by
    rw [List.drop_eq_getElem_cons hj]; rfl
  rw [← List.getElem?_drop, ← R.vals_drop, h1, List.getElem?_append_left (by rw [R.len]; exact hf)]

/-- v is a slice whose elements, in w, are l; they lie below block B -/
def Sl (w : World) (B : Nat) (v : Value) (l : List α) : Prop :=
  ∃ ad c, v = .slice ad l.length c ∧ l.length ≤ c ∧ (ad = none → c = 0) ∧ (l ≠ [] → ∃ b o, ad = some ⟨b, o, none⟩ ∧ b < B ∧ ∀ j u, (R.vals l)[j]? = some u → w.cell? ⟨b, o + j, none⟩ = some u)
/-- w's row v, among the blocks from base on, holds just l -/
def Own (w : World) (base : Nat) (v : Value) (l : List α) : Prop := w.ownsRow base R.e R.k v l.length (R.vals l)

variable {R}
theorem Sl.below {w w' : World} {B B' : Nat} {v : Value} {l : List α} (h : R.Sl w B v l) (hb : Below B' w w') (hB : B ≤ B') : R.Sl w' B v l := by
  obtain ⟨ad, c, hv, hle, hn, h⟩ := h
  refine ⟨ad, c, hv, hle, hn, fun hne => ?_⟩
  obtain ⟨b, o, ha, hlt, hc⟩ := h hne
  exact ⟨b, o, ha, hlt, fun j u hu => (hb.cell (p := ⟨b, o + j, none⟩) (Nat.lt_of_lt_of_le hlt hB)).trans (hc j u hu)⟩
theorem Sl.mono {w : World} {B B' : Nat} {v : Value} {l : List α} (h : R.Sl w B v l) (hB : B ≤ B') : R.Sl w B' v l := by
  obtain ⟨ad, c, hv, hle, hn, h⟩ := h
  refine ⟨ad, c, hv, hle, hn, fun hne => ?_⟩
  obtain ⟨b, o, ha, hlt, hc⟩ := h hne
  exact ⟨b, o, ha, Nat.lt_of_lt_of_le hlt hB, hc⟩
theorem Sl.alloc {w : World} {B : Nat} {v : Value} {l : List α} (h : R.Sl w B v l) (hB : B ≤ w.heap.size) (o : Obj) : R.Sl (w.alloc o) B v l := h.below ((Below.refl w.heap.size w).alloc (Nat.le_refl _) o) hB
theorem Sl.nil (w : World) (B : Nat) : R.Sl w B (.slice none 0 0) [] := ⟨none, 0, rfl, Nat.le_refl _, fun _ => rfl, fun h => absurd rfl h⟩
theorem Sl.shape {w : World} {B : Nat} {v : Value} {l : List α} (h : R.Sl w B v l) : ∃ ad c, v = .slice ad l.length c ∧ l.length ≤ c := by
  obtain ⟨ad, c, hv, hle, -⟩ := h
  exact ⟨ad, c, hv, hle⟩
/-- an element's cells -/
theorem Sl.cells {w : World} {B : Nat} {v : Value} {l : List α} (h : R.Sl w B v l) (j : Nat) (hj : j < l.length) :
    ∃ b o c, v = .slice (some ⟨b, o, none⟩) l.length c ∧ b < B ∧ ∀ f u, f < R.k → (R.enc l[j])[f]? = some u → w.cell? ⟨b, o + (j * R.k + f), none⟩ = some u := by
  obtain ⟨ad, c, rfl, hle, hn, h⟩ := h
  obtain ⟨b, o, rfl, hlt, hc⟩ := h (by rintro rfl; simp at hj)
  exact ⟨b, o, c, rfl, hlt, fun f u hf hu => hc _ u ((R.vals_get l j f hj hf).trans hu)⟩
theorem Sl.head {w : World} {B : Nat} {ad : Option Addr} {n c : Nat} {l : List α} (h : R.Sl w B (.slice ad n c) l) (m : Nat) (hm : m ≤ l.length) : R.Sl w B (.slice ad m c) (l.take m) := by
  obtain ⟨ad', c', hv, hle, hn0, h⟩ := h
  simp only [Value.slice.injEq] at hv
  obtain ⟨rfl, rfl, rfl⟩ := hv
  have e : (l.take m).length = m := by simp; omega
  refine ⟨ad, c, by rw [e], by omega, hn0, fun hne => ?_⟩
  have hl : l ≠ [] := by intro h0; subst h0; simp at hne
  obtain ⟨b, o, ha, hb, hcell⟩ := h hl
  refine ⟨b, o, ha, hb, fun j u hu => hcell j u ?_⟩
  rw [R.vals_take] at hu
  rw [List.getElem?_take] at hu
  split at hu
  · exact hu
  · cases hu
theorem elem_st (R : Rc α) : Tryd.prog.elem R.st = R.e := by simp [Program.elem, R.under]
theorem size_e (R : Rc α) (w : World) : (Go.sizeOf R.e).run Tryd.prog w = .ok R.k w := by
  obtain ⟨i0, hi, hz0, hz1, hz2⟩ := info_parts R.info
  simp [sizeOf, typeInfo, hi, hz1]
/-- 's[:m]' -/
theorem slice_head (R : Rc α) (W : World) (ad : Option Addr) (n c m : Nat) (hm : m ≤ c) :
    (Instr.slice R.st (.slice ad n c) none (some (.int .i64 (m : Int))) none).run Tryd.prog W = .ok (.slice ad m c) W := by
  rw [run_slice_h W R.st ad n c (by rw [R.elem_st]; exact R.under) .i64 (m : Int) (by omega) (by omega), R.elem_st, R.size_e]
  cases ad <;> simp [Result.andThen, sliced, Addr.add]
/-- 's[m:]' -/
theorem slice_tail {w : World} {B : Nat} {ad : Option Addr} {n c : Nat} {l : List α} (h : R.Sl w B (.slice ad n c) l) (m : Nat) (hm : m ≤ l.length) :
    ∃ A, (∀ W : World, (Instr.slice R.st (.slice ad n c) (some (.int .i64 (m : Int))) none none).run Tryd.prog W = .ok (.slice A (n - m) (c - m)) W) ∧ R.Sl w B (.slice A (n - m) (c - m)) (l.drop m) := by
  obtain ⟨ad', c', hv, hle, hn0, h⟩ := h
  simp only [Value.slice.injEq] at hv
  obtain ⟨rfl, rfl, rfl⟩ := hv
  refine ⟨if c = m then ad else ad.map (·.add (m * R.k)), fun W => ?_, if c = m then ad else ad.map (·.add (m * R.k)), c - m, by rw [List.length_drop], by rw [List.length_drop]; omega, fun h0 => ?_, fun hne => ?_⟩
  · rw [run_slice_l W R.st ad l.length c (by rw [R.elem_st]; exact R.under) .i64 (m : Int) (by omega) (by omega), R.elem_st, R.size_e]
    simp [Result.andThen, sliced]
  · by_cases hcm : c = m
    · omega
    · rw [if_neg hcm] at h0
      cases ad with
      | none => have := hn0 rfl; omega
      | some x => simp at h0
  · have hlm : m < l.length := by
      rcases Nat.lt_or_ge m l.length with h | h
      · exact h
      · exact absurd (List.drop_eq_nil_of_le h) hne
    obtain ⟨b, o, rfl, hb, hcell⟩ := h (by intro e; subst e; simp at hlm)
    rw [if_neg (by omega)]
    refine ⟨b, o + m * R.k, by simp [addr_at], hb, fun j u hu => ?_⟩
    rw [R.vals_drop, List.getElem?_drop] at hu
    rw [Nat.add_assoc]
    exact hcell _ u hu

theorem Own.nil (w : World) (base : Nat) : R.Own w base (.slice none 0 0) [] := by
  refine ⟨by simp [vals], .inl ⟨rfl, rfl⟩⟩
theorem Own.alloc {w : World} {base : Nat} {v : Value} {l : List α} (h : R.Own w base v l) (o : Obj) : R.Own (w.alloc o) base v l := World.ownsRow.alloc h o
theorem Own.below {w w' : World} {base B : Nat} {v : Value} {l : List α} (h : R.Own w base v l) (hb : Below B w w') (hB : w.heap.size ≤ B) : R.Own w' base v l :=
  World.ownsRow.kept h (row := none) ⟨hb.os, hb.tape, hb.output, hb.size, fun k hk _ => hb.block k (by omega)⟩ (by cases hv : v.ownBlock <;> simp)
theorem Own.low {w : World} {B B' : Nat} {v : Value} {l : List α} (h : R.Own w B v l) (hB : B' ≤ B) : R.Own w B' v l := by
  refine ⟨h.1, ?_⟩
  rcases h.2 with h | ⟨g, cap, cur, rfl, h2, h3⟩
  · exact .inl h
  · exact .inr ⟨g, cap, cur, rfl, Nat.le_trans hB h2, h3⟩
theorem Own.sl {w : World} {base : Nat} {v : Value} {l : List α} (h : R.Own w base v l) : R.Sl w w.heap.size v l := by
  have hlt := World.ownsRow.lt h
  have hcs := fun g hg => World.ownsRow.cells (g := g) h hg
  rcases h.2 with ⟨rfl, h0⟩ | ⟨g, cap, cur, rfl, _, _, hle, _⟩
  · refine ⟨none, 0, by rw [h0], by omega, fun _ => rfl, fun hne => ?_⟩
    exact absurd (List.eq_nil_of_length_eq_zero h0) hne
  · refine ⟨_, _, rfl, hle, (fun h => by cases h), fun _ => ⟨g, 0, rfl, (hlt g rfl).2, fun j u hu => ?_⟩⟩
    have := hcs g rfl j u hu
    rwa [addr_at] at this
theorem Own.isSl {w : World} {base : Nat} {v : Value} {l : List α} (h : R.Own w base v l) : ∃ ad n c, v = .slice ad n c := by
  obtain ⟨ad, c, rfl, -⟩ := h.sl
  exact ⟨ad, _, c, rfl⟩
theorem Own.lt {w : World} {base : Nat} {v : Value} {l : List α} (h : R.Own w base v l) : ∀ g, v.ownBlock = some g → base ≤ g ∧ g < w.heap.size := World.ownsRow.lt h

/-- 'append(out, m...)' on a row of the call's own, m whatever -/
theorem append {ops : Array Oper} {rest : List Oper} {o : Oper} {a : Act} {Q : Exit → Act → World → Prop} {w : World} (R : Rc α) (hgd : o.guard = none) (s x : Operand)
    (ho : o.op = .call { callee := .builtin .append, args := #[s, x], argTypes := #[R.st, R.st] }) (base B : Nat) (v vx : Value) (l m : List α)
    (hs : a.eval s = v) (hown : R.Own w base v l) (hx : a.eval x = vx) (hb : R.Sl w B vx m) (hlen : Hid (l.length + m.length ≤ 1099511627)) (hbase : base ≤ w.heap.size)
    (h : ∀ v' w', R.Own w' base v' (l ++ m) → w.grownBy w' v.ownBlock → wpList Tryd.prog ops Q rest (a.put o.dst v') w') :
    wpList Tryd.prog ops Q (o :: rest) a w := by
  obtain ⟨i0, hi, hz0, hz1, hz2⟩ := info_parts R.info
  have hl := hlen.out
  obtain ⟨ad, c, rfl, hle, hn, hcells⟩ := hb
  cases ad with
  | none =>
    have hc0 := hn rfl
    subst hc0
    have hm : m = [] := List.eq_nil_of_length_eq_zero (by omega)
    subst hm
    refine wpList_append_own_none hgd s x R.st ho base R.e i0 R.k R.under hi v l.length (R.vals l) hs hown hx ?_
    refine h v w ?_ ⟨rfl, rfl, rfl, Nat.le_refl _, fun _ _ _ => rfl⟩
    rw [List.append_nil]; exact hown
  | some ad =>
    refine wpList_append_own _ hgd s x R.st ho base R.e i0 _ R.k R.bytes R.under hi hz0 hz1 hz2 R.zk R.pos v l.length (R.vals l) hs hown ad m.length c (R.vals m) hx (R.vals_length m) ?_ (R.vals_one m) ?_ ?_ hbase ?_
    · by_cases hne : m = []
      · subst hne; intro j u hu; simp [vals] at hu
      · obtain ⟨b, o', e, _, hcell⟩ := hcells hne
        simp only [Option.some.injEq] at e
        subst e
        intro j u hu
        rw [addr_at]
        exact hcell j u hu
    · unfold maxLen; omega
    · have := R.small
      have h1 : (l.length + m.length) * R.bytes ≤ 1099511627 * 1024 := Nat.mul_le_mul hl this
      omega
    · intro v' w' h1 h2 _
      refine h v' w' ?_ h2
      unfold Own; rw [R.vals_append, List.length_append]; exact h1

/-- 'append(out, m...)', m not empty, and where the row then lies -/
theorem append_at {ops : Array Oper} {rest : List Oper} {o : Oper} {a : Act} {Q : Exit → Act → World → Prop} {w : World} (R : Rc α) (hgd : o.guard = none) (s x : Operand)
    (ho : o.op = .call { callee := .builtin .append, args := #[s, x], argTypes := #[R.st, R.st] }) (base B : Nat) (v vx : Value) (l m : List α)
    (hs : a.eval s = v) (hown : R.Own w base v l) (hx : a.eval x = vx) (hb : R.Sl w B vx m) (hm : m ≠ []) (hlen : Hid (l.length + m.length ≤ 1099511627)) (hbase : base ≤ w.heap.size)
    (h : ∀ g cap w', R.Own w' base (.slice (some ⟨g, 0, none⟩) (l.length + m.length) cap) (l ++ m) → w.grownBy w' v.ownBlock → (v.ownBlock = some g ∨ g = w.heap.size) → g < w'.heap.size → wpList Tryd.prog ops Q rest (a.put o.dst (.slice (some ⟨g, 0, none⟩) (l.length + m.length) cap)) w') :
    wpList Tryd.prog ops Q (o :: rest) a w := by
  obtain ⟨i0, hi, hz0, hz1, hz2⟩ := info_parts R.info
  have hl := hlen.out
  obtain ⟨ad, c, rfl, hle, hn, hcells⟩ := hb
  obtain ⟨b, o', rfl, _, hcell⟩ := hcells hm
  have hm1 : 0 < m.length := List.length_pos_iff.2 hm
  refine wpList_append_lies _ hgd s x R.st ho base R.e i0 _ R.k R.bytes R.under hi hz0 hz1 hz2 R.zk R.pos v l.length (R.vals l) hs hown ⟨b, o', none⟩ m.length c (R.vals m) hx (R.vals_length m) ?_ (R.vals_one m) hm1 ?_ ?_ hbase w.heap.size rfl ?_
  · intro j u hu
    rw [addr_at]
    exact hcell j u hu
  · unfold maxLen; omega
  · have h1 : (l.length + m.length) * R.bytes ≤ 1099511627 * 1024 := Nat.mul_le_mul hl R.small
    omega
  · intro g cap w' h1 h2 h3 h4
    refine h g cap w' ?_ h2 h3 h4
    unfold Own; rw [R.vals_append, List.length_append]; exact h1

/-- a row of one, laid at once -/
theorem lit (w : World) (x : α) (cs : Array Value) (hcs : cs.toList = R.enc x) : R.Sl (w.alloc (.cells cs R.e)) (w.heap.size + 1) (.slice (some ⟨w.heap.size, 0, none⟩) 1 1) [x] := by
  refine ⟨_, 1, rfl, Nat.le_refl _, (fun h => by cases h), fun _ => ⟨w.heap.size, 0, rfl, Nat.lt_succ_self _, fun j u hu => ?_⟩⟩
  have hv : R.vals [x] = cs.toList := by simp [vals, hcs]
  rw [hv] at hu
  rw [Nat.zero_add]
  rw [cell_of_row (w.alloc (.cells cs R.e)) w.heap.size j cs R.e (0, 0) (heap_alloc_new w _)]
  rw [← Array.getElem?_toList]; exact hu

end Rc
end Go.Proofs.YtfgdlnidfkjbdaaDoor

namespace Go.Proofs.YtfgdlnidfkjbdaaDoor
open Go.RowKit

/-- w' is w, but for the blocks of S and what is new -/
structure Turn (S : List Nat) (w w' : World) : Prop where
  os : w'.os = w.os
  tape : w'.tape = w.tape
  output : w'.output = w.output
  size : w.heap.size ≤ w'.heap.size
  block : ∀ k, k < w.heap.size → k ∉ S → w'.heap[k]? = w.heap[k]?

theorem Turn.refl (S : List Nat) (w : World) : Turn S w w := ⟨rfl, rfl, rfl, Nat.le_refl _, fun _ _ _ => rfl⟩
theorem Turn.trans {S S' : List Nat} {a b c : World} (h : Turn S a b) (k : Turn S' b c) (hs : ∀ x, x ∈ S' → x < a.heap.size → x ∈ S) : Turn S a c :=
  ⟨k.os.trans h.os, k.tape.trans h.tape, k.output.trans h.output, Nat.le_trans h.size k.size, fun i hi hn => (k.block i (Nat.lt_of_lt_of_le hi h.size) (fun hx => hn (hs i hx hi))).trans (h.block i hi hn)⟩
theorem Turn.mono {S S' : List Nat} {a b : World} (h : Turn S a b) (hs : ∀ x, x ∈ S → x < a.heap.size → x ∈ S') : Turn S' a b :=
  ⟨h.os, h.tape, h.output, h.size, fun i hi hn => h.block i hi (fun hx => hn (hs i hx hi))⟩
theorem Turn.of_below {a b : World} (h : Below a.heap.size a b) : Turn [] a b := ⟨h.os, h.tape, h.output, h.size, fun i hi _ => h.block i hi⟩
theorem Turn.of_grown {a b : World} {row : Option Nat} (h : a.grownBy b row) : Turn row.toList a b := ⟨h.os, h.tape, h.output, h.size, fun i hi hn => h.block i hi (fun e => hn (by subst e; simp))⟩
theorem Turn.below {S : List Nat} {a b : World} (h : Turn S a b) (hs : ∀ x, x ∈ S → a.heap.size ≤ x) : Below a.heap.size a b :=
  ⟨h.os, h.tape, h.output, h.size, fun i hi => h.block i hi (fun hx => by have := hs i hx; omega)⟩
theorem Turn.alloc {S : List Nat} {a b : World} (h : Turn S a b) (o : Obj) : Turn S a (b.alloc o) :=
  h.trans (Turn.of_below ((Below.refl _ b).alloc (Nat.le_refl _) o)) (by simp)
theorem Turn.drew {S : List Nat} {a b : World} (h : Turn S a b) : Turn S a b.drew := ⟨h.os, h.tape, h.output, h.size, h.block⟩
theorem Turn.set {S : List Nat} {a b : World} (h : Turn S a b) {p : Addr} (hp : p.block < a.heap.size → p.block ∈ S) (v : Value) : Turn S a (b.setCell p v) :=
  ⟨h.os, h.tape, h.output, by have := h.size; simpa [World.setCell] using this, fun i hi hn => (Below.heap_setCell b p v i (fun e => hn (by subst e; exact hp hi))).trans (h.block i hi hn)⟩
theorem Turn.belowTrans {S : List Nat} {a b c : World} (h : Turn S a b) (k : Below b.heap.size b c) : Turn S a c := h.trans (Turn.of_below k) (by simp)
theorem Turn.grow {S : List Nat} {a b c : World} {row : Option Nat} (h : Turn S a b) (k : b.grownBy c row) (hs : ∀ x, row = some x → x < a.heap.size → x ∈ S) : Turn S a c :=
  h.trans (Turn.of_grown k) (fun x hx hl => hs x (by simpa using hx) hl)

theorem Turn.drewN {S : List Nat} {a b : World} (h : Turn S a b) (q : Nat) : Turn S a (b.drewN q) := ⟨h.os, h.tape, h.output, h.size, h.block⟩
/-- a row whose block is not among those that are turned -/
theorem Row.turn {w w' : World} {base : Nat} {e : TypeId} {size : Nat} {v : Value} {n : Nat} {xs : List Value} {S : List Nat} (h : w.ownsRow base e size v n xs) (ht : Turn S w w') (hs : ∀ g, v.ownBlock = some g → g ∉ S) : w'.ownsRow base e size v n xs := by
  refine ⟨h.1, ?_⟩
  have hlt := World.ownsRow.lt h
  rcases h.2 with h | ⟨g, cap, cur, rfl, h2, h3, h4⟩
  · exact .inl h
  · exact .inr ⟨g, cap, cur, rfl, h2, (ht.block g (hlt g rfl).2 (hs g rfl)).trans h3, h4⟩
/-- a row's block has the row's type -/
theorem Row.ne {w : World} {base : Nat} {e : TypeId} {size : Nat} {v : Value} {n : Nat} {xs : List Value} {p : Nat} {cs : Array Value} {t : TypeId} {f : Nat × Nat} (h : w.ownsRow base e size v n xs) (hp : w.heap[p]? = some (.cells cs t f)) (ht : t ≠ e) {g : Nat} (hg : v.ownBlock = some g) : g ≠ p := by
  rintro rfl
  rcases h.2 with ⟨rfl, _⟩ | ⟨k, cap, cur, rfl, _, hgg, _⟩
  · simp [Value.ownBlock] at hg
  · simp only [Value.ownBlock, Option.some.injEq] at hg
    subst hg
    rw [hgg] at hp
    simp only [Option.some.injEq, Obj.cells.injEq] at hp
    exact ht hp.2.1.symm
theorem Turn.cell {S : List Nat} {w w' : World} (h : Turn S w w') {p : Addr} (hp : p.block < w.heap.size) (hs : p.block ∉ S) : w'.cell? p = w.cell? p := World.cell?_of_block (h.block p.block hp hs)
theorem Turn.below' {S : List Nat} {B : Nat} {W W' : World} (h : Turn S W W') (hB : B ≤ W.heap.size) (hs : ∀ x ∈ S, B ≤ x) : Below B W W' :=
  ⟨h.os, h.tape, h.output, h.size, fun k hk => h.block k (by omega) (fun hx => by have := hs k hx; omega)⟩

end Go.Proofs.YtfgdlnidfkjbdaaDoor

namespace Go.Proofs.YtfgdlnidfkjbdaaDoor
open Go.RowKit

/-- block g holds just these cells and may be written -/
def Rw (W : World) (g : Nat) (cs : Array Value) (t : TypeId) : Prop := W.heap[g]? = some (.cells cs t (0, 0))
theorem Rw.lt {W : World} {g : Nat} {cs : Array Value} {t : TypeId} (h : Rw W g cs t) : g < W.heap.size := by
  rcases Nat.lt_or_ge g W.heap.size with h1 | h1
  · exact h1
  · unfold Rw at h
    rw [Array.getElem?_eq_none h1] at h
    cases h
theorem Rw.cell {W : World} {g : Nat} {cs : Array Value} {t : TypeId} (h : Rw W g cs t) (j : Nat) : W.cell? ⟨g, j, none⟩ = cs[j]? := cell_of_row W g j cs t (0, 0) h
theorem Rw.free {W : World} {g : Nat} {cs : Array Value} {t : TypeId} (h : Rw W g cs t) (j : Nat) : W.frozen? ⟨g, j, none⟩ = false := frozen_of_row W g j cs t h
theorem Rw.below {W W' : World} {B g : Nat} {cs : Array Value} {t : TypeId} (h : Rw W g cs t) (hb : Below B W W') (hB : g < B) : Rw W' g cs t := (hb.block g hB).trans h
theorem Rw.turn {W W' : World} {S : List Nat} {g : Nat} {cs : Array Value} {t : TypeId} (h : Rw W g cs t) (hT : Turn S W W') (hg : g ∉ S) : Rw W' g cs t := (hT.block g h.lt hg).trans h
theorem Rw.new (W : World) (cs : Array Value) (t : TypeId) : Rw (W.alloc (.cells cs t)) W.heap.size cs t := heap_alloc_new W (.cells cs t)
theorem Rw.alloc {W : World} {g : Nat} {cs : Array Value} {t : TypeId} (h : Rw W g cs t) (o : Obj) : Rw (W.alloc o) g cs t := h.below ((Below.refl W.heap.size W).alloc (Nat.le_refl _) o) h.lt
theorem Rw.drewN {W : World} {g : Nat} {cs : Array Value} {t : TypeId} (h : Rw W g cs t) (n : Nat) : Rw (W.drewN n) g cs t := h
theorem Rw.set {W : World} {g : Nat} {cs : Array Value} {t : TypeId} (h : Rw W g cs t) (j : Nat) (v : Value) (hj : j < cs.size) : Rw (W.setCell ⟨g, j, none⟩ v) g (cs.set j v) t := by
  unfold Rw World.setCell
  simp only [Array.getElem?_modify]
  unfold Rw at h
  simp [h, Array.setIfInBounds, hj]
theorem Rw.other {W : World} {g : Nat} {cs : Array Value} {t : TypeId} (h : Rw W g cs t) (p : Addr) (v : Value) (hp : p.block ≠ g) : Rw (W.setCell p v) g cs t := (Below.heap_setCell W p v g (fun e => hp e.symm)).trans h
theorem size_alloc (W : World) (o : Obj) : (W.alloc o).heap.size = W.heap.size + 1 := Array.size_push ..
theorem size_setCell (W : World) (p : Addr) (v : Value) : (W.setCell p v).heap.size = W.heap.size := by simp [World.setCell]
/-- a block of one type is not a row of another -/
theorem Rw.ne_row {w : World} {base : Nat} {e : TypeId} {size : Nat} {v : Value} {n : Nat} {xs : List Value} {p : Nat} {cs : Array Value} {t : TypeId} (hp : Rw w p cs t) (h : w.ownsRow base e size v n xs) (ht : t ≠ e) {g : Nat} (hg : v.ownBlock = some g) : g ≠ p := Row.ne h hp ht hg
theorem Rw.two (w : World) (c0 c1 : Array Value) (t0 t1 : TypeId) : Rw ((w.alloc (.cells c0 t0)).alloc (.cells c1 t1)) w.heap.size c0 t0 ∧ Rw ((w.alloc (.cells c0 t0)).alloc (.cells c1 t1)) (w.heap.size + 1) c1 t1 ∧ Below w.heap.size w ((w.alloc (.cells c0 t0)).alloc (.cells c1 t1)) ∧ ((w.alloc (.cells c0 t0)).alloc (.cells c1 t1)).heap.size = w.heap.size + 1 + 1 := by
  have z1 := size_alloc w (.cells c0 t0)
  refine ⟨(Rw.new w c0 t0).alloc _, ?_, (((Below.refl w.heap.size w).alloc (Nat.le_refl _) _).alloc (by omega) _), by rw [size_alloc, z1]⟩
  have := Rw.new (w.alloc (.cells c0 t0)) c1 t1
  rwa [z1] at this
theorem Rw.three (w : World) (c0 c1 c2 : Array Value) (t0 t1 t2 : TypeId) : Rw (((w.alloc (.cells c0 t0)).alloc (.cells c1 t1)).alloc (.cells c2 t2)) w.heap.size c0 t0 ∧ Rw (((w.alloc (.cells c0 t0)).alloc (.cells c1 t1)).alloc (.cells c2 t2)) (w.heap.size + 1) c1 t1 ∧ Rw (((w.alloc (.cells c0 t0)).alloc (.cells c1 t1)).alloc (.cells c2 t2)) (w.heap.size + 1 + 1) c2 t2 ∧
    Below w.heap.size w (((w.alloc (.cells c0 t0)).alloc (.cells c1 t1)).alloc (.cells c2 t2)) ∧ (((w.alloc (.cells c0 t0)).alloc (.cells c1 t1)).alloc (.cells c2 t2)).heap.size = w.heap.size + 1 + 1 + 1 := by
  obtain ⟨h1, h2, h3, h4⟩ := Rw.two w c0 c1 t0 t1
  refine ⟨h1.alloc _, h2.alloc _, ?_, h3.alloc (by omega) _, by rw [size_alloc, h4]⟩
  have := Rw.new ((w.alloc (.cells c0 t0)).alloc (.cells c1 t1)) c2 t2
  rwa [h4] at this
theorem Rw.put2 {W : World} {g : Nat} {t : TypeId} {x0 x1 : Value} (h : Rw W g #[x0, x1] t) (a0 a1 : Value) : Rw ((W.setCell ⟨g, 0, none⟩ a0).setCell ⟨g, 1, none⟩ a1) g #[a0, a1] t := (h.set 0 a0 (by simp)).set 1 a1 (by simp)
theorem Rw.put4 {W : World} {g : Nat} {t : TypeId} {x0 x1 x2 x3 : Value} (h : Rw W g #[x0, x1, x2, x3] t) (a0 a1 a2 a3 : Value) : Rw ((((W.setCell ⟨g, 0, none⟩ a0).setCell ⟨g, 1, none⟩ a1).setCell ⟨g, 2, none⟩ a2).setCell ⟨g, 3, none⟩ a3) g #[a0, a1, a2, a3] t :=
  (((h.set 0 a0 (by simp)).set 1 a1 (by simp)).set 2 a2 (by simp)).set 3 a3 (by simp)
theorem Turn.put2 (W : World) (g : Nat) (a0 a1 : Value) : Turn [g] W ((W.setCell ⟨g, 0, none⟩ a0).setCell ⟨g, 1, none⟩ a1) := ((Turn.refl [g] W).set (fun _ => by simp) a0).set (fun _ => by simp) a1
theorem Turn.put4 (W : World) (g : Nat) (a0 a1 a2 a3 : Value) : Turn [g] W ((((W.setCell ⟨g, 0, none⟩ a0).setCell ⟨g, 1, none⟩ a1).setCell ⟨g, 2, none⟩ a2).setCell ⟨g, 3, none⟩ a3) :=
  ((((Turn.refl [g] W).set (fun _ => by simp) a0).set (fun _ => by simp) a1).set (fun _ => by simp) a2).set (fun _ => by simp) a3
theorem Turn.put1 (W : World) (g j : Nat) (a : Value) : Turn [g] W (W.setCell ⟨g, j, none⟩ a) := (Turn.refl [g] W).set (fun _ => by simp) a
theorem Turn.bel {S : List Nat} {w W W' : World} (hT : Turn S W W') (h : Below w.heap.size w W) (hs : ∀ x ∈ S, w.heap.size ≤ x) : Below w.heap.size w W' := h.trans (hT.below' h.size hs)
/-- a result that lies in memory, and one in a slot -/
theorem results_row_slot {P : Program} {fn : Func} {p q : Tmp} {ty : TypeId} (h : fn.results = #[.cell p ty, .tmp q]) (tmps : Array Value) (w : World) (g1 : Nat) (t1 : TypeId) (cs : Array Value) (d1 : TypeDesc) (v : Value)
    (hp : tmps.getD p undef = .pointer (some ⟨g1, 0, none⟩)) (hq : tmps.getD q undef = v) (hg1 : Rw w g1 cs t1)
    (hu1 : P.underlying ty = some d1) (hd1 : (match d1 with | .struct _ | .array _ _ => true | _ => false) = true) (hi1 : (P.info? ty).map (·.size) = some cs.size) :
    (results fn tmps).run P w = .ok (.tuple #[.agg cs, v]) w := by
  have hp' : tmps[p]?.getD undef = .pointer (some ⟨g1, 0, none⟩) := by simpa using hp
  have hq' : tmps[q]?.getD undef = v := by simpa using hq
  simp [results, h, hp', hq', asAddr, run_loadVar_row w g1 t1 ty cs (0, 0) d1 hg1 hu1 hd1 hi1]
theorem results_slot_row {P : Program} {fn : Func} {p q : Tmp} {ty : TypeId} (h : fn.results = #[.tmp q, .cell p ty]) (tmps : Array Value) (w : World) (g1 : Nat) (t1 : TypeId) (cs : Array Value) (d1 : TypeDesc) (v : Value)
    (hp : tmps.getD p undef = .pointer (some ⟨g1, 0, none⟩)) (hq : tmps.getD q undef = v) (hg1 : Rw w g1 cs t1)
    (hu1 : P.underlying ty = some d1) (hd1 : (match d1 with | .struct _ | .array _ _ => true | _ => false) = true) (hi1 : (P.info? ty).map (·.size) = some cs.size) :
    (results fn tmps).run P w = .ok (.tuple #[v, .agg cs]) w := by
  have hp' : tmps[p]?.getD undef = .pointer (some ⟨g1, 0, none⟩) := by simpa using hp
  have hq' : tmps[q]?.getD undef = v := by simpa using hq
  simp [results, h, hp', hq', asAddr, run_loadVar_row w g1 t1 ty cs (0, 0) d1 hg1 hu1 hd1 hi1]

end Go.Proofs.YtfgdlnidfkjbdaaDoor
