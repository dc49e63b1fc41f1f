/-
  BYTES: literals, parts, 'append', 'string(b)'; bytes.Equal, slices.Clone, slices.Grow, slices.Concat.
-/
import Derived.Test.YtppcfidaalejfaaKit
namespace Go.Proofs.Ytppcfidaalejfaa
open Go.RowKit

theorem bV_oneCell (l : List UInt8) : ∀ u ∈ bV l, u.oneCell' = true := by
  intro u hu
  simp only [bV, List.mem_map] at hu
  obtain ⟨b, _, rfl⟩ := hu
  rfl

/-- the cells that an append copies -/
theorem byts_news {w : World} {b o : Nat} {l : List UInt8} (h : ∀ j, j < l.length → w.cell? ⟨b, o + j, none⟩ = some (.int .u8 ((l.getD j 0).toNat : Int))) :
    ∀ j u, (bV l)[j]? = some u → w.cell? ((⟨b, o, none⟩ : Addr).add j) = some u := by
  intro j u hu
  have hj : j < l.length := by
    rcases Nat.lt_or_ge j l.length with h | h
    · exact h
    · rw [List.getElem?_eq_none (by rw [bV_length]; exact h)] at hu; cases hu
  have e : (⟨b, o, none⟩ : Addr).add j = ⟨b, o + j, none⟩ := by unfold Addr.add; split <;> simp_all
  rw [e, h j hj]
  simp only [bV, List.getElem?_map, List.getElem?_eq_getElem hj, Option.map_some, Option.some.injEq] at hu
  rw [← hu]
  simp [List.getD, List.getElem?_eq_getElem hj]

/-- 'append(out, b...)' on a row of the call's own, b whatever bytes -/
theorem wpList_append_byts {ops : Array Oper} {rest : List Oper} {o : Oper} {a : Act} {Q : Exit → Act → World → Prop} {w : World} (hgd : o.guard = none) (s x : Operand)
    (ho : o.op = .call { callee := .builtin .append, args := #[s, x], argTypes := #[54, 54] }) (base B : Nat) (v vx : Value) (l m : List UInt8)
    (hs : a.eval s = v) (hown : Own w base v l) (hx : a.eval x = vx) (hb : Byts w B vx m) (hlen : Hid (l.length + m.length ≤ 1099511627800)) (hbase : base ≤ w.heap.size)
    (h : ∀ v' w', Own w' base v' (l ++ m) → w.grownBy w' v.ownBlock → wpList Try.prog ops Q rest (a.put o.dst v') w') :
    wpList Try.prog ops Q (o :: rest) a w := by
  obtain ⟨i0, hi, hz0, hz1, hz2⟩ := info_parts info5
  have hl := hlen.out
  obtain ⟨ad, c, rfl, hle, hn, hcells⟩ := hb
  cases ad with
  | none =>
    have hc0 := hn rfl
    subst hc0
    have hm : m = [] := List.eq_nil_of_length_eq_zero (by omega)
    subst hm
    refine wpList_append_own_none hgd s x 54 ho base 5 i0 1 Try.underlying54 hi v l.length (bV l) hs hown hx ?_
    refine h v w ?_ (World.grownBy.refl w _)
    rw [List.append_nil]; exact hown
  | some ad =>
    refine wpList_append_own _ hgd s x 54 ho base 5 i0 (.int .u8 0) 1 1 Try.underlying54 hi hz0 hz1 hz2 rfl (by decide) v l.length (bV l) hs hown ad m.length c (bV m) hx (by rw [bV_length, Nat.mul_one]) ?_ (bV_oneCell m) ?_ ?_ hbase ?_
    · by_cases hne : m = []
      · subst hne; intro j u hu; simp [bV] at hu
      · obtain ⟨b, o', e, _, hcell⟩ := hcells hne
        simp only [Option.some.injEq] at e
        subst e
        exact byts_news hcell
    · unfold maxLen; omega
    · omega
    · intro v' w' h1 h2 _
      refine h v' w' ?_ h2
      unfold Own; rw [bV_append, List.length_append]; exact h1

/-- one byte more: 'append(out, b)' on a row of the call's own -/
theorem wpList_append_byte {ops : Array Oper} {rest : List Oper} {o : Oper} {a : Act} {Q : Exit → Act → World → Prop} (w0 : World) (hgd : o.guard = none) (s x : Operand)
    (ho : o.op = .call { callee := .builtin .append, args := #[s, x], argTypes := #[54, 54] }) (base : Nat) (v : Value) (l : List UInt8) (c : Int) (b : UInt8) (hc : c = (b.toNat : Int))
    (hs : a.eval s = v) (hown : Own w0 base v l) (hx : a.eval x = .slice (some ⟨w0.heap.size, 0, none⟩) 1 1) (hlen : Hid (l.length ≤ 1099511627800)) (hbase : base ≤ w0.heap.size)
    (h : ∀ v' w', Own w' base v' (l ++ [b]) → Below base w0 w' → wpList Try.prog ops Q rest (a.put o.dst v') w') :
    wpList Try.prog ops Q (o :: rest) a (w0.alloc (.cells #[.int .u8 c] 5)) := by
  obtain ⟨i0, hi, hz0, hz1, hz2⟩ := info_parts info5
  have hl := hlen.out
  subst hc
  refine wpList_append_own _ hgd s x 54 ho base 5 i0 (.int .u8 0) 1 1 Try.underlying54 hi hz0 hz1 hz2 rfl (by decide) v l.length (bV l) hs (hown.alloc _) ⟨w0.heap.size, 0, none⟩ 1 1 [.int .u8 (b.toNat : Int)] hx rfl
    (cell_one_new _ _ _) ?_ ?_ ?_ ?_ ?_
  · intro u hu; simp at hu; subst hu; rfl
  · unfold maxLen; omega
  · omega
  · simp; omega
  · intro v' w' h1 h2 _
    refine h v' w' ?_ ?_
    · unfold Own; rw [bV_append, List.length_append]; exact h1
    · refine ((Below.refl base w0).alloc hbase _).grown h2 (by simp; omega) fun k hk => ?_
      exact (World.ownsRow.lt hown k hk).1

/-- bytes that are laid out in the text -/
theorem byts_lit (w : World) (cs : Array Value) (l : List UInt8) (n : Nat) (h : cs.toList = bV l) (hn : n = l.length) : Byts (w.alloc (.cells cs 5)) (w.heap.size + 1) (.slice (some ⟨w.heap.size, 0, none⟩) n n) l := by
  subst hn
  refine ⟨_, _, rfl, Nat.le_refl _, (fun h => by cases h), fun _ => ⟨w.heap.size, 0, rfl, by omega, fun j hj => ?_⟩⟩
  have h1 := cell_of_row (w.alloc (.cells cs 5)) w.heap.size (0 + j) cs 5 (0, 0) (heap_alloc_new w _)
  rw [h1, ← Array.getElem?_toList, h]
  simp [bV, List.getD, List.getElem?_eq_getElem hj]
theorem Byts.alloc {w : World} {B : Nat} {v : Value} {l : List UInt8} (h : Byts w B v l) (hB : B ≤ w.heap.size) (o : Obj) : Byts (w.alloc o) B v l := h.below ((Below.refl w.heap.size w).alloc (Nat.le_refl _) o) hB
theorem Own.below {w w' : World} {base B : Nat} {v : Value} {l : List UInt8} (h : Own w base v l) (hb : Below B w w') (hB : w.heap.size ≤ B) : Own w' base v l :=
  World.ownsRow.kept h (row := none) ⟨hb.os, hb.tape, hb.output, hb.size, fun k hk _ => hb.block k (by omega)⟩ (by cases hv : v.ownBlock <;> simp)
theorem below_grow {B : Nat} {a w w' : World} {p : Nat} (h : Below B a w) (hg : w.grownBy w' (some p)) (hB : B ≤ w.heap.size) (hp : B ≤ p) : Below B a w' :=
  h.grown hg hB fun k hk => by simp only [Option.some.injEq] at hk; omega

/-- a list of bytes as a text -/
def str (l : List UInt8) : ByteArray := ⟨l.toArray⟩
theorem str_toList (l : List UInt8) : (str l).data.toList = l := by simp [str]
theorem str_size (l : List UInt8) : (str l).size = l.length := by simp [str, ByteArray.size]
theorem str_of (s : ByteArray) : str s.data.toList = s := by cases s; simp [str]

theorem strOfNums_str (t : List UInt8) : strOfNums (t.map fun b => (b.toNat : Int)) = str t := by
  unfold strOfNums str
  congr 1
  rw [List.map_map]
  congr 1
  conv => rhs; rw [← List.map_id t]
  apply List.map_congr_left
  intro x _
  simp

theorem conv_byts {W : World} {B : Nat} {v : Value} {t : List UInt8} (h : Byts W B v t) : (convert 54 9 v).run Try.prog W = .ok (.string (str t)) W := by
  obtain ⟨ad, c, rfl, _, _, hc⟩ := h
  by_cases hne : t = []
  · subst hne
    cases ad with
    | none => rw [run_convert_bytes_nil (P := Try.prog) W 54 5 Try.underlying54 Try.underlying5 _ _ 9 Try.underlying9]; rfl
    | some x =>
      rw [run_convert_bytes_string W 54 9 5 _ _ c Try.underlying54 Try.underlying5 Try.underlying9]
      have hl := run_loadCells_list (P := Try.prog) W x [] (fun j v hj => by simp at hj)
      have := run_bytesToString (P := Try.prog) W x 0 c [] (by simpa using hl)
      rw [List.length_nil, this]
      rfl
  · obtain ⟨b, o, rfl, _, hcell⟩ := hc hne
    have := run_convert_bytes_arg (P := Try.prog) W 54 5 Try.underlying54 Try.underlying5 b o t.length c (t.map fun b => (b.toNat : Int)) (by simp) (fun i hi => by
      rw [hcell i hi]
      simp [List.getD, List.getElem?_eq_getElem hi]) 9 Try.underlying9
    rw [this, strOfNums_str]

/-- a part of bytes -/
theorem Byts.sub {W : World} {B g n cap : Nat} {t : List UInt8} (h : Byts W B (.slice (some ⟨g, 0, none⟩) t.length n) t) (l m : Nat) (hlm : l + m ≤ t.length) (hcap : l + m ≤ cap) :
    Byts W B (.slice (if cap = l then some ⟨g, 0, none⟩ else some ⟨g, l, none⟩) (l + m - l) (cap - l)) ((t.drop l).take m) := by
  have e : l + m - l = ((t.drop l).take m).length := by simp; omega
  rw [e]
  refine ⟨if cap = l then some ⟨g, 0, none⟩ else some ⟨g, l, none⟩, cap - l, rfl, by rw [← e]; omega, (fun h => by split at h <;> cases h), fun hne => ?_⟩
  have hm : m ≠ 0 := by intro h0; subst h0; simp at hne
  rw [if_neg (by omega)]
  obtain ⟨ad, c', hv, _, _, h⟩ := h
  simp only [Value.slice.injEq] at hv
  obtain ⟨rfl, _, rfl⟩ := hv
  have htn : t ≠ [] := by intro e; subst e; simp at hne
  obtain ⟨b, o, ha, hb, hcell⟩ := h htn
  simp only [Option.some.injEq, Addr.mk.injEq] at ha
  obtain ⟨rfl, rfl, _⟩ := ha
  refine ⟨g, l, rfl, hb, fun j hj => ?_⟩
  have hjm : j < m := by simp at hj; omega
  have := hcell (l + j) (by omega)
  rw [Nat.zero_add] at this
  rw [this]
  simp [List.getD, hjm, List.getElem?_drop]

theorem Byts.kept {w w' : World} {B g n c : Nat} {o : Nat} {l : List UInt8} {row : Option Nat} (h : Byts w B (.slice (some ⟨g, o, none⟩) n c) l) (hg : w.grownBy w' row) (hB : B ≤ w.heap.size) (hne : some g ≠ row) : Byts w' B (.slice (some ⟨g, o, none⟩) n c) l := by
  obtain ⟨ad, c', hv, hle, hn0, h⟩ := h
  simp only [Value.slice.injEq] at hv
  obtain ⟨rfl, rfl, rfl⟩ := hv
  refine ⟨_, _, rfl, hle, hn0, fun hn => ?_⟩
  obtain ⟨b, o', ha, hb, hcell⟩ := h hn
  simp only [Option.some.injEq, Addr.mk.injEq, and_true] at ha
  obtain ⟨rfl, rfl⟩ := ha
  exact ⟨g, o, rfl, hb, fun j hj => (World.cell?_of_block (a := ⟨g, o + j, none⟩) (hg.block g (Nat.lt_of_lt_of_le hb hB) hne)).trans (hcell j hj)⟩

theorem beq_str (la lb : List UInt8) : ((str la).toList == (str lb).toList) = decide (la = lb) := by
  rw [ByteArray.toList_eq, ByteArray.toList_eq, str_toList, str_toList, Bool.eq_iff_iff]
  simp

theorem Byts.head {w : World} {B : Nat} {ad : Option Addr} {n c : Nat} {l : List UInt8} (h : Byts w B (.slice ad n c) l) (m : Nat) (hm : m ≤ l.length) : Byts w B (.slice ad m c) (l.take m) := by
  obtain ⟨ad', c', hv, hle, hn0, h⟩ := h
  simp only [Value.slice.injEq] at hv
  obtain ⟨rfl, rfl, rfl⟩ := hv
  have e : (l.take m).length = m := by simp; omega
  refine ⟨ad, c, by rw [e], by omega, hn0, fun hne => ?_⟩
  have hl : l ≠ [] := by intro h0; subst h0; simp at hne
  obtain ⟨b, o, ha, hb, hcell⟩ := h hl
  refine ⟨b, o, ha, hb, fun j hj => ?_⟩
  rw [hcell j (by omega)]
  simp [List.getD, show j < m by omega]

theorem addr_add_zero (x : Addr) : x.add 0 = x := rfl
theorem map_add_zero (ad : Option Addr) : ad.map (fun x => x.add 0) = ad := by cases ad <;> rfl
theorem size5 (w : World) : (Go.sizeOf 5).run Try.prog w = .ok 1 w := by
  obtain ⟨i0, hi, hz0, hz1, hz2⟩ := info_parts info5
  simp [sizeOf, typeInfo, hi, hz1]
theorem elem27 : Try.prog.elem 54 = 5 := by simp [Program.elem, Try.underlying54]

theorem slice_head (W : World) (ad : Option Addr) (n c m : Nat) (hm : m ≤ c) :
    (Instr.slice 54 (.slice ad n c) none (some (.int .i64 (m : Int))) none).run Try.prog W = .ok (.slice ad m c) W := by
  rw [run_slice_h W 54 ad n c (by rw [elem27]; exact Try.underlying54) .i64 (m : Int) (by omega) (by omega), elem27, size5]
  simp [Result.andThen, sliced, addr_add_zero]

theorem Own_zeros (w : World) (n c : Nat) (hn : n ≤ c) (hc : c ≤ maxLen) : Own (w.alloc (.cells (Builtin.zeroCells (Value.int .u8 0).cells n ++ Builtin.zeroCells (Value.int .u8 0).cells (c - n)) 5)) w.heap.size (.slice (some ⟨w.heap.size, 0, none⟩) 0 c) [] := by
  refine ⟨by simp [bV], .inr ⟨w.heap.size, c, _, rfl, Nat.le_refl _, heap_alloc_new w _, Nat.zero_le _, hc, ?_, by simp [bV]⟩⟩
  rw [Array.size_append, size_zeroCells, size_zeroCells]
  have : (Value.int IntKind.u8 0).cells.size = 1 := rfl
  rw [this]
  omega

theorem addr_add (b o m : Nat) : (⟨b, o, none⟩ : Addr).add m = ⟨b, o + m, none⟩ := by unfold Addr.add; split <;> simp_all

/-- 's[m:]' -/
theorem slice_tail {w : World} {B : Nat} {ad : Option Addr} {n c : Nat} {l : List UInt8} (h : Byts w B (.slice ad n c) l) (m : Nat) (hm : m ≤ l.length) :
    ∃ A, (∀ W : World, (Instr.slice 54 (.slice ad n c) (some (.int .i64 (m : Int))) none none).run Try.prog W = .ok (.slice A (n - m) (c - m)) W) ∧ Byts w B (.slice A (n - m) (c - m)) (l.drop m) := by
  obtain ⟨ad', c', hv, hle, hn0, h⟩ := h
  simp only [Value.slice.injEq] at hv
  obtain ⟨rfl, rfl, rfl⟩ := hv
  refine ⟨if c = m then ad else ad.map (·.add m), fun W => ?_, if c = m then ad else ad.map (·.add m), c - m, by rw [List.length_drop], by rw [List.length_drop]; omega, fun h0 => ?_, fun hne => ?_⟩
  · rw [run_slice_l W 54 ad l.length c (by rw [elem27]; exact Try.underlying54) .i64 (m : Int) (by omega) (by omega), elem27, size5]
    simp [Result.andThen, sliced]
  · by_cases hcm : c = m
    · omega
    · rw [if_neg hcm] at h0
      cases ad with
      | none => have := hn0 rfl; omega
      | some x => simp at h0
  · have hlm : m < l.length := by
      rcases Nat.lt_or_ge m l.length with h | h
      · exact h
      · exact absurd (List.drop_eq_nil_of_le h) hne
    obtain ⟨b, o, rfl, hb, hcell⟩ := h (by intro e; subst e; simp at hlm)
    rw [if_neg (by omega)]
    refine ⟨b, o + m, by simp [addr_add], hb, fun j hj => ?_⟩
    rw [List.length_drop] at hj
    rw [Nat.add_assoc, hcell (m + j) (by omega)]
    simp [List.getD, List.getElem?_drop]

/-- block g holds just the bytes X, and may be written -/
def Blk (w : World) (g : Nat) (X : List UInt8) : Prop := w.heap[g]? = some (.cells (bV X).toArray 5 (0, 0))

theorem Blk.cell {w : World} {g : Nat} {X : List UInt8} (h : Blk w g X) (j : Nat) (hj : j < X.length) : w.cell? ⟨g, j, none⟩ = some (.int .u8 ((X.getD j 0).toNat : Int)) := by
  rw [cell_of_row w g j _ 5 (0, 0) h]
  simp [bV, List.getD, List.getElem?_eq_getElem hj]
theorem Blk.free {w : World} {g : Nat} {X : List UInt8} (h : Blk w g X) (j : Nat) : w.frozen? ⟨g, j, none⟩ = false := by
  unfold Blk at h
  simp [World.frozen?, h]
theorem Blk.lt {w : World} {g : Nat} {X : List UInt8} (h : Blk w g X) : g < w.heap.size := by
  unfold Blk at h
  rcases Nat.lt_or_ge g w.heap.size with h1 | h1
  · exact h1
  · rw [Array.getElem?_eq_none h1] at h; cases h
theorem Blk.set {w : World} {g : Nat} {X : List UInt8} (h : Blk w g X) (j : Nat) (b : UInt8) : Blk (w.setCell ⟨g, j, none⟩ (.int .u8 (b.toNat : Int))) g (X.set j b) := by
  have hlt := h.lt
  unfold Blk at h ⊢
  have h1 : w.heap[g] = .cells (bV X).toArray 5 (0, 0) := by
    rw [Array.getElem?_eq_getElem hlt] at h
    exact Option.some.inj h
  have h2 : bV (X.set j b) = (bV X).set j (.int .u8 (b.toNat : Int)) := by simp [bV, List.map_set]
  rw [h2]
  simp [World.setCell, hlt]
  rw [Array.getElem_modify_self, h1]
  simp
theorem Blk.below {w w' : World} {B g : Nat} {X : List UInt8} (h : Blk w g X) (hb : Below B w w') (hg : g < B) : Blk w' g X := (hb.block g hg).trans h
theorem Blk.byts {w : World} {g : Nat} {X : List UInt8} (h : Blk w g X) (off n c : Nat) (hn : off + n ≤ X.length) (hc : n ≤ c) : Byts w (g + 1) (.slice (some ⟨g, off, none⟩) n c) ((X.drop off).take n) := by
  have e : ((X.drop off).take n).length = n := by simp; omega
  refine ⟨_, c, by rw [e], by rw [e]; exact hc, (fun h => by cases h), fun _ => ⟨g, off, rfl, by omega, fun j hj => ?_⟩⟩
  rw [e] at hj
  rw [h.cell (off + j) (by omega)]
  simp [List.getD, hj, List.getElem?_drop]

theorem zeros_cells (n : Nat) : madeCells (Value.int .u8 0).cells n = (bV (List.replicate n 0)).toArray := by
  apply Array.ext
  · simp [size_madeCells, bV]
  · intro j h1 h2
    have hz : (Value.int IntKind.u8 0).cells = #[Value.int .u8 0] := rfl
    simp [madeCells, bV, hz, Nat.mod_one]

/-- 'make([]byte, n)' -/
theorem make_byts (z : Int) (n : Nat) (hz : z = (n : Int)) (hn : n ≤ 1099511627800) (W : World) :
    (Instr.makeSlice 54 (.int .i64 z) (.int .i64 z)).run Try.prog W = .ok (.slice (some ⟨W.heap.size, 0, none⟩) n n) (W.alloc (.cells (bV (List.replicate n 0)).toArray 5)) := by
  obtain ⟨i0, hi, hz0, hz1, hz2⟩ := info_parts info5
  subst hz
  rw [run_make W 54 5 i0 (.int .u8 0) Try.underlying54 hi hz0 .i64 .i64 (n : Int) (n : Int) (by omega) (by omega) (by rw [hz2]; omega) (by omega), hz1]
  simp only [Int.toNat_natCast, Nat.mul_one, zeros_cells]
theorem Blk.made (W : World) (X : List UInt8) : Blk (W.alloc (.cells (bV X).toArray 5)) W.heap.size X := heap_alloc_new W _
end Go.Proofs.Ytppcfidaalejfaa
