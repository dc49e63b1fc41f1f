/-
  DiskPlays: the fleet grows; the calls as they come in.
-/
import Derived.Test.YtccfoafcfnhejaaAnsAll
import Derived.Test.YtccfoafcfnhejaaRefCopyK
namespace Go.Proofs.Ytccfoafcfnhejaa
open Go.RowKit

/-- the fleet but for its two rows -/
structure Crew (w0 wr : World) (n N m : Nat) (X : Nat → Pl) (Y : Nat → RPl) (D : Nat → Dk.Dev) : Prop where
  m0 : 0 < m
  m5 : m ≤ 5
  hx : ∀ i, i < m → Has wr (X i) N (D i)
  hy : ∀ i, i < m → RHas wr (Y i) (D i)
  fl : ∀ i, i < m → (Y i).fl.length ≤ N
  ln : ∀ i, i < m → (D i).st.length = n
  nx : ∀ i, i < m → ∀ k, k ∈ (X i).bl → w0.heap.size ≤ k
  ny : ∀ i, i < m → ∀ k, k ∈ (Y i).bl → w0.heap.size ≤ k
  dx : ∀ i j, i < m → j < m → i ≠ j → ∀ k, k ∈ (X i).bl → k ∉ (X j).bl
  dy : ∀ i j, i < m → j < m → i ≠ j → ∀ k, k ∈ (Y i).bl → k ∉ (Y j).bl
  be : Below w0.heap.size w0 wr

/-- a block that is none of theirs: its type -/
def Far (w : World) (q : Nat) : Prop := ∃ cur t, w.heap[q]? = some (.cells cur t (0, 0)) ∧ t ≠ 72 ∧ t ≠ 78 ∧ t ≠ 54 ∧ t ≠ 27 ∧ t ≠ 106 ∧ t ≠ 5

theorem Has.far {w w' : World} {x : Pl} {N : Nat} {d : Dk.Dev} {S : List Nat} (h : Has w x N d) (ht : Turn S w w') (hS : ∀ q, q ∈ S → q < w.heap.size → Far w q) : Has w' x N d :=
  h.turn ht (fun q hq hm => by
    obtain ⟨cur, t, h1, h2, h3, _⟩ := hS q hm (h.lt q hq)
    exact h.not_inT h1 h2 h3 hq)
theorem RHas.far {w w' : World} {y : RPl} {d : Dk.Dev} {S : List Nat} (h : RHas w y d) (ht : Turn S w w') (hS : ∀ q, q ∈ S → q < w.heap.size → Far w q) : RHas w' y d := by
  refine ⟨h.m.kept (fun q hq => ht.block q (h.m.lt q hq) (fun hm => ?_)) (fun b c hb => ht.block b (lt_of_heap hb) (fun hm => ?_)), h.t, h.ok⟩
  · obtain ⟨cur, t, h1, _, _, h4, h5, h6, _⟩ := hS q hm (h.m.lt q hq)
    exact h.m.not_in h1 ⟨h4, h5, h6⟩ hq
  · obtain ⟨cur, t, h1, _, _, _, _, _, h7⟩ := hS b hm (lt_of_heap hb)
    rw [h1] at hb
    simp only [Option.some.injEq, Obj.cells.injEq] at hb
    exact h7 hb.2.1

section
variable {w0 wr w' : World} {n N m : Nat} {X : Nat → Pl} {Y : Nat → RPl} {D : Nat → Dk.Dev} {va vr : Value}
theorem Fleet.crew (h : Fleet w0 wr n N m X Y D va vr) : Crew w0 wr n N m X Y D := ⟨h.m0, h.m5, h.hx, h.hy, h.fl, h.ln, h.nx, h.ny, h.dx, h.dy, h.be⟩
theorem Crew.fleet (h : Crew w0 wr n N m X Y D) (ra : wr.ownsRow w0.heap.size 23 1 va m ((List.range m).map fun i => ptr (X i).p)) (rr : wr.ownsRow w0.heap.size 44 1 vr m ((List.range m).map fun i => ptr (Y i).p)) : Fleet w0 wr n N m X Y D va vr :=
  ⟨h.m0, h.m5, h.hx, h.hy, h.fl, h.ln, h.nx, h.ny, h.dx, h.dy, ra, rr, h.be⟩
theorem Crew.turn {S : List Nat} (h : Crew w0 wr n N m X Y D) (ht : Turn S wr w') (hS : ∀ q, q ∈ S → q < wr.heap.size → w0.heap.size ≤ q ∧ Far wr q) : Crew w0 w' n N m X Y D :=
  ⟨h.m0, h.m5, fun i hi => (h.hx i hi).far ht fun q hq hl => (hS q hq hl).2, fun i hi => (h.hy i hi).far ht fun q hq hl => (hS q hq hl).2, h.fl, h.ln, h.nx, h.ny, h.dx, h.dy,
    ⟨ht.os.trans h.be.os, ht.tape.trans h.be.tape, ht.output.trans h.be.output, Nat.le_trans h.be.size ht.size, fun q hq => (ht.block q (Nat.lt_of_lt_of_le hq h.be.size) (fun hm => by have := (hS q hm (Nat.lt_of_lt_of_le hq h.be.size)).1; omega)).trans (h.be.block q hq)⟩⟩
theorem Crew.below (h : Crew w0 wr n N m X Y D) (hb : Below wr.heap.size wr w') : Crew w0 w' n N m X Y D := h.turn (Turn.of_below hb) (by simp)

def grow {α : Type} (f : Nat → α) (m : Nat) (a : α) : Nat → α := fun i => if i = m then a else f i
theorem grow_old {α : Type} (f : Nat → α) {m i : Nat} (a : α) (h : i < m) : grow f m a i = f i := if_neg (by omega)
theorem grow_new {α : Type} (f : Nat → α) (m : Nat) (a : α) : grow f m a m = a := if_pos rfl
theorem grow_map {α β : Type} (f : Nat → α) (m : Nat) (a : α) (g : α → β) : (List.range (m + 1)).map (fun i => g (grow f m a i)) = (List.range m).map (fun i => g (f i)) ++ [g a] := by
  rw [List.range_succ, List.map_append, List.map_singleton, grow_new]
  congr 1
  refine List.map_congr_left fun i hi => ?_
  rw [grow_old f a (List.mem_range.1 hi)]

theorem Crew.add (h : Crew w0 wr n N m X Y D) (hm : m < 5) {x : Pl} {y : RPl} {d : Dk.Dev} (hx : Has wr x N d) (hy : RHas wr y d) (hf : y.fl.length ≤ N) (hl : d.st.length = n) (nx : ∀ k, k ∈ x.bl → w0.heap.size ≤ k) (ny : ∀ k, k ∈ y.bl → w0.heap.size ≤ k)
    (dx : ∀ i, i < m → ∀ k, k ∈ (X i).bl → k ∉ x.bl) (dy : ∀ i, i < m → ∀ k, k ∈ (Y i).bl → k ∉ y.bl) : Crew w0 wr n N (m + 1) (grow X m x) (grow Y m y) (grow D m d) := by
  have hcase : ∀ i, i < m + 1 → i < m ∨ i = m := fun i hi => by omega
  refine ⟨by omega, by omega, fun i hi => ?_, fun i hi => ?_, fun i hi => ?_, fun i hi => ?_, fun i hi => ?_, fun i hi => ?_, fun i j hi hj hij => ?_, fun i j hi hj hij => ?_, h.be⟩
  · rcases hcase i hi with hi | rfl
    · rw [grow_old X x hi, grow_old D d hi]; exact h.hx i hi
    · rw [grow_new, grow_new]; exact hx
  · rcases hcase i hi with hi | rfl
    · rw [grow_old Y y hi, grow_old D d hi]; exact h.hy i hi
    · rw [grow_new, grow_new]; exact hy
  · rcases hcase i hi with hi | rfl
    · rw [grow_old Y y hi]; exact h.fl i hi
    · rw [grow_new]; exact hf
  · rcases hcase i hi with hi | rfl
    · rw [grow_old D d hi]; exact h.ln i hi
    · rw [grow_new]; exact hl
  · rcases hcase i hi with hi | rfl
    · rw [grow_old X x hi]; exact h.nx i hi
    · rw [grow_new]; exact nx
  · rcases hcase i hi with hi | rfl
    · rw [grow_old Y y hi]; exact h.ny i hi
    · rw [grow_new]; exact ny
  · rcases hcase i hi with hi | rfl
    · rw [grow_old X x hi]
      rcases hcase j hj with hj | rfl
      · rw [grow_old X x hj]; exact h.dx i j hi hj hij
      · rw [grow_new]; exact dx i hi
    · rw [grow_new]
      rcases hcase j hj with hj | rfl
      · rw [grow_old X x hj]; exact fun k hk hm => dx j hj k hm hk
      · exact absurd rfl hij
  · rcases hcase i hi with hi | rfl
    · rw [grow_old Y y hi]
      rcases hcase j hj with hj | rfl
      · rw [grow_old Y y hj]; exact h.dy i j hi hj hij
      · rw [grow_new]; exact dy i hi
    · rw [grow_new]
      rcases hcase j hj with hj | rfl
      · rw [grow_old Y y hj]; exact fun k hk hm => dy j hj k hm hk
      · exact absurd rfl hij

/-- the copy: two calls, two rows that grow -/
theorem Fleet.copy {w1 w2 w3 w4 : World} {k : Nat} {x : Pl} {y : RPl} {va' vr' : Value} {o1 o2 : Obj} (h : Fleet w0 wr n N m X Y D va vr) (hm : m < 5) (hk : k < m)
    (hxn : ∀ q, q ∈ x.bl → wr.heap.size ≤ q) (hx : Has w1 x N (D k)) (hb1 : Below wr.heap.size wr w1)
    (hr2 : w2.ownsRow w0.heap.size 23 1 va' (m + 1) (((List.range m).map fun i => ptr (X i).p) ++ [ptr x.p])) (hg2 : (w1.alloc o1).grownBy w2 va.ownBlock)
    (hyn : ∀ q, q ∈ y.bl → w2.heap.size ≤ q) (hy : RHas w3 y (D k)) (hfl : y.fl = (Y k).fl) (hb3 : Below w2.heap.size w2 w3)
    (hr4 : w4.ownsRow w0.heap.size 44 1 vr' (m + 1) (((List.range m).map fun i => ptr (Y i).p) ++ [ptr y.p])) (hg4 : (w3.alloc o2).grownBy w4 vr.ownBlock) :
    Fleet w0 w4 n N (m + 1) (grow X m x) (grow Y m y) (grow D m (D k)) va' vr' := by
  have hb1' : Below wr.heap.size wr (w1.alloc o1) := hb1.alloc hb1.size _
  have hs1 := hb1'.size
  have hfar2 : ∀ q, q ∈ va.ownBlock.toList → q < (w1.alloc o1).heap.size → w0.heap.size ≤ q ∧ Far (w1.alloc o1) q := fun q hq _ => by
    obtain ⟨h1, cur, h2⟩ := row_ty h.ra (Option.mem_toList.1 hq)
    exact ⟨h1, cur, 23, (hb1'.block q (lt_of_heap h2)).trans h2, by decide⟩
  have ht2 := Turn.of_grown hg2
  have c2 : Crew w0 w2 n N m X Y D := (h.crew.below hb1').turn ht2 hfar2
  have hx2 : Has w2 x N (D k) := (hx.below ((Below.refl _ w1).alloc (Nat.le_refl _) o1)).far ht2 fun q hq hl => (hfar2 q hq hl).2
  have hs2 := ht2.size
  have hb3' : Below w2.heap.size w2 (w3.alloc o2) := hb3.alloc hb3.size _
  have hfar4 : ∀ q, q ∈ vr.ownBlock.toList → q < (w3.alloc o2).heap.size → w0.heap.size ≤ q ∧ Far (w3.alloc o2) q := fun q hq _ => by
    obtain ⟨h1, cur, h2⟩ := row_ty h.rr (Option.mem_toList.1 hq)
    have hlt := lt_of_heap h2
    refine ⟨h1, cur, 44, ?_, by decide⟩
    rw [hb3'.block q (by omega), ht2.block q (by omega) (fun hm => ?_), hb1'.block q hlt, h2]
    obtain ⟨_, cur', h2'⟩ := row_ty h.ra (Option.mem_toList.1 hm)
    rw [h2] at h2'
    simp at h2'
  have ht4 := Turn.of_grown hg4
  have c4 : Crew w0 w4 n N m X Y D := (c2.below hb3').turn ht4 hfar4
  have hx4 : Has w4 x N (D k) := (hx2.below hb3').far ht4 fun q hq hl => (hfar4 q hq hl).2
  have hy4 : RHas w4 y (D k) := (hy.below ((Below.refl _ w3).alloc (Nat.le_refl _) o2)).far ht4 fun q hq hl => (hfar4 q hq hl).2
  have hb0 := h.be.size
  have c := c4.add hm hx4 hy4 (by rw [hfl]; exact h.fl k hk) (h.ln k hk) (fun q hq => Nat.le_trans hb0 (hxn q hq)) (fun q hq => by have := hyn q hq; omega)
    (fun i hi q hq hq' => by have := (h.hx i hi).lt q hq; have := hxn q hq'; omega) (fun i hi q hq hq' => by have := (h.hy i hi).m.lt q hq; have := hyn q hq'; omega)
  refine c.fleet ?_ ?_
  · rw [grow_map X m x (fun x => ptr x.p)]
    refine row_keep (w := w2) hr2 fun q hq => ?_
    obtain ⟨_, cur, hcur⟩ := row_ty hr2 hq
    have hlt := lt_of_heap hcur
    rw [ht4.block q (Nat.lt_of_lt_of_le hlt hb3'.size) (fun hm => ?_), hb3'.block q hlt]
    obtain ⟨_, cur', h2'⟩ := row_ty h.rr (Option.mem_toList.1 hm)
    have hlt' := lt_of_heap h2'
    have : w2.heap[q]? = some (.cells cur' 44 (0, 0)) := by
      rw [ht2.block q (by omega) (fun hm' => ?_), hb1'.block q hlt', h2']
      obtain ⟨_, cur2, h22⟩ := row_ty h.ra (Option.mem_toList.1 hm')
      rw [h2'] at h22
      simp at h22
    rw [this] at hcur
    simp at hcur
  · rw [grow_map Y m y (fun y => ptr y.p)]
    exact hr4

theorem Fleet.start {w1 w2 : World} {x : Pl} {y : RPl} {d : Dk.Dev} {o1 o2 : Obj} (hx : Has w1 x N d) (hxn : ∀ q, q ∈ x.bl → w0.heap.size ≤ q) (hb1 : Below w0.heap.size w0 w1)
    (ho1 : o1 = .cells #[ptr x.p] 23 (0, 0)) (hy : RHas w2 y d) (hyn : ∀ q, q ∈ y.bl → (w1.alloc o1).heap.size ≤ q) (hb2 : Below (w1.alloc o1).heap.size (w1.alloc o1) w2) (ho2 : o2 = .cells #[ptr y.p] 44 (0, 0)) (hf : y.fl.length ≤ N) (hl : d.st.length = n) :
    Fleet w0 (w2.alloc o2) n N 1 (fun _ => x) (fun _ => y) (fun _ => d) (.slice (some ⟨w1.heap.size, 0, none⟩) 1 1) (.slice (some ⟨w2.heap.size, 0, none⟩) 1 1) := by
  have hs1 : (w1.alloc o1).heap.size = w1.heap.size + 1 := alloc_size w1 o1
  have hs0 := hb1.size
  have hs2 := hb2.size
  have hba : Below w0.heap.size w0 (w1.alloc o1) := hb1.alloc hs0 o1
  have hbB : Below w2.heap.size w2 (w2.alloc o2) := (Below.refl _ w2).alloc (Nat.le_refl _) o2
  have hbe : Below w0.heap.size w0 (w2.alloc o2) := (hba.trans (hb2.mono (by omega))).trans (hbB.mono (by omega))
  have hx2 : Has (w2.alloc o2) x N d := ((hx.below ((Below.refl _ w1).alloc (Nat.le_refl _) o1)).below hb2).below hbB
  refine ⟨by omega, by omega, fun _ _ => hx2, fun _ _ => hy.below hbB, fun _ _ => hf, fun _ _ => hl, fun _ _ => hxn, fun _ _ q hq => by have := hyn q hq; omega, fun i j hi hj hij => by omega, fun i j hi hj hij => by omega, ?_, ?_, hbe⟩
  · subst ho1
    refine ⟨rfl, .inr ⟨w1.heap.size, 1, #[ptr x.p], rfl, hs0, ?_, Nat.le_refl _, by decide, rfl, rfl⟩⟩
    rw [hbB.block _ (by omega), hb2.block _ (by omega)]
    exact heap_alloc_new w1 _
  · subst ho2
    exact ⟨rfl, .inr ⟨w2.heap.size, 1, #[ptr y.p], rfl, by omega, heap_alloc_new w2 _, Nat.le_refl _, by decide, rfl, rfl⟩⟩
end

/-! the calls as they come in -/
structure CalR where
  kind : Int
  who : Int
  i : Int
  after : Int
  e : Int
  torn : Int
  short : Int
  b : UInt8
  vk : Value
  kl : List Bool
def CalR.cells (c : CalR) : Array Value := calV c.kind c.who c.i c.after c.e c.torn c.short c.b c.vk
def CalR.none : CalR := ⟨0, 0, 0, 0, 0, 0, 0, 0, .slice Option.none 0 0, []⟩
def CalS (w : World) (B : Nat) (v : Value) (l : List CalR) : Prop :=
  ∃ ad c, v = .slice ad l.length c ∧ (∀ j, j < l.length → Bols w B (l.getD j CalR.none).vk (l.getD j CalR.none).kl ∧ (l.getD j CalR.none).kl.length ≤ 140737488355328) ∧
    (l ≠ [] → ∃ b o, ad = some ⟨b, o, Option.none⟩ ∧ b < B ∧ ∀ j, j < l.length → ∀ t v, (l.getD j CalR.none).cells[t]? = some v → w.cell? ⟨b, o + j * 9 + t, Option.none⟩ = some v)
end Go.Proofs.Ytccfoafcfnhejaa
