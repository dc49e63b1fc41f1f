/-
  A DEVICE IN MEMORY; WHAT A CALL MAY TURN.
-/
import Derived.Test.YtccfoafcfnhejaaMp
import Derived.Test.YtccfoafcfnhejaaBytes
import Derived.Test.YtccfoafcfnhejaaDev
import Derived.Deep.MidRow
namespace Go.Proofs.Ytccfoafcfnhejaa
open Go.RowKit Go.Maps Go.ChangeMaps

/-- w' is w, but for the blocks of S and what is new -/
structure Turn (S : List Nat) (w w' : World) : Prop where
  os : w'.os = w.os
  tape : w'.tape = w.tape
  output : w'.output = w.output
  size : w.heap.size ≤ w'.heap.size
  block : ∀ k, k < w.heap.size → k ∉ S → w'.heap[k]? = w.heap[k]?

theorem Turn.refl (S : List Nat) (w : World) : Turn S w w := ⟨rfl, rfl, rfl, Nat.le_refl _, fun _ _ _ => rfl⟩
theorem Turn.trans {S S' : List Nat} {a b c : World} (h : Turn S a b) (k : Turn S' b c) (hs : ∀ x, x ∈ S' → x < a.heap.size → x ∈ S) : Turn S a c :=
  ⟨k.os.trans h.os, k.tape.trans h.tape, k.output.trans h.output, Nat.le_trans h.size k.size, fun i hi hn => (k.block i (Nat.lt_of_lt_of_le hi h.size) (fun hx => hn (hs i hx hi))).trans (h.block i hi hn)⟩
theorem Turn.mono {S S' : List Nat} {a b : World} (h : Turn S a b) (hs : ∀ x, x ∈ S → x < a.heap.size → x ∈ S') : Turn S' a b :=
  ⟨h.os, h.tape, h.output, h.size, fun i hi hn => h.block i hi (fun hx => hn (hs i hx hi))⟩
theorem Turn.of_below {a b : World} (h : Below a.heap.size a b) : Turn [] a b := ⟨h.os, h.tape, h.output, h.size, fun i hi _ => h.block i hi⟩
theorem Turn.of_grown {a b : World} {row : Option Nat} (h : a.grownBy b row) : Turn row.toList a b := ⟨h.os, h.tape, h.output, h.size, fun i hi hn => h.block i hi (fun e => hn (by subst e; simp))⟩
theorem Turn.below {S : List Nat} {a b : World} (h : Turn S a b) (hs : ∀ x, x ∈ S → a.heap.size ≤ x) : Below a.heap.size a b :=
  ⟨h.os, h.tape, h.output, h.size, fun i hi => h.block i hi (fun hx => by have := hs i hx; omega)⟩
theorem Turn.alloc {S : List Nat} {a b : World} (h : Turn S a b) (o : Obj) : Turn S a (b.alloc o) :=
  h.trans (Turn.of_below ((Below.refl _ b).alloc (Nat.le_refl _) o)) (by simp)
theorem Turn.drew {S : List Nat} {a b : World} (h : Turn S a b) : Turn S a b.drew := ⟨h.os, h.tape, h.output, h.size, h.block⟩
theorem Turn.set {S : List Nat} {a b : World} (h : Turn S a b) {p : Addr} (hp : p.block < a.heap.size → p.block ∈ S) (v : Value) : Turn S a (b.setCell p v) :=
  ⟨h.os, h.tape, h.output, by have := h.size; simpa [World.setCell] using this, fun i hi hn => (Below.heap_setCell b p v i (fun e => hn (by subst e; exact hp hi))).trans (h.block i hi hn)⟩
theorem Turn.belowTrans {S : List Nat} {a b c : World} (h : Turn S a b) (k : Below b.heap.size b c) : Turn S a c := h.trans (Turn.of_below k) (by simp)
theorem Turn.grow {S : List Nat} {a b c : World} {row : Option Nat} (h : Turn S a b) (k : b.grownBy c row) (hs : ∀ x, row = some x → x < a.heap.size → x ∈ S) : Turn S a c :=
  h.trans (Turn.of_grown k) (fun x hx hl => hs x (by simpa using hx) hl)

theorem lt_of_heap {w : World} {b : Nat} {o : Obj} (h : w.heap[b]? = some o) : b < w.heap.size := (Array.getElem?_eq_some_iff.1 h).1

/-- a block as a value -/
def aggB (b : Dk.Blk) : Value := .agg (bV b).toArray

structure Pl where
  p : Nat
  g : Nat
  cap : Nat
  md : Nat
  mf : Nat

def Pl.bl (x : Pl) : List Nat := [x.p, x.g, x.md, x.mf]

/-- block g holds the blocks st, cap of them may lie there -/
def Stab (w : World) (g cap : Nat) (st : List Dk.Blk) : Prop :=
  ∃ cur : Array Value, w.heap[g]? = some (.cells cur 78 (0, 0)) ∧ cur.size = cap * 256 ∧ st.length ≤ cap ∧ (∀ i, i < st.length → (st.getD i []).length = 256) ∧ ∀ i j, i < st.length → j < 256 → cur[i * 256 + j]? = some (.int .u8 (((st.getD i []).getD j 0).toNat : Int))

def fields (x : Pl) (d : Dk.Dev) : Array Value := #[.slice (some ⟨x.g, 0, none⟩) d.st.length x.cap, .map (some x.md), .int .i64 d.la, .int .i64 (d.op : Int), .map (some x.mf), .int .i64 d.cu]

/-- the device d lies in w at the place x; at most N entries lie in each of its maps, at most N operations were -/
structure Has (w : World) (x : Pl) (N : Nat) (d : Dk.Dev) : Prop where
  hp : w.heap[x.p]? = some (.cells (fields x d) 72 (0, 0))
  hg : Stab w x.g x.cap d.st
  hd : MapOf w x.md N (fun i => (d.di i).map aggB)
  hf : MapOf w x.mf N (fun i => (d.fa i).map (Value.int .i64))
  ok : Dk.Ok d
  ne : x.md ≠ x.mf
  hop : d.op ≤ N
  hcap : x.cap ≤ maxLen

theorem Has.mono {w : World} {x : Pl} {N N' : Nat} {d : Dk.Dev} (h : Has w x N d) (hN : N ≤ N') : Has w x N' d :=
  ⟨h.hp, h.hg, h.hd.mono hN, h.hf.mono hN, h.ok, h.ne, Nat.le_trans h.hop hN, h.hcap⟩

theorem Stab.lt {w : World} {g cap : Nat} {st : List Dk.Blk} (h : Stab w g cap st) : g < w.heap.size := by
  obtain ⟨cur, h1, _⟩ := h
  exact lt_of_heap h1
theorem Stab.of_block {w w' : World} {g cap : Nat} {st : List Dk.Blk} (h : Stab w g cap st) (hb : w'.heap[g]? = w.heap[g]?) : Stab w' g cap st := by
  obtain ⟨cur, h1, h2⟩ := h
  exact ⟨cur, hb.trans h1, h2⟩
theorem Has.plt {w : World} {x : Pl} {N : Nat} {d : Dk.Dev} (h : Has w x N d) : x.p < w.heap.size := lt_of_heap h.hp
theorem Has.apart {w : World} {x : Pl} {N : Nat} {d : Dk.Dev} (h : Has w x N d) : x.p ≠ x.g ∧ x.p ≠ x.md ∧ x.p ≠ x.mf ∧ x.g ≠ x.md ∧ x.g ≠ x.mf := by
  obtain ⟨cur, h1, -⟩ := h.hg
  obtain ⟨es, c, h2⟩ := h.hd.isMap
  obtain ⟨es', c', h3⟩ := h.hf.isMap
  have h0 := h.hp
  refine ⟨fun e => ?_, fun e => ?_, fun e => ?_, fun e => ?_, fun e => ?_⟩
  · rw [e, h1] at h0; simp at h0
  · rw [e, h2] at h0; simp at h0
  · rw [e, h3] at h0; simp at h0
  · rw [e, h2] at h1; simp at h1
  · rw [e, h3] at h1; simp at h1
/-- what does not touch its blocks leaves it -/
theorem Has.of_blocks {w w' : World} {x : Pl} {N : Nat} {d : Dk.Dev} (h : Has w x N d) (hb : ∀ k, k ∈ x.bl → w'.heap[k]? = w.heap[k]?) : Has w' x N d :=
  ⟨(hb _ (by simp [Pl.bl])).trans h.hp, h.hg.of_block (hb _ (by simp [Pl.bl])), h.hd.of_block (hb _ (by simp [Pl.bl])), h.hf.of_block (hb _ (by simp [Pl.bl])), h.ok, h.ne, h.hop, h.hcap⟩
theorem Has.lt {w : World} {x : Pl} {N : Nat} {d : Dk.Dev} (h : Has w x N d) : ∀ k, k ∈ x.bl → k < w.heap.size := by
  intro k hk
  simp only [Pl.bl, List.mem_cons, List.not_mem_nil, or_false] at hk
  rcases hk with rfl | rfl | rfl | rfl
  · exact h.plt
  · exact h.hg.lt
  · exact h.hd.lt
  · exact h.hf.lt
theorem Has.turn {w w' : World} {x : Pl} {N : Nat} {d : Dk.Dev} {S : List Nat} (h : Has w x N d) (ht : Turn S w w') (hs : ∀ k, k ∈ x.bl → k ∉ S) : Has w' x N d :=
  h.of_blocks fun k hk => ht.block k (h.lt k hk) (hs k hk)
theorem Has.below {w w' : World} {x : Pl} {N : Nat} {d : Dk.Dev} (h : Has w x N d) (ht : Below w.heap.size w w') : Has w' x N d :=
  h.of_blocks fun k hk => ht.block k (h.lt k hk)
theorem Has.drew {w : World} {x : Pl} {N : Nat} {d : Dk.Dev} (h : Has w x N d) : Has w.drew x N d := h.of_blocks fun _ _ => rfl

/-- the cells of the object -/
theorem Has.cells {w : World} {x : Pl} {N : Nat} {d : Dk.Dev} (h : Has w x N d) :
    w.cell? ⟨x.p, 0, none⟩ = some (.slice (some ⟨x.g, 0, none⟩) d.st.length x.cap) ∧ w.cell? ⟨x.p, 1, none⟩ = some (.map (some x.md)) ∧ w.cell? ⟨x.p, 2, none⟩ = some (.int .i64 d.la) ∧
    w.cell? ⟨x.p, 3, none⟩ = some (.int .i64 (d.op : Int)) ∧ w.cell? ⟨x.p, 4, none⟩ = some (.map (some x.mf)) ∧ w.cell? ⟨x.p, 5, none⟩ = some (.int .i64 d.cu) ∧ (∀ j, w.frozen? ⟨x.p, j, none⟩ = false) := by
  have h0 := h.hp
  refine ⟨?_, ?_, ?_, ?_, ?_, ?_, fun j => by simp [World.frozen?, h0]⟩ <;> (rw [cell_of_row w x.p _ _ 72 (0, 0) h0]; rfl)

/-- many cells of one block are set -/
theorem heap_setCells (g : Nat) (t : TypeId) (fr : Nat × Nat) : ∀ (vs : List Value) (o : Nat) (w : World) (cur : Array Value), w.heap[g]? = some (.cells cur t fr) →
    ∃ cur', (w.setCells g o vs).heap[g]? = some (.cells cur' t fr) ∧ cur'.size = cur.size ∧ ∀ j, cur'[j]? = if o ≤ j ∧ j < o + vs.length ∧ j < cur.size then vs[j - o]? else cur[j]?
  | [], o, w, cur, h => ⟨cur, h, rfl, fun j => by rw [if_neg (by simp; omega)]⟩
  | v :: r, o, w, cur, h => by
    have hlt := lt_of_heap h
    have h1 : w.heap[g] = .cells cur t fr := by rw [Array.getElem?_eq_getElem hlt] at h; exact Option.some.inj h
    have h2 : (w.setCell ⟨g, o, none⟩ v).heap[g]? = some (.cells (cur.setIfInBounds o v) t fr) := by
      simp [World.setCell, hlt]
      rw [Array.getElem_modify_self, h1]
    obtain ⟨cur', h3, h4, h5⟩ := heap_setCells g t fr r (o + 1) _ _ h2
    refine ⟨cur', by rw [World.setCells]; exact h3, by simpa using h4, fun j => ?_⟩
    rw [h5 j]
    simp only [Array.size_setIfInBounds, List.length_cons]
    by_cases hj : o = j
    · subst hj
      rw [if_neg (by omega)]
      by_cases hs : o < cur.size
      · rw [if_pos ⟨Nat.le_refl _, by omega, hs⟩]
        simp [hs]
      · rw [if_neg (by omega)]
        simp [hs]
    · by_cases hc : o + 1 ≤ j ∧ j < o + 1 + r.length ∧ j < cur.size
      · rw [if_pos hc, if_pos (by omega), show j - o = (j - (o + 1)) + 1 by omega]
        simp
      · rw [if_neg hc, if_neg (by omega), Array.getElem?_setIfInBounds_ne hj]
theorem heap_setCells_other (g : Nat) {k : Nat} (hk : k ≠ g) : ∀ (vs : List Value) (o : Nat) (w : World), (w.setCells g o vs).heap[k]? = w.heap[k]?
  | [], _, _ => rfl
  | v :: r, o, w => by rw [World.setCells, heap_setCells_other g hk r (o + 1)]; exact Below.heap_setCell w ⟨g, o, none⟩ v k hk
theorem setCells_size (g : Nat) : ∀ (vs : List Value) (o : Nat) (w : World), (w.setCells g o vs).heap.size = w.heap.size ∧ (w.setCells g o vs).os = w.os ∧ (w.setCells g o vs).tape = w.tape ∧ (w.setCells g o vs).output = w.output
  | [], _, _ => ⟨rfl, rfl, rfl, rfl⟩
  | v :: r, o, w => by
    obtain ⟨h1, h2, h3, h4⟩ := setCells_size g r (o + 1) (w.setCell ⟨g, o, none⟩ v)
    rw [World.setCells]
    exact ⟨h1.trans (by simp [World.setCell]), h2, h3, h4⟩
theorem grown_setCells (g o : Nat) (vs : List Value) (w : World) : w.grownBy (w.setCells g o vs) (some g) := by
  obtain ⟨h1, h2, h3, h4⟩ := setCells_size g vs o w
  exact ⟨h2, h3, h4, by omega, fun k _ hn => heap_setCells_other g (fun e => hn (by rw [e])) vs o w⟩

theorem stab_getD_set (st : List Dk.Blk) (i j : Nat) (b : Dk.Blk) (hi : i < st.length) : (st.set i b).getD j [] = if j = i then b else st.getD j [] := by
  simp only [List.getD, List.getElem?_set]
  by_cases h : i = j
  · subst h; simp [hi]
  · rw [if_neg h, if_neg (fun e => h e.symm)]

theorem bV_get {l : List UInt8} {j : Nat} (h : j < l.length) : (bV l)[j]? = some (.int .u8 ((l.getD j 0).toNat : Int)) := by
  simp [bV, List.getD, List.getElem?_eq_getElem h]

/-- the first bytes of a block are written over -/
theorem Stab.set {w : World} {g cap : Nat} {st : List Dk.Blk} (h : Stab w g cap st) {i : Nat} (hi : i < st.length) (b : Dk.Blk) (hb : b.length ≤ 256) :
    Stab (w.setCells g (i * 256) (bV b)) g cap (st.set i (b ++ (st.getD i []).drop b.length)) := by
  obtain ⟨cur, h1, h2, h3, h4, h5⟩ := h
  obtain ⟨cur', h6, h7, h8⟩ := heap_setCells g 78 (0, 0) (bV b) (i * 256) w cur h1
  have hl := h4 i hi
  refine ⟨cur', h6, by omega, by simpa using h3, fun j hj => ?_, fun k j hk hj => ?_⟩
  · rw [List.length_set] at hj
    rw [stab_getD_set _ _ _ _ hi]
    split
    · rw [List.length_append, List.length_drop, hl]; omega
    · exact h4 j hj
  · rw [List.length_set] at hk
    rw [stab_getD_set _ _ _ _ hi, h8, bV_length]
    by_cases e : k = i
    · subst e
      rw [if_pos rfl]
      by_cases hjb : j < b.length
      · have : k * 256 + j < cur.size := by rw [h2]; have : k * 256 + 256 ≤ cap * 256 := by have := Nat.mul_le_mul_right 256 (show k + 1 ≤ cap by omega); omega
                                            omega
        rw [if_pos ⟨by omega, by omega, this⟩, show k * 256 + j - k * 256 = j by omega, bV_get hjb]
        simp [List.getD, List.getElem?_append_left hjb]
      · rw [if_neg (by omega), h5 k j hk hj]
        congr 4
        simp only [List.getD]
        rw [List.getElem?_append_right (by omega), List.getElem?_drop, show b.length + (j - b.length) = j by omega]
    · rw [if_neg e, if_neg (by omega), h5 k j hk hj]

theorem Stab.cell {w : World} {g cap : Nat} {st : List Dk.Blk} (h : Stab w g cap st) {i j : Nat} (hi : i < st.length) (hj : j < 256) : w.cell? ⟨g, i * 256 + j, none⟩ = some (.int .u8 (((st.getD i []).getD j 0).toNat : Int)) := by
  obtain ⟨cur, h1, h2, h3, h4, h5⟩ := h
  rw [cell_of_row w g _ cur 78 (0, 0) h1, h5 i j hi hj]
theorem Stab.len {w : World} {g cap : Nat} {st : List Dk.Blk} (h : Stab w g cap st) {i : Nat} (hi : i < st.length) : (st.getD i []).length = 256 := by
  obtain ⟨cur, h1, h2, h3, h4, h5⟩ := h
  exact h4 i hi
theorem Stab.free {w : World} {g cap : Nat} {st : List Dk.Blk} (h : Stab w g cap st) (j : Nat) : w.frozen? ⟨g, j, none⟩ = false := by
  obtain ⟨cur, h1, _⟩ := h
  simp [World.frozen?, h1]
theorem Stab.there {w : World} {g cap : Nat} {st : List Dk.Blk} (h : Stab w g cap st) {i n : Nat} (hi : i < st.length) (hn : n ≤ 256) : w.there g (i * 256) n := fun j hj =>
  ⟨by rw [h.cell hi (by omega)]; rfl, h.free _⟩
theorem Stab.byts {w : World} {g cap : Nat} {st : List Dk.Blk} (h : Stab w g cap st) {i : Nat} (hi : i < st.length) : Byts w (g + 1) (.slice (some ⟨g, i * 256, none⟩) 256 256) (st.getD i []) := by
  have hl := h.len hi
  refine ⟨_, _, by rw [hl], by omega, (fun e => by cases e), fun _ => ⟨g, i * 256, rfl, by omega, fun j hj => h.cell hi (by omega)⟩⟩

theorem info78 : (Try.prog.info? 78).map (·.size) = some 256 := by kernel_rfl
end Go.Proofs.Ytccfoafcfnhejaa
