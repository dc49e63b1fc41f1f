/-
  THE PROGRAM's TREE IN MEMORY: its files' map, how many changes there were, the last of them in a ring.
-/
import Derived.Test.YtifolddmcibkdaaTMissed
import Derived.Test.YtifolddmcibkdaaTKit
import Derived.Test.YtifolddmcibkdaaMpV
import Derived.Test.YtifolddmcibkdaaSeqOf
import Derived.Test.YtifolddmcibkdaaPXS
namespace Go.Proofs.Ytifolddmcibkdaa
open Go.RowKit Go.Shelf

/-- a file as a value -/
def fileV (s : ByteArray) : Value := .agg #[.string s]
/-- a ring that bears the last changes -/
def Ring (J : List ByteArray) (chs : List ByteArray) : Prop := J.length = 32 ∧ ∀ n, n < chs.length → chs.length ≤ n + 32 → J.getD (n % 32) .empty = chs.getD n .empty
/-- a tree's cells -/
def treeCs (mv : Option Nat) (n : Nat) (J : List ByteArray) : Array Value := (Value.map mv :: .int .i64 (n : Int) :: J.map Value.string).toArray
/-- the files: none and no map, or a map -/
def FilesM (w : World) (mv : Option Nat) (l : List Tm.Fl) : Prop := (mv = none ∧ l = []) ∨ ∃ b, mv = some b ∧ MapV fileV w b l.length (Tm.look l)
/-- block g is the program's tree t; its blocks are S -/
def HasT (w : World) (g : Nat) (t : Tm.T) (S : List Nat) : Prop :=
  ∃ mv J, w.heap[g]? = some (.cells (treeCs mv t.chs.length J) 32 (0, 0)) ∧ Ring J t.chs ∧ FilesM w mv t.files ∧ S = g :: mv.toList

theorem FilesM.of {w w' : World} {mv : Option Nat} {l : List Tm.Fl} (h : FilesM w mv l) (hb : ∀ b, mv = some b → w'.heap[b]? = w.heap[b]?) : FilesM w' mv l := by
  rcases h with h | ⟨b, rfl, h⟩
  · exact .inl h
  · exact .inr ⟨b, rfl, h.of_block (hb b rfl)⟩
theorem HasT.keep {w w' : World} {g : Nat} {t : Tm.T} {S : List Nat} (h : HasT w g t S) (hk : KeepD S w w') : HasT w' g t S := by
  obtain ⟨mv, J, hb, hr, hf, rfl⟩ := h
  exact ⟨mv, J, (hk g (by simp)).trans hb, hr, hf.of fun b e => hk b (by simp [e]), rfl⟩
theorem HasT.lt {w : World} {g : Nat} {t : Tm.T} {S : List Nat} (h : HasT w g t S) : ∀ b ∈ S, b < w.heap.size := by
  obtain ⟨mv, J, hb, hr, hf, rfl⟩ := h
  intro b hm
  simp only [List.mem_cons, Option.mem_toList] at hm
  rcases hm with rfl | hm
  · exact (Array.getElem?_eq_some_iff.1 hb).1
  · rcases hf with ⟨rfl, -⟩ | ⟨c, rfl, hM⟩
    · simp at hm
    · simp only [Option.some.injEq] at hm
      subst hm
      exact hM.lt
theorem HasT.turn {w w' : World} {g : Nat} {t : Tm.T} {S S' : List Nat} (h : HasT w g t S) (ht : Turn S' w w') (hd : ∀ b ∈ S, b ∉ S') : HasT w' g t S := h.keep fun b hb => ht.block b (h.lt b hb) (hd b hb)
theorem HasT.below {w w' : World} {g : Nat} {t : Tm.T} {S : List Nat} (h : HasT w g t S) (hb : Below w.heap.size w w') : HasT w' g t S := h.turn (Turn.of_below hb) (by simp)
/-- what a call leaves -/
def LeavesT (w w' : World) (g : Nat) (t' : Tm.T) (S : List Nat) : Prop := ∃ S', HasT w' g t' S' ∧ (∀ b ∈ S', b ∈ S ∨ w.heap.size ≤ b) ∧ Turn S w w'

/-- what a zero Tree's cells hold -/
def noughtJ : List ByteArray := List.replicate 32 .empty
def zeroTree : Array Value := treeCs none 0 noughtJ
theorem HasT.zeroed (w : World) : HasT (w.alloc (.cells zeroTree 32)) w.heap.size Tm.T.zero [w.heap.size] :=
  ⟨none, noughtJ, heap_alloc_new w _, ⟨rfl, fun n h _ => by simp [Tm.T.zero] at h⟩, .inl ⟨rfl, rfl⟩, rfl⟩

/-- a tree's cells, one by one -/
theorem tree_cells {w : World} {g : Nat} {mv : Option Nat} {n : Nat} {J : List ByteArray} (hb : w.heap[g]? = some (.cells (treeCs mv n J) 32 (0, 0))) :
    w.cell? ⟨g, 0, none⟩ = some (.map mv) ∧ w.cell? ⟨g, 1, none⟩ = some (.int .i64 (n : Int)) ∧ (∀ i, i < J.length → w.cell? ⟨g, 2 + i, none⟩ = some (.string (J.getD i .empty))) ∧ (∀ j, w.frozen? ⟨g, j, none⟩ = false) := by
  refine ⟨(cell_of_row w g 0 _ _ (0, 0) hb).trans rfl, (cell_of_row w g 1 _ _ (0, 0) hb).trans rfl, fun i hi => ?_, fun j => by simp [World.frozen?, hb]⟩
  rw [cell_of_row w g (2 + i) _ _ (0, 0) hb]
  simp [treeCs, Nat.add_comm 2 i, List.getD, hi]
theorem treeCs_map (mv mv' : Option Nat) (n : Nat) (J : List ByteArray) : (treeCs mv n J).setIfInBounds 0 (.map mv') = treeCs mv' n J := by simp [treeCs]
theorem treeCs_len (mv : Option Nat) (n n' : Nat) (J : List ByteArray) : (treeCs mv n J).setIfInBounds 1 (.int .i64 (n' : Int)) = treeCs mv n' J := by simp [treeCs]
theorem treeCs_ring (mv : Option Nat) (n i : Nat) (J : List ByteArray) (p : ByteArray) : (treeCs mv n J).setIfInBounds (2 + i) (.string p) = treeCs mv n (J.set i p) := by
  simp [treeCs, Nat.add_comm 2 i, List.map_set]
theorem Ring.step {J chs : List ByteArray} (h : Ring J chs) (p : ByteArray) : Ring (J.set (chs.length % 32) p) (chs ++ [p]) := by
  refine ⟨by simp [h.1], fun n hn hm => ?_⟩
  rw [List.length_append, List.length_singleton] at hn hm
  have hlt : chs.length % 32 < J.length := by rw [h.1]; omega
  rcases Nat.lt_or_ge n chs.length with hl | hl
  · have hne : chs.length % 32 ≠ n % 32 := by omega
    have := h.2 n hl (by omega)
    simp only [List.getD_eq_getElem?_getD] at this ⊢
    rw [List.getElem?_set_ne hne, List.getElem?_append_left hl, this]
  · have : n = chs.length := by omega
    subst this
    simp only [List.getD_eq_getElem?_getD]
    rw [List.getElem?_set_self hlt]
    simp

set_option maxRecDepth 100000 in
theorem Is_all (s : ByteArray) (w : World) : Calls Try.prog 24 #[.string s] w fun e w' => e = .returned (.bool (Tm.isPath s)) ∧ Below w.heap.size w w' := by
  by_cases h60 : s.size ≤ 60
  · exact Is_any s w (by omega)
  · have HP : Hid (Tm.isPath s = false) := by show _ = _; unfold Tm.isPath Pm.isP; rw [decide_eq_false (by rw [bs_length]; exact h60), Bool.false_and]
    have i0 : (60 : Int) < (s.size : Int) := by omega
    go_enter Try.func24, Try.ntmps24
    go_wp2
    go_ret
    exact ⟨by rw [HP.out]; rfl, Below.refl _ _⟩
theorem path_short {p : ByteArray} (h : Tm.isPath p = true) : p.size ≤ 60 := by
  unfold Tm.isPath Pm.isP at h
  simp only [Bool.and_eq_true, decide_eq_true_eq] at h
  have := h.1
  rwa [bs_length] at this

end Go.Proofs.Ytifolddmcibkdaa
