/-
  A REPLACER IN MEMORY: its table, its row, what replaces a byte.
-/
import Derived.Test.YtppcfidaalejfaaRw
import Derived.Test.YtppcfidaalejfaaPBs
import Derived.Test.YtppcfidaalejfaaBytesL
import Derived.Test.YtppcfidaalejfaaDZSync
import Derived.Deep.WholeRow
namespace Go.Proofs.Ytppcfidaalejfaa
open Go.RowKit

/-- the texts that a replacer is made of -/
def rp6 : List (List UInt8) := [[32], [92, 32], [58], [92, 58], [92], [92, 92]]

theorem zero132 : Try.zeroCells132 = Array.replicate 257 (.slice none 0 0) := by kernel_rfl
theorem info132 : (Try.prog.info? 132).map (·.size) = some 257 := by kernel_rfl
/-- block b is a replacer: what replaces the byte k is g k, tv the row of the bytes that are replaced -/
def RB (w : World) (b : Nat) (g : Nat → Value) (tv : Value) : Prop := ∃ cs, Rw w b cs 132 ∧ cs.size = 257 ∧ (∀ k, k < 256 → cs[k]? = some (g k)) ∧ cs[256]? = some tv
theorem RB.cell {w : World} {b : Nat} {g : Nat → Value} {tv : Value} (h : RB w b g tv) {k : Nat} (hk : k < 256) : w.cell? ⟨b, k, none⟩ = some (g k) := by
  obtain ⟨cs, h1, -, h3, -⟩ := h
  rw [h1.cell k]
  exact h3 k hk
theorem RB.row {w : World} {b : Nat} {g : Nat → Value} {tv : Value} (h : RB w b g tv) : w.cell? ⟨b, 256, none⟩ = some tv := by
  obtain ⟨cs, h1, -, -, h4⟩ := h
  rw [h1.cell 256]
  exact h4
theorem RB.free {w : World} {b : Nat} {g : Nat → Value} {tv : Value} (h : RB w b g tv) (k : Nat) : w.frozen? ⟨b, k, none⟩ = false := by
  obtain ⟨cs, h1, -⟩ := h
  exact h1.free k
theorem RB.lt {w : World} {b : Nat} {g : Nat → Value} {tv : Value} (h : RB w b g tv) : b < w.heap.size := by
  obtain ⟨cs, h1, -⟩ := h
  exact h1.lt
theorem RB.turn {w w' : World} {b : Nat} {g : Nat → Value} {tv : Value} {S : List Nat} (h : RB w b g tv) (hT : Turn S w w') (hb : b ∉ S) : RB w' b g tv := by
  obtain ⟨cs, h1, h2⟩ := h
  exact ⟨cs, h1.turn hT hb, h2⟩
theorem RB.set {w : World} {b : Nat} {g : Nat → Value} {tv : Value} (h : RB w b g tv) (k : Nat) (hk : k < 256) (v : Value) : RB (w.setCell ⟨b, k, none⟩ v) b (fun i => if i = k then v else g i) tv := by
  obtain ⟨cs, h1, h2, h3, h4⟩ := h
  refine ⟨_, h1.set k v (by omega), by simp [h2], fun i hi => ?_, ?_⟩
  · show _ = some (if i = k then v else g i)
    rw [Array.getElem?_set]
    by_cases hik : i = k
    · rw [if_pos hik.symm, if_pos hik]
    · rw [if_neg (fun e => hik e.symm), if_neg hik]
      exact h3 i hi
  · rw [Array.getElem?_set, if_neg (by omega)]
    exact h4
theorem RB.setRow {w : World} {b : Nat} {g : Nat → Value} {tv : Value} (h : RB w b g tv) (v : Value) : RB (w.setCell ⟨b, 256, none⟩ v) b g v := by
  obtain ⟨cs, h1, h2, h3, h4⟩ := h
  refine ⟨_, h1.set 256 v (by omega), by simp [h2], fun i hi => ?_, ?_⟩
  · rw [Array.getElem?_set, if_neg (by omega)]
    exact h3 i hi
  · rw [Array.getElem?_set, if_pos rfl]
theorem RB.new (w : World) (v : Value) : RB (w.alloc (.cells (Try.zeroCells132.setIfInBounds 256 v) 132)) w.heap.size (fun _ => .slice none 0 0) v := by
  refine ⟨_, Rw.new w _ _, by rw [zero132]; simp, fun k hk => ?_, ?_⟩
  · rw [zero132, Array.getElem?_setIfInBounds, if_neg (by omega), Array.getElem?_replicate, if_pos (by omega)]
  · rw [zero132, Array.getElem?_setIfInBounds, if_pos rfl, if_pos (by simp)]
theorem store132 (W : World) (v : Value) (hv : v.oneCell' = true) : (storeCells ⟨W.heap.size, 0, none⟩ (Try.zeroCells132.toList.set 256 v)).run Try.prog (W.alloc (.cells Try.zeroCells132 132)) = .ok () (W.alloc (.cells (Try.zeroCells132.setIfInBounds 256 v) 132)) := by
  rw [← Array.toList_setIfInBounds]
  refine run_storeCells_new W 132 _ _ (by rw [info132, zero132]; simp) (by rw [zero132]; simp) ?_
  rw [zero132, Array.all_eq_true_iff_forall_mem]
  intro x hx
  rw [Array.mem_iff_getElem?] at hx
  obtain ⟨i, hi⟩ := hx
  rw [Array.getElem?_setIfInBounds] at hi
  split at hi
  · split at hi
    · rw [← Option.some.inj hi]; exact hv
    · cases hi
  · rw [Array.getElem?_replicate] at hi
    split at hi
    · rw [← Option.some.inj hi]; rfl
    · cases hi

/-- the first cells of block g are these bytes, and may be written -/
def UpB (w : World) (g : Nat) (X : List UInt8) : Prop := ∃ cs fz, w.heap[g]? = some (.cells cs 5 fz) ∧ X.length ≤ cs.size ∧ cs.size ≤ fz.1 ∧ ∀ j, j < X.length → cs[j]? = some (.int .u8 ((X.getD j 0).toNat : Int))
theorem UpB.lt {w : World} {g : Nat} {X : List UInt8} (h : UpB w g X) : g < w.heap.size := by
  obtain ⟨cs, fz, h1, -⟩ := h
  exact (Array.getElem?_eq_some_iff.1 h1).1
theorem UpB.cell {w : World} {g : Nat} {X : List UInt8} (h : UpB w g X) (j : Nat) (hj : j < X.length) : w.cell? ⟨g, j, none⟩ = some (.int .u8 ((X.getD j 0).toNat : Int)) := by
  obtain ⟨cs, fz, h1, h2, h3, h4⟩ := h
  rw [cell_of_row w g j cs 5 fz h1]
  exact h4 j hj
theorem UpB.free {w : World} {g : Nat} {X : List UInt8} (h : UpB w g X) (j : Nat) (hj : j < X.length) : w.frozen? ⟨g, j, none⟩ = false := by
  obtain ⟨cs, fz, h1, h2, h3, h4⟩ := h
  simp [World.frozen?, h1]
  omega
theorem UpB.set {w : World} {g : Nat} {X : List UInt8} (h : UpB w g X) (j : Nat) (hj : j < X.length) (c : UInt8) : UpB (w.setCell ⟨g, j, none⟩ (.int .u8 (c.toNat : Int))) g (X.set j c) := by
  obtain ⟨cs, fz, h1, h2, h3, h4⟩ := h
  refine ⟨cs.set j (.int .u8 (c.toNat : Int)) (by omega), fz, ?_, by simpa using h2, by simpa using h3, fun k hk => ?_⟩
  · unfold World.setCell
    simp only [Array.getElem?_modify]
    simp [h1, Array.setIfInBounds, show j < cs.size by omega]
  · rw [List.length_set] at hk
    by_cases e : j = k
    · subst e
      simp [List.getD, hk]
    · rw [Array.getElem?_set_ne (by omega) e, h4 k hk]
      simp [List.getD, e]
theorem UpB.byts {w : World} {g : Nat} {X : List UInt8} (h : UpB w g X) (c : Nat) (hc : X.length ≤ c) : Byts w w.heap.size (.slice (some ⟨g, 0, none⟩) X.length c) X :=
  ⟨_, _, rfl, hc, (fun h => by cases h), fun _ => ⟨g, 0, rfl, h.lt, fun j hj => by rw [Nat.zero_add]; exact h.cell j hj⟩⟩
theorem UpB.made (W : World) (s : ByteArray) : ∃ c W', (convert 9 54 (.string s)).run Try.prog W = .ok (.slice (some ⟨W.heap.size, 0, none⟩) s.size c) W' ∧ Below W.heap.size W W' ∧ UpB W' W.heap.size (bs s) ∧ s.size ≤ c := by
  refine ⟨_, _, Go.Lib.run_convert_string_bytes W 9 54 5 s Try.underlying9 Try.underlying54 Try.underlying5, ⟨rfl, rfl, rfl, by rw [Go.Lib.bytesWorld_size]; omega, fun k hk => Go.Lib.bytesWorld_at_old _ _ _ k hk⟩, ?_, ?_⟩
  · refine ⟨_, _, Go.Lib.bytesWorld_at_new W 5 s, ?_, Nat.le_refl _, fun j hj => ?_⟩
    · rw [bs_length]; simp [Go.Lib.bytesCells]
    · have := Go.Lib.bytesWorld_cell W 5 s j (by rw [← bs_length]; exact hj)
      rw [cell_of_row _ _ _ _ _ _ (Go.Lib.bytesWorld_at_new W 5 s)] at this
      exact this
  · exact grownCap_ge _ _ _ _

theorem UpB.turn {w w' : World} {g : Nat} {X : List UInt8} {S : List Nat} (h : UpB w g X) (hT : Turn S w w') (hg : g ∉ S) : UpB w' g X := by
  have hl := h.lt
  obtain ⟨cs, fz, h1, h2⟩ := h
  exact ⟨cs, fz, (hT.block g hl hg).trans h1, h2⟩
/-- what replaces each byte: those of S a backslash and the byte, no other anything -/
def RepG (w : World) (g : Nat → Value) (S : List UInt8) : Prop := ∀ k : UInt8, (k ∈ S → ∃ b c, g k.toNat = .slice (some ⟨b, 0, none⟩) 2 c ∧ 2 ≤ c ∧ UpB w b [92, k]) ∧ (k ∉ S → g k.toNat = .slice none 0 0)
theorem RepG.turn {w w' : World} {g : Nat → Value} {S : List UInt8} {T : List Nat} (h : RepG w g S) (hT : Turn T w w') (hn : ∀ x ∈ T, ∀ X, ¬ UpB w x X) : RepG w' g S := fun k =>
  ⟨fun hk => by
    obtain ⟨b, c, h1, h2, h3⟩ := (h k).1 hk
    exact ⟨b, c, h1, h2, h3.turn hT fun hm => hn b hm _ h3⟩, (h k).2⟩
theorem RepG.more {w' : World} {g : Nat → Value} {S : List UInt8} {o : UInt8} {b c : Nat} (h : RepG w' g S) (hc : 2 ≤ c) (hu : UpB w' b [92, o]) : RepG w' (fun i => if i = o.toNat then .slice (some ⟨b, 0, none⟩) 2 c else g i) (S ++ [o]) := fun k => by
  have e : k.toNat = o.toNat ↔ k = o := ⟨fun h => UInt8.toNat_inj.1 h, fun h => by rw [h]⟩
  by_cases hk : k = o
  · subst hk
    refine ⟨fun _ => ⟨b, c, if_pos rfl, hc, hu⟩, fun hn => absurd (by simp) hn⟩
  · have hne : ¬ k.toNat = o.toNat := fun h => hk (e.1 h)
    refine ⟨fun hm => ?_, fun hn => ?_⟩
    · obtain ⟨b', c', h1, h2⟩ := (h k).1 (by
        rcases List.mem_append.1 hm with hm | hm
        · exact hm
        · exact absurd (List.mem_singleton.1 hm) hk)
      exact ⟨b', c', by rw [← h1]; exact if_neg hne, h2⟩
    · rw [← (h k).2 (fun hm => hn (List.mem_append_left _ hm))]
      exact if_neg hne
theorem UpB.notRw {w : World} {b : Nat} {X : List UInt8} {cs : Array Value} {t : TypeId} (h : UpB w b X) (hr : Rw w b cs t) (ht : t ≠ 5) : False := by
  obtain ⟨cs', fz, h1, -⟩ := h
  unfold Rw at hr
  rw [hr] at h1
  simp only [Option.some.injEq, Obj.cells.injEq] at h1
  exact ht h1.2.1
theorem UpB.notRow {w : World} {b base : Nat} {X : List UInt8} {v : Value} {l : List (List UInt8)} (h : UpB w b X) (ho : BR.Own w base v l) (hv : v.ownBlock = some b) : False := by
  obtain ⟨cs', fz, h1, -⟩ := h
  rcases ho.2 with ⟨rfl, -⟩ | ⟨g, cap, cur, rfl, -, hg, -⟩
  · simp [Value.ownBlock] at hv
  · simp only [Value.ownBlock, Option.some.injEq] at hv
    subst hv
    rw [hg] at h1
    simp only [Option.some.injEq, Obj.cells.injEq] at h1
    exact absurd h1.2.1 (by decide)
theorem eqin_nil54 (d : Nat) (W : World) (a : Option Addr) (n c : Nat) : (Op.equalIn (d + 1) 54 (.slice a n c) (.slice none 0 0)).run Try.prog W = .ok a.isNone W := by
  cases a <;> simp [Op.equalIn, run_underlying Try.underlying54]
theorem eql_nil54 (W : World) (a : Option Addr) (n c : Nat) : (binOp .eql 54 (.slice a n c) (.slice none 0 0)).run Try.prog W = .ok (.bool a.isNone) W := by
  simp only [binOp]
  simp [Op.equal, Op.maxDepth, eqin_nil54 9999 W a n c]
theorem neq_nil54 (W : World) (a : Option Addr) (n c : Nat) : (binOp .neq 54 (.slice a n c) (.slice none 0 0)).run Try.prog W = .ok (.bool (!a.isNone)) W := by
  simp only [binOp]
  simp [Op.equal, Op.maxDepth, eqin_nil54 9999 W a n c]
def s3 : List UInt8 := [92, 58, 32]
def l3 : List (List UInt8) := [[92], [58], [32]]

end Go.Proofs.Ytppcfidaalejfaa
