/-
  WHAT THE PROGRAM's Copy DOES.
-/
import Derived.Test.YtifolddmcibkdaaLKept
import Derived.Deep.MidRow
import Derived.Deep.RegionHeld3
namespace Go.Proofs.Ytifolddmcibkdaa
open Go.RowKit Go.Shelf
attribute [local go_sem] Oper.semAt_some

theorem CloneF_any (w : World) (mv : Option Nat) (l : List Tm.Fl) (h : FilesM w mv l) :
    Calls Try.prog 36 #[.map mv] w fun e w' => ∃ mv', e = .returned (.map mv') ∧ FilesM w' mv' l ∧ (∀ b, mv' = some b → w.heap.size ≤ b ∧ b < w'.heap.size) ∧ Below w.heap.size w w' := by
  rcases h with ⟨rfl, h0⟩ | ⟨b, rfl, hM⟩
  · refine (AnyW.maps_Clone_nil Try.cloneA w).mono ?_
    rintro e w' ⟨rfl, rfl⟩
    exact ⟨none, rfl, .inl ⟨rfl, h0⟩, by simp, Below.refl _ _⟩
  · obtain ⟨es, c, hb⟩ := hM.isMap
    refine (AnyW.maps_Clone Try.cloneA b es c w hb).mono ?_
    rintro e w' ⟨rfl, rfl⟩
    refine ⟨some w.heap.size, rfl, .inr ⟨_, rfl, hM.of_entries hb (heap_alloc_new w _)⟩, ?_, (Below.refl _ w).alloc (Nat.le_refl _) _⟩
    rintro b' e
    cases e
    simp

/-- a journal's cells -/
def jourCs (n : Nat) (J : List ByteArray) : List Value := .int .i64 (n : Int) :: J.map Value.string
theorem jour_at {w : World} {g : Nat} {mv : Option Nat} {n : Nat} {J : List ByteArray} (hb : w.heap[g]? = some (.cells (treeCs mv n J) 32 (0, 0))) : w.rangeAt g 1 (jourCs n J) := by
  intro j v hv
  rw [cell_of_row w g (1 + j) _ _ (0, 0) hb]
  unfold treeCs
  rw [Nat.add_comm 1 j]
  simpa [jourCs] using hv
theorem jour_size (n : Nat) {J : List ByteArray} (hJ : J.length = 32) : (Try.prog.info? 30).map (·.size) = some (jourCs n J).length := by
  rw [show (jourCs n J).length = 33 by simp [jourCs, hJ]]
  kernel_rfl

theorem yieldsIf_build {P : Program} {ops : Array Oper} {S : World → Prop} {op : Oper} {a : Act} (hw : Region.wanted op (yielded ops a.tmps) = true) (t : TypeId) (parts : Array (Nat × Operand)) (ho : op.op = .build t parts) (cells : Array Value)
    (vals : Array (Nat × Value)) (hv : (parts.map fun (i, x) => (i, a.eval x)) = vals) (h : ∀ W, (Instr.build t vals).run P W = .ok (.agg cells) W) : YieldsIf P ops S op (.agg cells) a :=
  .inl ⟨hw, fun w _ => by
    unfold execOp
    simp only [ho, hv, Sem.run_bind, h w, Sem.run_pure, Result.andThen_ok]⟩
theorem tree_build (W : World) (mv : Option Nat) (n : Nat) {J : List ByteArray} (hJ : J.length = 32) : (Instr.build 32 #[(0, .map mv), (1, .agg (jourCs n J).toArray)]).run Try.prog W = .ok (.agg (treeCs mv n J)) W := by
  refine run_build W _ _ _ ?_
  obtain ⟨f, rfl⟩ : ∃ f : Fin 32 → ByteArray, J = List.ofFn f := ⟨fun i => J[i.1]'(by rw [hJ]; exact i.2), by
    apply List.ext_getElem
    · simp [hJ]
    · intro i h1 h2; rw [List.getElem_ofFn]⟩
  kernel_rfl
set_option maxRecDepth 100000 in
set_option maxHeartbeats 2000000 in
theorem copy_does : CopyDoes := by
  intro g t S w h hk
  obtain ⟨mv, J, hb, hr, hf, rfl⟩ := h
  have c0 := (tree_cells hb).1
  have hCl := CloneF_any w mv t.files hf
  go_enter Try.func22, Try.ntmps22
  have hCl : ∀ W, W.heap[g]? = some (.cells (treeCs mv t.chs.length J) 32 (0, 0)) → FilesM W mv t.files → Calls Try.prog 36 #[.map mv] W fun e w' => ∃ mv', e = .returned (.map mv') ∧ FilesM w' mv' t.files ∧ (∀ b, mv' = some b → W.heap.size ≤ b ∧ b < w'.heap.size) ∧ Below W.heap.size W w' := fun W _ h => CloneF_any W mv t.files h
  have HCl : Hid _ := hCl
  clear hCl
  have hgl : g < w.heap.size := (Array.getElem?_eq_some_iff.1 hb).1
  go_wp2
  refine wp_region_held_drew (S := fun X : World => X.heap[g]? = some (.cells (treeCs mv t.chs.length J) 32 (0, 0))) (by kernel_rfl) hb (fun hHeld => ?_)
  refine wpAnyH_take (i := 0) (v := ?_) rfl (by kernel_rfl) (by kernel_rfl) (by kernel_rfl) (fun _ _ _ h => h) (Or.inl ⟨(by simp [Region.wanted]), ?_⟩) hHeld ?_
  rotate_left
  · intro W hSw
    have c0 := (tree_cells hSw).1
    clear hSw
    ((go_simp) <;> (with_reducible rfl))
  try simp only [Act.put, List.setIfInBounds_toArray]
  refine wpAnyH_take (i := 1) (v := ?_) rfl (by kernel_rfl) (by kernel_rfl) (by kernel_rfl) (fun _ _ _ h => h) (Or.inl ⟨(by simp [Region.wanted]), ?_⟩) hHeld ?_
  rotate_left
  · intro W hSw
    have c0 := (tree_cells hSw).1
    clear hSw
    ((go_simp) <;> (with_reducible rfl))
  try simp only [Act.put]
  refine wpAnyH_take (i := 2) (v := ?_) rfl (by kernel_rfl) (by kernel_rfl) (by kernel_rfl) (fun _ _ _ h => h) (Or.inl ⟨(by simp [Region.wanted]), ?_⟩) hHeld ?_
  rotate_left
  · intro W hSw
    have c0 := (tree_cells hSw).1
    clear hSw
    ((go_simp) <;> (with_reducible rfl))
  try simp only [Act.put]
  refine wpAnyH_take (i := 3) (v := ?_) rfl (by kernel_rfl) (by kernel_rfl) (by kernel_rfl) (fun _ _ _ h => h) (Or.inl ⟨(by simp [Region.wanted]), ?_⟩) hHeld ?_
  rotate_left
  · intro W hSw
    have c0 := (tree_cells hSw).1
    clear hSw
    ((go_simp) <;> (with_reducible rfl))
  try simp only [Act.put]
  refine wpAnyH_take (i := 5) (v := ?_) rfl (by kernel_rfl) (by kernel_rfl) (by kernel_rfl) (fun _ _ _ h => h) (Or.inl ⟨(by simp [Region.wanted]), ?_⟩) hHeld ?_
  rotate_left
  · intro W hSw
    have c0 := (tree_cells hSw).1
    clear hSw
    ((go_simp) <;> (with_reducible rfl))
  try simp only [Act.put]
  refine wpAnyH_take (i := 6) (v := ?_) rfl (by kernel_rfl) (by kernel_rfl) (by kernel_rfl) (fun _ _ _ h => h) (Or.inl ⟨(by simp [Region.wanted]), ?_⟩) hHeld ?_
  rotate_left
  · intro W hSw
    have c0 := (tree_cells hSw).1
    clear hSw
    ((go_simp) <;> (with_reducible rfl))
  try simp only [Act.put]
  refine wpAnyH_take (i := 7) (v := ?_) rfl (by kernel_rfl) (by kernel_rfl) (by kernel_rfl) (fun _ _ _ h => h) (Or.inl ⟨(by simp [Region.wanted]), ?_⟩) hHeld ?_
  rotate_left
  · intro W hSw
    have c0 := (tree_cells hSw).1
    clear hSw
    ((go_simp) <;> (with_reducible rfl))
  try simp only [Act.put]
  refine wpAnyH_take (i := 8) (v := .agg (jourCs t.chs.length J).toArray) rfl (by kernel_rfl) (by kernel_rfl) (by kernel_rfl) (fun _ _ _ h => h) (yieldsIf_load_mid (by simp [Region.wanted]) 30 (.tmp 12) rfl g 1 rfl (jourCs t.chs.length J) _ (fun W hS => jour_at hS) Try.underlying30 rfl (jour_size t.chs.length hr.1)) hHeld ?_
  try simp only [Act.put]
  refine wpAnyH_ready (rs := [4]) (by kernel_rfl) (by simp) ?_
  refine AllReadyH.cons rfl (fun K hK => ?_) AllReadyH.nil
  go_simp
  refine (HCl.out w.drew hb (hf.of fun _ _ => rfl)).mono ?_
  rintro e w1 ⟨mv', rfl, hF, hlt, hB⟩
  have hb1 := (hB.block g hgl).trans hb
  go_wp2_with fail
  refine hK.out _ _ hb1 (fun hHeld => ?_)
  clear hK K
  try simp only [Act.put, List.setIfInBounds_toArray, List.set_cons_zero, List.set_cons_succ]
  refine wpAnyH_take (i := 9) (v := .agg (treeCs mv' t.chs.length J)) rfl (by kernel_rfl) (by kernel_rfl) (by kernel_rfl) (fun _ _ _ h => h) (yieldsIf_build (by simp [Region.wanted]) 32 _ rfl _ #[(0, .map mv'), (1, .agg (jourCs t.chs.length J).toArray)] (by simp [Act.eval]) fun W => tree_build W mv' t.chs.length hr.1) hHeld ?_
  try simp only [Act.put, List.setIfInBounds_toArray]
  refine wpAnyH_ready (rs := [10]) (by kernel_rfl) (by simp) ?_
  refine AllReadyH.cons rfl (fun K hK => ?_) AllReadyH.nil
  go_simp
  have hb2 := (Below.heap_alloc w1 (.cells (treeCs mv' t.chs.length J) 32) g (Array.getElem?_eq_some_iff.1 hb1).1).trans hb1
  refine hK.out _ _ hb2 (fun hHeld => ?_)
  clear hK K
  try simp only [Act.put, List.setIfInBounds_toArray, List.set_cons_zero, List.set_cons_succ]
  refine wpAnyH_ready (rs := [11]) (by kernel_rfl) (by simp) ?_
  refine AllReadyH.cons rfl (fun K hK => ?_) AllReadyH.nil
  go_simp
  refine hK.out _ _ hb2 (fun hHeld => ?_)
  clear hK K
  refine wpAnyH_done (by kernel_rfl) ?_ _
  go_wp2
  go_ret
  have hB1 : Below w.heap.size w w1 := ⟨hB.os, hB.tape, hB.output, hB.size, hB.block⟩
  refine ⟨w1.heap.size, w1.heap.size :: mv'.toList, rfl, ⟨mv', J, heap_alloc_new w1 _, hr, hF.of fun b e => Below.heap_alloc w1 _ b (hlt b e).2, rfl⟩, ?_, hB1.alloc hB1.size _⟩
  intro b hm
  simp only [List.mem_cons, Option.mem_toList] at hm
  rcases hm with rfl | hm
  · exact hB1.size
  · exact (hlt b hm).1

end Go.Proofs.Ytifolddmcibkdaa
