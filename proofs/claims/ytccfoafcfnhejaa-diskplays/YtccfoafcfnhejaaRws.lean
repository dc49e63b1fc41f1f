/-
  ROWS: a slice of blocks of bytes, each in memory of its own; slices.Clone of such.
-/
import Derived.Test.YtccfoafcfnhejaaFails
namespace Go.Proofs.Ytccfoafcfnhejaa
open Go.RowKit

/-- the slice of n rows that lies in block R (cap of them may lie there): its first rows hold the blocks L -/
def Rw (w : World) (R n cap : Nat) (L : List Dk.Blk) : Prop :=
  ∃ cur : Array Value, w.heap[R]? = some (.cells cur 27 (0, 0)) ∧ n ≤ cap ∧ cap ≤ cur.size ∧ cap ≤ maxLen ∧ L.length ≤ n ∧ ∀ i, i < L.length → ∃ g, cur[i]? = some (.slice (some ⟨g, 0, none⟩) 256 256) ∧ Blk w g (L.getD i []) ∧ (L.getD i []).length = 256

theorem Rw.lt {w : World} {R n cap : Nat} {L : List Dk.Blk} (h : Rw w R n cap L) : R < w.heap.size := by
  obtain ⟨cur, h1, _⟩ := h
  exact lt_of_heap h1
theorem Rw.of_blocks {w w' : World} {R n cap : Nat} {L : List Dk.Blk} (h : Rw w R n cap L) (hb : ∀ (b : Nat) (c : Array Value) (t : TypeId), w.heap[b]? = some (Obj.cells c t (0, 0)) → t = 27 ∨ t = 5 → w'.heap[b]? = w.heap[b]?) : Rw w' R n cap L := by
  obtain ⟨cur, h1, h2, h3, h4, h5, h6⟩ := h
  refine ⟨cur, (hb R cur 27 h1 (.inl rfl)).trans h1, h2, h3, h4, h5, fun i hi => ?_⟩
  obtain ⟨g, hc, hB, hl⟩ := h6 i hi
  exact ⟨g, hc, (hb g _ 5 hB (.inr rfl)).trans hB, hl⟩
theorem Has.not_in {w : World} {x : Pl} {N : Nat} {d : Dk.Dev} (h : Has w x N d) {b : Nat} {c : Array Value} {t : TypeId} {fr : Nat × Nat} (hb : w.heap[b]? = some (.cells c t fr)) (ht : t = 27 ∨ t = 5) : b ∉ x.bl := by
  intro hm
  simp only [Pl.bl, List.mem_cons, List.not_mem_nil, or_false] at hm
  rcases hm with rfl | rfl | rfl | rfl
  · rw [h.hp] at hb; simp only [Option.some.injEq, Obj.cells.injEq] at hb; obtain ⟨_, e, _⟩ := hb; subst e; rcases ht with h | h <;> cases h
  · obtain ⟨cur, h1, _⟩ := h.hg; rw [h1] at hb; simp only [Option.some.injEq, Obj.cells.injEq] at hb; obtain ⟨_, e, _⟩ := hb; subst e; rcases ht with h | h <;> cases h
  · obtain ⟨es, c', h1⟩ := h.hd.isMap; rw [h1] at hb; simp at hb
  · obtain ⟨es, c', h1⟩ := h.hf.isMap; rw [h1] at hb; simp at hb
theorem Rw.turn {w w' : World} {R n cap : Nat} {L : List Dk.Blk} (h : Rw w R n cap L) {x : Pl} {N : Nat} {d : Dk.Dev} (hk : Has w x N d) (ht : Turn x.bl w w') : Rw w' R n cap L :=
  h.of_blocks fun b _ _ hb htt => ht.block b (lt_of_heap hb) (hk.not_in hb htt)
theorem Rw.below {w w' : World} {R n cap : Nat} {L : List Dk.Blk} (h : Rw w R n cap L) (hb : Below w.heap.size w w') : Rw w' R n cap L :=
  h.of_blocks fun b _ _ hbb _ => hb.block b (lt_of_heap hbb)
theorem Rw.drew {w : World} {R n cap : Nat} {L : List Dk.Blk} (h : Rw w R n cap L) : Rw w.drew R n cap L := h.of_blocks (w' := w.drew) fun _ _ _ _ _ => rfl
theorem Rw.cell {w : World} {R n cap : Nat} {L : List Dk.Blk} (h : Rw w R n cap L) {i : Nat} (hi : i < L.length) : ∃ g, w.cell? ⟨R, i, none⟩ = some (.slice (some ⟨g, 0, none⟩) 256 256) ∧ Blk w g (L.getD i []) ∧ (L.getD i []).length = 256 := by
  obtain ⟨cur, h1, h2, h3, h4, h5, h6⟩ := h
  obtain ⟨g, hc, hB, hl⟩ := h6 i hi
  exact ⟨g, by rw [cell_of_row w R i cur 27 (0, 0) h1]; exact hc, hB, hl⟩
theorem Rw.ex {w : World} {R n cap : Nat} {L : List Dk.Blk} (h : Rw w R n cap L) {i : Nat} (hi : i < n) : (∃ v, w.cell? ⟨R, i, none⟩ = some v) ∧ w.frozen? ⟨R, i, none⟩ = false := by
  obtain ⟨cur, h1, h2, h3, h4, h5, h6⟩ := h
  refine ⟨⟨cur[i]'(by omega), ?_⟩, by simp [World.frozen?, h1]⟩
  rw [cell_of_row w R i cur 27 (0, 0) h1]
  simp
/-- a row is laid in its place: one that is there, or the next one -/
theorem Rw.set {w : World} {R n cap : Nat} {L L' : List Dk.Blk} (h : Rw w R n cap L) {i g : Nat} (hi : i < n) {X : Dk.Blk} (hB : Blk w g X) (hX : X.length = 256) (hL : L'.length ≤ n) (hL' : ∀ j, j < L'.length → j ≠ i → j < L.length ∧ L'.getD j [] = L.getD j []) (hi' : i < L'.length → L'.getD i [] = X) :
    Rw (w.setCell ⟨R, i, none⟩ (.slice (some ⟨g, 0, none⟩) 256 256)) R n cap L' := by
  obtain ⟨cur, h1, h2, h3, h4, h5, h6⟩ := h
  have hne : ∀ b X, Blk w b X → b ≠ R := fun b X hb e => by unfold Blk at hb; rw [e, h1] at hb; simp at hb
  refine ⟨_, heap_setCell_at h1 i _, h2, by simpa using h3, h4, hL, fun j hj => ?_⟩
  by_cases e : j = i
  · subst e
    refine ⟨g, by rw [Array.getElem?_setIfInBounds_self_of_lt (by omega)], ?_, ?_⟩
    · rw [hi' hj]; exact (Below.heap_setCell w ⟨R, j, none⟩ _ g (hne g X hB)).trans hB
    · rw [hi' hj]; exact hX
  · obtain ⟨hjl, hje⟩ := hL' j hj e
    obtain ⟨g', hc, hB', hl⟩ := h6 j hjl
    rw [hje]
    exact ⟨g', by rw [Array.getElem?_setIfInBounds_ne (fun h => e h.symm)]; exact hc, (Below.heap_setCell w ⟨R, i, none⟩ _ g' (hne g' _ hB')).trans hB', hl⟩
theorem Rw.set_other {w : World} {R R' n cap : Nat} {L : List Dk.Blk} (h : Rw w R n cap L) (hne : R ≠ R') {cc : Array Value} (hR : w.heap[R']? = some (.cells cc 27 (0, 0))) (i : Nat) (v : Value) : Rw (w.setCell ⟨R', i, none⟩ v) R n cap L := by
  obtain ⟨cur, h1, h2, h3, h4, h5, h6⟩ := h
  refine ⟨cur, (Below.heap_setCell w ⟨R', i, none⟩ v R hne).trans h1, h2, h3, h4, h5, fun j hj => ?_⟩
  obtain ⟨g, hc, hB, hl⟩ := h6 j hj
  refine ⟨g, hc, (Below.heap_setCell w ⟨R', i, none⟩ v g ?_).trans hB, hl⟩
  intro e
  unfold Blk at hB
  rw [e] at hB
  show False
  rw [hR] at hB
  simp at hB

theorem info27 : (Try.prog.info? 27).map (fun i => (i.zero, i.size, i.bytes)) = some (some (.slice none 0 0), 1, 24) := by kernel_rfl

set_option maxRecDepth 100000 in
set_option maxHeartbeats 1000000 in
theorem CloneRows_any (w : World) (R n cap : Nat) (L : List Dk.Blk) (h : Rw w R n cap L) (hn : L.length = n) (h1 : n ≤ 4096) :
    Calls Try.prog 27 #[.slice (some ⟨R, 0, none⟩) n cap] w fun e w' => ∃ R' cap', e = .returned (.slice (some ⟨R', 0, none⟩) n cap') ∧ w.heap.size ≤ R' ∧ Rw w' R' n cap' L ∧ Below w.heap.size w w' := by
  obtain ⟨i0, hi, hz0, hz1, hz2⟩ := info_parts info27
  obtain ⟨cur, hc1, hc2, hc3, hc4, hc5, hc6⟩ := h
  have hown : (w.alloc (.cells #[] 27)).ownsRow w.heap.size 27 1 (.slice (some ⟨w.heap.size, 0, none⟩) 0 0) 0 [] := World.ownsRow_lit (size := 1) w #[] 0 (Nat.le_refl _) (by decide) rfl
  have hnil := fun W : World => Lib.run_eql_slice_nil (P := Try.prog) W 51 27 (some ⟨R, 0, none⟩) n cap 0 0 Try.underlying51
  have hlt := lt_of_heap hc1
  have hnews : ∀ j u, (cur.toList.take n)[j]? = some u → (w.alloc (.cells #[] 27)).cell? ((⟨R, 0, none⟩ : Addr).add j) = some u := by
    intro j u hu
    have hj : j < n := by have := (List.getElem?_eq_some_iff.1 hu).1; rw [List.length_take] at this; omega
    rw [Addr.add_mid, Nat.zero_add, World.cell?_of_block (a := ⟨R, j, none⟩) (Below.heap_alloc w _ R hlt), cell_of_row w R j cur 27 (0, 0) hc1]
    rw [List.getElem?_take, if_pos hj, Array.getElem?_toList] at hu
    exact hu
  have hnl : (cur.toList.take n).length = n * 1 := by rw [List.length_take, Array.length_toList]; omega
  have hone : ∀ u ∈ cur.toList.take n, u.oneCell' = true := by
    intro u hu
    obtain ⟨j, hj, rfl⟩ := List.getElem_of_mem hu
    have hjn : j < n := by rw [List.length_take] at hj; omega
    obtain ⟨g, hg, _⟩ := hc6 j (by omega)
    have : (cur.toList.take n)[j]? = some (.slice (some ⟨g, 0, none⟩) 256 256) := by rw [List.getElem?_take, if_pos hjn, Array.getElem?_toList]; exact hg
    rw [List.getElem?_eq_getElem hj] at this
    rw [Option.some.inj this]
    rfl
  have HC : Hid (∀ i, i < L.length → ∃ g, cur[i]? = some (.slice (some ⟨g, 0, none⟩) 256 256) ∧ Blk w g (L.getD i []) ∧ (L.getD i []).length = 256) := hc6
  have H1 : Hid (n ≤ 4096 ∧ L.length = n) := ⟨h1, hn⟩
  clear hc6 hn h1
  go_enter Try.func27, Try.ntmps27
  go_wp2_with (at_builtin; go_must (refine wpList_append_own _ rfl (.tmp 5) (.tmp 6) 51 rfl w.heap.size 27 i0 (.slice none 0 0) 1 24 Try.underlying51 hi hz0 hz1 hz2 rfl (by decide) _ 0 [] rfl hown ⟨R, 0, none⟩ n cap (cur.toList.take n) rfl hnl hnews hone (by have := H1.out; unfold maxLen; omega) (by have := H1.out; omega) (by simp) ?_))
  intro v' w' h2 h3 h4
  go_wp2
  go_ret
  have hbel : Below w.heap.size w w' := ((Below.refl _ w).alloc (Nat.le_refl _) _).grown h3 (by simp) fun k hk => (World.ownsRow.lt hown k hk).1
  rcases h2.2 with ⟨e, h0⟩ | ⟨g', cap', cur', rfl, hb, hg, hx1, hx2, hx3, hx4⟩
  · exact (h4 e).elim
  · refine ⟨g', cap', rfl, hb, ⟨cur', hg, by omega, by omega, hx2, by have := H1.out; omega, fun i hi => ?_⟩, hbel⟩
    obtain ⟨g, hgc, hB, hl⟩ := HC.out i hi
    have hin : i < n := by have := H1.out; omega
    refine ⟨g, ?_, (hbel.block g hB.lt).trans hB, hl⟩
    have h5 : (cur'.toList.take (n * 1))[i]? = some (.slice (some ⟨g, 0, none⟩) 256 256) := by
      rw [hx4, List.getElem?_take, if_pos hin, Array.getElem?_toList]; exact hgc
    rw [List.getElem?_take, if_pos (by omega), Array.getElem?_toList] at h5
    exact h5
end Go.Proofs.Ytccfoafcfnhejaa
