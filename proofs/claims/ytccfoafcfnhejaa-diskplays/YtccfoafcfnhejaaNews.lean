/-
  New and Copy.
-/
import Derived.Test.YtccfoafcfnhejaaDirty
import Derived.Test.YtccfoafcfnhejaaWrites
namespace Go.Proofs.Ytccfoafcfnhejaa
open Go.RowKit Go.Maps Go.ChangeMaps Go.Shelf

theorem info78a : (Try.prog.info? 78).map (fun i => (i.zero, i.size, i.bytes)) = some (some (.agg (bV Dk.zeroB).toArray), 256, 256) := by kernel_rfl

/-- the cells of some blocks, one behind the other -/
def cellsOf (st : List Dk.Blk) : List Value := (List.range (st.length * 256)).map fun k => Value.int .u8 ((((st.getD (k / 256) []).getD (k % 256) 0).toNat : Nat) : Int)

theorem cellsOf_length (st : List Dk.Blk) : (cellsOf st).length = st.length * 256 := by simp [cellsOf]
theorem cellsOf_one (st : List Dk.Blk) : ∀ u ∈ cellsOf st, u.oneCell' = true := by
  intro u hu
  simp only [cellsOf, List.mem_map] at hu
  obtain ⟨b, _, rfl⟩ := hu
  rfl
theorem cellsOf_get {st : List Dk.Blk} {i j : Nat} (hi : i < st.length) (hj : j < 256) : (cellsOf st)[i * 256 + j]? = some (.int .u8 (((st.getD i []).getD j 0).toNat : Int)) := by
  have h1 : i * 256 + j < st.length * 256 := by have := Nat.mul_le_mul_right 256 (show i + 1 ≤ st.length by omega); omega
  have h2 : (i * 256 + j) / 256 = i := by omega
  have h3 : (i * 256 + j) % 256 = j := by omega
  simp only [cellsOf, List.getElem?_map, List.getElem?_range h1, Option.map_some, h2, h3]
theorem Stab.news {w : World} {g cap : Nat} {st : List Dk.Blk} (h : Stab w g cap st) : ∀ j u, (cellsOf st)[j]? = some u → w.cell? ((⟨g, 0, none⟩ : Addr).add j) = some u := by
  intro j u hu
  have hj : j < st.length * 256 := by have := (List.getElem?_eq_some_iff.1 hu).1; rwa [cellsOf_length] at this
  have e : j = j / 256 * 256 + j % 256 := by omega
  have hi : j / 256 < st.length := by omega
  rw [Addr.add_mid, Nat.zero_add]
  rw [e, cellsOf_get hi (by omega)] at hu
  rw [e, h.cell hi (by omega)]
  exact hu
theorem Stab.of_row {w : World} {base n : Nat} {v : Value} {st : List Dk.Blk} (h : w.ownsRow base 78 256 v n (cellsOf st)) (hn : n = st.length) (hp : 0 < st.length) (hl : ∀ i, i < st.length → (st.getD i []).length = 256) :
    ∃ g cap, v = .slice (some ⟨g, 0, none⟩) st.length cap ∧ base ≤ g ∧ cap ≤ maxLen ∧ Stab w g cap st := by
  subst hn
  rcases h.2 with ⟨_, h0⟩ | ⟨g, cap, cur, rfl, hb, hg, hc1, hc2, hc3, hc4⟩
  · omega
  · refine ⟨g, cap, rfl, hb, hc2, cur, hg, hc3, hc1, hl, fun i j hi hj => ?_⟩
    have h1 : i * 256 + j < st.length * 256 := by have := Nat.mul_le_mul_right 256 (show i + 1 ≤ st.length by omega); omega
    rw [← cellsOf_get hi hj, ← hc4, List.getElem?_take, if_pos h1, Array.getElem?_toList]

set_option maxRecDepth 100000 in
set_option maxHeartbeats 1000000 in
theorem CloneBlocks_any (w : World) (g cap : Nat) (st : List Dk.Blk) (h : Stab w g cap st) (h0 : 0 < st.length) (h1 : st.length ≤ 4096) :
    Calls Try.prog 36 #[.slice (some ⟨g, 0, none⟩) st.length cap] w fun e w' => ∃ g' cap', e = .returned (.slice (some ⟨g', 0, none⟩) st.length cap') ∧ w.heap.size ≤ g' ∧ cap' ≤ maxLen ∧ Stab w' g' cap' st ∧ Below w.heap.size w w' := by
  obtain ⟨i0, hi, hz0, hz1, hz2⟩ := info_parts info78a
  have hown : (w.alloc (.cells #[] 78)).ownsRow w.heap.size 78 256 (.slice (some ⟨w.heap.size, 0, none⟩) 0 0) 0 [] := World.ownsRow_lit (size := 256) w #[] 0 (Nat.le_refl _) (by decide) rfl
  have hs : Stab (w.alloc (.cells #[] 78)) g cap st := h.of_block (Below.heap_alloc w _ g h.lt)
  have hnil := fun W : World => Lib.run_eql_slice_nil (P := Try.prog) W 68 78 (some ⟨g, 0, none⟩) st.length cap 0 0 Try.underlying68
  have hlen : ∀ i, i < st.length → (st.getD i []).length = 256 := fun i hi => h.len hi
  have HL : Hid (∀ i, i < st.length → (st.getD i []).length = 256) := hlen
  have H1 : Hid (st.length ≤ 4096) := h1
  have H0 : Hid (0 < st.length) := h0
  clear hlen h1 h0
  go_enter Try.func36, Try.ntmps36
  go_wp2_with (at_builtin; go_must (refine wpList_append_own _ rfl (.tmp 5) (.tmp 6) 68 rfl w.heap.size 78 i0 (.agg (bV Dk.zeroB).toArray) 256 256 Try.underlying68 hi hz0 hz1 hz2 rfl (by decide) _ 0 [] rfl hown ⟨g, 0, none⟩ st.length cap (cellsOf st) rfl (cellsOf_length st) hs.news (cellsOf_one st) (by have := H1.out; unfold maxLen; omega) (by have := H1.out; omega) (by simp) ?_))
  intro v' w' h2 h3 h4
  go_wp2
  go_ret
  obtain ⟨g', cap', rfl, hb, hc, hS⟩ := Stab.of_row h2 (by omega) H0.out HL.out
  exact ⟨g', cap', rfl, hb, hc, hS, ((Below.refl _ w).alloc (Nat.le_refl _) _).grown h3 (by simp) fun k hk => (World.ownsRow.lt hown k hk).1⟩

theorem Stab.made (w : World) (n : Nat) : Stab (w.alloc (.cells (madeCells (bV Dk.zeroB).toArray (n * 256)) 78)) w.heap.size n (List.replicate n Dk.zeroB) := by
  refine ⟨_, heap_alloc_new w _, size_madeCells _ _, by simp, fun i hi => ?_, fun i j hi hj => ?_⟩
  · have : i < n := by simpa using hi
    simp [List.getD, this, Dk.zeroB_len]
  · have hin : i < n := by simpa using hi
    have h1 : i * 256 + j < n * 256 := by have := Nat.mul_le_mul_right 256 (show i + 1 ≤ n by omega); omega
    have hsz : (bV Dk.zeroB).toArray.size = 256 := by rw [size_bV, Dk.zeroB_len]
    have h3 : (i * 256 + j) % 256 = j := by omega
    simp only [madeCells, Array.getElem?_map, Array.getElem?_range, h1, if_true, Option.map_some, hsz, h3, List.getD, List.getElem?_replicate, hin, Option.getD_some]
    have h4 := bV_get (l := Dk.zeroB) (j := j) (by rw [Dk.zeroB_len]; exact hj)
    have h5 : (bV Dk.zeroB).toArray[j]? = some (.int .u8 ((Dk.zeroB.getD j 0).toNat : Int)) := by simpa using h4
    rw [getElem!_def, h5]
    rfl

set_option maxRecDepth 100000 in
set_option maxHeartbeats 1000000 in
theorem New_arg (n : Int) (w : World) (h : n < 80 ∨ 4096 < n) : Calls Try.prog 8 #[.int .i64 n] w fun e w' => e = .returned (.tuple #[.pointer none, .int .i64 2]) ∧ w' = w := by
  by_cases h1 : n < 80
  · clear h
    go_enter Try.func8, Try.ntmps8
    go_wp2
    go_ret2
    exact ⟨rfl, rfl⟩
  · have h2 : 4096 < n := by omega
    clear h
    go_enter Try.func8, Try.ntmps8
    go_wp2
    go_ret2
    exact ⟨rfl, rfl⟩

theorem new_has (w : World) (n : Nat) (C : Array Value) (hS : Stab (w.alloc (.cells C 78)) w.heap.size n (List.replicate n Dk.zeroB)) (h0 : 80 ≤ n) (h1 : n ≤ 4096) :
    Has ((((w.alloc (.cells C 78)).alloc (.map #[] 0)).alloc (.map #[] 0)).alloc (.cells #[.slice (some ⟨w.heap.size, 0, none⟩) n n, .map (some (w.heap.size + 1)), .int .i64 0, .int .i64 0, .map (some (w.heap.size + 2)), .int .i64 9223372036854775807] 72)) ⟨w.heap.size + 3, w.heap.size, n, w.heap.size + 1, w.heap.size + 2⟩ 0 (Dk.new n) := by
  have s1 : (w.alloc (.cells C 78)).heap.size = w.heap.size + 1 := by simp
  have s2 : ((w.alloc (.cells C 78)).alloc (.map #[] 0)).heap.size = w.heap.size + 2 := by simp
  have s3 : (((w.alloc (.cells C 78)).alloc (.map #[] 0)).alloc (.map #[] 0)).heap.size = w.heap.size + 3 := by simp
  have m1 := MapOf.made (w.alloc (.cells C 78))
  have m2 := MapOf.made ((w.alloc (.cells C 78)).alloc (.map #[] 0))
  rw [s1] at m1
  rw [s2] at m2
  refine ⟨?_, ?_, ?_, ?_, Dk.new_ok n h0 h1, ?_, Nat.le_refl _, by show n ≤ maxLen; unfold maxLen; omega⟩
  · have := heap_alloc_new (((w.alloc (.cells C 78)).alloc (.map #[] 0)).alloc (.map #[] 0)) (.cells #[.slice (some ⟨w.heap.size, 0, none⟩) n n, .map (some (w.heap.size + 1)), .int .i64 0, .int .i64 0, .map (some (w.heap.size + 2)), .int .i64 9223372036854775807] 72)
    rw [s3] at this
    rw [this]
    simp [fields, Dk.new]
  · exact hS.of_block (((Below.heap_alloc _ _ _ (by simp; omega)).trans (Below.heap_alloc _ _ _ (by simp; omega))).trans (Below.heap_alloc _ _ _ (by simp)))
  · exact m1.of_block ((Below.heap_alloc _ _ _ (by simp)).trans (Below.heap_alloc _ _ _ (by simp)))
  · exact m2.of_block (Below.heap_alloc _ _ _ (by simp))
  · show w.heap.size + 1 ≠ w.heap.size + 2
    omega

set_option maxRecDepth 100000 in
set_option maxHeartbeats 1000000 in
theorem New_ok (n : Nat) (w : World) (h0 : 80 ≤ n) (h1 : n ≤ 4096) : Calls Try.prog 8 #[.int .i64 (n : Int)] w fun e w' => ∃ x : Pl, e = .returned (.tuple #[ptr x.p, .int .i64 0]) ∧ (∀ k, k ∈ x.bl → w.heap.size ≤ k) ∧ Has w' x 0 (Dk.new n) ∧ Below w.heap.size w w' := by
  obtain ⟨i0, hi, hz0, hz1, hz2⟩ := info_parts info78a
  have hmk : (Instr.makeSlice 68 (.int .i64 (n : Int)) (.int .i64 (n : Int))).run Try.prog w = .ok (.slice (some ⟨w.heap.size, 0, none⟩) n n) (w.alloc (.cells (madeCells (bV Dk.zeroB).toArray (n * 256)) 78)) := by
    rw [run_make w 68 78 i0 (.agg (bV Dk.zeroB).toArray) Try.underlying68 hi hz0 .i64 .i64 (n : Int) (n : Int) (by omega) (by omega) (by rw [hz2]; omega) (by omega), hz1]
    simp only [Int.toNat_natCast, Value.cells]
  have hS := Stab.made w n
  generalize madeCells (bV Dk.zeroB).toArray (n * 256) = C at *
  have hmm := @run_makeMap Try.prog
  clear hi hz0 hz1 hz2
  have h0' : (80 : Int) ≤ (n : Int) := by omega
  have h1' : (n : Int) ≤ 4096 := by omega
  go_enter Try.func8, Try.ntmps8
  go_wp2
  go_ret2
  refine ⟨⟨w.heap.size + 3, w.heap.size, n, w.heap.size + 1, w.heap.size + 2⟩, rfl, by simp [Pl.bl], new_has w n C hS h0 h1, ?_⟩
  exact ((((Below.refl _ w).alloc (Nat.le_refl _) _).alloc (by simp) _).alloc (by simp; omega) _).alloc (by simp; omega) _

theorem CloneD_any (w : World) (b N : Nat) (f : Int → Option Value) (h : MapOf w b N f) : Calls Try.prog 37 #[.map (some b)] w fun e w' => ∃ m, e = .returned (.map (some m)) ∧ w.heap.size ≤ m ∧ MapOf w' m N f ∧ Below w.heap.size w w' := by
  obtain ⟨es, c, hb⟩ := h.isMap
  refine Calls.mono (AnyW.maps_Clone Try.cloneA b es c w hb) ?_
  rintro e w' ⟨rfl, rfl⟩
  exact ⟨w.heap.size, rfl, Nat.le_refl _, h.of_clone hb (heap_alloc_new w _), (Below.refl _ w).alloc (Nat.le_refl _) _⟩
theorem CloneM_any (w : World) (b N : Nat) (f : Int → Option Value) (h : MapOf w b N f) : Calls Try.prog 38 #[.map (some b)] w fun e w' => ∃ m, e = .returned (.map (some m)) ∧ w.heap.size ≤ m ∧ MapOf w' m N f ∧ Below w.heap.size w w' := by
  obtain ⟨es, c, hb⟩ := h.isMap
  refine Calls.mono (AnyW.maps_Clone Try.cloneB b es c w hb) ?_
  rintro e w' ⟨rfl, rfl⟩
  exact ⟨w.heap.size, rfl, Nat.le_refl _, h.of_clone hb (heap_alloc_new w _), (Below.refl _ w).alloc (Nat.le_refl _) _⟩

set_option maxRecDepth 100000 in
set_option maxHeartbeats 1000000 in
theorem Copy_any (w : World) (x : Pl) (N : Nat) (d : Dk.Dev) (h : Has w x N d) :
    Calls Try.prog 18 #[ptr x.p] w fun e w' => ∃ y : Pl, e = .returned (ptr y.p) ∧ (∀ k, k ∈ y.bl → w.heap.size ≤ k) ∧ Has w' y N d ∧ Below w.heap.size w w' := by
  obtain ⟨c0, c1, c2, c3, c4, c5, -⟩ := h.cells
  have hlo := h.ok.lo
  have hhi := h.ok.hi
  have hpl := h.plt
  have ca : ∀ o j, (w.alloc o).cell? ⟨x.p, j, none⟩ = w.cell? ⟨x.p, j, none⟩ := fun o j => World.cell?_of_block (a := ⟨x.p, j, none⟩) (Below.heap_alloc w o x.p hpl)
  have hne : x.p ≠ w.heap.size := by omega
  have hS := fun o => h.hg.of_block (Below.heap_alloc w o x.g h.hg.lt)
  unfold ptr
  go_enter Try.func18, Try.ntmps18
  go_wp2_with fail
  refine (CloneBlocks_any _ x.g x.cap d.st (hS _) (by omega) hhi).mono ?_
  rintro e w2 ⟨g', cap', rfl, hg', hcap', hS2, hb2⟩
  have hq2 : w2.heap[w.heap.size]? = some (.cells (fields x d) 72 (0, 0)) := (hb2.block _ (by simp)).trans (heap_alloc_new w _)
  have k0 : w2.cell? ⟨w.heap.size, 0, none⟩ = some (.slice (some ⟨x.g, 0, none⟩) d.st.length x.cap) := by rw [cell_of_row w2 _ _ _ 72 (0, 0) hq2]; rfl
  have k1 : w2.cell? ⟨w.heap.size, 1, none⟩ = some (.map (some x.md)) := by rw [cell_of_row w2 _ _ _ 72 (0, 0) hq2]; rfl
  have k4 : w2.cell? ⟨w.heap.size, 4, none⟩ = some (.map (some x.mf)) := by rw [cell_of_row w2 _ _ _ 72 (0, 0) hq2]; rfl
  have kf : ∀ j, w2.frozen? ⟨w.heap.size, j, none⟩ = false := fun j => by simp [World.frozen?, hq2]
  have hh2 : Has w2 x N d := (h.below ((Below.refl _ w).alloc (Nat.le_refl _) _)).below hb2
  obtain ⟨e0, e1, e2, e3, e4, e5, -⟩ := hh2.cells
  have hlt2 : w.heap.size < w2.heap.size := lt_of_heap hq2
  clear c0 c1 c2 c3 c4 c5 ca hS
  have hh3 : Has (w2.setCell ⟨w.heap.size, 0, none⟩ (.slice (some ⟨g', 0, none⟩) d.st.length cap')) x N d := hh2.of_blocks fun k hk => Below.heap_setCell w2 ⟨w.heap.size, 0, none⟩ _ k (by have := h.lt k hk; show k ≠ w.heap.size; omega)
  have hq3 := heap_setCell_at hq2 0 (.slice (some ⟨g', 0, none⟩) d.st.length cap')
  have hS3 : Stab (w2.setCell ⟨w.heap.size, 0, none⟩ (.slice (some ⟨g', 0, none⟩) d.st.length cap')) g' cap' d.st := hS2.of_block (Below.heap_setCell w2 ⟨w.heap.size, 0, none⟩ _ g' (by simp at hg'; show g' ≠ w.heap.size; omega))
  have hb3 : Below w.heap.size w (w2.setCell ⟨w.heap.size, 0, none⟩ (.slice (some ⟨g', 0, none⟩) d.st.length cap')) := (((Below.refl _ w).alloc (Nat.le_refl _) _).trans (hb2.mono (by simp))).setCell (Nat.le_refl _) _
  go_wp2_with fail
  generalize hW3 : w2.setCell ⟨w.heap.size, 0, none⟩ (.slice (some ⟨g', 0, none⟩) d.st.length cap') = W3 at *
  have hs3 : W3.heap.size = w2.heap.size := by rw [← hW3]; simp [World.setCell]
  clear hW3
  refine (CloneD_any W3 x.md N _ hh3.hd).mono ?_
  rintro e w4 ⟨m1, rfl, hm1, hM1, hb4⟩
  have hq4 := (hb4.block _ (lt_of_heap hq3)).trans hq3
  have hh4 := hh3.below hb4
  have hS4 := hS3.of_block (hb4.block _ hS3.lt)
  obtain ⟨-, f1, -, -, f4, -, -⟩ := hh4.cells
  have k1' : w4.cell? ⟨w.heap.size, 1, none⟩ = some (.map (some x.md)) := by rw [cell_of_row w4 _ _ _ 72 (0, 0) hq4]; rfl
  have kf' : ∀ j, w4.frozen? ⟨w.heap.size, j, none⟩ = false := fun j => by simp [World.frozen?, hq4]
  have hlt4 : w.heap.size < w4.heap.size := lt_of_heap hq4
  have hh5 : Has (w4.setCell ⟨w.heap.size, 1, none⟩ (.map (some m1))) x N d := hh4.of_blocks fun k hk => Below.heap_setCell w4 ⟨w.heap.size, 1, none⟩ _ k (by have := h.lt k hk; show k ≠ w.heap.size; omega)
  have hq5 := heap_setCell_at hq4 1 (.map (some m1))
  have hS5 : Stab (w4.setCell ⟨w.heap.size, 1, none⟩ (.map (some m1))) g' cap' d.st := hS4.of_block (Below.heap_setCell w4 ⟨w.heap.size, 1, none⟩ _ g' (by simp at hg'; show g' ≠ w.heap.size; omega))
  have hM5 : MapOf (w4.setCell ⟨w.heap.size, 1, none⟩ (.map (some m1))) m1 N (fun i => (d.di i).map aggB) := hM1.of_block (Below.heap_setCell w4 ⟨w.heap.size, 1, none⟩ _ m1 (by show m1 ≠ w.heap.size; omega))
  have hb5 : Below w.heap.size w (w4.setCell ⟨w.heap.size, 1, none⟩ (.map (some m1))) := (hb3.trans (hb4.mono (by omega))).setCell (Nat.le_refl _) _
  go_wp2_with fail
  generalize hW5 : w4.setCell ⟨w.heap.size, 1, none⟩ (.map (some m1)) = W5 at *
  have hs5 : W5.heap.size = w4.heap.size := by rw [← hW5]; simp [World.setCell]
  clear hW5
  refine (CloneM_any W5 x.mf N _ hh5.hf).mono ?_
  rintro e w6 ⟨m2, rfl, hm2, hM2, hb6⟩
  have hq6 := (hb6.block _ (lt_of_heap hq5)).trans hq5
  have hS6 := hS5.of_block (hb6.block _ hS5.lt)
  have hM6 := hM5.of_block (hb6.block _ hM5.lt)
  have k4' : w6.cell? ⟨w.heap.size, 4, none⟩ = some (.map (some x.mf)) := by rw [cell_of_row w6 _ _ _ 72 (0, 0) hq6]; rfl
  have kf6 : ∀ j, w6.frozen? ⟨w.heap.size, j, none⟩ = false := fun j => by simp [World.frozen?, hq6]
  go_wp2
  go_ret
  refine ⟨⟨w.heap.size, g', cap', m1, m2⟩, rfl, ?_, ⟨?_, ?_, ?_, ?_, h.ok, ?_, h.hop, hcap'⟩, (hb5.trans (hb6.mono (by omega))).setCell (Nat.le_refl _) _⟩
  · intro k hk
    simp only [Pl.bl, List.mem_cons, List.not_mem_nil, or_false] at hk
    simp at hg'
    rcases hk with rfl | rfl | rfl | rfl <;> omega
  · have := heap_setCell_at hq6 4 (.map (some m2))
    rw [this]
    simp [fields]
  · exact hS6.of_block (Below.heap_setCell w6 ⟨w.heap.size, 4, none⟩ _ g' (by simp at hg'; show g' ≠ w.heap.size; omega))
  · exact hM6.of_block (Below.heap_setCell w6 ⟨w.heap.size, 4, none⟩ _ m1 (by show m1 ≠ w.heap.size; omega))
  · exact hM2.of_block (Below.heap_setCell w6 ⟨w.heap.size, 4, none⟩ _ m2 (by show m2 ≠ w.heap.size; omega))
  · have := hM5.lt
    show m1 ≠ m2
    omega
end Go.Proofs.Ytccfoafcfnhejaa
