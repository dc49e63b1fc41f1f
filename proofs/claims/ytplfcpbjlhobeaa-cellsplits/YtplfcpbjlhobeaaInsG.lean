/-
  slices.Insert WITHIN A ROW THAT HAS NO ROOM, at items and at numbers.
-/
import Derived.Test.YtplfcpbjlhobeaaInsS
namespace Go.Proofs.Ytplfcpbjlhobeaa
open Go.RowKit

set_option maxRecDepth 100000 in
set_option maxHeartbeats 4000000 in
/-- within the row, there is no room: a new row -/
theorem Cins_grow (l : List Cm.It) (x : Cm.It) (i g c p : Nat) (cur : Array Value) (w : World) (hi : i < l.length) (hl : l.length ≤ 1000000) (hc : l.length ≤ c) (hc2 : c < l.length + 1)
    (hg : w.heap[g]? = some (.cells cur 24 (0, 0))) (hx : cur.toList.take (l.length * 4) = itsV l) (hp : w.heap[p]? = some (.cells (itsV [x]).toArray 24 (0, 0))) :
    Calls Try.prog 20 #[.slice (some ⟨g, 0, none⟩) l.length c, .int .i64 (i : Int), .slice (some ⟨p, 0, none⟩) 1 1] w fun e w' => ∃ G cur', e = .returned (.slice (some ⟨w.heap.size, 0, none⟩) (l.length + 1) G) ∧
      w'.heap[w.heap.size]? = some (.cells cur' 24 (0, 0)) ∧ l.length + 1 ≤ G ∧ G ≤ maxLen ∧ cur'.size = G * 4 ∧ cur'.toList.take ((l.length + 1) * 4) = itsV (l.take i ++ x :: l.drop i) ∧ Below w.heap.size w w' := by
  obtain ⟨n, hn⟩ : ∃ n, l.length = n := ⟨_, rfl⟩
  have hVl : (itsV l).length = n * 4 := by rw [itsV_length, hn]
  have hV1 : (itsV [x]).length = 4 := by rw [itsV_length]; rfl
  have hdl : ((itsV l).drop (i * 4)).length = (n - i) * 4 := by rw [List.length_drop, hVl]; omega
  obtain ⟨i0, hi0, hz0, hz1, hz2⟩ := info_parts infoC
  have hsize : (Try.prog.info? 24).map (·.size) = some 4 := by rw [hi0]; simp [hz1]
  have hcell : ∀ j v, (itsV l)[j]? = some v → w.cell? ⟨g, j, none⟩ = some v := fun j v h => by
    rw [← hx, List.getElem?_take] at h
    split at h
    · simp only [World.cell?, hg]; rw [← Array.getElem?_toList]; exact h
    · cases h
  have hold : (Builtin.firstCells i0.size i (.slice (some ⟨g, 0, none⟩) i c)).run Try.prog w.drew = .ok ((itsV l).take (i * 4)).toArray w.drew := by
    rw [hz1]
    exact run_firstCells_some w.drew 4 i ⟨g, 0, none⟩ i c ((itsV l).take (i * 4)) (by rw [List.length_take, hVl]; omega) (fun j v hj => by
      rw [Addr.add_lit, Nat.zero_add]
      rw [List.getElem?_take] at hj
      split at hj
      · exact hcell j v hj
      · cases hj)
  obtain ⟨z, hzz⟩ : ∃ z, i0.zero = some z := ⟨_, hz0⟩
  have hzs : z.cells.size = 4 := by rw [hz0] at hzz; cases hzz; rfl
  obtain ⟨G, hG⟩ : ∃ G, G = grownCap w (n + 1) c 24 := ⟨_, rfl⟩
  have hGn : n + 1 ≤ G := by rw [hG]; exact grownCap_ge w _ _ _
  have hGm : G ≤ maxLen := by rw [hG]; exact grownCap_le_maxLen w (n + 1) c 24 (by unfold maxLen; omega)
  obtain ⟨ROW, hROW⟩ : ∃ ROW : Array Value, ROW = ((itsV l).take (i * 4)).toArray ++ Builtin.zeroCells z.cells (n + 1 - i) ++ Builtin.zeroCells z.cells (G - (n + 1)) := ⟨_, rfl⟩
  have hRs : ROW.size = G * 4 := by
    rw [hROW, Array.size_append, Array.size_append, size_zeroCells, size_zeroCells, hzs, List.size_toArray, List.length_take, hVl]
    omega
  have hRt : ROW.toList.take (i * 4) = (itsV l).take (i * 4) := by
    rw [hROW]
    simp only [Array.toList_append, List.append_assoc]
    rw [List.take_append_of_le_length (by rw [List.length_take, hVl]; omega), List.take_take, Nat.min_self]
  have hrz : ∀ ty, (Builtin.append_ #[25, 3] ty #[.slice (some ⟨g, 0, none⟩) i c, .int .i64 ((n : Int) + 1 - (i : Int))]).run Try.prog w =
      .ok (.slice (some ⟨w.heap.size, 0, none⟩) (n + 1) G) (w.drew.alloc (.cells ROW 24)) := fun ty => by
    have h := Lib.run_append_grow_zeros w 25 3 ty 24 i0 _ .i64 .i64 Try.underlying25 Try.underlying3 hi0 hzz (some ⟨g, 0, none⟩) i c ((itsV l).take (i * 4)) hold (n + 1 - i) (by omega) (by omega) (by omega) (by omega) (by rw [hz2]; omega) (by rw [hz2, show i + (n + 1 - i) = n + 1 by omega]; exact growslice_fits (by omega) (by omega))
    rw [show i + (n + 1 - i) = n + 1 by omega, ← hG] at h
    rw [show (n : Int) + 1 - (i : Int) = ((n + 1 - i : Nat) : Int) by omega, hROW]
    exact h
  obtain ⟨c1len, c2len, c2take⟩ := ins_grow ROW.toList (itsV l) (itsV [x]) (i * 4) ((i + 1) * 4) ((n + 1) * 4) (by omega) (by omega) (by omega) hRt (by rw [Array.length_toList, hRs]; omega)
  obtain ⟨row1, hrow1⟩ : ∃ r, ROW.toList.take (i * 4) ++ itsV [x] ++ ROW.toList.drop (i * 4 + (itsV [x]).length) = r := ⟨_, rfl⟩
  rw [hrow1] at c1len c2len c2take
  obtain ⟨row2, hrow2⟩ : ∃ r, row1.take ((i + 1) * 4) ++ (itsV l).drop (i * 4) ++ row1.drop ((i + 1) * 4 + ((itsV l).drop (i * 4)).length) = r := ⟨_, rfl⟩
  rw [hrow2] at c2len c2take
  rw [show ROW.toList.length = G * 4 by rw [Array.length_toList, hRs]] at c1len c2len
  have hgl := (Array.getElem?_eq_some_iff.1 hg).1
  have hpl := (Array.getElem?_eq_some_iff.1 hp).1
  obtain ⟨W1, hW1⟩ : ∃ W1, W1 = w.drew.alloc (.cells ROW 24) := ⟨_, rfl⟩
  have hB1 : Below w.heap.size w W1 := by
    have h := (Below.refl w.heap.size w).alloc (Nat.le_refl _) (.cells ROW 24)
    rw [hW1]; exact ⟨h.os, h.tape, h.output, h.size, h.block⟩
  have hR1 : W1.heap[w.heap.size]? = some (.cells ROW 24 (0, 0)) := by rw [hW1]; exact heap_alloc_new w.drew _
  rw [← hW1] at hrz
  have hB2 : ∀ cs, Below w.heap.size w (W1.setRow w.heap.size cs) := fun cs => ⟨hB1.os, hB1.tape, hB1.output, by have := hB1.size; simp [World.setRow]; exact this, fun k hk => ((setRow_grown W1 w.heap.size cs).block k (by have := hB1.size; omega) (by simp; omega)).trans (hB1.block k hk)⟩
  have hcp1 : ∀ W : World, W.heap = W1.heap → ∀ ty dc, (Builtin.copy_ #[25, 25] ty #[.slice (some ⟨w.heap.size, i * 4, none⟩) (n + 1 - i) dc, .slice (some ⟨p, 0, none⟩) 1 1]).run Try.prog W = .ok (goInt (Nat.min 1 (n + 1 - i))) (W.setRow w.heap.size row1.toArray) := fun W hW ty dc => by
    have hpW : W.heap[p]? = some (.cells (itsV [x]).toArray 24 (0, 0)) := by rw [hW]; exact (hB1.block p hpl).trans hp
    rw [run_copy_rows W 25 25 ty 24 4 w.heap.size (i * 4) (n + 1 - i) dc ⟨p, 0, none⟩ 1 1 ROW 24 (itsV [x]) Try.underlying25 hsize (by rw [hW]; exact hR1) (by rw [hV1, show Nat.min 1 (n + 1 - i) = 1 by rw [show Nat.min 1 (n + 1 - i) = min 1 (n + 1 - i) from rfl]; omega])
      (fun j v hj => by
        rw [Addr.add_lit, Nat.zero_add]
        simp only [World.cell?, hpW]
        rw [← Array.getElem?_toList]; exact hj) (by rw [hV1, hRs]; omega) (itsV_one [x]), hrow1]
  have hcp2 : ∀ W : World, W.heap = (W1.setRow w.heap.size row1.toArray).heap → ∀ ty dc sc, (Builtin.copy_ #[25, 25] ty #[.slice (some ⟨w.heap.size, (i + 1) * 4, none⟩) (n - i) dc, .slice (some ⟨g, i * 4, none⟩) (n - i) sc]).run Try.prog W = .ok (goInt (Nat.min (n - i) (n - i))) (W.setRow w.heap.size row2.toArray) := fun W hW ty dc sc => by
    have := run_copy_rows W 25 25 ty 24 4 w.heap.size ((i + 1) * 4) (n - i) dc ⟨g, i * 4, none⟩ (n - i) sc row1.toArray 24 ((itsV l).drop (i * 4)) Try.underlying25 hsize (by rw [hW]; exact setRow_heap W1 w.heap.size ROW row1.toArray 24 (0, 0) hR1) (by rw [hdl, show Nat.min (n - i) (n - i) = n - i by rw [show Nat.min (n - i) (n - i) = min (n - i) (n - i) from rfl]; omega])
      (fun j v hj => by
        rw [List.getElem?_drop] at hj
        have h := hcell _ v hj
        rw [Addr.add_lit]
        simp only [World.cell?, hW] at h ⊢
        rw [(hB2 row1.toArray).block g hgl]
        exact h) (by rw [hdl, List.size_toArray, c1len]; omega) (fun v hv => itsV_one l v (List.mem_of_mem_drop hv))
    rw [List.toList_toArray, hrow2] at this
    exact this
  have sA := fun W => Cslice_lo W ⟨g, 0, none⟩ n c i (by omega) (by omega)
  have sB := fun W => Cslice_hi W (some ⟨g, 0, none⟩) n c i (by omega)
  have sC := fun W => Cslice_lo W ⟨w.heap.size, 0, none⟩ (n + 1) G (i + 1) (by omega) (by omega)
  have sD := fun W => Cslice_lo W ⟨w.heap.size, 0, none⟩ (n + 1) G i (by omega) (by omega)
  simp only [addr_add, Nat.zero_add, Int.natCast_add, Int.natCast_one] at sA sB sC sD
  have hw1 : IntKind.i64.wrap ((i : Int) + 1) = (i : Int) + 1 := by rw [IntKind.wrap_i64]; omega
  have hw2 : IntKind.i64.wrap ((n : Int) + 1) = (n : Int) + 1 := by rw [IntKind.wrap_i64]; omega
  have hw3 : IntKind.i64.wrap ((n : Int) + 1 - (i : Int)) = (n : Int) + 1 - (i : Int) := by rw [IntKind.wrap_i64]; omega
  have hz2 : ¬ ((i : Int) = (n : Int)) := by omega
  have hz3 : (c : Int) < (n : Int) + 1 := by omega
  have mixed : Try.prog.follows Departure.mixedOrders = true := by kernel_rfl
  rw [hn]
  have Hi : Hid (i ≤ l.length) := Nat.le_of_lt hi
  have HR1 : Hid _ := hR1
  have HB1 : Hid _ := hB1
  have Ht : Hid _ := c2take
  have Hc2 : Hid _ := c2len
  have HG : Hid (n + 1 ≤ G ∧ G ≤ maxLen) := ⟨hGn, hGm⟩
  clear hrow1 hrow2 c1len c2len c2take hcell hdl hVl hV1 hx hg hp hi0 hsize hi hRs hRt hold hR1 hB1 hB2 hW1 hROW hG hGn hGm
  have hcpA := hcp1 W1 rfl
  go_enter Try.func20, Try.ntmps20
  go_wp2_with (first
    | (at_builtin; refine Lib.wpList_append_run _ rfl _ _ _ _ rfl _ _ rfl rfl _ _ (hrz _) ?_)
    | (at_builtin; refine wpList_copy_runI _ rfl _ _ 25 25 rfl _ _ rfl rfl (hcpA _ _) ?_))
  have hcpB := hcp2 (W1.setRow w.heap.size row1.toArray).drew rfl
  go_region_law_o (refine step_copy_runI rfl _ _ 25 25 rfl _ _ (by simp [Act.eval, Act.put]) (by simp [Act.eval, Act.put]) (hcpB _ _ _) ?_)
  go_wp2
  go_ret
  have h1 := setRow_heap W1 w.heap.size ROW row1.toArray 24 (0, 0) HR1.out
  refine ⟨G, row2.toArray, rfl, setRow_heap _ w.heap.size row1.toArray row2.toArray 24 (0, 0) h1, HG.out.1, HG.out.2, by rw [List.size_toArray]; exact Hc2.out, ?_, ?_⟩
  · have := Ht.out
    rw [itsV_ins l x i Hi.out] at this
    exact this
  · have h2 := HB1.out
    refine ⟨h2.os, h2.tape, h2.output, by have := h2.size; simp [World.setRow]; exact this, fun k hk => ?_⟩
    exact ((setRow_grown _ w.heap.size row2.toArray).block k (by have := h2.size; simp [World.setRow]; omega) (by simp; omega)).trans (((setRow_grown W1 w.heap.size row1.toArray).block k (by have := h2.size; omega) (by simp; omega)).trans (h2.block k hk))

set_option maxRecDepth 100000 in
set_option maxHeartbeats 4000000 in
/-- within the row, there is no room: a new row -/
theorem Nins_grow (l : List Int) (x : Int) (i g c p : Nat) (cur : Array Value) (w : World) (hi : i < l.length) (hl : l.length ≤ 1000000) (hc : l.length ≤ c) (hc2 : c < l.length + 1)
    (hg : w.heap[g]? = some (.cells cur 3 (0, 0))) (hx : cur.toList.take (l.length * 1) = intsV l) (hp : w.heap[p]? = some (.cells (intsV [x]).toArray 3 (0, 0))) :
    Calls Try.prog 21 #[.slice (some ⟨g, 0, none⟩) l.length c, .int .i64 (i : Int), .slice (some ⟨p, 0, none⟩) 1 1] w fun e w' => ∃ G cur', e = .returned (.slice (some ⟨w.heap.size, 0, none⟩) (l.length + 1) G) ∧
      w'.heap[w.heap.size]? = some (.cells cur' 3 (0, 0)) ∧ l.length + 1 ≤ G ∧ G ≤ maxLen ∧ cur'.size = G * 1 ∧ cur'.toList.take ((l.length + 1) * 1) = intsV (l.take i ++ x :: l.drop i) ∧ Below w.heap.size w w' := by
  obtain ⟨n, hn⟩ : ∃ n, l.length = n := ⟨_, rfl⟩
  have hVl : (intsV l).length = n * 1 := by rw [intsV_length1, hn]
  have hV1 : (intsV [x]).length = 1 := by rw [intsV_length1]; rfl
  have hdl : ((intsV l).drop i).length = (n - i) * 1 := by rw [List.length_drop, hVl]; omega
  obtain ⟨i0, hi0, hz0, hz1, hz2⟩ := info_parts infoN
  have hsize : (Try.prog.info? 3).map (·.size) = some 1 := by rw [hi0]; simp [hz1]
  have hcell : ∀ j v, (intsV l)[j]? = some v → w.cell? ⟨g, j, none⟩ = some v := fun j v h => by
    rw [← hx, List.getElem?_take] at h
    split at h
    · simp only [World.cell?, hg]; rw [← Array.getElem?_toList]; exact h
    · cases h
  have hold : (Builtin.firstCells i0.size i (.slice (some ⟨g, 0, none⟩) i c)).run Try.prog w.drew = .ok ((intsV l).take i).toArray w.drew := by
    rw [hz1]
    exact run_firstCells_some w.drew 1 i ⟨g, 0, none⟩ i c ((intsV l).take i) (by rw [List.length_take, hVl]; omega) (fun j v hj => by
      rw [Addr.add_lit, Nat.zero_add]
      rw [List.getElem?_take] at hj
      split at hj
      · exact hcell j v hj
      · cases hj)
  obtain ⟨z, hzz⟩ : ∃ z, i0.zero = some z := ⟨_, hz0⟩
  have hzs : z.cells.size = 1 := by rw [hz0] at hzz; cases hzz; rfl
  obtain ⟨G, hG⟩ : ∃ G, G = grownCap w (n + 1) c 3 := ⟨_, rfl⟩
  have hGn : n + 1 ≤ G := by rw [hG]; exact grownCap_ge w _ _ _
  have hGm : G ≤ maxLen := by rw [hG]; exact grownCap_le_maxLen w (n + 1) c 3 (by unfold maxLen; omega)
  obtain ⟨ROW, hROW⟩ : ∃ ROW : Array Value, ROW = ((intsV l).take i).toArray ++ Builtin.zeroCells z.cells (n + 1 - i) ++ Builtin.zeroCells z.cells (G - (n + 1)) := ⟨_, rfl⟩
  have hRs : ROW.size = G * 1 := by
    rw [hROW, Array.size_append, Array.size_append, size_zeroCells, size_zeroCells, hzs, List.size_toArray, List.length_take, hVl]
    omega
  have hRt : ROW.toList.take i = (intsV l).take i := by
    rw [hROW]
    simp only [Array.toList_append, List.append_assoc]
    rw [List.take_append_of_le_length (by rw [List.length_take, hVl]; omega), List.take_take, Nat.min_self]
  have hrz : ∀ ty, (Builtin.append_ #[26, 3] ty #[.slice (some ⟨g, 0, none⟩) i c, .int .i64 ((n : Int) + 1 - (i : Int))]).run Try.prog w =
      .ok (.slice (some ⟨w.heap.size, 0, none⟩) (n + 1) G) (w.drew.alloc (.cells ROW 3)) := fun ty => by
    have h := Lib.run_append_grow_zeros w 26 3 ty 3 i0 _ .i64 .i64 Try.underlying26 Try.underlying3 hi0 hzz (some ⟨g, 0, none⟩) i c ((intsV l).take i) hold (n + 1 - i) (by omega) (by omega) (by omega) (by omega) (by rw [hz2]; omega) (by rw [hz2, show i + (n + 1 - i) = n + 1 by omega]; exact growslice_fits (by omega) (by omega))
    rw [show i + (n + 1 - i) = n + 1 by omega, ← hG] at h
    rw [show (n : Int) + 1 - (i : Int) = ((n + 1 - i : Nat) : Int) by omega, hROW]
    exact h
  obtain ⟨c1len, c2len, c2take⟩ := ins_grow ROW.toList (intsV l) (intsV [x]) i (i + 1) ((n + 1) * 1) (by omega) (by omega) (by omega) hRt (by rw [Array.length_toList, hRs]; omega)
  obtain ⟨row1, hrow1⟩ : ∃ r, ROW.toList.take i ++ intsV [x] ++ ROW.toList.drop (i + (intsV [x]).length) = r := ⟨_, rfl⟩
  rw [hrow1] at c1len c2len c2take
  obtain ⟨row2, hrow2⟩ : ∃ r, row1.take (i + 1) ++ (intsV l).drop i ++ row1.drop (i + 1 + ((intsV l).drop i).length) = r := ⟨_, rfl⟩
  rw [hrow2] at c2len c2take
  rw [show ROW.toList.length = G * 1 by rw [Array.length_toList, hRs]] at c1len c2len
  have hgl := (Array.getElem?_eq_some_iff.1 hg).1
  have hpl := (Array.getElem?_eq_some_iff.1 hp).1
  obtain ⟨W1, hW1⟩ : ∃ W1, W1 = w.drew.alloc (.cells ROW 3) := ⟨_, rfl⟩
  have hB1 : Below w.heap.size w W1 := by
    have h := (Below.refl w.heap.size w).alloc (Nat.le_refl _) (.cells ROW 3)
    rw [hW1]; exact ⟨h.os, h.tape, h.output, h.size, h.block⟩
  have hR1 : W1.heap[w.heap.size]? = some (.cells ROW 3 (0, 0)) := by rw [hW1]; exact heap_alloc_new w.drew _
  rw [← hW1] at hrz
  have hB2 : ∀ cs, Below w.heap.size w (W1.setRow w.heap.size cs) := fun cs => ⟨hB1.os, hB1.tape, hB1.output, by have := hB1.size; simp [World.setRow]; exact this, fun k hk => ((setRow_grown W1 w.heap.size cs).block k (by have := hB1.size; omega) (by simp; omega)).trans (hB1.block k hk)⟩
  have hcp1 : ∀ W : World, W.heap = W1.heap → ∀ ty dc, (Builtin.copy_ #[26, 26] ty #[.slice (some ⟨w.heap.size, i, none⟩) (n + 1 - i) dc, .slice (some ⟨p, 0, none⟩) 1 1]).run Try.prog W = .ok (goInt (Nat.min 1 (n + 1 - i))) (W.setRow w.heap.size row1.toArray) := fun W hW ty dc => by
    have hpW : W.heap[p]? = some (.cells (intsV [x]).toArray 3 (0, 0)) := by rw [hW]; exact (hB1.block p hpl).trans hp
    rw [run_copy_rows W 26 26 ty 3 1 w.heap.size i (n + 1 - i) dc ⟨p, 0, none⟩ 1 1 ROW 3 (intsV [x]) Try.underlying26 hsize (by rw [hW]; exact hR1) (by rw [hV1, show Nat.min 1 (n + 1 - i) = 1 by rw [show Nat.min 1 (n + 1 - i) = min 1 (n + 1 - i) from rfl]; omega])
      (fun j v hj => by
        rw [Addr.add_lit, Nat.zero_add]
        simp only [World.cell?, hpW]
        rw [← Array.getElem?_toList]; exact hj) (by rw [hV1, hRs]; omega) (intsV_one [x]), hrow1]
  have hcp2 : ∀ W : World, W.heap = (W1.setRow w.heap.size row1.toArray).heap → ∀ ty dc sc, (Builtin.copy_ #[26, 26] ty #[.slice (some ⟨w.heap.size, i + 1, none⟩) (n - i) dc, .slice (some ⟨g, i, none⟩) (n - i) sc]).run Try.prog W = .ok (goInt (Nat.min (n - i) (n - i))) (W.setRow w.heap.size row2.toArray) := fun W hW ty dc sc => by
    have := run_copy_rows W 26 26 ty 3 1 w.heap.size (i + 1) (n - i) dc ⟨g, i, none⟩ (n - i) sc row1.toArray 3 ((intsV l).drop i) Try.underlying26 hsize (by rw [hW]; exact setRow_heap W1 w.heap.size ROW row1.toArray 3 (0, 0) hR1) (by rw [hdl, show Nat.min (n - i) (n - i) = n - i by rw [show Nat.min (n - i) (n - i) = min (n - i) (n - i) from rfl]; omega])
      (fun j v hj => by
        rw [List.getElem?_drop] at hj
        have h := hcell _ v hj
        rw [Addr.add_lit]
        simp only [World.cell?, hW] at h ⊢
        rw [(hB2 row1.toArray).block g hgl]
        exact h) (by rw [hdl, List.size_toArray, c1len]; omega) (fun v hv => intsV_one l v (List.mem_of_mem_drop hv))
    rw [List.toList_toArray, hrow2] at this
    exact this
  have sA := fun W => Nslice_lo W ⟨g, 0, none⟩ n c i (by omega) (by omega)
  have sB := fun W => Nslice_hi W (some ⟨g, 0, none⟩) n c i (by omega)
  have sC := fun W => Nslice_lo W ⟨w.heap.size, 0, none⟩ (n + 1) G (i + 1) (by omega) (by omega)
  have sD := fun W => Nslice_lo W ⟨w.heap.size, 0, none⟩ (n + 1) G i (by omega) (by omega)
  simp only [addr_add, Nat.zero_add, Int.natCast_add, Int.natCast_one] at sA sB sC sD
  have hw1 : IntKind.i64.wrap ((i : Int) + 1) = (i : Int) + 1 := by rw [IntKind.wrap_i64]; omega
  have hw2 : IntKind.i64.wrap ((n : Int) + 1) = (n : Int) + 1 := by rw [IntKind.wrap_i64]; omega
  have hw3 : IntKind.i64.wrap ((n : Int) + 1 - (i : Int)) = (n : Int) + 1 - (i : Int) := by rw [IntKind.wrap_i64]; omega
  have hz2 : ¬ ((i : Int) = (n : Int)) := by omega
  have hz3 : (c : Int) < (n : Int) + 1 := by omega
  have mixed : Try.prog.follows Departure.mixedOrders = true := by kernel_rfl
  rw [hn]
  have Hi : Hid (i ≤ l.length) := Nat.le_of_lt hi
  have HR1 : Hid _ := hR1
  have HB1 : Hid _ := hB1
  have Ht : Hid _ := c2take
  have Hc2 : Hid _ := c2len
  have HG : Hid (n + 1 ≤ G ∧ G ≤ maxLen) := ⟨hGn, hGm⟩
  clear hrow1 hrow2 c1len c2len c2take hcell hdl hVl hV1 hx hg hp hi0 hsize hi hRs hRt hold hR1 hB1 hB2 hW1 hROW hG hGn hGm
  have hcpA := hcp1 W1 rfl
  go_enter Try.func21, Try.ntmps21
  go_wp2_with (first
    | (at_builtin; refine Lib.wpList_append_run _ rfl _ _ _ _ rfl _ _ rfl rfl _ _ (hrz _) ?_)
    | (at_builtin; refine wpList_copy_runI _ rfl _ _ 26 26 rfl _ _ rfl rfl (hcpA _ _) ?_))
  have hcpB := hcp2 (W1.setRow w.heap.size row1.toArray).drew rfl
  go_region_law_o (refine step_copy_runI rfl _ _ 26 26 rfl _ _ (by simp [Act.eval, Act.put]) (by simp [Act.eval, Act.put]) (hcpB _ _ _) ?_)
  go_wp2
  go_ret
  have h1 := setRow_heap W1 w.heap.size ROW row1.toArray 3 (0, 0) HR1.out
  refine ⟨G, row2.toArray, rfl, setRow_heap _ w.heap.size row1.toArray row2.toArray 3 (0, 0) h1, HG.out.1, HG.out.2, by rw [List.size_toArray]; exact Hc2.out, ?_, ?_⟩
  · have := Ht.out
    rw [intsV_ins l x i Hi.out] at this
    exact this
  · have h2 := HB1.out
    refine ⟨h2.os, h2.tape, h2.output, by have := h2.size; simp [World.setRow]; exact this, fun k hk => ?_⟩
    exact ((setRow_grown _ w.heap.size row2.toArray).block k (by have := h2.size; simp [World.setRow]; omega) (by simp; omega)).trans (((setRow_grown W1 w.heap.size row1.toArray).block k (by have := h2.size; omega) (by simp; omega)).trans (h2.block k hk))

end Go.Proofs.Ytplfcpbjlhobeaa
