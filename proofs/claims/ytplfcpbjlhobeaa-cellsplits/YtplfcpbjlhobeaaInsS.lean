/-
  slices.Insert WITHIN A ROW THAT HAS ROOM, at items and at numbers.
-/
import Derived.Test.YtplfcpbjlhobeaaInsE
namespace Go.Proofs.Ytplfcpbjlhobeaa
open Go.RowKit

theorem itsV_take (l : List Cm.It) (i : Nat) (h : i ≤ l.length) : (itsV l).take (i * 4) = itsV (l.take i) := by
  conv => lhs; rw [← List.take_append_drop i l, itsV_append]
  exact List.take_left' (by rw [itsV_length, List.length_take]; omega)
theorem itsV_drop (l : List Cm.It) (i : Nat) (h : i ≤ l.length) : (itsV l).drop (i * 4) = itsV (l.drop i) := by
  conv => lhs; rw [← List.take_append_drop i l, itsV_append]
  exact List.drop_left' (by rw [itsV_length, List.length_take]; omega)
theorem intsV_length1 (l : List Int) : (intsV l).length = l.length * 1 := by rw [intsV_length, Nat.mul_one]
theorem itsV_ins (l : List Cm.It) (x : Cm.It) (i : Nat) (h : i ≤ l.length) : (itsV l).take (i * 4) ++ itsV [x] ++ (itsV l).drop (i * 4) = itsV (l.take i ++ x :: l.drop i) := by
  rw [itsV_take l i h, itsV_drop l i h, show l.take i ++ x :: l.drop i = l.take i ++ [x] ++ l.drop i by simp, itsV_append, itsV_append]
theorem intsV_ins (l : List Int) (x : Int) (i : Nat) (_h : i ≤ l.length) : (intsV l).take i ++ intsV [x] ++ (intsV l).drop i = intsV (l.take i ++ x :: l.drop i) := by
  simp [intsV]

set_option maxRecDepth 100000 in
set_option maxHeartbeats 4000000 in
/-- within the row, there is room -/
theorem Cins_shift (l : List Cm.It) (x : Cm.It) (i g c p : Nat) (cur : Array Value) (w : World) (hi : i < l.length) (hl : l.length ≤ 1000000) (hc : l.length + 1 ≤ c) (hcm : c ≤ maxLen)
    (hg : w.heap[g]? = some (.cells cur 24 (0, 0))) (hsz : cur.size = c * 4) (hx : cur.toList.take (l.length * 4) = itsV l) (hp : w.heap[p]? = some (.cells (itsV [x]).toArray 24 (0, 0))) (hne : p ≠ g) :
    Calls Try.prog 20 #[.slice (some ⟨g, 0, none⟩) l.length c, .int .i64 (i : Int), .slice (some ⟨p, 0, none⟩) 1 1] w fun e w' => ∃ cur', e = .returned (.slice (some ⟨g, 0, none⟩) (l.length + 1) c) ∧
      w'.heap[g]? = some (.cells cur' 24 (0, 0)) ∧ cur'.size = c * 4 ∧ cur'.toList.take ((l.length + 1) * 4) = itsV (l.take i ++ x :: l.drop i) ∧ w.grownBy w' (some g) := by
  obtain ⟨n, hn⟩ : ∃ n, l.length = n := ⟨_, rfl⟩
  have hVl : (itsV l).length = n * 4 := by rw [itsV_length, hn]
  have hV1 : (itsV [x]).length = 4 := by rw [itsV_length]; rfl
  have hmx : c ≤ 9223372036854775807 := by unfold maxLen at hcm; omega
  have hdl : ((itsV l).drop (i * 4)).length = (n - i) * 4 := by rw [List.length_drop, hVl]; omega
  obtain ⟨i0, hi0, hz0, hz1, hz2⟩ := info_parts infoC
  have hsize : (Try.prog.info? 24).map (·.size) = some 4 := by rw [hi0]; simp [hz1]
  obtain ⟨c1len, c2len, c2take⟩ := ins_shift cur.toList (itsV l) (itsV [x]) (i * 4) ((i + 1) * 4) ((n + 1) * 4) (by omega) (by omega) (by omega) (by rw [hVl, ← hn]; exact hx) (by rw [Array.length_toList, hsz]; omega)
  obtain ⟨row1, hrow1⟩ : ∃ r, cur.toList.take ((i + 1) * 4) ++ (itsV l).drop (i * 4) ++ cur.toList.drop ((i + 1) * 4 + ((itsV l).drop (i * 4)).length) = r := ⟨_, rfl⟩
  rw [hrow1] at c1len c2len c2take
  obtain ⟨row2, hrow2⟩ : ∃ r, row1.take (i * 4) ++ itsV [x] ++ row1.drop (i * 4 + (itsV [x]).length) = r := ⟨_, rfl⟩
  rw [hrow2] at c2len c2take
  rw [show cur.toList.length = c * 4 by rw [Array.length_toList, hsz]] at c1len c2len
  have hcell : ∀ j v, (itsV l)[j]? = some v → cur[j]? = some v := fun j v h => by
    rw [← hx, List.getElem?_take] at h
    split at h
    · rw [← Array.getElem?_toList]; exact h
    · cases h
  have hcp1 : ∀ W : World, W.heap = w.heap → ∀ ty dc sc, (Builtin.copy_ #[25, 25] ty #[.slice (some ⟨g, (i + 1) * 4, none⟩) (n - i) dc, .slice (some ⟨g, i * 4, none⟩) (n + 1 - i) sc]).run Try.prog W = .ok (goInt (Nat.min (n + 1 - i) (n - i))) (W.setRow g row1.toArray) := fun W hW ty dc sc => by
    rw [run_copy_rows W 25 25 ty 24 4 g ((i + 1) * 4) (n - i) dc ⟨g, i * 4, none⟩ (n + 1 - i) sc cur 24 ((itsV l).drop (i * 4)) Try.underlying25 hsize (by rw [hW]; exact hg) (by rw [hdl, show Nat.min (n + 1 - i) (n - i) = n - i by rw [show Nat.min (n + 1 - i) (n - i) = min (n + 1 - i) (n - i) from rfl]; omega])
      (fun j v hj => by
        rw [List.getElem?_drop] at hj
        rw [Addr.add_lit]
        simp only [World.cell?, hW, hg]
        exact hcell _ v hj) (by rw [hdl, hsz]; omega) (fun v hv => itsV_one l v (List.mem_of_mem_drop hv)), hrow1]
  have hcp2 : ∀ W : World, W.heap = (w.setRow g row1.toArray).heap → ∀ ty dc, (Builtin.copy_ #[25, 25] ty #[.slice (some ⟨g, i * 4, none⟩) (n + 1 - i) dc, .slice (some ⟨p, 0, none⟩) 1 1]).run Try.prog W = .ok (goInt (Nat.min 1 (n + 1 - i))) (W.setRow g row2.toArray) := fun W hW ty dc => by
    have hpW : W.heap[p]? = some (.cells (itsV [x]).toArray 24 (0, 0)) := by
      rw [hW]; exact ((setRow_grown w g row1.toArray).block p (Array.getElem?_eq_some_iff.1 hp).1 (by simp; exact hne)).trans hp
    have := run_copy_rows W 25 25 ty 24 4 g (i * 4) (n + 1 - i) dc ⟨p, 0, none⟩ 1 1 row1.toArray 24 (itsV [x]) Try.underlying25 hsize (by rw [hW]; exact setRow_heap w g cur row1.toArray 24 (0, 0) hg) (by rw [hV1, show Nat.min 1 (n + 1 - i) = 1 by rw [show Nat.min 1 (n + 1 - i) = min 1 (n + 1 - i) from rfl]; omega])
      (fun j v hj => by
        rw [Addr.add_lit, Nat.zero_add]
        simp only [World.cell?, hpW]
        rw [← Array.getElem?_toList]; exact hj) (by rw [hV1, List.size_toArray, c1len]; omega) (itsV_one [x])
    rw [List.toList_toArray, hrow2] at this
    exact this
  have hov : ∀ W : World, W.heap = w.heap → ∀ lb cb, (callFunc 43 #[.slice (some ⟨p, 0, none⟩) 1 1, .slice (some ⟨g, (i + 1) * 4, none⟩) lb cb]).run Try.prog W = .ok (.value (.bool false)) W := fun W hW lb cb => by
    rw [run_callFunc_extern Try.func43 (by kernel_rfl) (by kernel_rfl) (by kernel_rfl) (e := Extern.SlicesOverlaps.overlaps #[25, 25] #[4]) (by kernel_rfl),
      Lib.run_overlaps_apart W 25 4 24 Try.underlying25 4 sizeC ⟨p, 0, none⟩ ⟨g, (i + 1) * 4, none⟩ 1 1 lb cb hne 24 24 4 (c * 4) (by simp [World.shape?, hW, hp, hV1]) (by simp [World.shape?, hW, hg, hsz]) (by omega) (by simp [World.frozen?, hW, hp]) (by simp [World.frozen?, hW, hp])]
    rfl
  have sA := fun W => Cslice_lo W ⟨g, 0, none⟩ n c i (by omega) (by omega)
  have sB := fun W => Cslice_hi W (some ⟨g, 0, none⟩) n c (n + 1) (by omega)
  have sC := fun W => Cslice_lo W ⟨g, 0, none⟩ (n + 1) c (i + 1) (by omega) (by omega)
  have sD := fun W => Cslice_lo W ⟨g, 0, none⟩ (n + 1) c i (by omega) (by omega)
  simp only [addr_add, Nat.zero_add, Int.natCast_add, Int.natCast_one] at sA sB sC sD
  have hw1 : IntKind.i64.wrap ((i : Int) + 1) = (i : Int) + 1 := by rw [IntKind.wrap_i64]; omega
  have hw2 : IntKind.i64.wrap ((n : Int) + 1) = (n : Int) + 1 := by rw [IntKind.wrap_i64]; omega
  have hz2 : ¬ ((i : Int) = (n : Int)) := by omega
  have hz3 : ¬ ((c : Int) < (n : Int) + 1) := by omega
  have hfin : ∀ W : World, W.grownBy ((W.setRow g row1.toArray).setRow g row2.toArray) (some g) := fun W => ⟨rfl, rfl, rfl, by simp [World.setRow], fun k hk hne => ((setRow_grown _ g row2.toArray).block k (by simp [World.setRow]; exact hk) hne).trans ((setRow_grown W g row1.toArray).block k hk hne)⟩
  have mixed : Try.prog.follows Departure.mixedOrders = true := by kernel_rfl
  rw [hn]
  have Hg : Hid _ := hg
  have Hi : Hid (i ≤ l.length) := Nat.le_of_lt hi
  have Ht : Hid _ := c2take
  have Hc2 : Hid _ := c2len
  clear hrow1 hrow2 c1len c2len c2take hcell hdl hVl hV1 hx hg hp hsz hi0 hsize hn hi
  have hcpA := hcp1 w.drew rfl
  have hovA := hov w rfl
  go_enter Try.func20, Try.ntmps20
  go_wp2_with (simp only [hov _ rfl])
  go_region_law_o (refine step_copy_runI rfl _ _ 25 25 rfl _ _ (by simp [Act.eval, Act.put]) (by simp [Act.eval, Act.put]) (hcpA _ _ _) ?_)
  have hcpB := hcp2 (w.drew.setRow g row1.toArray) rfl
  go_wp2_with (at_builtin; refine wpList_copy_runI _ rfl _ _ 25 25 rfl _ _ rfl rfl (hcpB _ _) ?_)
  go_ret
  refine ⟨row2.toArray, rfl, setRow_heap _ g row1.toArray row2.toArray 24 (0, 0) (setRow_heap _ g cur row1.toArray 24 (0, 0) Hg.out), by rw [List.size_toArray]; exact Hc2.out, ?_, ?_⟩
  · have := Ht.out
    rw [itsV_ins l x i Hi.out] at this
    exact this
  · have h := hfin w.drew
    exact ⟨h.os, h.tape, h.output, h.size, h.block⟩

set_option maxRecDepth 100000 in
set_option maxHeartbeats 4000000 in
/-- within the row, there is room -/
theorem Nins_shift (l : List Int) (x : Int) (i g c p : Nat) (cur : Array Value) (w : World) (hi : i < l.length) (hl : l.length ≤ 1000000) (hc : l.length + 1 ≤ c) (hcm : c ≤ maxLen)
    (hg : w.heap[g]? = some (.cells cur 3 (0, 0))) (hsz : cur.size = c * 1) (hx : cur.toList.take (l.length * 1) = intsV l) (hp : w.heap[p]? = some (.cells (intsV [x]).toArray 3 (0, 0))) (hne : p ≠ g) :
    Calls Try.prog 21 #[.slice (some ⟨g, 0, none⟩) l.length c, .int .i64 (i : Int), .slice (some ⟨p, 0, none⟩) 1 1] w fun e w' => ∃ cur', e = .returned (.slice (some ⟨g, 0, none⟩) (l.length + 1) c) ∧
      w'.heap[g]? = some (.cells cur' 3 (0, 0)) ∧ cur'.size = c * 1 ∧ cur'.toList.take ((l.length + 1) * 1) = intsV (l.take i ++ x :: l.drop i) ∧ w.grownBy w' (some g) := by
  obtain ⟨n, hn⟩ : ∃ n, l.length = n := ⟨_, rfl⟩
  have hVl : (intsV l).length = n * 1 := by rw [intsV_length1, hn]
  have hV1 : (intsV [x]).length = 1 := by rw [intsV_length1]; rfl
  have hmx : c ≤ 9223372036854775807 := by unfold maxLen at hcm; omega
  have hdl : ((intsV l).drop i).length = (n - i) * 1 := by rw [List.length_drop, hVl]; omega
  obtain ⟨i0, hi0, hz0, hz1, hz2⟩ := info_parts infoN
  have hsize : (Try.prog.info? 3).map (·.size) = some 1 := by rw [hi0]; simp [hz1]
  obtain ⟨c1len, c2len, c2take⟩ := ins_shift cur.toList (intsV l) (intsV [x]) i (i + 1) ((n + 1) * 1) (by omega) (by omega) (by omega) (by rw [hVl, ← hn]; exact hx) (by rw [Array.length_toList, hsz]; omega)
  obtain ⟨row1, hrow1⟩ : ∃ r, cur.toList.take (i + 1) ++ (intsV l).drop i ++ cur.toList.drop (i + 1 + ((intsV l).drop i).length) = r := ⟨_, rfl⟩
  rw [hrow1] at c1len c2len c2take
  obtain ⟨row2, hrow2⟩ : ∃ r, row1.take i ++ intsV [x] ++ row1.drop (i + (intsV [x]).length) = r := ⟨_, rfl⟩
  rw [hrow2] at c2len c2take
  rw [show cur.toList.length = c * 1 by rw [Array.length_toList, hsz]] at c1len c2len
  have hcell : ∀ j v, (intsV l)[j]? = some v → cur[j]? = some v := fun j v h => by
    rw [← hx, List.getElem?_take] at h
    split at h
    · rw [← Array.getElem?_toList]; exact h
    · cases h
  have hcp1 : ∀ W : World, W.heap = w.heap → ∀ ty dc sc, (Builtin.copy_ #[26, 26] ty #[.slice (some ⟨g, i + 1, none⟩) (n - i) dc, .slice (some ⟨g, i, none⟩) (n + 1 - i) sc]).run Try.prog W = .ok (goInt (Nat.min (n + 1 - i) (n - i))) (W.setRow g row1.toArray) := fun W hW ty dc sc => by
    rw [run_copy_rows W 26 26 ty 3 1 g (i + 1) (n - i) dc ⟨g, i, none⟩ (n + 1 - i) sc cur 3 ((intsV l).drop i) Try.underlying26 hsize (by rw [hW]; exact hg) (by rw [hdl, show Nat.min (n + 1 - i) (n - i) = n - i by rw [show Nat.min (n + 1 - i) (n - i) = min (n + 1 - i) (n - i) from rfl]; omega])
      (fun j v hj => by
        rw [List.getElem?_drop] at hj
        rw [Addr.add_lit]
        simp only [World.cell?, hW, hg]
        exact hcell _ v hj) (by rw [hdl, hsz]; omega) (fun v hv => intsV_one l v (List.mem_of_mem_drop hv)), hrow1]
  have hcp2 : ∀ W : World, W.heap = (w.setRow g row1.toArray).heap → ∀ ty dc, (Builtin.copy_ #[26, 26] ty #[.slice (some ⟨g, i, none⟩) (n + 1 - i) dc, .slice (some ⟨p, 0, none⟩) 1 1]).run Try.prog W = .ok (goInt (Nat.min 1 (n + 1 - i))) (W.setRow g row2.toArray) := fun W hW ty dc => by
    have hpW : W.heap[p]? = some (.cells (intsV [x]).toArray 3 (0, 0)) := by
      rw [hW]; exact ((setRow_grown w g row1.toArray).block p (Array.getElem?_eq_some_iff.1 hp).1 (by simp; exact hne)).trans hp
    have := run_copy_rows W 26 26 ty 3 1 g i (n + 1 - i) dc ⟨p, 0, none⟩ 1 1 row1.toArray 3 (intsV [x]) Try.underlying26 hsize (by rw [hW]; exact setRow_heap w g cur row1.toArray 3 (0, 0) hg) (by rw [hV1, show Nat.min 1 (n + 1 - i) = 1 by rw [show Nat.min 1 (n + 1 - i) = min 1 (n + 1 - i) from rfl]; omega])
      (fun j v hj => by
        rw [Addr.add_lit, Nat.zero_add]
        simp only [World.cell?, hpW]
        rw [← Array.getElem?_toList]; exact hj) (by rw [hV1, List.size_toArray, c1len]; omega) (intsV_one [x])
    rw [List.toList_toArray, hrow2] at this
    exact this
  have hov : ∀ W : World, W.heap = w.heap → ∀ lb cb, (callFunc 45 #[.slice (some ⟨p, 0, none⟩) 1 1, .slice (some ⟨g, i + 1, none⟩) lb cb]).run Try.prog W = .ok (.value (.bool false)) W := fun W hW lb cb => by
    rw [run_callFunc_extern Try.func45 (by kernel_rfl) (by kernel_rfl) (by kernel_rfl) (e := Extern.SlicesOverlaps.overlaps #[26, 26] #[4]) (by kernel_rfl),
      Lib.run_overlaps_apart W 26 4 3 Try.underlying26 1 sizeN ⟨p, 0, none⟩ ⟨g, i + 1, none⟩ 1 1 lb cb hne 3 3 1 (c * 1) (by simp [World.shape?, hW, hp, hV1]) (by simp [World.shape?, hW, hg, hsz]) (by omega) (by simp [World.frozen?, hW, hp]) (by simp [World.frozen?, hW, hp])]
    rfl
  have sA := fun W => Nslice_lo W ⟨g, 0, none⟩ n c i (by omega) (by omega)
  have sB := fun W => Nslice_hi W (some ⟨g, 0, none⟩) n c (n + 1) (by omega)
  have sC := fun W => Nslice_lo W ⟨g, 0, none⟩ (n + 1) c (i + 1) (by omega) (by omega)
  have sD := fun W => Nslice_lo W ⟨g, 0, none⟩ (n + 1) c i (by omega) (by omega)
  simp only [addr_add, Nat.zero_add, Int.natCast_add, Int.natCast_one] at sA sB sC sD
  have hw1 : IntKind.i64.wrap ((i : Int) + 1) = (i : Int) + 1 := by rw [IntKind.wrap_i64]; omega
  have hw2 : IntKind.i64.wrap ((n : Int) + 1) = (n : Int) + 1 := by rw [IntKind.wrap_i64]; omega
  have hz2 : ¬ ((i : Int) = (n : Int)) := by omega
  have hz3 : ¬ ((c : Int) < (n : Int) + 1) := by omega
  have hfin : ∀ W : World, W.grownBy ((W.setRow g row1.toArray).setRow g row2.toArray) (some g) := fun W => ⟨rfl, rfl, rfl, by simp [World.setRow], fun k hk hne => ((setRow_grown _ g row2.toArray).block k (by simp [World.setRow]; exact hk) hne).trans ((setRow_grown W g row1.toArray).block k hk hne)⟩
  have mixed : Try.prog.follows Departure.mixedOrders = true := by kernel_rfl
  rw [hn]
  have Hg : Hid _ := hg
  have Hi : Hid (i ≤ l.length) := Nat.le_of_lt hi
  have Ht : Hid _ := c2take
  have Hc2 : Hid _ := c2len
  clear hrow1 hrow2 c1len c2len c2take hcell hdl hVl hV1 hx hg hp hsz hi0 hsize hn hi
  have hcpA := hcp1 w.drew rfl
  have hovA := hov w rfl
  go_enter Try.func21, Try.ntmps21
  go_wp2_with (simp only [hov _ rfl])
  go_region_law_o (refine step_copy_runI rfl _ _ 26 26 rfl _ _ (by simp [Act.eval, Act.put]) (by simp [Act.eval, Act.put]) (hcpA _ _ _) ?_)
  have hcpB := hcp2 (w.drew.setRow g row1.toArray) rfl
  go_wp2_with (at_builtin; refine wpList_copy_runI _ rfl _ _ 26 26 rfl _ _ rfl rfl (hcpB _ _) ?_)
  go_ret
  refine ⟨row2.toArray, rfl, setRow_heap _ g row1.toArray row2.toArray 3 (0, 0) (setRow_heap _ g cur row1.toArray 3 (0, 0) Hg.out), by rw [List.size_toArray]; exact Hc2.out, ?_, ?_⟩
  · have := Ht.out
    rw [intsV_ins l x i Hi.out] at this
    exact this
  · have h := hfin w.drew
    exact ⟨h.os, h.tape, h.output, h.size, h.block⟩

end Go.Proofs.Ytplfcpbjlhobeaa
