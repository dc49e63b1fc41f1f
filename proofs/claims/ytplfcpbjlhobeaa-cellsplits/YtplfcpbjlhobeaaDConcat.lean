/-
  slices.Grow, slices.Concat OF ITEMS AND OF NUMBERS.
-/
import Derived.Test.YtplfcpbjlhobeaaCRows
namespace Go.Proofs.Ytplfcpbjlhobeaa
open Go.RowKit

theorem flatG_succ {α : Type} (ls : List (List α)) (k : Nat) (h : k < ls.length) : (ls.take (k + 1)).flatten = (ls.take k).flatten ++ ls.getD k [] := by
  rw [List.take_succ_eq_append_getElem h, List.flatten_append]
  simp [List.getD, List.getElem?_eq_getElem h]
theorem flatG_le {α : Type} (ls : List (List α)) (k : Nat) : (ls.take k).flatten.length ≤ ls.flatten.length := by
  conv => rhs; rw [← List.take_append_drop k ls, List.flatten_append, List.length_append]
  omega

theorem own_zerosC (w : World) (n c : Nat) (hn : n ≤ c) (hc : c ≤ maxLen) : OwnC (w.alloc (.cells (Builtin.zeroCells (Value.agg #[.string .empty, .string .empty, .int .i64 0, .int .i64 0]).cells n ++ Builtin.zeroCells (Value.agg #[.string .empty, .string .empty, .int .i64 0, .int .i64 0]).cells (c - n)) 24)) w.heap.size (.slice (some ⟨w.heap.size, 0, none⟩) 0 c) [] := by
  refine ⟨by simp [itsV], .inr ⟨w.heap.size, c, _, rfl, Nat.le_refl _, heap_alloc_new w _, Nat.zero_le _, hc, ?_, by simp [itsV]⟩⟩
  rw [Array.size_append, size_zeroCells, size_zeroCells]
  have : (Value.agg #[Value.string .empty, .string .empty, .int .i64 0, .int .i64 0]).cells.size = 4 := rfl
  rw [this]
  omega
theorem own_zerosN (w : World) (n c : Nat) (hn : n ≤ c) (hc : c ≤ maxLen) : OwnN (w.alloc (.cells (Builtin.zeroCells (Value.int .i64 0).cells n ++ Builtin.zeroCells (Value.int .i64 0).cells (c - n)) 3)) w.heap.size (.slice (some ⟨w.heap.size, 0, none⟩) 0 c) [] := by
  refine ⟨by simp [intsV], .inr ⟨w.heap.size, c, _, rfl, Nat.le_refl _, heap_alloc_new w _, Nat.zero_le _, hc, ?_, by simp [intsV]⟩⟩
  rw [Array.size_append, size_zeroCells, size_zeroCells]
  have : (Value.int IntKind.i64 0).cells.size = 1 := rfl
  rw [this]
  omega

set_option maxRecDepth 100000 in
set_option maxHeartbeats 1000000 in
theorem GrowC_nil (n : Nat) (hn : n ≤ 1099511627) (w : World) :
    Calls Try.prog 77 #[.slice none 0 0, .int .i64 (n : Int)] w fun e w' => ∃ v', e = .returned v' ∧ OwnC w' w.heap.size v' [] ∧ Below w.heap.size w w' := by
  obtain ⟨i0, hi, hz0, hz1, hz2⟩ := info_parts infoC
  by_cases h0 : n = 0
  · subst h0
    go_enter Try.func77, Try.ntmps77
    go_wp2
    go_ret
    exact ⟨_, rfl, OwnC.nil _ _, Below.refl _ _⟩
  · have hpos : (0 : Int) < (n : Int) := by omega
    have hrun := Lib.run_append_nil_zeros (P := Try.prog) w 25 3 25 24 i0 (.agg #[.string .empty, .string .empty, .int .i64 0, .int .i64 0]) .i64 .i64 Try.underlying25 Try.underlying3 hi hz0 n (by omega) (by rw [hz1]; decide) (by omega) (by rw [hz2]; omega)
    have hg1 := grownCap_ge w n 0 24
    have hg2 := grownCap_le_maxLen w n 0 24 (by unfold maxLen; omega)
    generalize grownCap w n 0 24 = c at *
    have hown := own_zerosC w.drew n c hg1 hg2
    have Hrun : Hid _ := hrun
    clear hrun
    go_enter Try.func77, Try.ntmps77
    go_wp2_with (at_builtin; go_must (refine Lib.wpList_append_run _ rfl (.tmp 20) (.tmp 21) 25 3 rfl _ _ rfl rfl _ _ Hrun.out ?_))
    go_wp2
    go_ret
    refine ⟨_, rfl, ?_, ?_⟩
    · exact hown
    · exact ⟨rfl, rfl, rfl, by simp, fun k hk => Below.heap_alloc w.drew _ k hk⟩

/-- from the place b, o on there lie slices that hold the bytes ls -/
def LstC (w : World) (B b o : Nat) (ls : List (List Cm.It)) : Prop :=
  ∀ j, j < ls.length → ∃ ad c, w.cell? ⟨b, o + j, none⟩ = some (.slice ad (ls.getD j []).length c) ∧ Its w B (.slice ad (ls.getD j []).length c) (ls.getD j [])

set_option maxRecDepth 100000 in
set_option maxHeartbeats 1000000 in
theorem ConcatC_any (ls : List (List Cm.It)) (B b o c : Nat) (w : World) (hv : LstC w B b o ls) (hb : b < w.heap.size) (hB : B ≤ w.heap.size) (hn : ls.length ≤ 1000) (hl : ls.flatten.length ≤ 1099511000) :
    Calls Try.prog 61 #[.slice (some ⟨b, o, none⟩) ls.length c] w fun e w' => ∃ v', e = .returned v' ∧ OwnC w' w.heap.size v' ls.flatten ∧ Below w.heap.size w w' := by
  have Hl : Hid (ls.flatten.length ≤ 1099511000) := hl
  clear hl
  go_enter Try.func61, Try.ntmps61
  go_wp2
  go_loop [3, 11] (fun sz i => ∃ k : Nat, k ≤ ls.length ∧ i = .int .i64 (k : Int) ∧ sz = .int .i64 ((ls.take k).flatten.length : Int)) (fun _ i => ls.length - (intOf i).toNat)
  case atStart => exact ⟨0, Nat.zero_le _, rfl, by simp⟩
  case round =>
    obtain ⟨k, hk, rfl, rfl⟩ := hrel
    by_cases hlt : k < ls.length
    · obtain ⟨ad, cc, hcell, hby⟩ := hv k hlt
      have h1 := flatG_le ls k
      have h2 := flatG_le ls (k + 1)
      have h3 := flatG_succ ls k hlt
      have h4 : (ls.take (k + 1)).flatten.length = (ls.take k).flatten.length + (ls.getD k []).length := by rw [h3, List.length_append]
      have H4 : Hid ((ls.take (k + 1)).flatten.length = (ls.take k).flatten.length + (ls.getD k []).length) := h4
      have hs : (ls.take k).flatten.length + (ls.getD k []).length ≤ 1099511000 := by have := Hl.out; omega
      clear h1 h2 h3 h4
      generalize (ls.getD k []).length = m at *
      generalize (ls.take k).flatten.length = t at *
      have hs' : (t : Int) + (m : Int) ≤ 1099511000 := by omega
      clear hs
      go_wp2
      refine ⟨⟨k + 1, by omega, by go_num, ?_⟩, by simp [intOf]; omega⟩
      rw [H4.out]; go_num
    · have hkl : k = ls.length := by omega
      have hsz : (ls.take k).flatten.length ≤ 1099511627 := by have := Hl.out; have := flatG_le ls k; omega
      have Hk : Hid (k = ls.length) := hkl
      clear hkl
      generalize (ls.take k).flatten.length = t at *
      go_wp2_with fail
      refine (GrowC_nil t hsz _).mono ?_
      rintro e w1 ⟨v1, rfl, ho1, hb1⟩
      go_wp2
      go_loopw [6, 27] (fun v' i wr => ∃ k : Nat, k ≤ ls.length ∧ i = .int .i64 (k : Int) ∧ OwnC wr w.heap.size v' (ls.take k).flatten ∧ Below w.heap.size w wr) (fun _ i _ => ls.length - (intOf i).toNat)
      case atStart => exact ⟨0, Nat.zero_le _, rfl, by simpa using ho1, hb1⟩
      case round =>
        obtain ⟨k, hk, rfl, hor, hbr⟩ := hrel
        by_cases hlt : k < ls.length
        · obtain ⟨ad, cc, hcell, hby⟩ := hv k hlt
          have hck := (hbr.cell (p := ⟨b, o + k, none⟩) hb).trans hcell
          have hby' := hby.below hbr hB
          have HS : Hid ((ls.take (k + 1)).flatten = (ls.take k).flatten ++ ls.getD k []) := flatG_succ ls k hlt
          have Hx : Hid ((ls.take k).flatten.length + (ls.getD k []).length ≤ 1099511627) := by
            have h2 := flatG_le ls (k + 1)
            rw [HS.out, List.length_append] at h2
            have := Hl.out
            show _ + _ ≤ _
            omega
          clear hcell hby
          generalize (ls.getD k []) = m at *
          go_wp2_with (at_builtin; go_must (refine wpList_append_its rfl (.tmp 31) (.tmp 32) rfl w.heap.size B _ _ _ m rfl hor rfl hby' Hx hbr.size ?_))
          intro v' w' h1 h2
          go_wp2
          refine ⟨⟨k + 1, by omega, by go_num, ?_, hbr.grown h2 hbr.size fun q hq => (World.ownsRow.lt hor q hq).1⟩, by simp [intOf]; omega⟩
          rw [HS.out]
          exact h1
        · go_wp2
          go_ret
          refine ⟨_, rfl, ?_, hbr⟩
          rwa [List.take_of_length_le (by omega)] at hor

set_option maxRecDepth 100000 in
set_option maxHeartbeats 1000000 in
theorem GrowN_nil (n : Nat) (hn : n ≤ 1099511627) (w : World) :
    Calls Try.prog 47 #[.slice none 0 0, .int .i64 (n : Int)] w fun e w' => ∃ v', e = .returned v' ∧ OwnN w' w.heap.size v' [] ∧ Below w.heap.size w w' := by
  obtain ⟨i0, hi, hz0, hz1, hz2⟩ := info_parts infoN
  by_cases h0 : n = 0
  · subst h0
    go_enter Try.func47, Try.ntmps47
    go_wp2
    go_ret
    exact ⟨_, rfl, OwnN.nil _ _, Below.refl _ _⟩
  · have hpos : (0 : Int) < (n : Int) := by omega
    have hrun := Lib.run_append_nil_zeros (P := Try.prog) w 26 3 26 3 i0 (.int .i64 0) .i64 .i64 Try.underlying26 Try.underlying3 hi hz0 n (by omega) (by rw [hz1]; decide) (by omega) (by rw [hz2]; omega)
    have hg1 := grownCap_ge w n 0 3
    have hg2 := grownCap_le_maxLen w n 0 3 (by unfold maxLen; omega)
    generalize grownCap w n 0 3 = c at *
    have hown := own_zerosN w.drew n c hg1 hg2
    have Hrun : Hid _ := hrun
    clear hrun
    go_enter Try.func47, Try.ntmps47
    go_wp2_with (at_builtin; go_must (refine Lib.wpList_append_run _ rfl (.tmp 20) (.tmp 21) 26 3 rfl _ _ rfl rfl _ _ Hrun.out ?_))
    go_wp2
    go_ret
    refine ⟨_, rfl, ?_, ?_⟩
    · exact hown
    · exact ⟨rfl, rfl, rfl, by simp, fun k hk => Below.heap_alloc w.drew _ k hk⟩

/-- from the place b, o on there lie slices that hold the bytes ls -/
def LstN (w : World) (B b o : Nat) (ls : List (List Int)) : Prop :=
  ∀ j, j < ls.length → ∃ ad c, w.cell? ⟨b, o + j, none⟩ = some (.slice ad (ls.getD j []).length c) ∧ Ints w B (.slice ad (ls.getD j []).length c) (ls.getD j [])

set_option maxRecDepth 100000 in
set_option maxHeartbeats 1000000 in
theorem ConcatN_any (ls : List (List Int)) (B b o c : Nat) (w : World) (hv : LstN w B b o ls) (hb : b < w.heap.size) (hB : B ≤ w.heap.size) (hn : ls.length ≤ 1000) (hl : ls.flatten.length ≤ 1099511000) :
    Calls Try.prog 23 #[.slice (some ⟨b, o, none⟩) ls.length c] w fun e w' => ∃ v', e = .returned v' ∧ OwnN w' w.heap.size v' ls.flatten ∧ Below w.heap.size w w' := by
  have Hl : Hid (ls.flatten.length ≤ 1099511000) := hl
  clear hl
  go_enter Try.func23, Try.ntmps23
  go_wp2
  go_loop [3, 11] (fun sz i => ∃ k : Nat, k ≤ ls.length ∧ i = .int .i64 (k : Int) ∧ sz = .int .i64 ((ls.take k).flatten.length : Int)) (fun _ i => ls.length - (intOf i).toNat)
  case atStart => exact ⟨0, Nat.zero_le _, rfl, by simp⟩
  case round =>
    obtain ⟨k, hk, rfl, rfl⟩ := hrel
    by_cases hlt : k < ls.length
    · obtain ⟨ad, cc, hcell, hby⟩ := hv k hlt
      have h1 := flatG_le ls k
      have h2 := flatG_le ls (k + 1)
      have h3 := flatG_succ ls k hlt
      have h4 : (ls.take (k + 1)).flatten.length = (ls.take k).flatten.length + (ls.getD k []).length := by rw [h3, List.length_append]
      have H4 : Hid ((ls.take (k + 1)).flatten.length = (ls.take k).flatten.length + (ls.getD k []).length) := h4
      have hs : (ls.take k).flatten.length + (ls.getD k []).length ≤ 1099511000 := by have := Hl.out; omega
      clear h1 h2 h3 h4
      generalize (ls.getD k []).length = m at *
      generalize (ls.take k).flatten.length = t at *
      have hs' : (t : Int) + (m : Int) ≤ 1099511000 := by omega
      clear hs
      go_wp2
      refine ⟨⟨k + 1, by omega, by go_num, ?_⟩, by simp [intOf]; omega⟩
      rw [H4.out]; go_num
    · have hkl : k = ls.length := by omega
      have hsz : (ls.take k).flatten.length ≤ 1099511627 := by have := Hl.out; have := flatG_le ls k; omega
      have Hk : Hid (k = ls.length) := hkl
      clear hkl
      generalize (ls.take k).flatten.length = t at *
      go_wp2_with fail
      refine (GrowN_nil t hsz _).mono ?_
      rintro e w1 ⟨v1, rfl, ho1, hb1⟩
      go_wp2
      go_loopw [6, 27] (fun v' i wr => ∃ k : Nat, k ≤ ls.length ∧ i = .int .i64 (k : Int) ∧ OwnN wr w.heap.size v' (ls.take k).flatten ∧ Below w.heap.size w wr) (fun _ i _ => ls.length - (intOf i).toNat)
      case atStart => exact ⟨0, Nat.zero_le _, rfl, by simpa using ho1, hb1⟩
      case round =>
        obtain ⟨k, hk, rfl, hor, hbr⟩ := hrel
        by_cases hlt : k < ls.length
        · obtain ⟨ad, cc, hcell, hby⟩ := hv k hlt
          have hck := (hbr.cell (p := ⟨b, o + k, none⟩) hb).trans hcell
          have hby' := hby.below hbr hB
          have HS : Hid ((ls.take (k + 1)).flatten = (ls.take k).flatten ++ ls.getD k []) := flatG_succ ls k hlt
          have Hx : Hid ((ls.take k).flatten.length + (ls.getD k []).length ≤ 1099511627) := by
            have h2 := flatG_le ls (k + 1)
            rw [HS.out, List.length_append] at h2
            have := Hl.out
            show _ + _ ≤ _
            omega
          clear hcell hby
          generalize (ls.getD k []) = m at *
          go_wp2_with (at_builtin; go_must (refine wpList_append_ints rfl (.tmp 31) (.tmp 32) rfl w.heap.size B _ _ _ m rfl hor rfl hby' Hx hbr.size ?_))
          intro v' w' h1 h2
          go_wp2
          refine ⟨⟨k + 1, by omega, by go_num, ?_, hbr.grown h2 hbr.size fun q hq => (World.ownsRow.lt hor q hq).1⟩, by simp [intOf]; omega⟩
          rw [HS.out]
          exact h1
        · go_wp2
          go_ret
          refine ⟨_, rfl, ?_, hbr⟩
          rwa [List.take_of_length_le (by omega)] at hor

end Go.Proofs.Ytplfcpbjlhobeaa
