/-
  WHAT THE PROGRAM's Since DOES.
-/
import Derived.Test.YtifolddmcibkdaaTX
import Derived.Test.YtifolddmcibkdaaTRows
import Derived.Test.YtifolddmcibkdaaRSince
namespace Go.Proofs.Ytifolddmcibkdaa
open Go.RowKit Go.Shelf
attribute [local go_sem] Oper.semAt_some

/-- what is told: the same, sorted or put one by one -/
theorem told_sorted (l : List ByteArray) : Ks.compT (Ks.sortT l) = l.foldl Tm.ins [] := by
  obtain ⟨h1, h2⟩ := Ks.once_facts l
  obtain ⟨h3, h4⟩ := Tm.told_facts l [] List.Pairwise.nil
  refine Ks.rising_ext h1 h3 fun x => ?_
  rw [h2, h4]
  simp

set_option maxRecDepth 100000 in
set_option maxHeartbeats 1000000 in
theorem behind_any (g : Nat) (mv : Option Nat) (J chs : List ByteArray) (m : Int) (w : World) (hb : w.heap[g]? = some (.cells (treeCs mv chs.length J) 32 (0, 0))) (hr : Ring J chs) (hc : chs.length ≤ 10000000) (F : List Tm.Fl) :
    Calls Try.prog 34 #[.pointer (some ⟨g, 1, none⟩), .int .i64 m] w fun e w' => ∃ v, e = .returned (.tuple #[v, .bool (Tm.since ⟨F, chs⟩ m).2]) ∧ StR.Own w' w.heap.size v (Tm.since ⟨F, chs⟩ m).1 ∧ Below w.heap.size w w' := by
  have gl : g < w.heap.size := (Array.getElem?_eq_some_iff.1 hb).1
  have c1 := (tree_cells hb).2.1
  have HR : Hid (Tm.since ⟨F, chs⟩ m = if m < 0 ∨ (chs.length : Int) < m ∨ 32 < (chs.length : Int) - m then ([], false) else ((chs.drop m.toNat).foldl Tm.ins [], true)) := rfl
  generalize Tm.since ⟨F, chs⟩ m = R at *
  go_enter Try.func34, Try.ntmps34
  by_cases h1 : m < 0
  · rw [if_pos (.inl h1)] at HR
    go_wp2
    go_ret2
    rw [HR.out]
    exact ⟨_, rfl, Rc.Own.nil _ _, Below.refl _ _⟩
  by_cases h2 : (chs.length : Int) < m
  · rw [if_pos (.inr (.inl h2))] at HR
    go_wp2
    go_ret2
    rw [HR.out]
    exact ⟨_, rfl, Rc.Own.nil _ _, Below.refl _ _⟩
  by_cases h3 : 32 < (chs.length : Int) - m
  · rw [if_pos (.inr (.inr h3))] at HR
    go_wp2
    go_ret2
    rw [HR.out]
    exact ⟨_, rfl, Rc.Own.nil _ _, Below.refl _ _⟩
  rw [if_neg (by omega)] at HR
  obtain ⟨mn, rfl⟩ : ∃ mn : Nat, m = (mn : Int) := ⟨m.toNat, by omega⟩
  rw [Int.toNat_natCast] at HR
  go_wp2
  go_loopw [6, 7] (fun v i wr => ∃ k : Nat, mn ≤ k ∧ k ≤ chs.length ∧ i = .int .i64 (k : Int) ∧ StR.Own wr w.heap.size v ((chs.take k).drop mn) ∧ Below w.heap.size w wr) (fun _ i _ => chs.length - (intOf i).toNat)
  case atStart => exact ⟨mn, Nat.le_refl _, by omega, rfl, by rw [List.drop_of_length_le (by rw [List.length_take]; omega)]; exact Rc.Own.nil _ _, Below.refl _ _⟩
  case round =>
    obtain ⟨k, hmk, hk, rfl, hO, hBe⟩ := hrel
    obtain ⟨-, c1, c2, -⟩ := tree_cells ((hBe.block g gl).trans hb)
    by_cases hlt : k < chs.length
    · have i1 : (k : Int) < (chs.length : Int) := by omega
      have hi : k % 32 < 32 := Nat.mod_lt _ (by decide)
      have ci := c2 (k % 32) (by rw [hr.1]; exact hi)
      have e1 : (k : Int).tmod 32 = ((k % 32 : Nat) : Int) := by rw [Int.tmod_eq_emod_of_nonneg (by omega)]; omega
      rw [hr.2 k hlt (by omega)] at ci
      have HST : Hid ((chs.take (k + 1)).drop mn = (chs.take k).drop mn ++ [chs.getD k .empty]) := by
        show _ = _
        rw [List.take_succ_eq_append_getElem hlt, List.drop_append_of_le_length (by rw [List.length_take]; omega), List.getD_eq_getElem?_getD, List.getElem?_eq_getElem hlt]
        rfl
      have hLl : ((chs.take k).drop mn).length ≤ 10000000 := by rw [List.length_drop, List.length_take]; omega
      generalize chs.getD k .empty = x at *
      generalize (chs.take k).drop mn = L at *
      generalize k % 32 = ix at *
      clear c2
      have hL4 := StR.lit wr x #[.string x] rfl
      have hO4 := hO.alloc (.cells #[.string x] 9)
      have hB4 := hBe.alloc hBe.size (.cells #[.string x] 9)
      have HLn : Hid (L.length + [x].length ≤ 1099511627) := by show _ ≤ _; simp; omega
      obtain ⟨a5, n5, c5, rfl⟩ := hO.isSl
      go_wp2_with (at_builtin; go_must (refine StR.append rfl _ _ rfl w.heap.size (wr.heap.size + 1) _ _ L [x] rfl hO4 rfl hL4 HLn hB4.size ?_))
      intro v5 w5 hO5 hg5
      have hB5 := hB4.grown hg5 hB4.size fun j e => (hO4.lt j e).1
      clear hL4 hO4 hB4 HLn hg5 hO
      go_wp2
      exact ⟨⟨k + 1, by omega, by omega, by go_num, by rw [HST.out]; exact hO5, hB5⟩, by simp [intOf]; omega⟩
    · obtain rfl : k = chs.length := by omega
      have i1 : ¬ (chs.length : Int) < (chs.length : Int) := by omega
      rw [List.take_length] at hO
      have hLl : (chs.drop mn).length ≤ 10000000 := by rw [List.length_drop]; omega
      have HT := told_sorted (chs.drop mn)
      rw [← HT] at HR
      have HH : Hid _ := HR.out
      clear HT
      generalize chs.drop mn = L at *
      obtain ⟨a5, n5, c5, rfl⟩ := hO.isSl
      go_wp2_with fail
      refine (Sort_any hO (by omega)).mono ?_
      rintro e w5 ⟨rfl, hO5, hg5⟩
      have hB5 := hBe.grown hg5 hBe.size fun j e => (hO.lt j e).1
      go_wp2_with fail
      refine (Compact_any hO5 (by rw [Ks.sortT_length]; omega)).mono ?_
      rintro e w6 ⟨v6, rfl, hO6, -, hg6⟩
      have hB6 := hB5.grown hg6 hB5.size fun j e => (hO5.lt j e).1
      obtain ⟨a6, n6, c6, rfl⟩ := hO6.isSl
      go_wp2
      go_ret2
      rw [HR.out]
      exact ⟨_, rfl, hO6, hB6⟩

set_option maxRecDepth 100000 in
theorem TSince_any (g : Nat) (t : Tm.T) (S : List Nat) (m : Int) (w : World) (h : HasT w g t S) (hk : Tm.Ok t) :
    Calls Try.prog 16 #[.pointer (some ⟨g, 0, none⟩), .int .i64 m] w fun e w' => ∃ v, e = .returned (.tuple #[v, .bool (Tm.since t m).2]) ∧ StR.Sl w' w'.heap.size v (Tm.since t m).1 ∧ Below w.heap.size w w' := by
  obtain ⟨files, chs⟩ := t
  obtain ⟨mv, J, hb, hr, hf, rfl⟩ := h
  have HB := behind_any g mv J chs m w hb hr hk.chs files
  go_enter Try.func16, Try.ntmps16
  go_wp2_with fail
  refine HB.mono ?_
  rintro e w1 ⟨v, rfl, hO, hB⟩
  have hS := hO.sl
  obtain ⟨ad, n, c, rfl⟩ := hO.isSl
  go_wp2
  go_ret2
  exact ⟨_, rfl, hS, hB⟩

end Go.Proofs.Ytifolddmcibkdaa
