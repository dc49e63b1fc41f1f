/-
  THE WALKS OF Check, Size, Put.
-/
import Derived.Test.YtplfcpbjlhobeaaDFormN
import Derived.Test.YtplfcpbjlhobeaaDWell
import Derived.Test.YtplfcpbjlhobeaaCopyNew
import Derived.Test.YtplfcpbjlhobeaaRPage
namespace Go.Proofs.Ytplfcpbjlhobeaa
open Go.RowKit

/-- how many bytes its form has; 0: it is not well-formed -/
def Cm.size (n : Cm.Nd) : Nat := if Cm.Right n then (Cm.form n).length else 0

set_option maxRecDepth 100000 in
theorem Check_any (n : Cm.Nd) (v : Value) (B : Nat) (w : World) (hv : NdS w B v n) (hB : B ≤ w.heap.size) (hl : n.items.length ≤ 1000000) (hk : n.kids.length ≤ 1000010) :
    Calls Try.prog 13 #[v] w fun e w' => e = .returned (.int .i64 (Cm.wrong n : Int)) ∧ Below w.heap.size w w' := by
  have HW : Hid (∀ W : World, Below w.heap.size w W → Calls Try.prog 30 #[v] W fun e w' => e = .returned (.bool (decide (Cm.Right n))) ∧ Below W.heap.size W w') :=
    fun W h => wellFormed_any n v B W (hv.below h hB) (Nat.le_trans hB h.size) hl hk
  have HF : Hid (Cm.Right n → ∀ W : World, Below w.heap.size w W → Calls Try.prog 39 #[v] W fun e w' => ∃ v', e = .returned v' ∧ Own w' W.heap.size v' (Cm.form n) ∧ Below W.heap.size W w') :=
    fun hr W h => form_any n v B W (hv.below h hB) (Nat.le_trans hB h.size) hl hr.fit
  obtain ⟨vi, vk, rfl, ⟨ad, c, rfl, -⟩, ⟨kd, d, rfl, -⟩⟩ := hv
  have hb0 := (Below.refl w.heap.size w).alloc (Nat.le_refl _) (.cells #[.bool n.leaf, .slice ad n.items.length c, .slice kd n.kids.length d] 28)
  have hx0 := heap_alloc_new w (.cells #[.bool n.leaf, .slice ad n.items.length c, .slice kd n.kids.length d] 28)
  go_enter Try.func13, Try.ntmps13
  go_wp2_with fail
  refine (HW.out _ hb0).mono ?_
  rintro e w1 ⟨rfl, hb1⟩
  replace hx0 := (hb1.block w.heap.size (lt_of_heap hx0)).trans hx0
  replace hb0 := hb0.trans (hb1.mono hb0.size)
  clear hb1
  obtain ⟨n0, n1, n2⟩ := cells3_of hx0
  by_cases hr : Cm.Right n
  · rw [decide_eq_true hr]
    have Hr : Hid (Cm.Right n) := hr
    clear hr
    go_wp2_with fail
    refine (HF.out Hr.out _ hb0).mono ?_
    rintro e w2 ⟨v2, rfl, ho2, hb2⟩
    replace hb0 := hb0.trans (hb2.mono hb0.size)
    obtain ⟨ad2, c2, rfl, -⟩ := ho2.byts
    by_cases hs : 240 < (Cm.form n).length
    · have E : Hid (Cm.wrong n = 3) := by show _ = _; unfold Cm.wrong; rw [if_pos Hr.out, if_pos hs]
      go_wp2
      go_ret
      exact ⟨by rw [E.out]; rfl, hb0⟩
    · have E : Hid (Cm.wrong n = 0) := by show _ = _; unfold Cm.wrong; rw [if_pos Hr.out, if_neg hs]
      go_wp2
      go_ret
      exact ⟨by rw [E.out]; rfl, hb0⟩
  · rw [decide_eq_false hr]
    have E : Hid (Cm.wrong n = 2) := by show _ = _; unfold Cm.wrong; rw [if_neg hr]
    clear hr
    go_wp2
    go_ret
    exact ⟨by rw [E.out]; rfl, hb0⟩

set_option maxRecDepth 100000 in
theorem Size_any (n : Cm.Nd) (v : Value) (B : Nat) (w : World) (hv : NdS w B v n) (hB : B ≤ w.heap.size) (hl : n.items.length ≤ 1000000) (hk : n.kids.length ≤ 1000010) :
    Calls Try.prog 12 #[v] w fun e w' => e = .returned (.int .i64 (Cm.size n : Int)) ∧ Below w.heap.size w w' := by
  have HW : Hid (∀ W : World, Below w.heap.size w W → Calls Try.prog 30 #[v] W fun e w' => e = .returned (.bool (decide (Cm.Right n))) ∧ Below W.heap.size W w') :=
    fun W h => wellFormed_any n v B W (hv.below h hB) (Nat.le_trans hB h.size) hl hk
  have HF : Hid (Cm.Right n → ∀ W : World, Below w.heap.size w W → Calls Try.prog 39 #[v] W fun e w' => ∃ v', e = .returned v' ∧ Own w' W.heap.size v' (Cm.form n) ∧ Below W.heap.size W w') :=
    fun hr W h => form_any n v B W (hv.below h hB) (Nat.le_trans hB h.size) hl hr.fit
  obtain ⟨vi, vk, rfl, ⟨ad, c, rfl, -⟩, ⟨kd, d, rfl, -⟩⟩ := hv
  have hb0 := (Below.refl w.heap.size w).alloc (Nat.le_refl _) (.cells #[.bool n.leaf, .slice ad n.items.length c, .slice kd n.kids.length d] 28)
  have hx0 := heap_alloc_new w (.cells #[.bool n.leaf, .slice ad n.items.length c, .slice kd n.kids.length d] 28)
  go_enter Try.func12, Try.ntmps12
  go_wp2_with fail
  refine (HW.out _ hb0).mono ?_
  rintro e w1 ⟨rfl, hb1⟩
  replace hx0 := (hb1.block w.heap.size (lt_of_heap hx0)).trans hx0
  replace hb0 := hb0.trans (hb1.mono hb0.size)
  clear hb1
  obtain ⟨n0, n1, n2⟩ := cells3_of hx0
  by_cases hr : Cm.Right n
  · rw [decide_eq_true hr]
    have Hr : Hid (Cm.Right n) := hr
    clear hr
    go_wp2_with fail
    refine (HF.out Hr.out _ hb0).mono ?_
    rintro e w2 ⟨v2, rfl, ho2, hb2⟩
    replace hb0 := hb0.trans (hb2.mono hb0.size)
    obtain ⟨ad2, c2, rfl, -⟩ := ho2.byts
    have E : Hid (Cm.size n = (Cm.form n).length) := by show _ = _; unfold Cm.size; rw [if_pos Hr.out]
    go_wp2
    go_ret
    exact ⟨by rw [E.out]; rfl, hb0⟩
  · rw [decide_eq_false hr]
    have E : Hid (Cm.size n = 0) := by show _ = _; unfold Cm.size; rw [if_neg hr]
    clear hr
    go_wp2
    go_ret
    exact ⟨by rw [E.out]; rfl, hb0⟩

theorem noughts_eq (n : Nat) (h : n ≤ 240) : Cm.noughts = List.replicate (n + (240 - n)) 0 := by
  unfold Cm.noughts
  congr 1
  omega

set_option maxRecDepth 100000 in
set_option maxHeartbeats 1000000 in
theorem Put_any (n : Cm.Nd) (v : Value) (B : Nat) (w : World) (hv : NdS w B v n) (hB : B ≤ w.heap.size) (hl : n.items.length ≤ 1000000) (hk : n.kids.length ≤ 1000010) :
    Calls Try.prog 27 #[v] w fun e w' => Below w.heap.size w w' ∧
      ((Cm.wrong n = 0 ∧ ∃ g, e = .returned (.tuple #[.slice (some ⟨g, 0, none⟩) 240 240, .int .i64 0]) ∧ w.heap.size ≤ g ∧ Blk w' g (Cm.page n)) ∨
       (Cm.wrong n ≠ 0 ∧ e = .returned (.tuple #[.slice none 0 0, .int .i64 (Cm.wrong n : Int)]))) := by
  have HW : Hid (∀ W : World, Below w.heap.size w W → Calls Try.prog 30 #[v] W fun e w' => e = .returned (.bool (decide (Cm.Right n))) ∧ Below W.heap.size W w') :=
    fun W h => wellFormed_any n v B W (hv.below h hB) (Nat.le_trans hB h.size) hl hk
  have HF : Hid (Cm.Right n → ∀ W : World, Below w.heap.size w W → Calls Try.prog 39 #[v] W fun e w' => ∃ v', e = .returned v' ∧ Own w' W.heap.size v' (Cm.form n) ∧ Below W.heap.size W w') :=
    fun hr W h => form_any n v B W (hv.below h hB) (Nat.le_trans hB h.size) hl hr.fit
  obtain ⟨vi, vk, rfl, ⟨ad, c, rfl, -⟩, ⟨kd, d, rfl, -⟩⟩ := hv
  have hmk : ∀ W : World, (Instr.makeSlice 32 (.int .i64 240) (.int .i64 240)).run Try.prog W = .ok (.slice (some ⟨W.heap.size, 0, none⟩) 240 240) (W.alloc (.cells (bV Cm.noughts).toArray 5)) := fun W => make_byts 240 240 rfl (by omega) W
  have hb0 := (Below.refl w.heap.size w).alloc (Nat.le_refl _) (.cells #[.bool n.leaf, .slice ad n.items.length c, .slice kd n.kids.length d] 28)
  have hx0 := heap_alloc_new w (.cells #[.bool n.leaf, .slice ad n.items.length c, .slice kd n.kids.length d] 28)
  go_enter Try.func27, Try.ntmps27
  go_wp2_with fail
  refine (HW.out _ hb0).mono ?_
  rintro e w1 ⟨rfl, hb1⟩
  replace hx0 := (hb1.block w.heap.size (lt_of_heap hx0)).trans hx0
  replace hb0 := hb0.trans (hb1.mono hb0.size)
  clear hb1
  obtain ⟨n0, n1, n2⟩ := cells3_of hx0
  by_cases hr : Cm.Right n
  · rw [decide_eq_true hr]
    have Hr : Hid (Cm.Right n) := hr
    clear hr
    go_wp2_with fail
    refine (HF.out Hr.out _ hb0).mono ?_
    rintro e w2 ⟨v2, rfl, ho2, hb2⟩
    replace hb0 := hb0.trans (hb2.mono hb0.size)
    obtain ⟨ad2, c2, rfl, -⟩ := ho2.byts
    clear hb2 hx0 n0 n1 n2 HW HF
    by_cases hs : 240 < (Cm.form n).length
    · have E : Hid (Cm.wrong n = 3) := by show _ = _; unfold Cm.wrong; rw [if_pos Hr.out, if_pos hs]
      go_wp2
      go_ret2
      exact ⟨hb0, .inr ⟨by rw [E.out]; omega, by rw [E.out]; rfl⟩⟩
    · have E : Hid (Cm.wrong n = 0) := by show _ = _; unfold Cm.wrong; rw [if_pos Hr.out, if_neg hs]
      have hN := noughts_eq (Cm.form n).length (by omega)
      have hmade := Blk.made w2 Cm.noughts
      rw [hN] at hmade
      obtain ⟨w3, hcp, hk3, hb3⟩ := copy_new (w2.alloc (.cells (bV Cm.noughts).toArray 5)) w2 w2.heap.size (240 - (Cm.form n).length) 240 (Cm.form n).length c2 ad2 (Cm.form n) (Cm.form n) w2.heap.size (ho2.byts.alloc (Nat.le_refl _) _) (by simp) (Nat.min_eq_left (by omega)) (by rw [hN]; exact hmade) ((Below.refl _ _).alloc (Nat.le_refl _) _)
      have HK : Hid (Blk w3 w2.heap.size (Cm.page n)) := hk3
      clear hk3 hmade hN
      go_wp2
      go_ret2
      exact ⟨hb0.trans (hb3.mono hb0.size), .inl ⟨E.out, _, rfl, hb0.size, HK.out⟩⟩
  · rw [decide_eq_false hr]
    have E : Hid (Cm.wrong n = 2) := by show _ = _; unfold Cm.wrong; rw [if_neg hr]
    clear hr
    go_wp2
    go_ret2
    exact ⟨hb0, .inr ⟨by rw [E.out]; omega, by rw [E.out]; rfl⟩⟩

end Go.Proofs.Ytplfcpbjlhobeaa
