/-
  THE READER IN MEMORY, AND ITS SMALL STEPS.
-/
import Derived.Test.YtfgdlnidfkjbdaaDoorYText
import Derived.Test.YtfgdlnidfkjbdaaDoorKit
namespace Go.Proofs.YtfgdlnidfkjbdaaDoor
open Go.RowKit

/-- block p is a reader -/
def RdC (w : World) (p : Nat) (s : ByteArray) (k l c : Int) : Prop := w.heap[p]? = some (.cells #[.string s, .int .i64 k, .int .i64 l, .int .i64 c] 78 (0, 0))
/-- it stands at the k-th byte -/
def Rd (w : World) (p : Nat) (s : ByteArray) (k : Nat) : Prop := RdC w p s (k : Int) ((Lx.place (bs s) k).1 : Int) ((k - (Lx.place (bs s) k).2 : Nat) : Int)

theorem RdC.cell0 {w : World} {p : Nat} {s : ByteArray} {k l c : Int} (h : RdC w p s k l c) : w.cell? ⟨p, 0, none⟩ = some (.string s) := by
  rw [cell_of_row w p 0 _ 78 (0, 0) h]; rfl
theorem RdC.cell1 {w : World} {p : Nat} {s : ByteArray} {k l c : Int} (h : RdC w p s k l c) : w.cell? ⟨p, 1, none⟩ = some (.int .i64 k) := by
  rw [cell_of_row w p 1 _ 78 (0, 0) h]; rfl
theorem RdC.cell2 {w : World} {p : Nat} {s : ByteArray} {k l c : Int} (h : RdC w p s k l c) : w.cell? ⟨p, 2, none⟩ = some (.int .i64 l) := by
  rw [cell_of_row w p 2 _ 78 (0, 0) h]; rfl
theorem RdC.cell3 {w : World} {p : Nat} {s : ByteArray} {k l c : Int} (h : RdC w p s k l c) : w.cell? ⟨p, 3, none⟩ = some (.int .i64 c) := by
  rw [cell_of_row w p 3 _ 78 (0, 0) h]; rfl
theorem RdC.free {w : World} {p : Nat} {s : ByteArray} {k l c : Int} (h : RdC w p s k l c) (j : Nat) : w.frozen? ⟨p, j, none⟩ = false := frozen_of_row w p j _ 78 h
theorem RdC.lt {w : World} {p : Nat} {s : ByteArray} {k l c : Int} (h : RdC w p s k l c) : p < w.heap.size := (Array.getElem?_eq_some_iff.1 h).1
theorem RdC.set1 {w : World} {p : Nat} {s : ByteArray} {k l c : Int} (h : RdC w p s k l c) (k' : Int) : RdC (w.setCell ⟨p, 1, none⟩ (.int .i64 k')) p s k' l c := by
  unfold RdC
  rw [heap_setCell_same w p 1 _ 78 _ h]
  rfl
theorem RdC.set2 {w : World} {p : Nat} {s : ByteArray} {k l c : Int} (h : RdC w p s k l c) (k' : Int) : RdC (w.setCell ⟨p, 2, none⟩ (.int .i64 k')) p s k k' c := by
  unfold RdC
  rw [heap_setCell_same w p 2 _ 78 _ h]
  rfl
theorem RdC.set3 {w : World} {p : Nat} {s : ByteArray} {k l c : Int} (h : RdC w p s k l c) (k' : Int) : RdC (w.setCell ⟨p, 3, none⟩ (.int .i64 k')) p s k l k' := by
  unfold RdC
  rw [heap_setCell_same w p 3 _ 78 _ h]
  rfl
theorem Rd.lt {w : World} {p : Nat} {s : ByteArray} {k : Nat} (h : Rd w p s k) : p < w.heap.size := RdC.lt h
theorem Rd.turn {w w' : World} {p : Nat} {s : ByteArray} {k : Nat} {S : List Nat} (h : Rd w p s k) (ht : Turn S w w') (hs : p ∉ S) : Rd w' p s k := (ht.block p h.lt hs).trans h
theorem Rd.below {w w' : World} {p : Nat} {s : ByteArray} {k : Nat} {B : Nat} (h : Rd w p s k) (ht : Below B w w') (hs : p < B) : Rd w' p s k := (ht.block p hs).trans h
theorem Rd.alloc {w : World} {p : Nat} {s : ByteArray} {k : Nat} (h : Rd w p s k) (o : Obj) : Rd (w.alloc o) p s k := h.turn ((Turn.refl [] w).alloc o) (by simp)
theorem Rd.drewN {w : World} {p : Nat} {s : ByteArray} {k : Nat} (h : Rd w p s k) (q : Nat) : Rd (w.drewN q) p s k := h
theorem Rd.set_other {w : World} {p r j : Nat} {s : ByteArray} {k : Nat} (h : Rd w p s k) (hne : p ≠ r) (y : Value) : Rd (w.setCell ⟨r, j, none⟩ y) p s k := by
  unfold Rd RdC
  rw [Below.heap_setCell _ _ _ _ hne]
  exact h

set_option maxRecDepth 100000 in
set_option maxHeartbeats 1000000 in
theorem pass_any (w : World) (p : Nat) (s : ByteArray) (k : Nat) (h : Rd w p s k) (hk : k < s.size) (hs : s.size ≤ 32768) :
    Calls Tryd.prog 52 #[.pointer (some ⟨p, 0, none⟩)] w fun e w' => e = .returned (.tuple #[]) ∧ Rd w' p s (k + 1) ∧ Turn [p] w w' := by
  have HST : Hid _ := place_step s k hk
  have hpl := place_le s k
  unfold Rd at h
  obtain ⟨l, hl⟩ : ∃ l, (Lx.place (bs s) k).1 = l := ⟨_, rfl⟩
  obtain ⟨c, hc⟩ : ∃ c, (Lx.place (bs s) k).2 = c := ⟨_, rfl⟩
  rw [hl, hc] at h hpl HST
  obtain ⟨hp1, hp2⟩ := hpl
  clear hl hc
  have c0 := h.cell0
  have c1 := h.cell1
  have c2 := h.cell2
  have c3 := h.cell3
  have f1 := h.free 1
  have f2 := h.free 2
  have f3 := h.free 3
  have i1 : (k : Int) < (s.size : Int) := by omega
  by_cases hx : s[k] = 10
  · rw [if_pos hx] at HST
    have hx' : ((s[k].toNat : Int) == 10) = true := by rw [hx]; rfl
    clear hx
    go_enter Tryd.func52, Tryd.ntmps52
    go_wp2_with fail
    go_quiet (fail)
    go_wp2
    go_end0
    refine ⟨rfl, ?_, ((((Turn.refl [p] w).drewN _).set (by simp) _).set (by simp) _).set (by simp) _⟩
    unfold Rd
    rw [HST.out, show ((k + 1 : Nat) : Int) = (k : Int) + 1 by omega]
    exact ((RdC.set2 (w := w.drewN _) h ((l : Int) + 1)).set3 ((k : Int) + 1)).set1 ((k : Int) + 1)
  · rw [if_neg hx] at HST
    have hx' : ((s[k].toNat : Int) == 10) = false := by
      rw [beq_eq_false_iff_ne]
      intro e
      exact hx (UInt8.toNat_inj.1 (by show s[k].toNat = 10; omega))
    clear hx
    go_enter Tryd.func52, Tryd.ntmps52
    go_wp2_with fail
    go_quiet (fail)
    go_wp2
    go_end0
    refine ⟨rfl, ?_, ((Turn.refl [p] w).drewN _).set (by simp) _⟩
    unfold Rd
    rw [HST.out]
    show RdC _ _ _ ((k + 1 : Nat) : Int) (l : Int) ((k + 1 - (c + 1) : Nat) : Int)
    rw [show k + 1 - (c + 1) = k - c by omega, show ((k + 1 : Nat) : Int) = (k : Int) + 1 by omega]
    exact RdC.set1 (w := w.drewN _) h ((k : Int) + 1)

set_option maxRecDepth 100000 in
theorem wrong_any (w : World) (k : Nat) : Calls Tryd.prog 66 #[.int .i64 (k : Int)] w fun e w' => e = .panicked [{ v := .iface 76 (.agg #[.int .i64 6, .int .i64 (k : Int)]), recovered := false }] ∧ w' = w := by
  go_enter Tryd.func66, Tryd.ntmps66
  go_wp2
  exact ⟨rfl, rfl, rfl⟩

end Go.Proofs.YtfgdlnidfkjbdaaDoor

namespace Go.Proofs.YtfgdlnidfkjbdaaDoor
open Go.RowKit

instance (s : ByteArray) (k : Nat) : Decidable (Lx.Ends s k) := by unfold Lx.Ends; infer_instance
instance (s : ByteArray) (k : Nat) : Decidable (Lx.Join s k) := by unfold Lx.Join; infer_instance
theorem byte_ne {c d : UInt8} (h : c ≠ d) : (((c.toNat : Int)) == (d.toNat : Int)) = false := by
  rw [beq_eq_false_iff_ne]
  intro e
  exact h (UInt8.toNat_inj.1 (by omega))
theorem byte_eq {c d : UInt8} (h : c = d) : (((c.toNat : Int)) == (d.toNat : Int)) = true := by rw [h]; simp

set_option maxRecDepth 100000 in
set_option maxHeartbeats 1000000 in
theorem ended_any (w : World) (p : Nat) (s : ByteArray) (k : Nat) (h : Rd w p s k) (hk : k ≤ s.size) :
    Calls Tryd.prog 64 #[.pointer (some ⟨p, 0, none⟩)] w fun e w' => e = .returned (.bool (decide (Lx.Ends s k))) ∧ ∃ q, w' = w.drewN q := by
  have c0 := RdC.cell0 h
  have c1 := RdC.cell1 h
  obtain ⟨D, hD⟩ : ∃ D, decide (Lx.Ends s k) = D := ⟨_, rfl⟩
  have HD : Hid _ := hD
  rw [hD]
  clear hD h
  rcases Nat.lt_or_ge k s.size with hlt | hge
  · have i0 : ((k : Int) == (s.size : Int)) = false := by rw [beq_eq_false_iff_ne]; omega
    have i1 : (k : Int) < (s.size : Int) := by omega
    by_cases hx : s[k] = 10
    · have hx' : ((s[k].toNat : Int) == 10) = true := byte_eq hx
      have HE : Hid (D = true) := HD.out.symm.trans (decide_eq_true (.inr ⟨hlt, hx⟩))
      clear hx HD
      go_enter Tryd.func64, Tryd.ntmps64
      go_wp2_with fail
      go_quiet (fail)
      go_wp2
      go_ret
      rw [HE.out]
      exact ⟨rfl, _, rfl⟩
    · have hx' : ((s[k].toNat : Int) == 10) = false := byte_ne hx
      have HE : Hid (D = false) := HD.out.symm.trans (decide_eq_false (fun h => h.elim (fun e => by omega) (fun ⟨_, e⟩ => hx e)))
      clear hx HD
      go_enter Tryd.func64, Tryd.ntmps64
      go_wp2_with fail
      go_quiet (fail)
      go_wp2
      go_ret
      rw [HE.out]
      exact ⟨rfl, _, rfl⟩
  · have i0 : ((k : Int) == (s.size : Int)) = true := by rw [beq_iff_eq]; omega
    have HE : Hid (D = true) := HD.out.symm.trans (decide_eq_true (.inl (by omega)))
    clear HD
    go_enter Tryd.func64, Tryd.ntmps64
    go_wp2_with fail
    go_quiet (fail)
    go_wp2
    go_ret
    rw [HE.out]
    exact ⟨rfl, _, rfl⟩

set_option maxRecDepth 100000 in
set_option maxHeartbeats 1000000 in
theorem joins_any (w : World) (p : Nat) (s : ByteArray) (k j : Nat) (h : Rd w p s k) (_ : s.size ≤ 32768) (_ : j ≤ 32768) :
    Calls Tryd.prog 65 #[.pointer (some ⟨p, 0, none⟩), .int .i64 (j : Int)] w fun e w' => e = .returned (.bool (decide (Lx.Join s j))) ∧ w' = w := by
  have c0 := RdC.cell0 h
  obtain ⟨D, hD⟩ : ∃ D, decide (Lx.Join s j) = D := ⟨_, rfl⟩
  have HD : Hid _ := hD
  rw [hD]
  clear hD h
  by_cases hlt : j + 1 < s.size
  · have i1 : (j : Int) + 1 < (s.size : Int) := by omega
    have i2 : (j : Int) < (s.size : Int) := by omega
    by_cases hx : s[j] = 92
    · have hx' : ((s[j].toNat : Int) == 92) = true := byte_eq hx
      by_cases hy : s[j + 1] = 10
      · have hy' : ((s[j + 1].toNat : Int) == 10) = true := byte_eq hy
        have HE : Hid (D = true) := HD.out.symm.trans (decide_eq_true ⟨hlt, hx, hy⟩)
        clear hx hy HD
        go_enter Tryd.func65, Tryd.ntmps65
        go_wp2
        go_ret
        rw [HE.out]
        exact ⟨rfl, rfl⟩
      · have hy' : ((s[j + 1].toNat : Int) == 10) = false := byte_ne hy
        have HE : Hid (D = false) := HD.out.symm.trans (decide_eq_false (fun ⟨_, _, e⟩ => hy e))
        clear hx hy HD
        go_enter Tryd.func65, Tryd.ntmps65
        go_wp2
        go_ret
        rw [HE.out]
        exact ⟨rfl, rfl⟩
    · have hx' : ((s[j].toNat : Int) == 92) = false := byte_ne hx
      have HE : Hid (D = false) := HD.out.symm.trans (decide_eq_false (fun ⟨_, e, _⟩ => hx e))
      clear hx HD
      go_enter Tryd.func65, Tryd.ntmps65
      go_wp2
      go_ret
      rw [HE.out]
      exact ⟨rfl, rfl⟩
  · have i1 : ¬ (j : Int) + 1 < (s.size : Int) := by omega
    have HE : Hid (D = false) := HD.out.symm.trans (decide_eq_false (fun ⟨e, _⟩ => hlt e))
    clear HD
    go_enter Tryd.func65, Tryd.ntmps65
    go_wp2
    go_ret
    rw [HE.out]
    exact ⟨rfl, rfl⟩

/-- what is thrown where a text goes wrong -/
def thrown (k : Nat) : Ending := .panicked [{ v := .iface 76 (.agg #[.int .i64 6, .int .i64 (k : Int)]), recovered := false }]

/-- what the backslash at the k-th byte tells -/
def Lx.escAt (s : ByteArray) (k : Nat) : Option UInt8 :=
  if h : k + 1 < s.size then if Lx.Join s (k + 1) then none else if s[k + 1] = 10 then some 32 else Lx.esc s[k + 1] else none
def escEnd (k : Nat) : Option UInt8 → Ending
  | some c => .returned (.int .u8 (c.toNat : Int))
  | none => thrown k

set_option maxRecDepth 100000 in
set_option maxHeartbeats 1000000 in
theorem escaped_any (w : World) (p : Nat) (s : ByteArray) (k : Nat) (h : Rd w p s k) (hs : s.size ≤ 32768) (hk : k < s.size) :
    Calls Tryd.prog 73 #[.pointer (some ⟨p, 0, none⟩)] w fun e w' => e = escEnd k (Lx.escAt s k) ∧ w' = w := by
  have c0 := RdC.cell0 h
  have c1 := RdC.cell1 h
  have HR : Hid _ := h
  have HX : Hid (Lx.escAt s k = if h : k + 1 < s.size then if Lx.Join s (k + 1) then none else if s[k + 1] = 10 then some 32 else Lx.esc s[k + 1] else none) := rfl
  generalize Lx.escAt s k = X at *
  clear h
  go_enter Tryd.func73, Tryd.ntmps73
  by_cases hlt : k + 1 < s.size
  · have i0 : ((k : Int) + 1 == (s.size : Int)) = false := by rw [beq_eq_false_iff_ne]; omega
    have i1 : (k : Int) + 1 < (s.size : Int) := by omega
    rw [dif_pos hlt] at HX
    obtain ⟨y, hy⟩ : ∃ y, s[k + 1] = y := ⟨_, rfl⟩
    rw [hy] at HX
    go_wp2_with fail
    refine (joins_any _ p s k (k + 1) HR.out hs (by omega)).mono ?_
    rintro e w1 ⟨rfl, rfl⟩
    by_cases hj : Lx.Join s (k + 1)
    · rw [if_pos hj] at HX
      rw [decide_eq_true hj]
      clear hj
      go_wp2_with fail
      refine (wrong_any _ k).mono ?_
      rintro e w1 ⟨rfl, rfl⟩
      go_wp2
      refine ⟨rfl, ?_, rfl⟩
      rw [HX.out]; rfl
    · rw [if_neg hj] at HX
      rw [decide_eq_false hj]
      clear hj
      by_cases h10 : y = 10
      · rw [if_pos h10] at HX
        have e10 : ((y.toNat : Int) == 10) = true := byte_eq h10
        clear h10
        go_wp2
        go_ret
        refine ⟨?_, rfl⟩
        rw [HX.out]; rfl
      rw [if_neg h10] at HX
      have e10 : ((y.toNat : Int) == 10) = false := byte_ne h10
      clear h10
      by_cases h110 : y = 110
      · have e110 : ((y.toNat : Int) == 110) = true := byte_eq h110
        have HY : Hid (Lx.esc y = some 10) := by show _ = _; rw [h110]; decide
        clear h110
        go_wp2
        go_ret
        refine ⟨?_, rfl⟩
        rw [HX.out, HY.out]; rfl
      have e110 : ((y.toNat : Int) == 110) = false := byte_ne h110
      by_cases h116 : y = 116
      · have e116 : ((y.toNat : Int) == 116) = true := byte_eq h116
        have HY : Hid (Lx.esc y = some 9) := by show _ = _; rw [h116]; decide
        clear h110 h116
        go_wp2
        go_ret
        refine ⟨?_, rfl⟩
        rw [HX.out, HY.out]; rfl
      have e116 : ((y.toNat : Int) == 116) = false := byte_ne h116
      by_cases h34 : y = 34
      · have e34 : ((y.toNat : Int) == 34) = true := byte_eq h34
        have HY : Hid (Lx.esc y = some y) := by show _ = _; rw [h34]; decide
        clear h110 h116 h34
        go_wp2
        go_ret
        refine ⟨?_, rfl⟩
        rw [HX.out, HY.out]; rfl
      have e34 : ((y.toNat : Int) == 34) = false := byte_ne h34
      by_cases h92 : y = 92
      · have e92 : ((y.toNat : Int) == 92) = true := byte_eq h92
        have HY : Hid (Lx.esc y = some y) := by show _ = _; rw [h92]; decide
        clear h110 h116 h34 h92
        go_wp2
        go_ret
        refine ⟨?_, rfl⟩
        rw [HX.out, HY.out]; rfl
      have e92 : ((y.toNat : Int) == 92) = false := byte_ne h92
      have HY : Hid (Lx.esc y = none) := by
        show _ = _
        unfold Lx.esc
        rw [if_neg (fun h => h.elim h34 h92), if_neg h110, if_neg h116]
      clear h110 h116 h34 h92
      go_wp2_with fail
      refine (wrong_any _ k).mono ?_
      rintro e w1 ⟨rfl, rfl⟩
      go_wp2
      refine ⟨rfl, ?_, rfl⟩
      rw [HX.out, HY.out]; rfl
  · have i0 : ((k : Int) + 1 == (s.size : Int)) = true := by rw [beq_iff_eq]; omega
    rw [dif_neg hlt] at HX
    go_wp2_with fail
    refine (wrong_any _ k).mono ?_
    rintro e w1 ⟨rfl, rfl⟩
    go_wp2
    refine ⟨rfl, ?_, rfl⟩
    rw [HX.out]; rfl

end Go.Proofs.YtfgdlnidfkjbdaaDoor
