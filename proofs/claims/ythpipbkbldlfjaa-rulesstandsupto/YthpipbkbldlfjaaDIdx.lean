/-
  WHAT THE PROGRAM's indented DOES: slices.IndexFunc of lines.
-/
import Derived.Test.YthpipbkbldlfjaaRName
import Derived.Shelf.Abstract
namespace Go.Proofs.Ythpipbkbldlfjaa
open Go.RowKit

/-- how many lines are indented, ahead of the first one that is not -/
def inds (l : List RawL) : Nat := l.findIdx fun x => !x.ind
theorem inds_le (l : List RawL) : inds l ≤ l.length := List.findIdx_le_length
theorem inds_cons (x : RawL) (l : List RawL) : inds (x :: l) = if x.ind = true then inds l + 1 else 0 := by
  unfold inds
  rw [List.findIdx_cons]
  cases x.ind <;> rfl
theorem inds_drop {l : List RawL} {k : Nat} (h : k < l.length) : inds (l.drop k) = if l[k].ind = true then inds (l.drop (k + 1)) + 1 else 0 := by
  rw [List.drop_eq_getElem_cons h, inds_cons]
/-- all those are indented; the next one is not -/
theorem inds_all : ∀ (l : List RawL), ∀ x ∈ l.take (inds l), x.ind = true
  | [], x, h => by simp at h
  | y :: l, x, h => by
    rw [inds_cons] at h
    cases hy : y.ind with
    | false => rw [hy] at h; simp at h
    | true =>
      rw [hy] at h
      simp only [if_true, List.take_succ_cons, List.mem_cons] at h
      rcases h with rfl | h
      · exact hy
      · exact inds_all l x h
theorem inds_next : ∀ (l : List RawL) (x : RawL), (l.drop (inds l)).head? = some x → x.ind = false
  | [], x, h => by simp at h
  | y :: l, x, h => by
    rw [inds_cons] at h
    cases hy : y.ind with
    | false =>
      rw [hy] at h
      simp at h
      rw [← h]; exact hy
    | true =>
      rw [hy] at h
      simp only [if_true, List.drop_succ_cons] at h
      exact inds_next l x h

set_option maxRecDepth 100000 in
theorem indented1_any (x : RawL) (w : World) : Calls Try.prog 57 #[.agg #[.int .i64 x.num, .bool x.ind, .slice x.ad x.n x.c]] w fun e w' => e = .returned (.bool (!x.ind)) ∧ Below w.heap.size w w' := by
  have hB : ∀ o, Below w.heap.size w (w.alloc o) := below_box w
  go_enter Try.func57, Try.ntmps57
  go_wp2
  go_ret
  exact ⟨rfl, hB _⟩
theorem LnR.at {w : World} {B : Nat} {v : Value} {l : List RawL} (h : LnR.Sl w B v l) (j : Nat) (hj : j < l.length) :
    ∃ b o c, v = .slice (some ⟨b, o, none⟩) l.length c ∧ b < B ∧ w.cell? ⟨b, o + j * 3, none⟩ = some (.int .i64 l[j].num) ∧ w.cell? ⟨b, o + j * 3 + 1, none⟩ = some (.bool l[j].ind) ∧ w.cell? ⟨b, o + j * 3 + 2, none⟩ = some (.slice l[j].ad l[j].n l[j].c) := by
  obtain ⟨b, o, c, rfl, hb, hc⟩ := h.cells j hj
  exact ⟨b, o, c, rfl, hb, hc 0 _ (by decide) rfl, hc 1 _ (by decide) rfl, hc 2 _ (by decide) rfl⟩

set_option maxRecDepth 100000 in
set_option maxHeartbeats 1000000 in
theorem IndexFunc_any (v : Value) (l : List RawL) (w : World) (B : Nat) (h : LnR.Sl w B v l) (hBw : B ≤ w.heap.size) (hl : l.length ≤ 1099511627) :
    Calls Try.prog 56 #[v, .func (.func 57) #[] #[]] w fun e w' => e = .returned (.int .i64 (if inds l < l.length then (inds l : Int) else -1)) ∧ Below w.heap.size w w' := by
  have eg : ∀ args w, (callFunc 57 args).run Try.prog w = .ok (.enter 57 args) w := enters_of Try.func57 (by kernel_rfl) rfl
  obtain ⟨ad, c, rfl, hle⟩ := h.shape
  have HM : Hid (inds l = 0 + inds (l.drop 0)) := by show _ = _; rw [Nat.zero_add]; rfl
  generalize hK : inds l = K at *
  clear hK
  have HZ1 : Hid (K < l.length → (if K < l.length then (K : Int) else -1) = (K : Int)) := fun h => if_pos h
  have HZ2 : Hid (¬ K < l.length → (if K < l.length then (K : Int) else -1) = -1) := fun h => if_neg h
  generalize (if K < l.length then (K : Int) else -1) = Z at *
  go_enter Try.func56, Try.ntmps56
  go_wp2
  go_loopw [8] (fun k wr => ∃ i : Nat, i ≤ l.length ∧ k = .int .i64 (i : Int) ∧ Hid (K = i + inds (l.drop i)) ∧ Below w.heap.size w wr) (fun k _ => l.length - (intOf k).toNat)
  case atStart => exact ⟨0, Nat.zero_le _, rfl, HM, Below.refl _ _⟩
  case round =>
    obtain ⟨i, hi, rfl, HA, hD⟩ := hrel
    by_cases hlt : i < l.length
    · have i1 : (i : Int) < (l.length : Int) := by omega
      obtain ⟨b2, o2, cc2, e, -, r0, r1, r2⟩ := LnR.at (h.below hD hBw) i hlt
      simp only [Value.slice.injEq] at e
      obtain ⟨rfl, -, rfl⟩ := e
      have HD : Hid _ := inds_drop hlt
      generalize l[i] = x at *
      have hc := indented1_any x wr
      cases hx : x.ind with
      | false =>
        rw [hx] at hc r1
        have HE : Hid (K = i) := by
          show _ = _
          rw [HA.out, HD.out, hx]
          simp
        clear hx HA HD
        go_wp2_with fail
        refine hc.mono ?_
        rintro e w2 ⟨rfl, hB2⟩
        go_wp2
        go_ret
        rw [HZ1.out (by rw [HE.out]; exact hlt), HE.out]
        exact ⟨rfl, hD.trans (hB2.mono hD.size)⟩
      | true =>
        rw [hx] at hc r1
        have HE : Hid (K = i + 1 + inds (l.drop (i + 1))) := by
          show _ = _
          rw [HA.out, HD.out, hx]
          simp
          omega
        clear hx HA HD
        go_wp2_with fail
        refine hc.mono ?_
        rintro e w2 ⟨rfl, hB2⟩
        go_wp2
        exact ⟨⟨i + 1, by omega, by go_num, HE, hD.trans (hB2.mono hD.size)⟩, by simp [intOf]; omega⟩
    · obtain rfl : i = l.length := by omega
      have i1 : ¬ (l.length : Int) < (l.length : Int) := by omega
      have HE : Hid (K = l.length) := by
        show _ = _
        rw [HA.out, List.drop_length]
        rfl
      go_wp2
      go_ret
      rw [HZ2.out (by rw [HE.out]; omega)]
      exact ⟨rfl, hD⟩

set_option maxRecDepth 100000 in
theorem indented_any (v : Value) (l : List RawL) (w : World) (B : Nat) (h : LnR.Sl w B v l) (hBw : B ≤ w.heap.size) (hl : l.length ≤ 1099511627) :
    Calls Try.prog 29 #[v] w fun e w' => e = .returned (.int .i64 (inds l : Int)) ∧ Below w.heap.size w w' := by
  have hc := IndexFunc_any v l w B h hBw hl
  have hle := inds_le l
  obtain ⟨ad, c, rfl, -⟩ := h.shape
  generalize inds l = K at *
  go_enter Try.func29, Try.ntmps29
  by_cases hlt : K < l.length
  · rw [if_pos hlt] at hc
    have i1 : ¬ (K : Int) < 0 := by omega
    clear hlt hle
    go_wp2_with fail
    refine hc.mono ?_
    rintro e w1 ⟨rfl, hB⟩
    go_wp2
    go_ret
    exact ⟨rfl, hB⟩
  · rw [if_neg hlt] at hc
    obtain rfl : K = l.length := by omega
    clear hlt hle
    go_wp2_with fail
    refine hc.mono ?_
    rintro e w1 ⟨rfl, hB⟩
    go_wp2
    go_ret
    exact ⟨rfl, hB⟩

end Go.Proofs.Ythpipbkbldlfjaa
