/-
  SCRIPTS OF CALLS; THE LAWS' long.
-/
import Derived.Test.YtifolddmcibkdaaRList
namespace Go.Proofs.Ytifolddmcibkdaa
open Go.RowKit

/-- a call: its kind, path, text, number -/
structure Tm.Op where
  kind : Int
  path : ByteArray
  text : ByteArray
  n : Int
def Tm.noOp : Tm.Op := ⟨0, .empty, .empty, 0⟩
def Tm.cost (l : List Tm.Op) : Nat := (l.map fun o => o.path.size + o.text.size + 1).sum
theorem Tm.cost_take (l : List Tm.Op) (k : Nat) (h : k < l.length) : Tm.cost (l.take (k + 1)) = Tm.cost (l.take k) + ((l.getD k Tm.noOp).path.size + (l.getD k Tm.noOp).text.size + 1) := by
  unfold Tm.cost
  have e : l.getD k Tm.noOp = l[k] := by simp [List.getD, List.getElem?_eq_getElem h]
  rw [List.take_succ_eq_append_getElem h, e, List.map_append, List.sum_append, List.map_cons, List.map_nil, List.sum_cons, List.sum_nil]
  omega
theorem Tm.cost_le (l : List Tm.Op) (k : Nat) : Tm.cost (l.take k) ≤ Tm.cost l := by
  unfold Tm.cost
  conv => rhs; rw [← List.take_append_drop k l]
  rw [List.map_append, List.sum_append]
  omega
theorem Tm.cost_len (l : List Tm.Op) : l.length ≤ Tm.cost l := by
  unfold Tm.cost
  induction l with
  | nil => simp
  | cons x r ih => simp only [List.length_cons, List.map_cons, List.sum_cons]; omega
theorem Tm.cost_mem {l : List Tm.Op} {o : Tm.Op} (h : o ∈ l) : o.path.size + o.text.size + 1 ≤ Tm.cost l := by
  unfold Tm.cost
  induction l with
  | nil => cases h
  | cons x r ih =>
    simp only [List.map_cons, List.sum_cons]
    rcases List.mem_cons.1 h with rfl | h
    · omega
    · have := ih h; omega

def OpR : Rc Tm.Op where
  e := 41
  st := 22
  k := 4
  bytes := 48
  z := .agg #[.int .i64 0, .string .empty, .string .empty, .int .i64 0]
  enc o := [.int .i64 o.kind, .string o.path, .string o.text, .int .i64 o.n]
  pos := by decide
  len _ := rfl
  one o u hu := by
    simp only [List.mem_cons, List.not_mem_nil, or_false] at hu
    rcases hu with rfl | rfl | rfl | rfl <;> rfl
  info := by kernel_rfl
  under := Try.underlying22
  zk := rfl
  small := by decide
theorem OpR.at {w : World} {B : Nat} {v : Value} {l : List Tm.Op} (h : OpR.Sl w B v l) (j : Nat) (hj : j < l.length) :
    ∃ b o c, v = .slice (some ⟨b, o, none⟩) l.length c ∧ b < B ∧ w.cell? ⟨b, o + j * 4, none⟩ = some (.int .i64 (l.getD j Tm.noOp).kind) ∧ w.cell? ⟨b, o + j * 4 + 1, none⟩ = some (.string (l.getD j Tm.noOp).path) ∧
      w.cell? ⟨b, o + j * 4 + 2, none⟩ = some (.string (l.getD j Tm.noOp).text) ∧ w.cell? ⟨b, o + j * 4 + 3, none⟩ = some (.int .i64 (l.getD j Tm.noOp).n) := by
  obtain ⟨b, o, c, rfl, hb, hc⟩ := h.cells j hj
  have e : l.getD j Tm.noOp = l[j] := by simp [List.getD, List.getElem?_eq_getElem hj]
  rw [e]
  exact ⟨b, o, c, rfl, hb, hc 0 _ (by decide) rfl, hc 1 _ (by decide) rfl, hc 2 _ (by decide) rfl, hc 3 _ (by decide) rfl⟩

/-- texts that a machine may hold -/
def Tm.Sized (l : List Tm.Op) : Prop := l.length ≤ 1152921504606846976 ∧ ∀ o ∈ l, o.path.size ≤ 1152921504606846976 ∧ o.text.size ≤ 1152921504606846976
/-- what long answers -/
def LongV (l : List Tm.Op) (v : Value) : Prop := ∃ b, v = .bool b ∧ (b = false → Tm.cost l < 1048576 ∧ l.length ≤ 2000)
set_option maxRecDepth 100000 in
set_option maxHeartbeats 2000000 in
theorem long_any (w : World) (B : Nat) (v : Value) (l : List Tm.Op) (h : OpR.Sl w B v l) (hz : Tm.Sized l) :
    Calls Try.prog 11 #[v] w fun e w' => ∃ v, e = .returned v ∧ LongV l v ∧ Below w.heap.size w w' := by
  obtain ⟨ad, c, rfl, hle⟩ := h.shape
  have hll := hz.1
  go_enter Try.func11, Try.ntmps11
  go_wp2
  go_loopw [3, 4] (fun n i wr => ∃ k : Nat, k ≤ l.length ∧ i = .int .i64 (k : Int) ∧ n = .int .i64 (Tm.cost (l.take k) : Int) ∧ Tm.cost (l.take k) ≤ 4611686018427387904 ∧ ∃ q, wr = w.drewN q) (fun _ i _ => l.length - (intOf i).toNat)
  case atStart => exact ⟨0, Nat.zero_le _, rfl, rfl, by simp [Tm.cost], 0, rfl⟩
  case round =>
    obtain ⟨k, hk, rfl, rfl, hcl, q, rfl⟩ := hrel
    by_cases hlt : k < l.length
    · obtain ⟨b, o, c', e, -, p0, p1, p2, p3⟩ := OpR.at h k hlt
      simp only [Value.slice.injEq] at e
      obtain ⟨rfl, -, rfl⟩ := e
      have i1 : (k : Int) < (l.length : Int) := by omega
      have hst := Tm.cost_take l k hlt
      obtain ⟨hx, hy⟩ := hz.2 (l.getD k Tm.noOp) (by simp [List.getD, List.getElem?_eq_getElem hlt])
      generalize Tm.cost (l.take k) = n1 at *
      generalize (l.getD k Tm.noOp).path = x at *
      generalize (l.getD k Tm.noOp).text = y at *
      clear p0 p3
      have HS : Hid _ := hst
      clear hst
      by_cases i2 : (n1 : Int) < 1048576
      · go_wp2_with fail
        go_quiet (fail)
        go_wp2
        exact ⟨⟨k + 1, by omega, by go_num, by rw [HS.out]; go_num, by rw [HS.out]; omega, _, rfl⟩, by simp [intOf]; omega⟩
      · have d1 : decide ((n1 : Int) < 1048576) = false := decide_eq_false i2
        have d2 : decide ((1048576 : Int) ≤ (n1 : Int)) = true := decide_eq_true (by omega)
        clear p1 p2 i2 HS hx hy
        go_wp2
        go_ret
        exact ⟨_, rfl, ⟨true, rfl, fun h => (by cases h)⟩, below_drewN (Below.refl _ _) _⟩
    · obtain rfl : k = l.length := by omega
      have i1 : ¬ (l.length : Int) < (l.length : Int) := by omega
      rw [List.take_length] at hcl ⊢
      obtain ⟨n1, hn1⟩ : ∃ n1, Tm.cost l = n1 := ⟨_, rfl⟩
      rw [hn1] at hcl ⊢
      by_cases i2 : (1048576 : Int) ≤ (n1 : Int)
      · go_wp2
        go_ret
        exact ⟨_, rfl, ⟨true, rfl, fun h => (by cases h)⟩, below_drewN (Below.refl _ _) _⟩
      · go_wp2
        go_ret
        refine ⟨_, rfl, ⟨_, rfl, fun h => ⟨by omega, ?_⟩⟩, below_drewN (Below.refl _ _) _⟩
        simp only [decide_eq_false_iff_not] at h
        omega

end Go.Proofs.Ytifolddmcibkdaa
