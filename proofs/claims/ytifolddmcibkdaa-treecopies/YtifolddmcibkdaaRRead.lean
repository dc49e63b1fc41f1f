/-
  A FILE READ (the document's Read).
-/
import Derived.Test.YtifolddmcibkdaaRAt
import Derived.Test.YtifolddmcibkdaaRIsT
namespace Go.Proofs.Ytifolddmcibkdaa
open Go.RowKit

theorem Tm.isIn_lt {l : List Tm.Fl} {p : ByteArray} (h : Tm.isIn l p = true) : Tm.place l p < l.length ∧ (l.getD (Tm.place l p) Tm.noFl).path = p := by
  unfold Tm.isIn at h
  simp only [Bool.and_eq_true, decide_eq_true_eq] at h
  exact h

set_option maxRecDepth 100000 in
set_option maxHeartbeats 2000000 in
theorem ReadR_any (g : Nat) (t : Tm.T) (S : List Nat) (p : ByteArray) (w : World) (h : HasR w g t S) (hl : t.files.length ≤ 1099511627) :
    Calls Try.prog 30 #[.pointer (some ⟨g, 0, none⟩), .string p] w fun e w' => e = .returned (.tuple #[.string (Tm.read t p).1, .int .i64 ((Tm.read t p).2 : Int)]) ∧ Below w.heap.size w w' := by
  go_enter Try.func30, Try.ntmps30
  have HR : Hid (Tm.read t p = if Tm.isPath p = false then (.empty, 2) else if Tm.isIn t.files p = true then ((t.files.getD (Tm.place t.files p) Tm.noFl).text, 0) else (.empty, 4)) := rfl
  go_wp2_with fail
  refine (IsT_any p _).mono ?_
  rintro e w1 ⟨rfl, hB1⟩
  cases hp : Pm.isP (bs p) with
  | false =>
    rw [if_pos (show Tm.isPath p = false from hp)] at HR
    go_wp2
    go_ret2
    rw [HR.out]
    exact ⟨rfl, hB1⟩
  | true =>
    rw [if_neg (show ¬ Tm.isPath p = false by rw [show Tm.isPath p = true from hp]; simp)] at HR
    have h1 := h.below hB1
    go_wp2_with fail
    refine (AtR_any g t S p _ h1 hl).mono ?_
    rintro e w2 ⟨rfl, hB2⟩
    have h2 := h1.below hB2
    have hC := hB1.trans (hB2.mono hB1.size)
    cases hi : Tm.isIn t.files p with
    | false =>
      rw [hi] at HR
      go_wp2
      go_ret2
      rw [HR.out]
      exact ⟨rfl, hC⟩
    | true =>
      rw [hi, if_pos rfl] at HR
      obtain ⟨hlt, -⟩ := Tm.isIn_lt hi
      obtain ⟨vf, vc, ty, hb, hty, hf, hc, rfl⟩ := h2
      obtain ⟨c0, -, -, -⟩ := HasR.cell0 hb
      obtain ⟨b, o, c, rfl, hb', p0, p1⟩ := FlR.at hf.sl _ hlt
      clear hb hf hc p0 h h1
      generalize (t.files.getD (Tm.place t.files p) Tm.noFl).text = x at *
      generalize Tm.place t.files p = k at *
      have i1 : (k : Int) < (t.files.length : Int) := by omega
      go_wp2
      go_ret2
      rw [HR.out]
      exact ⟨rfl, hC⟩

end Go.Proofs.Ytifolddmcibkdaa
