/-
  WHERE A PATH STANDS (the document's At).
-/
import Derived.Test.YtifolddmcibkdaaTKit
namespace Go.Proofs.Ytifolddmcibkdaa
open Go.RowKit

/-- what a tree's block and its rows' cells say -/
theorem HasR.cell0 {w : World} {g : Nat} {vf vc : Value} {ty : TypeId} (h : w.heap[g]? = some (.cells #[vf, vc] ty (0, 0))) : w.cell? ⟨g, 0, none⟩ = some vf ∧ w.cell? ⟨g, 1, none⟩ = some vc ∧ w.frozen? ⟨g, 0, none⟩ = false ∧ w.frozen? ⟨g, 1, none⟩ = false := by
  refine ⟨?_, ?_, ?_, ?_⟩ <;> simp [World.cell?, World.frozen?, h]
theorem FlR.at {w : World} {B : Nat} {v : Value} {l : List Tm.Fl} (h : FlR.Sl w B v l) (j : Nat) (hj : j < l.length) :
    ∃ b o c, v = .slice (some ⟨b, o, none⟩) l.length c ∧ b < B ∧ w.cell? ⟨b, o + j * 2, none⟩ = some (.string (l.getD j Tm.noFl).path) ∧ w.cell? ⟨b, o + j * 2 + 1, none⟩ = some (.string (l.getD j Tm.noFl).text) := by
  obtain ⟨b, o, c, rfl, hb, hc⟩ := h.cells j hj
  have e : l.getD j Tm.noFl = l[j] := by simp [List.getD, List.getElem?_eq_getElem hj]
  rw [e]
  exact ⟨b, o, c, rfl, hb, hc 0 _ (by decide) rfl, hc 1 _ (by decide) rfl⟩

theorem Tm.place_step {l : List Tm.Fl} {p : ByteArray} {k : Nat} (hk : k < l.length) (hall : ∀ j, j < k → Ks.kl (l.getD j Tm.noFl).path p = true) (h : Ks.kl (l.getD k Tm.noFl).path p = false) : Tm.place l p = k := by
  unfold Tm.place
  induction l generalizing k with
  | nil => simp at hk
  | cons x r ih =>
    cases k with
    | zero => rw [List.takeWhile_cons_of_neg (by simpa [List.getD] using h)]; rfl
    | succ k =>
      rw [List.takeWhile_cons_of_pos (by simpa [List.getD] using hall 0 (by omega)), List.length_cons]
      rw [ih (k := k) (by simpa using hk) (fun j hj => by simpa [List.getD] using hall (j + 1) (by omega)) (by simpa [List.getD] using h)]
theorem Tm.place_end {l : List Tm.Fl} {p : ByteArray} (hall : ∀ j, j < l.length → Ks.kl (l.getD j Tm.noFl).path p = true) : Tm.place l p = l.length := by
  unfold Tm.place
  induction l with
  | nil => rfl
  | cons x r ih =>
    rw [List.takeWhile_cons_of_pos (by simpa [List.getD] using hall 0 (by simp)), List.length_cons, List.length_cons]
    rw [ih (fun j hj => by simpa [List.getD] using hall (j + 1) (by simpa using hj))]

theorem beq_txt (s t : ByteArray) : (s.toList == t.toList) = decide (s = t) := by
  by_cases h : s = t
  · subst h; simp
  · rw [decide_eq_false h, beq_eq_false_iff_ne, ByteArray.toList_eq, ByteArray.toList_eq]
    intro e
    exact h (ByteArray.ext (Array.toList_inj.1 e))

set_option maxRecDepth 100000 in
set_option maxHeartbeats 2000000 in
theorem AtR_any (g : Nat) (t : Tm.T) (S : List Nat) (p : ByteArray) (w : World) (h : HasR w g t S) (hl : t.files.length ≤ 1099511627) :
    Calls Try.prog 43 #[.pointer (some ⟨g, 0, none⟩), .string p] w fun e w' => e = .returned (.tuple #[.int .i64 (Tm.place t.files p : Int), .bool (Tm.isIn t.files p)]) ∧ Below w.heap.size w w' := by
  obtain ⟨vf, vc, ty, hb, hty, hf, hc, rfl⟩ := h
  obtain ⟨c0, -, -, -⟩ := HasR.cell0 hb
  have hs := hf.sl
  obtain ⟨ad, c, rfl, hle⟩ := hs.shape
  go_enter Try.func43, Try.ntmps43
  go_wp2
  go_loopw [6] (fun i wr => ∃ k : Nat, k ≤ t.files.length ∧ i = .int .i64 (k : Int) ∧ (∀ j, j < k → Ks.kl (t.files.getD j Tm.noFl).path p = true) ∧ wr = w) (fun i _ => t.files.length - (intOf i).toNat)
  case atStart => exact ⟨0, Nat.zero_le _, rfl, by simp, rfl⟩
  case round =>
    obtain ⟨k, hk, rfl, hall, rfl⟩ := hrel
    have HA : Hid _ := hall
    clear hall
    by_cases hlt : k < t.files.length
    · obtain ⟨b, o, c', e, hb', p0, p1⟩ := FlR.at hs k hlt
      simp only [Value.slice.injEq] at e
      obtain ⟨rfl, -, rfl⟩ := e
      have i1 : (k : Int) < (t.files.length : Int) := by omega
      have HI : Hid (∀ m, Tm.place t.files p = m → Tm.isIn t.files p = (decide (m < t.files.length) && decide ((t.files.getD m Tm.noFl).path = p))) := fun m hm => by unfold Tm.isIn; rw [hm]
      have HL : Hid (∀ b, Ks.kl (t.files.getD k Tm.noFl).path p = b → Op.bytesLess (t.files.getD k Tm.noFl).path.toList p.toList = b) := fun b hb => hb
      have HE := beq_txt (t.files.getD k Tm.noFl).path p
      cases hkl : Ks.kl (t.files.getD k Tm.noFl).path p with
      | true =>
        have q := HL.out _ hkl
        have HK : Hid (∀ j, j < k + 1 → Ks.kl (t.files.getD j Tm.noFl).path p = true) := fun j hj => by
          by_cases e : j = k
          · subst e; exact hkl
          · exact HA.out j (by omega)
        clear hkl HI HL HA HE
        generalize (t.files.getD k Tm.noFl).path = x at *
        go_wp2
        exact ⟨⟨k + 1, by omega, by go_num, HK.out, trivial⟩, by simp [intOf]; omega⟩
      | false =>
        have q := HL.out _ hkl
        have hpl := Tm.place_step hlt HA.out hkl
        have hin := HI.out _ hpl
        rw [decide_eq_true hlt, Bool.true_and] at hin
        have HP : Hid _ := hpl
        have HN : Hid _ := hin
        clear hkl HI HL HA hpl hin
        generalize (t.files.getD k Tm.noFl).path = x at *
        by_cases hx : x = p
        · rw [decide_eq_true hx] at HE HN
          clear hx
          go_wp2_with fail
          go_quiet (fail)
          go_wp2
          go_ret2
          rw [HP.out, HN.out]
          exact ⟨rfl, below_drewN (Below.refl _ _) _⟩
        · rw [decide_eq_false hx] at HE HN
          clear hx
          go_wp2_with fail
          go_quiet (fail)
          go_wp2
          go_ret2
          rw [HP.out, HN.out]
          exact ⟨rfl, below_drewN (Below.refl _ _) _⟩
    · obtain rfl : k = t.files.length := by omega
      have i1 : ¬ (t.files.length : Int) < (t.files.length : Int) := by omega
      have hpl := Tm.place_end HA.out
      have hin : Tm.isIn t.files p = false := by unfold Tm.isIn; rw [hpl]; simp
      have HP : Hid _ := hpl
      have HN : Hid _ := hin
      clear hpl hin
      go_wp2_with fail
      go_quiet (fail)
      go_wp2
      go_ret2
      rw [HP.out, HN.out]
      exact ⟨rfl, below_drewN (Below.refl _ _) _⟩

end Go.Proofs.Ytifolddmcibkdaa
