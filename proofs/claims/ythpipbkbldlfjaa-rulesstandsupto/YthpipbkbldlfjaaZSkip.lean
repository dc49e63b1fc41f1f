/-
  THE READER: comments, and words of bare bytes.
-/
import Derived.Test.YthpipbkbldlfjaaZRd
namespace Go.Proofs.Ythpipbkbldlfjaa
open Go.RowKit

/-- where the reader of block p stands -/
def rdAt (w : World) (p : Nat) : Nat := match w.cell? ⟨p, 1, none⟩ with
  | some (.int _ k) => k.toNat
  | _ => 0
theorem Rd.at_ {w : World} {p : Nat} {s : ByteArray} {k : Nat} (h : Rd w p s k) : rdAt w p = k := by
  unfold rdAt
  rw [RdC.cell1 h]
  simp

set_option maxRecDepth 100000 in
set_option maxHeartbeats 1000000 in
theorem comment_any (w : World) (p : Nat) (s : ByteArray) (k : Nat) (h : Rd w p s k) (hk : k ≤ s.size) (hs : s.size ≤ 32768) :
    Calls Try.prog 95 #[.pointer (some ⟨p, 0, none⟩)] w fun e w' => e = .returned (.tuple #[]) ∧ ∃ j, Rd w' p s j ∧ Lx.Ends s j ∧ j ≤ s.size ∧ k ≤ j ∧ Lx.bh s k = Lx.dn s j ∧ Turn [p] w w' := by
  go_enter Try.func95, Try.ntmps95
  go_wp2
  go_loopw [2] (fun _ wr => ∃ j, Rd wr p s j ∧ j ≤ s.size ∧ k ≤ j ∧ Hid (Lx.bh s k = Lx.bh s j) ∧ Turn [p] w wr) (fun _ wr => s.size - rdAt wr p)
  case atStart => exact ⟨k, h, hk, Nat.le_refl _, rfl, Turn.refl _ _⟩
  case round =>
    obtain ⟨j, hR, hj, hkj, HB, hT⟩ := hrel
    have hat := hR.at_
    go_wp2_with fail
    refine (ended_any _ p s j hR hj).mono ?_
    rintro e w1 ⟨rfl, q, rfl⟩
    by_cases he : Lx.Ends s j
    · rw [decide_eq_true he]
      have HE : Hid _ := he
      clear he
      go_wp2
      go_end0
      refine ⟨rfl, j, hR, HE.out, hj, hkj, ?_, hT.drewN q⟩
      rw [HB.out]; exact (Lx.ln_end HE.out).2
    · rw [decide_eq_false he]
      have hlt : j < s.size := by
        rcases Nat.lt_or_ge j s.size with h | h
        · exact h
        · exact absurd (.inl (by omega)) he
      have HE : Hid _ := he
      clear he
      have c1 := RdC.cell1 hR
      go_wp2_with fail
      refine (joins_any _ p s j j (hR.drewN q) hs (by omega)).mono ?_
      rintro e w1 ⟨rfl, rfl⟩
      by_cases hJ : Lx.Join s j
      · rw [decide_eq_true hJ]
        have hlt2 : j + 1 < s.size := hJ.1
        have HB2 : Hid (Lx.bh s k = Lx.bh s (j + 2)) := HB.out.trans (Lx.ln_join hJ).2
        clear hJ
        go_wp2_with fail
        refine (pass_any _ p s j (hR.drewN q) hlt hs).mono ?_
        rintro e w1 ⟨rfl, hR1, hT1⟩
        go_wp2_with fail
        refine (pass_any _ p s (j + 1) hR1 hlt2 hs).mono ?_
        rintro e w2 ⟨rfl, hR2, hT2⟩
        have hat2 := hR2.at_
        go_wp2
        exact ⟨⟨j + 2, hR2, by omega, by omega, HB2, ((hT.drewN q).trans hT1 (by simp)).trans hT2 (by simp)⟩, by omega⟩
      · rw [decide_eq_false hJ]
        have HB2 : Hid (Lx.bh s k = Lx.bh s (j + 1)) := HB.out.trans (Lx.ln_one hlt hJ (fun e => HE.out (.inr ⟨hlt, e⟩))).2
        clear hJ
        go_wp2_with fail
        refine (pass_any _ p s j (hR.drewN q) hlt hs).mono ?_
        rintro e w2 ⟨rfl, hR2, hT2⟩
        have hat2 := hR2.at_
        go_wp2
        exact ⟨⟨j + 1, hR2, by omega, by omega, HB2, (hT.drewN q).trans hT2 (by simp)⟩, by omega⟩

end Go.Proofs.Ythpipbkbldlfjaa
