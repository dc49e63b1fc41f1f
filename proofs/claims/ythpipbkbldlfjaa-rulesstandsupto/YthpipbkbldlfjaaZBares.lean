/-
  THE READER: words of bare bytes.
-/
import Derived.Test.YthpipbkbldlfjaaZSkip
import Derived.Test.YthpipbkbldlfjaaXRead2
namespace Go.Proofs.Ythpipbkbldlfjaa
open Go.RowKit

/-- is the line at its end? as a quiet call -/
theorem ended_q {w : World} {p : Nat} {s : ByteArray} {k : Nat} (h : Rd w p s k) (hk : k ≤ s.size) {D : Bool} (hD : decide (Lx.Ends s k) = D) (q : Nat) :
    Calls Try.prog 92 #[.pointer (some ⟨p, 0, none⟩)] (w.drewN q) fun e w' => e = .returned (.bool D) ∧ ∃ m, w' = (w.drewN q).drewN m := by
  rw [← hD]
  exact ended_any _ p s k (h.drewN q) hk
theorem bare_q {c : UInt8} {D : Bool} (hD : Lx.bare c = D) (w : World) : Calls Try.prog 97 #[.int .u8 (c.toNat : Int)] w fun e w' => e = .returned (.bool D) ∧ w' = w := by
  rw [← hD]
  exact bare_any c w

theorem slice_str (s : ByteArray) (k j : Nat) : s.extract k j = str (((bs s).take j).drop k) := by
  have : bs (s.extract k j) = ((bs s).take j).drop k := by rw [bs_extract, List.drop_take]
  rw [← this]
  exact (str_of _).symm

set_option maxRecDepth 100000 in
set_option maxHeartbeats 1000000 in
theorem bares_any (w : World) (p : Nat) (s : ByteArray) (k : Nat) (h : Rd w p s k) (hk : k < s.size) (hb : Lx.bare s[k] = true) (hs : s.size ≤ 32768) :
    Calls Try.prog 98 #[.pointer (some ⟨p, 0, none⟩)] w fun e w' => ∃ j, e = .returned (.string (str (((bs s).take j).drop k))) ∧ Rd w' p s j ∧ k < j ∧ j ≤ s.size ∧ Hid (Lx.bh s k = Lx.bh s j) ∧ Hid (Lx.rd (Lx.ln s k) = (Lx.rd (Lx.ln s j)).map id (⟨((bs s).take j).drop k, k, false, false⟩ :: ·)) ∧ Turn [p] w w' := by
  have HBK : Hid _ := hb
  clear hb
  have c1 := RdC.cell1 h
  go_enter Try.func98, Try.ntmps98
  go_wp2
  go_loopw [8] (fun _ wr => ∃ j, Rd wr p s j ∧ j ≤ s.size ∧ k ≤ j ∧ Hid (Lx.bh s k = Lx.bh s j) ∧ Hid (Lx.Bares s k j) ∧ Turn [p] w wr) (fun _ wr => s.size - rdAt wr p)
  case atStart => exact ⟨k, h, by omega, Nat.le_refl _, rfl, Lx.Bares.start _ _, Turn.refl _ _⟩
  case round =>
    clear c1
    obtain ⟨j, hR, hj, hkj, HB, HX, hT⟩ := hrel
    have hat := hR.at_
    have c0 := RdC.cell0 hR
    have c1 := RdC.cell1 hR
    have HST : Hid ((Lx.Ends s j ∨ ∃ h : j < s.size, Lx.bare s[j] = false) → k < j) := by
      intro hst
      rcases Nat.lt_or_ge k j with h | h
      · exact h
      obtain rfl : k = j := by omega
      exfalso
      rcases hst with he | ⟨_, hf⟩
      · have := HBK.out
        rcases he with e | ⟨_, e⟩
        · omega
        · rw [e] at this; exact absurd this (by decide)
      · rw [HBK.out] at hf; cases hf
    by_cases he : Lx.Ends s j
    · have HE : Hid _ := he
      have hend := ended_q hR hj (decide_eq_true he)
      have hkj2 := HST.out (.inl he)
      clear he HST
      go_wp2_with fail
      go_quiet ((go_at_call 92; refine Calls.quiet_of (hend _)))
      go_wp2_with fail
      have i1 : (k : Int) ≤ (j : Int) := by omega
      have i2 : (j : Int) ≤ (s.size : Int) := by omega
      go_quiet (fail)
      go_wp2
      go_ret
      refine ⟨j, ?_, hR, hkj2, hj, HB, HX.out.ends hkj2 hj HBK.out (.inl HE.out), (hT.drewN _).drewN _⟩
      rw [← slice_str]
      rfl
    · have hlt : j < s.size := by
        rcases Nat.lt_or_ge j s.size with h | h
        · exact h
        · exact absurd (.inl (by omega)) he
      have hend := ended_q hR hj (decide_eq_false he)
      clear he
      have i3 : (j : Int) < (s.size : Int) := by omega
      cases hbj : Lx.bare s[j] with
      | true =>
        have hba := bare_q hbj
        have HBJ : Hid _ := hbj
        clear hbj HST
        go_wp2_with fail
        go_quiet ((first | (go_at_call 92; refine Calls.quiet_of (hend _)) | (go_at_call 97; refine Calls.quiet_of_same (hba _)) | fail))
        go_wp2_with fail
        refine (pass_any _ p s j (hR.drewN _) hlt hs).mono ?_
        rintro e w2 ⟨rfl, hR2, hT2⟩
        have hat2 := hR2.at_
        go_wp2
        exact ⟨⟨j + 1, hR2, by omega, by omega, HB.out.trans (Lx.ln_bare hlt HBJ.out).2, HX.out.more hkj hlt HBJ.out, (hT.drewN _).trans hT2 (by simp)⟩, by omega⟩
      | false =>
        have hba := bare_q hbj
        have hkj2 := HST.out (.inr ⟨hlt, hbj⟩)
        have HBJ : Hid _ := hbj
        clear hbj HST
        go_wp2_with fail
        go_quiet ((first | (go_at_call 92; refine Calls.quiet_of (hend _)) | (go_at_call 97; refine Calls.quiet_of_same (hba _)) | fail))
        go_wp2_with fail
        have i1 : (k : Int) ≤ (j : Int) := by omega
        have i2 : (j : Int) ≤ (s.size : Int) := by omega
        go_quiet (fail)
        go_wp2
        go_ret
        refine ⟨j, ?_, hR, hkj2, hj, HB, HX.out.ends hkj2 hj HBK.out (.inr ⟨hlt, HBJ.out⟩), (hT.drewN _).drewN _⟩
        rw [← slice_str]
        rfl

end Go.Proofs.Ythpipbkbldlfjaa
