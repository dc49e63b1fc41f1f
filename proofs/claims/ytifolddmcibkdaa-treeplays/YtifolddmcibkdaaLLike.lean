/-
  THE LAWS' like: both trees tell the same.
-/
import Derived.Test.YtifolddmcibkdaaLBoth
import Derived.Deep.QuietTactic
import Derived.BigQuiet
namespace Go.Proofs.Ytifolddmcibkdaa
open Go.RowKit

theorem HasT.drewN {w : World} {g : Nat} {t : Tm.T} {S : List Nat} (h : HasT w g t S) (n : Nat) : HasT (w.drewN n) g t S := h.below (below_drewN (Below.refl _ _) n)

set_option maxRecDepth 100000 in
set_option maxHeartbeats 8000000 in
theorem like_any {w0 : World} (g r : Nat) (t : Tm.T) (A : List Nat) (w : World) (h : Both w0 w g r t A) (hk : Tm.Ok t) :
    Calls Try.prog 13 #[.pointer (some ⟨g, 0, none⟩), .pointer (some ⟨r, 0, none⟩)] w fun e w' => e = .returned (.bool true) ∧ Below w.heap.size w w' := by
  go_enter Try.func13, Try.ntmps13
  have hfew := hk.few
  have hchs := hk.chs
  go_wp2_with fail
  refine (BListed ⟨#[]⟩ h hk).mono ?_
  rintro e w1 ⟨v, rfl, hv, hB1⟩
  have hO1 := (h.below hB1).1
  have hv1 : StR.Sl w1 w1.heap.size v (t.files.map Tm.Fl.path) := by
    have := hv.sl
    rwa [show Tm.list t ⟨#[]⟩ = t.files.map Tm.Fl.path from Tm.list_all t] at this
  clear hv h
  obtain ⟨adl, cl, hve, -⟩ := hv1.shape
  rw [List.length_map] at hve
  subst hve
  have hO1' := hO1
  obtain ⟨S, R, hT, -⟩ := hO1'
  obtain ⟨vf, vc, c0, c1, hvf, hvc, hrlt⟩ := hO1.cells
  obtain ⟨adf, cf, rfl, -⟩ := hvf.shape
  obtain ⟨adc, cc, rfl, -⟩ := hvc.shape
  have m1 : ((t.files.length : Int) != (t.files.length : Int)) = false := by simp
  have m2 : ((t.chs.length : Int) != (t.chs.length : Int)) = false := by simp
  go_wp2_with fail
  go_quiet ((first
    | (go_at_call 20; refine Calls.quiet_of (TLenQ g t S _ (hT.drewN _) hk))
    | (go_at_call 21; refine Calls.quiet_of (TMarkQ g t S _ (hT.drewN _) hk))))
  go_wp2
  have hB2 : Below w.heap.size w (w1.drewN nq) := below_drewN hB1 _
  have hO2 : Both w0 (w1.drewN nq) g r t A := (hO1.below (below_drewN (Below.refl _ _) _)).1
  have HV : Hid (StR.Sl (w1.drewN nq) w1.heap.size (.slice adl t.files.length cl) (t.files.map Tm.Fl.path)) := hv1
  have HF : Hid (FlR.Sl (w1.drewN nq) w1.heap.size (.slice adf t.files.length cf) t.files) := hvf
  have C0 : Hid ((w1.drewN nq).cell? ⟨r, 0, none⟩ = some (.slice adf t.files.length cf)) := c0
  have C1 : Hid ((w1.drewN nq).cell? ⟨r, 1, none⟩ = some (.slice adc t.chs.length cc)) := c1
  have hsz2 : (w1.drewN nq).heap.size = w1.heap.size := rfl
  clear hv1 hvf hvc c0 c1 hT hO1 hB1
  rw [← hsz2] at HV HF hrlt
  clear hsz2
  generalize w1.drewN nq = w2 at *
  go_loopw [7] (fun i wr => ∃ k : Nat, k ≤ t.files.length ∧ i = .int .i64 (k : Int) ∧ Below w2.heap.size w2 wr) (fun i _ => t.files.length - (intOf i).toNat)
  case atStart => exact ⟨0, Nat.zero_le _, rfl, Below.refl _ _⟩
  case round =>
    obtain ⟨k, hk2, rfl, hBk⟩ := hrel
    have hOk := (hO2.below hBk).1
    by_cases hlt : k < t.files.length
    · obtain ⟨b1, o1, c1', e1, hb1, p1⟩ := StR.at (HV.out.below hBk (Nat.le_refl _)) k (by rw [List.length_map]; exact hlt)
      simp only [Value.slice.injEq] at e1
      obtain ⟨rfl, -, rfl⟩ := e1
      obtain ⟨b2, o2, c2', e2, hb2, p2, p3⟩ := FlR.at (HF.out.below hBk (Nat.le_refl _)) k hlt
      simp only [Value.slice.injEq] at e2
      obtain ⟨rfl, -, rfl⟩ := e2
      have hmem : t.files.getD k Tm.noFl ∈ t.files := by simp [List.getD, List.getElem?_eq_getElem hlt]
      have hgp : (t.files.map Tm.Fl.path).getD k .empty = (t.files.getD k Tm.noFl).path := by simp [List.getD, List.getElem?_eq_getElem hlt]
      rw [hgp] at p1
      have HRd : Hid (Tm.read t (t.files.getD k Tm.noFl).path = ((t.files.getD k Tm.noFl).text, 0)) := Tm.read_yes hk.rise (hk.path _ hmem).1 hmem
      generalize (t.files.getD k Tm.noFl).path = x at *
      generalize (t.files.getD k Tm.noFl).text = y at *
      have c0k := (hBk.cell (p := ⟨r, 0, none⟩) hrlt).trans C0.out
      have i1 : (k : Int) < (t.files.length : Int) := by omega
      clear hmem hgp
      go_wp2_with fail
      refine (BRead x hOk hk).mono ?_
      rintro e w3 ⟨rfl, hB3⟩
      rw [HRd.out]
      have hzz := hBk.size
      have p1' := (hB3.cell (p := ⟨b1, o1 + k, none⟩) (by show b1 < _; omega)).trans p1
      have p2' := (hB3.cell (p := ⟨b2, o2 + k * 2, none⟩) (by show b2 < _; omega)).trans p2
      have p3' := (hB3.cell (p := ⟨b2, o2 + k * 2 + 1, none⟩) (by show b2 < _; omega)).trans p3
      have c0' := (hB3.cell (p := ⟨r, 0, none⟩) (by show r < _; omega)).trans c0k
      have n1 : (x.toList != x.toList) = false := by simp
      have n2 : (y.toList != y.toList) = false := by simp
      have hB4 := hBk.trans (hB3.mono hBk.size)
      clear p1 p2 p3 c0k hOk hB3
      go_wp2_with fail
      go_quiet (fail)
      go_wp2
      exact ⟨⟨k + 1, by omega, by go_num, below_drewN hB4 _⟩, by simp [intOf]; omega⟩
    · obtain rfl : k = t.files.length := by omega
      have i1 : ¬ (t.files.length : Int) < (t.files.length : Int) := by omega
      have c1k := (hBk.cell (p := ⟨r, 1, none⟩) hrlt).trans C1.out
      have i2 : ((t.chs.length : Int) - 32 + 9223372036854775808) % 18446744073709551616 - 9223372036854775808 = (t.chs.length : Int) - 32 := by omega
      go_wp2_with fail
      refine (BSince ((t.chs.length : Int) - 32) hOk hk).mono ?_
      rintro e w3 ⟨v3, rfl, hv3, hB3⟩
      have hO3 := (hOk.below hB3).1
      have hzz := hBk.size
      have c1' := (hB3.cell (p := ⟨r, 1, none⟩) (by show r < _; omega)).trans c1k
      obtain ⟨ad3, c3, hve3, -⟩ := hv3.shape
      subst hve3
      go_wp2_with fail
      refine (BSinceR ((t.chs.length : Int) - 32) hO3 hk).mono ?_
      rintro e w4 ⟨v4, rfl, hv4, hB4⟩
      have hs3 := (hv3.below hB4 (Nat.le_refl _)).mono hB4.size
      have hs4 := hv4.sl
      have hsl := since_len t ((t.chs.length : Int) - 32)
      have HS4 : Hid _ := hs4
      obtain ⟨ad4, c4, hve4, -⟩ := hs4.shape
      subst hve4
      have hBz : Below w.heap.size w w4 := ((hB2.trans (hBk.mono hB2.size)).trans (hB3.mono (Nat.le_trans hB2.size hBk.size))).trans (hB4.mono (Nat.le_trans (Nat.le_trans hB2.size hBk.size) hB3.size))
      clear hO3 hv4 hv3 hs4 hOk c1k c1' hO2
      obtain ⟨x, hx⟩ : ∃ x, Tm.since t ((t.chs.length : Int) - 32) = x := ⟨_, rfl⟩
      rw [hx] at hs3 HS4 hsl ⊢
      clear hx
      obtain ⟨L, bb⟩ := x
      have hsl2 : L.length ≤ t.chs.length := hsl
      have hs5 : StR.Sl w4 w4.heap.size (.slice ad3 L.length c3) L := hs3
      clear hs3 hsl
      have b1 : (bb == bb) = true := by simp
      go_wp2_with fail
      refine (texts_any w4 w4.heap.size _ _ L L hs5 HS4.out (by omega)).mono ?_
      rintro e w5 ⟨rfl, hB5⟩
      rw [decide_eq_true rfl]
      clear hs5 HS4
      go_wp2
      go_ret
      exact ⟨rfl, hBz.trans (hB5.mono hBz.size)⟩

end Go.Proofs.Ytifolddmcibkdaa
