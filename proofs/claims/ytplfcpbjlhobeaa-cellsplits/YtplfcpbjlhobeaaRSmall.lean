/-
  THE WALKS OF long, AND OF THE DOCUMENT's Wrong, Page.
-/
import Derived.Test.YtplfcpbjlhobeaaRFormL
namespace Go.Proofs.Ytplfcpbjlhobeaa
open Go.RowKit

set_option maxRecDepth 100000 in
theorem long_any (n : Cm.Nd) (v : Value) (B : Nat) (w : World) (hv : NdS w B v n) :
    Calls Try.prog 15 #[v] w fun e w' => e = .returned (.bool (decide (300 < n.items.length ∨ 300 < n.kids.length))) ∧ Below w.heap.size w w' := by
  obtain ⟨vi, vk, rfl, ⟨ad, c, rfl, hc, hn, hi⟩, ⟨kd, d, rfl, hd, hkn, hki⟩⟩ := hv
  clear hi hki
  by_cases h : 300 < n.items.length
  · have b1 : decide ((300 : Int) < (n.items.length : Int)) = true := decide_eq_true (by omega)
    go_enter Try.func15, Try.ntmps15
    go_wp2
    go_ret
    refine ⟨?_, (Below.refl _ w).alloc (Nat.le_refl _) _⟩
    rw [decide_eq_true (.inl h)]; rfl
  · have b1 : decide ((300 : Int) < (n.items.length : Int)) = false := decide_eq_false (by omega)
    go_enter Try.func15, Try.ntmps15
    go_wp2
    go_ret
    refine ⟨?_, (Below.refl _ w).alloc (Nat.le_refl _) _⟩
    have e : decide (300 < n.items.length ∨ 300 < n.kids.length) = decide ((300 : Int) < (n.kids.length : Int)) := by
      rw [decide_eq_decide]; omega
    rw [e]; rfl

set_option maxRecDepth 100000 in
set_option maxHeartbeats 1000000 in
theorem Wrong_any (n : Cm.Nd) (v : Value) (B : Nat) (w : World) (hv : NdS w B v n) (hB : B ≤ w.heap.size) (hl : n.items.length ≤ 1000000) (hk : n.kids.length ≤ 1000000) :
    Calls Try.prog 42 #[v] w fun e w' => e = .returned (.int .i64 (Cm.wrong n : Int)) ∧ Below w.heap.size w w' := by
  have hv0 := hv
  obtain ⟨vi, vk, rfl, ⟨ad, c, rfl, hc, hn, hi⟩, ⟨kd, d, rfl, hd, hkn, hki⟩⟩ := hv
  clear hi hki
  have hbx := heap_alloc_new w (.cells #[.bool n.leaf, .slice ad n.items.length c, .slice kd n.kids.length d] 28)
  have hb0 := (Below.refl w.heap.size w).alloc (Nat.le_refl _) (.cells #[.bool n.leaf, .slice ad n.items.length c, .slice kd n.kids.length d] 28)
  have hv1 := hv0.alloc hB (.cells #[.bool n.leaf, .slice ad n.items.length c, .slice kd n.kids.length d] 28)
  go_enter Try.func42, Try.ntmps42
  go_wp2_with fail
  refine (Right_any n _ B _ hv1 (by simp; omega) hl hk).mono ?_
  rintro e w1 ⟨rfl, hb1⟩
  have hbw := hb0.trans (hb1.mono (by simp))
  have hbx1 := (hb1.block w.heap.size (by simp)).trans hbx
  obtain ⟨n0, n1, n2⟩ := cells3_of hbx1
  have hv2 := hv0.below hbw hB
  clear hb1 hbx hb0 hv1
  by_cases hR : Cm.Right n
  · rw [decide_eq_true hR]
    have HR : Hid (Cm.Right n) := hR
    clear hR
    go_wp2_with fail
    refine (Form_any n _ B _ hv2 (by have := hbw.size; omega) hl HR.out.fit).mono ?_
    rintro e w2 ⟨v2, rfl, ho2, hb2⟩
    have hbw2 := hbw.trans (hb2.mono hbw.size)
    obtain ⟨a2, c2, hv2', _⟩ := ho2.byts
    subst hv2'
    by_cases h3 : 240 < (Cm.form n).length
    · have b1 : decide ((240 : Int) < ((Cm.form n).length : Int)) = true := decide_eq_true (by omega)
      have E : Hid (Cm.wrong n = 3) := by show _ = _; unfold Cm.wrong; rw [if_pos HR.out, if_pos h3]
      clear h3
      go_wp2
      go_ret
      rw [E.out]
      exact ⟨rfl, hbw2⟩
    · have b1 : decide ((240 : Int) < ((Cm.form n).length : Int)) = false := decide_eq_false (by omega)
      have E : Hid (Cm.wrong n = 0) := by show _ = _; unfold Cm.wrong; rw [if_pos HR.out, if_neg h3]
      clear h3
      go_wp2
      go_ret
      rw [E.out]
      exact ⟨rfl, hbw2⟩
  · rw [decide_eq_false hR]
    have E : Hid (Cm.wrong n = 2) := by show _ = _; unfold Cm.wrong; rw [if_neg hR]
    clear hR
    go_wp2
    go_ret
    rw [E.out]
    exact ⟨rfl, hbw⟩
end Go.Proofs.Ytplfcpbjlhobeaa
