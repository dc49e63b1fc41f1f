/-
  HOW MANY DEPS ARE TOLD. No program here.
-/
import Derived.Test.YtppcfidaalejfaaDpMrgK
import Derived.Test.YtppcfidaalejfaaDpDepT2
import Derived.Test.YtppcfidaalejfaaDpC
import Derived.Test.YtppcfidaalejfaaDpGreat
import Derived.Test.YtppcfidaalejfaaDpFoldT
namespace Go.Proofs.Ytppcfidaalejfaa
open Go.RowKit
namespace Dp
theorem paths_len {n : B → Int ⊕ B} : ∀ {a x : List B}, paths n a = .inr x → x.length = a.length
  | [], x, h => by
    rw [paths] at h
    rw [← Sum.inr.inj h]
  | s :: r, x, h => by
    rw [paths] at h
    cases hs : n s with
    | inl e => rw [hs] at h; cases h
    | inr q =>
      rw [hs] at h
      simp only at h
      cases hr : paths n r with
      | inl e => rw [hr] at h; cases h
      | inr qs =>
        rw [hr] at h
        rw [← Sum.inr.inj h, List.length_cons, List.length_cons, paths_len hr]
theorem ws_len {n : B → Int ⊕ B} (p : B) (l : List Rule) : (ws n p l).length ≤ dn l := flat_le List.filter_sublist
theorem hangs_len {n : B → Int ⊕ B} {p : B} {l : List Rule} {d : List B} (h : hangs n p l = .inr d) : d.length ≤ vol l := by
  unfold hangs at h
  cases hp : paths n (ws n p l) with
  | inl e => rw [hp] at h; cases h
  | inr qs =>
    rw [hp] at h
    simp only at h
    split at h
    · have h1 := Sum.inr.inj h
      have h2 := paths_len hp
      have h3 := ws_len (n := n) p l
      have h4 := dn_vol l
      have h5 := adds_len [] qs
      rw [h1] at h5
      simp only [List.length_nil] at h5
      omega
    · cases h
theorem asked_len {p : B} {l : List Rule} {d : List B} (h : asked p l = .inr d) : d.length ≤ vol l := by
  unfold asked at h
  split at h
  · exact hangs_len h
  · cases h
theorem dn_put_mem {l : List Rule} {u : Rule} (h : u ∈ l) : u.2.length ≤ dn l := by
  obtain ⟨k, hk, rfl⟩ := List.mem_iff_getElem.1 h
  exact dn_mem hk
theorem merge_len (l : List Rule) : (merge l).length ≤ vol l ∧ ∀ u ∈ merge l, u.2.length ≤ vol l := by
  have h1 := foldl_len l []
  have h2 := dn_foldl l []
  have h3 := dn_vol l
  have h4 := vol_len l
  have h5 : dn [] = 0 := rfl
  simp only [List.length_nil] at h1
  refine ⟨?_, fun u hu => ?_⟩
  · show (l.foldl put []).length ≤ _
    omega
  · have h6 := dn_put_mem (l := l.foldl put []) hu
    omega
end Dp
end Go.Proofs.Ytppcfidaalejfaa

namespace Go.Proofs.Ytppcfidaalejfaa
open Go.RowKit

set_option maxRecDepth 100000 in
set_option maxHeartbeats 2000000 in
theorem prints_walk (hP : ParseC) (hPr : PrintC) (hFo : FoldC) (v : Value) (A : List Dp.Rule) (wd : Int) (w : World) (hv : DrS w w.heap.size v A) (hz : Dp.Sized A) :
    Calls Try.prog 4 #[v, .int .i64 wd] w fun e w' => e = .returned (.bool true) ∧ Below w.heap.size w w' := by
  obtain ⟨ad, c, rfl, hle⟩ := hv.shape
  have hW := works_any hP w
  go_enter Try.func4, Try.ntmps4
  go_wp2_with fail
  refine hW.mono ?_
  rintro e w1 ⟨rfl, hb1⟩
  have hv1 := hv.below hb1 (Nat.le_refl _)
  have hR := RowsS.one hv1 hb1.size
  have hbr := hb1.alloc hb1.size (.cells #[.slice ad A.length c] 23)
  have hv2 := hv1.below ((Below.refl w1.heap.size w1).alloc (Nat.le_refl _) (.cells #[.slice ad A.length c] 23)) hb1.size
  have hG := great_any _ [A] _ _ hR (by simp) (by simpa using hz)
  clear hW hv1 hR hb1 hv
  go_wp2_with fail
  refine hG.mono ?_
  rintro e w2 ⟨M, rfl, HM, hw2⟩
  rw [hw2]
  clear hw2 hG
  by_cases hm : M < 32768
  · have hV : Dp.vol A < 32768 := by have := HM.out hm; simp [Dp.vols] at this; omega
    have m0 : decide ((M : Int) ≥ 32768) = false := decide_eq_false (by omega)
    rw [m0]
    clear HM hm m0
    generalize w1.alloc (.cells #[.slice ad A.length c] 23) = W2 at *
    have h1 := hPr _ A W2 _ hv2 hbr.size (by omega)
    go_wp2_with fail
    refine h1.mono ?_
    rintro e w3 ⟨rfl, hb3⟩
    have hv3 := hv2.below hb3 hbr.size
    have hbr := hbr.trans (hb3.mono hbr.size)
    have h2 := FoldD_any none 0 (fun x h => by cases h) _ A w3 _ hv3 hbr.size (by omega)
    rw [show Dp.pl none = true from rfl] at h2
    clear h1 hv2 hb3
    go_wp2_with fail
    refine h2.mono ?_
    rintro e w4 ⟨rfl, hb4⟩
    have hv4 := hv3.below hb4 hbr.size
    have hbr := hbr.trans (hb4.mono hbr.size)
    have h3 := hFo wd _ A w4 _ hv4 hbr.size (by omega)
    clear h2 hv3 hb4
    go_wp2_with fail
    refine h3.mono ?_
    rintro e w5 ⟨rfl, hb5⟩
    have hv5 := hv4.below hb5 hbr.size
    have hbr := hbr.trans (hb5.mono hbr.size)
    have h4 := FoldD_any (some wd) wd (fun x h => by cases h; rfl) _ A w5 _ hv5 hbr.size (by omega)
    rw [show Dp.pl (some wd) = false from rfl] at h4
    clear h3 hv4 hb5
    go_wp2_with fail
    refine h4.mono ?_
    rintro e w6 ⟨rfl, hb6⟩
    have hbr := hbr.trans (hb6.mono hbr.size)
    generalize Dp.printed none A = X at *
    generalize Dp.printed (some wd) A = Y at *
    obtain ⟨X1, X2⟩ := X
    obtain ⟨Y1, Y2⟩ := Y
    simp only
    generalize str X1 = sx at *
    generalize str Y1 = sy at *
    clear h4 hv5 hb6
    go_wp2
    go_ret
    exact ⟨rfl, hbr⟩
  · have m0 : decide ((M : Int) ≥ 32768) = true := decide_eq_true (by omega)
    rw [m0]
    clear HM m0 hm
    go_wp2
    go_ret
    exact ⟨rfl, hbr⟩

set_option maxRecDepth 100000 in
set_option maxHeartbeats 2000000 in
theorem deps_walk (hP : ParseC) (hD : DepsC) (p : ByteArray) (v : Value) (A : List Dp.Rule) (w : World) (hv : DrS w w.heap.size v A) (hz : Dp.Sized A) :
    Calls Try.prog 5 #[.string p, v] w fun e w' => e = .returned (.bool true) ∧ Below w.heap.size w w' := by
  obtain ⟨ad, c, rfl, hle⟩ := hv.shape
  have hW := works_any hP w
  go_enter Try.func5, Try.ntmps5
  go_wp2_with fail
  refine hW.mono ?_
  rintro e w1 ⟨rfl, hb1⟩
  have hv1 := hv.below hb1 (Nat.le_refl _)
  have hR := RowsS.one hv1 hb1.size
  have hbr := hb1.alloc hb1.size (.cells #[.slice ad A.length c] 23)
  have hv2 := hv1.below ((Below.refl w1.heap.size w1).alloc (Nat.le_refl _) (.cells #[.slice ad A.length c] 23)) hb1.size
  have hG := great_any _ [A] _ _ hR (by simp) (by simpa using hz)
  clear hW hv1 hR hb1 hv
  go_wp2_with fail
  refine hG.mono ?_
  rintro e w2 ⟨M, rfl, HM, hw2⟩
  rw [hw2]
  clear hw2 hG
  by_cases hm : M < 32768
  · have hV : Dp.vol A < 32768 := by have := HM.out hm; simp [Dp.vols] at this; omega
    have m0 : decide ((M : Int) ≥ 32768) = false := decide_eq_false (by omega)
    rw [m0]
    clear HM hm m0
    generalize w1.alloc (.cells #[.slice ad A.length c] 23) = W2 at *
    by_cases hps : p.size ≤ 1000
    · have p0 : ¬ (p.size : Int) > 1000 := by omega
      have h1 := hD p (by omega) _ A W2 _ hv2 hbr.size (by omega)
      have h2 := fun W (h : DrS W w.heap.size (.slice ad A.length c) A) (hs : w.heap.size ≤ W.heap.size) => DepsT_any p _ A W _ h hs (by omega)
      obtain ⟨R, hR⟩ : ∃ R, Dp.asked (bs p) A = R := ⟨_, rfl⟩
      rw [hR] at h1 h2
      have HAS : Hid _ := hR
      clear hR
      cases R with
      | inl x =>
        go_wp2_with fail
        refine h1.mono ?_
        rintro e w3 ⟨rfl, hb3⟩
        have hv3 := hv2.below hb3 hbr.size
        have hbr := hbr.trans (hb3.mono hbr.size)
        have h2 := h2 w3 hv3 hbr.size
        clear h1 hv2 hb3
        go_wp2_with fail
        refine h2.mono ?_
        rintro e w4 ⟨rfl, hb4⟩
        have hbr := hbr.trans (hb4.mono hbr.size)
        have hT := TextsD_quiet w4 0 (.slice none 0 0) (.slice none 0 0) [] [] (Rc.Sl.nil _ _) (Rc.Sl.nil _ _) (by simp)
        rw [decide_eq_true rfl] at hT
        clear h2 hv3 hb4
        go_wp2_with fail
        refine hT.mono ?_
        rintro e w5 ⟨rfl, n, hn⟩
        rw [hn]
        clear hn hT
        go_wp2
        go_ret
        exact ⟨rfl, below_drewN hbr _⟩
      | inr d =>
        go_wp2_with fail
        refine h1.mono ?_
        rintro e w3 ⟨v3, rfl, hO3, hb3⟩
        have hv3 := hv2.below hb3 hbr.size
        have hbr := hbr.trans (hb3.mono hbr.size)
        have h2 := h2 w3 hv3 hbr.size
        clear h1 hv2 hb3
        go_wp2_with fail
        refine h2.mono ?_
        rintro e w4 ⟨v4, rfl, hO4, hb4⟩
        have hbr := hbr.trans (hb4.mono hbr.size)
        have hO3 := hO3.below hb4 (Nat.le_refl _)
        have hdl : d.length ≤ 100000000 := by have := Dp.asked_len HAS.out; omega
        have hT := TextsD_quiet w4 w4.heap.size v3 v4 d d hO3.sl hO4.sl hdl
        rw [decide_eq_true rfl] at hT
        clear h2 hv3 hb4
        go_wp2_with fail
        refine hT.mono ?_
        rintro e w5 ⟨rfl, n, hn⟩
        rw [hn]
        clear hn hT
        go_wp2
        go_ret
        exact ⟨rfl, below_drewN hbr _⟩
    · have p0 : (p.size : Int) > 1000 := by omega
      go_wp2
      go_ret
      exact ⟨rfl, hbr⟩
  · have m0 : decide ((M : Int) ≥ 32768) = true := decide_eq_true (by omega)
    rw [m0]
    clear HM m0 hm
    go_wp2
    go_ret
    exact ⟨rfl, hbr⟩

end Go.Proofs.Ytppcfidaalejfaa
