/-
  WHAT THE LAW's has AND bad DO; two rows of rules in a row; how much merged rules are.
-/
import Derived.Test.YtppcfidaalejfaaDpUni
import Derived.Test.YtppcfidaalejfaaDpGreat
import Derived.Test.YtppcfidaalejfaaDpSame
namespace Go.Proofs.Ytppcfidaalejfaa
open Go.RowKit

set_option maxRecDepth 100000 in
theorem bad_any (e : Int) (w : World) : Calls Try.prog 26 #[.int .i64 e] w fun r w' => r = .returned (.bool (decide (e ≠ 0 ∧ e ≠ 4))) ∧ w' = w := by
  go_enter Try.func26, Try.ntmps26
  by_cases h0 : e = 0
  · subst h0
    go_wp2
    go_ret
    exact ⟨rfl, rfl⟩
  · have n0 : (e != 0) = true := by rw [bne_iff_ne]; exact h0
    by_cases h4 : e = 4
    · subst h4
      go_wp2
      go_ret
      exact ⟨rfl, rfl⟩
    · have n4 : (e != 4) = true := by rw [bne_iff_ne]; exact h4
      rw [decide_eq_true ⟨h0, h4⟩]
      clear h0 h4
      go_wp2
      go_ret
      exact ⟨rfl, rfl⟩

set_option maxRecDepth 100000 in
set_option maxHeartbeats 2000000 in
theorem has_any (v : Value) (l : List (List UInt8)) (s : List UInt8) (B : Nat) (w : World) (hS : BR.Sl w B v l) (hl : l.length ≤ 100000000) :
    Calls Try.prog 25 #[v, .string (str s)] w fun e w' => e = .returned (.bool (decide (s ∈ l))) ∧ w' = w := by
  obtain ⟨ad, c, rfl, hle⟩ := hS.shape
  obtain ⟨R, hR⟩ : ∃ R, decide (s ∈ l) = R := ⟨_, rfl⟩
  rw [hR]
  have HIN : Hid (∀ j (h : j < l.length), l[j] = s → R = true) := fun j h e => by
    rw [← hR, ← e]
    exact decide_eq_true (List.getElem_mem h)
  have HOUT : Hid (s ∉ l.take l.length → R = false) := fun h => by
    rw [List.take_length] at h
    rw [← hR]
    exact decide_eq_false h
  clear hR
  obtain ⟨sv, hsv⟩ : ∃ sv, str s = sv := ⟨_, rfl⟩
  rw [hsv]
  have HS : Hid _ := hsv
  clear hsv
  go_enter Try.func25, Try.ntmps25
  go_wp2
  go_loopw [5] (fun k wr => ∃ j : Nat, j ≤ l.length ∧ k = .int .i64 (j : Int) ∧ Hid (s ∉ l.take j) ∧ w = wr) (fun k _ => l.length - (intOf k).toNat)
  case atStart => exact ⟨0, Nat.zero_le _, rfl, by simp [Hid], rfl⟩
  case round =>
    obtain ⟨j, hj, rfl, HN, rfl⟩ := hrel
    by_cases hjl : j < l.length
    · have j1 : (j : Int) < (l.length : Int) := by omega
      obtain ⟨b2, o2, cc2, e, -, r0⟩ := BR.ix hS hjl
      simp only [Value.slice.injEq] at e
      obtain ⟨rfl, -, rfl⟩ := e
      have HE := beq_str l[j] s
      rw [HS.out] at HE
      have HI : Hid _ := HIN.out j hjl
      have HT : Hid (l.take (j + 1) = l.take j ++ [l[j]]) := List.take_succ_eq_append_getElem hjl
      generalize l[j] = d at *
      generalize str d = sd at *
      by_cases hds : d = s
      · rw [decide_eq_true hds] at HE
        have HF : Hid _ := HI.out hds
        clear hds HI HT
        go_wp2
        go_ret
        rw [HF.out]
        exact ⟨rfl, rfl⟩
      · rw [decide_eq_false hds] at HE
        have HN2 : Hid (s ∉ l.take (j + 1)) := by
          show _ ∉ _
          rw [HT.out]
          intro h
          rcases List.mem_append.1 h with h | h
          · exact HN.out h
          · exact hds (List.mem_singleton.1 h).symm
        clear hds HI HT HN
        go_wp2
        exact ⟨⟨j + 1, by omega, by go_num, HN2, trivial⟩, by simp [intOf]; omega⟩
    · obtain rfl : j = l.length := by omega
      have j1 : ¬ (l.length : Int) < (l.length : Int) := by omega
      have HF : Hid (R = false) := HOUT.out HN.out
      clear HN
      go_wp2
      go_ret
      rw [HF.out]
      exact ⟨rfl, rfl⟩

theorem RowsS.two {w : World} {a1 a2 : Option Addr} {n1 c1 n2 c2 : Nat} {L M : List Dp.Rule} {B : Nat} (h : DrS w B (.slice a1 n1 c1) L) (h2 : DrS w B (.slice a2 n2 c2) M) (hB : B ≤ w.heap.size) :
    RowsS (w.alloc (.cells #[.slice a1 n1 c1, .slice a2 n2 c2] 23)) (w.heap.size + 1) (.slice (some ⟨w.heap.size, 0, none⟩) 2 2) [L, M] := by
  refine ⟨[(⟨a1, n1, c1⟩, L), (⟨a2, n2, c2⟩, M)], ?_, rfl, fun q hq => ?_⟩
  · refine ⟨_, 2, rfl, Nat.le_refl _, (fun h => by cases h), fun _ => ⟨w.heap.size, 0, rfl, Nat.lt_succ_self _, fun j u hu => ?_⟩⟩
    have hv : SlR.vals ([((⟨a1, n1, c1⟩ : RawS), L), (⟨a2, n2, c2⟩, M)].map Prod.fst) = [.slice a1 n1 c1, .slice a2 n2 c2] := rfl
    rw [hv] at hu
    rw [Nat.zero_add, cell_of_row _ w.heap.size j _ _ (0, 0) (heap_alloc_new w _)]
    rw [← Array.getElem?_toList]; exact hu
  · simp only [List.mem_cons, List.not_mem_nil, or_false] at hq
    rcases hq with rfl | rfl
    · exact (h.below ((Below.refl w.heap.size w).alloc (Nat.le_refl _) _) hB).mono (by omega)
    · exact (h2.below ((Below.refl w.heap.size w).alloc (Nat.le_refl _) _) hB).mono (by omega)
namespace Dp
theorem dsum_app (a b : List B) : dsum (a ++ b) = dsum a + dsum b := by unfold dsum; rw [List.map_append, List.sum_append]
theorem dsum_add (l : List B) (s : B) : dsum (add l s) ≤ dsum l + (1 + s.length) := by
  unfold add
  split
  · omega
  · rw [dsum_app]
    have : dsum [s] = 1 + s.length := by simp [dsum]
    omega
theorem dsum_adds (d l : List B) : dsum (adds l d) ≤ dsum l + dsum d := by
  induction d generalizing l with
  | nil => exact Nat.le_add_right ..
  | cons x r ih =>
    have h1 := ih (add l x)
    have h2 := dsum_add l x
    have h3 : dsum (x :: r) = 1 + x.length + dsum r := by simp [dsum]
    show dsum (adds (add l x) r) ≤ _
    omega
theorem vol_cons (u : Rule) (l : List Rule) : vol (u :: l) = 1 + u.1.length + dsum u.2 + vol l := by
  unfold vol dsum
  rw [List.map_cons, List.sum_cons]
theorem vol_put : ∀ (l : List Rule) (u : Rule), vol (put l u) ≤ vol l + (1 + u.1.length + dsum u.2)
  | [], u => by
    have := dsum_adds u.2 []
    have h0 : dsum [] = 0 := rfl
    have h1 : vol [] = 0 := rfl
    rw [put, vol_cons]
    simp only
    omega
  | v :: r, u => by
    rw [put]
    split
    · have := dsum_adds u.2 v.2
      rw [vol_cons, vol_cons]
      simp only
      omega
    · have := vol_put r u
      rw [vol_cons, vol_cons]
      omega
theorem vol_foldl : ∀ (m l : List Rule), vol (m.foldl put l) ≤ vol l + vol m
  | [], l => Nat.le_add_right ..
  | u :: m, l => by
    have h1 := vol_foldl m (put l u)
    have h2 := vol_put l u
    rw [List.foldl_cons, vol_cons]
    omega
theorem vol_merge (l : List Rule) : vol (merge l) ≤ vol l := by
  have := vol_foldl l []
  have h1 : vol [] = 0 := rfl
  show vol (l.foldl put []) ≤ _
  omega
theorem lst_len {p : B} {l : List Rule} : (lst (hangs nm p l)).length ≤ vol l := by
  cases h : hangs nm p l with
  | inl e => exact Nat.zero_le _
  | inr d => exact hangs_len h
end Dp

end Go.Proofs.Ytppcfidaalejfaa
