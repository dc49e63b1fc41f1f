/-
  WHAT THE DOCUMENT's add AND Deps DO.
-/
import Derived.Test.YtppcfidaalejfaaDpSame
import Derived.Test.YtppcfidaalejfaaDpDeps
import Derived.Test.YtppcfidaalejfaaRNormT
namespace Go.Proofs.Ytppcfidaalejfaa
open Go.RowKit

theorem size_alloc' (w : World) (o : Obj) : (w.alloc o).heap.size = w.heap.size + 1 := by simp
theorem grown_alloc {w w' : World} {row : Option Nat} {o : Obj} (h : (w.alloc o).grownBy w' row) : w.grownBy w' row :=
  ⟨h.os, h.tape, h.output, Nat.le_trans (by rw [size_alloc']; omega) h.size, fun k hk hr => (h.block k (by rw [size_alloc']; omega) hr).trans (Below.heap_alloc w o k hk)⟩

set_option maxRecDepth 100000 in
set_option maxHeartbeats 2000000 in
theorem AddD_any (v : Value) (l : List (List UInt8)) (s : List UInt8) (base : Nat) (w : World) (hv : BR.Own w base v l) (hb : base ≤ w.heap.size) (hl : l.length ≤ 100000000) :
    Calls Try.prog 41 #[v, .string (str s)] w fun e w' => ∃ v', e = .returned v' ∧ BR.Own w' base v' (Dp.add l s) ∧ w.grownBy w' v.ownBlock ∧ (∀ g, v'.ownBlock = some g → v.ownBlock = some g ∨ w.heap.size ≤ g) := by
  have hS := hv.sl
  obtain ⟨ad, c, rfl, hle⟩ := hS.shape
  obtain ⟨R, hR⟩ : ∃ R, Dp.add l s = R := ⟨_, rfl⟩
  rw [hR]
  have HIN : Hid (∀ j (h : j < l.length), l[j] = s → R = l) := fun j h e => by
    rw [← hR, ← e]
    exact Dp.add_in (List.getElem_mem h)
  have HOUT : Hid (s ∉ l.take l.length → R = l ++ [s]) := fun h => by
    rw [List.take_length] at h
    rw [← hR]
    exact if_neg h
  clear hR
  obtain ⟨sv, hsv⟩ : ∃ sv, str s = sv := ⟨_, rfl⟩
  rw [hsv]
  have HS : Hid _ := hsv
  clear hsv
  go_enter Try.func41, Try.ntmps41
  go_wp2
  go_loopw [5] (fun k wr => ∃ j : Nat, j ≤ l.length ∧ k = .int .i64 (j : Int) ∧ Hid (s ∉ l.take j) ∧ w = wr) (fun k _ => l.length - (intOf k).toNat)
  case atStart => exact ⟨0, Nat.zero_le _, rfl, by simp [Hid], rfl⟩
  case round =>
    obtain ⟨j, hj, rfl, HN, rfl⟩ := hrel
    by_cases hjl : j < l.length
    · have j1 : (j : Int) < (l.length : Int) := by omega
      obtain ⟨b2, o2, cc2, e, -, r0⟩ := BR.ix hS hjl
      simp only [Value.slice.injEq] at e
      obtain ⟨rfl, -, rfl⟩ := e
      have HE := beq_str l[j] s
      rw [HS.out] at HE
      have HI : Hid _ := HIN.out j hjl
      have HT : Hid (l.take (j + 1) = l.take j ++ [l[j]]) := List.take_succ_eq_append_getElem hjl
      generalize l[j] = d at *
      generalize str d = sd at *
      by_cases hds : d = s
      · rw [decide_eq_true hds] at HE
        have HF : Hid _ := HI.out hds
        clear hds HI HT
        go_wp2
        go_ret
        rw [HF.out]
        exact ⟨_, rfl, hv, World.grownBy.refl w _, fun g hg => .inl hg⟩
      · rw [decide_eq_false hds] at HE
        have HN2 : Hid (s ∉ l.take (j + 1)) := by
          show _ ∉ _
          rw [HT.out]
          intro h
          rcases List.mem_append.1 h with h | h
          · exact HN.out h
          · exact hds (List.mem_singleton.1 h).symm
        clear hds HI HT HN
        go_wp2
        exact ⟨⟨j + 1, by omega, by go_num, HN2, trivial⟩, by simp [intOf]; omega⟩
    · obtain rfl : j = l.length := by omega
      have j1 : ¬ (l.length : Int) < (l.length : Int) := by omega
      have HF : Hid (R = l ++ [s]) := HOUT.out HN.out
      have hL := BR.lit w s #[.string sv] (by rw [← HS.out]; rfl)
      have hO4 := hv.alloc (.cells #[.string sv] 9)
      have HLn : Hid (l.length + [s].length ≤ 1099511627) := by show _ ≤ _; simp only [List.length_cons, List.length_nil]; omega
      have hbs : base ≤ (w.alloc (.cells #[.string sv] 9)).heap.size := by rw [size_alloc']; omega
      clear HN
      go_wp2_with (at_builtin; go_must (refine BR.append_at rfl _ _ rfl base (w.heap.size + 1) _ _ l [s] rfl hO4 rfl hL (by simp) HLn hbs ?_))
      intro g cap w5 hO5 hg5 hw5 hlt5
      go_wp2
      go_ret
      rw [HF.out]
      refine ⟨_, rfl, hO5, grown_alloc hg5, fun g' hg' => ?_⟩
      have hg' : some g = some g' := hg'
      rw [Option.some.injEq] at hg'
      subst hg'
      rcases hw5 with h | h
      · exact .inl h
      · right; rw [h]; first | omega | (rw [size_alloc']; omega)

namespace Dp
/-- a word as a path -/
def nm (s : B) : Int ⊕ B := if (Pm.norm s).2 = 0 then .inr (Pm.norm s).1 else .inl ((Pm.norm s).2 : Int)
/-- what Deps answers -/
def asked (p : B) (l : List Rule) : Int ⊕ List B := if Pm.isP p = true then hangs nm p l else .inl 2
theorem ws_take {p : B} {l : List Rule} {i : Nat} (h : i < l.length) : ws nm p (l.take (i + 1)) = ws nm p (l.take i) ++ (if nm (l.getD i noR).1 = .inr p then (l.getD i noR).2 else []) := by
  rw [List.take_succ_eq_append_getElem h, ws_app]
  simp only [List.getD, List.getElem?_eq_getElem h, Option.getD_some]
  congr 1
  unfold ws
  by_cases hn : nm l[i].1 = .inr p
  · simp [hn]
  · simp [hn]
theorem there_take {p : B} {l : List Rule} {i : Nat} (h : i < l.length) : there nm p (l.take (i + 1)) = (there nm p (l.take i) || decide (nm (l.getD i noR).1 = .inr p)) := by
  rw [List.take_succ_eq_append_getElem h, there_app]
  simp [there, List.getD, List.getElem?_eq_getElem h]
theorem paths_ahead {a b : List B} {e : Int} (h : paths nm a = .inl e) : paths nm (a ++ b) = .inl e := by rw [paths_app, h]
theorem paths_snoc {a : List B} {d : B} {x : List B} (h : paths nm a = .inr x) : paths nm (a ++ [d]) = match nm d with
    | .inl e => .inl e
    | .inr q => .inr (x ++ [q]) := by
  rw [paths_app, h]
  simp only [paths]
  cases nm d <;> rfl
theorem ws_split {p : B} {l : List Rule} {i : Nat} (h : i < l.length) (hp : nm (l.getD i noR).1 = .inr p) (j : Nat) : ∃ r, ws nm p l = ws nm p (l.take i) ++ (l.getD i noR).2.take j ++ r := by
  refine ⟨(l.getD i noR).2.drop j ++ ws nm p (l.drop (i + 1)), ?_⟩
  have e : l = l.take (i + 1) ++ l.drop (i + 1) := (List.take_append_drop _ _).symm
  conv => lhs; rw [e, ws_app, ws_take h, if_pos hp]
  rw [List.append_assoc, List.append_assoc, ← List.append_assoc (List.take j _), List.take_append_drop]
end Dp

end Go.Proofs.Ytppcfidaalejfaa
