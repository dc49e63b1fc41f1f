/-
  WHAT THE PROGRAM's Norm DOES.
-/
import Derived.Test.YtppcfidaalejfaaPXS
namespace Go.Proofs.Ytppcfidaalejfaa
open Go.RowKit

/-- the kept segments, each with a slash ahead -/
def Pm.enc (K : List Pm.B) : Pm.B := K.flatMap fun p => 47 :: p
theorem Pm.enc_snoc (K : List Pm.B) (p : Pm.B) : Pm.enc (K ++ [p]) = Pm.enc K ++ 47 :: p := by simp [Pm.enc]
theorem Pm.enc_join (K : List Pm.B) (h : K ≠ []) : Pm.enc K = 47 :: Pm.join K := by
  induction K with
  | nil => exact absurd rfl h
  | cons a r ih =>
    by_cases hr : r = []
    · subst hr; simp [Pm.enc, Pm.join]
    · rw [Pm.join_cons a r hr]
      have := ih hr
      simp only [Pm.enc, List.flatMap_cons] at this ⊢
      rw [this]; rfl
theorem Own.take {w : World} {base : Nat} {g n cap : Nat} {l : List UInt8} (h : Own w base (.slice (some ⟨g, 0, none⟩) n cap) l) (m : Nat) (hm : m ≤ l.length) : Own w base (.slice (some ⟨g, 0, none⟩) m cap) (l.take m) := by
  have hlen : (l.take m).length = m := by rw [List.length_take]; omega
  unfold Own
  rw [hlen]
  rcases h.2 with ⟨h0, -⟩ | ⟨g', cap', cur, hv, hb, hh, hle, hmax, hsz, htk⟩
  · cases h0
  · simp only [Value.slice.injEq, Option.some.injEq, Addr.mk.injEq] at hv
    obtain ⟨⟨rfl, -⟩, rfl, rfl⟩ := hv
    refine ⟨by simp only [bV, List.length_map, hlen]; omega, .inr ⟨g, cap, cur, rfl, hb, hh, by omega, hmax, hsz, ?_⟩⟩
    rw [Nat.mul_one] at htk ⊢
    unfold bV at htk ⊢
    rw [List.map_take, ← htk, List.take_take]
    congr 1
    omega
theorem Own.some_ {w : World} {base : Nat} {v : Value} {l : List UInt8} (h : Own w base v l) (hl : l ≠ []) : ∃ g cap, v = .slice (some ⟨g, 0, none⟩) l.length cap ∧ l.length ≤ cap := by
  rcases h.2 with ⟨h0, h1⟩ | ⟨g', cap', cur, hv, hb, hh, hle, hmax, hsz, htk⟩
  · exfalso
    rw [h0] at h
    exact hl (List.eq_nil_of_length_eq_zero (by omega))
  · exact ⟨g', cap', hv, hle⟩

set_option maxRecDepth 100000 in
theorem BLast_any (c : UInt8) (l a b : List UInt8) (v : Value) (B : Nat) (w : World) (hv : Byts w B v l) (e : l = a ++ c :: b) (hc : c ∉ b) (hl : l.length ≤ 4611686018427387904) : Calls Try.prog 62 #[v, .int .u8 (c.toNat : Int)] w fun e w' => e = .returned (.int .i64 (a.length : Int)) ∧ w' = w := by
  obtain ⟨ad, cp, rfl, hcp, hn, hcs⟩ := hv
  have hlen : l.length = a.length + 1 + b.length := by rw [e]; simp; omega
  obtain ⟨g, o, rfl, hbl, hcell⟩ := hcs (by rw [e]; simp)
  have Hat : Hid (∀ k, a.length < k → k < l.length → l.getD k 0 ≠ c) := fun k h1 h2 he => by
    apply hc
    subst e
    rw [List.getD_eq_getElem?_getD, List.getElem?_append_right (by omega), show k - a.length = (k - a.length - 1) + 1 by omega, List.getElem?_cons_succ] at he
    rw [List.getElem?_eq_getElem (by omega)] at he
    simp only [Option.getD_some] at he
    rw [← he]
    exact List.getElem_mem _
  have H0 : Hid (l.getD a.length 0 = c) := by show _ = _; rw [e]; simp
  have Hcell : Hid _ := hcell
  clear hcell hcs hn e hc
  go_enter Try.func62, Try.ntmps62
  go_wp2
  go_loopw [5] (fun i wr => ∃ k : Nat, i = .int .i64 (k : Int) ∧ a.length ≤ k ∧ k < l.length ∧ wr = w) (fun i _ => (intOf i).toNat)
  case atStart => exact ⟨l.length - 1, by first | (congr 1; omega) | go_num, by omega, by omega, rfl⟩
  case round =>
    obtain ⟨k, rfl, hk1, hk2, rfl⟩ := hrel
    have c0 := Hcell.out k hk2
    have HA : Hid _ := Hat.out k
    have hx := (l.getD k 0).toNat_lt
    by_cases hk : k = a.length
    · subst hk
      rw [H0.out] at c0
      go_wp2
      go_ret
      exact ⟨rfl, rfl⟩
    · have hne := HA.out (by omega) hk2
      have i1 : (((l.getD k 0).toNat : Int) == (c.toNat : Int)) = false := by
        simp only [beq_eq_false_iff_ne, ne_eq]
        intro h
        exact hne (UInt8.toNat_inj.1 (by exact_mod_cast h))
      clear hne HA
      generalize (l.getD k 0).toNat = X at *
      go_wp2
      refine ⟨⟨k - 1, by first | (congr 1; omega) | go_num, by omega, by omega, trivial⟩, by simp [intOf]; omega⟩
set_option maxRecDepth 100000 in
theorem BLastIndex_any (c : UInt8) (l a b : List UInt8) (v : Value) (B : Nat) (w : World) (hv : Byts w B v l) (e : l = a ++ c :: b) (hc : c ∉ b) (hl : l.length ≤ 4611686018427387904) : Calls Try.prog 52 #[v, .int .u8 (c.toNat : Int)] w fun e w' => e = .returned (.int .i64 (a.length : Int)) ∧ w' = w := by
  have H := BLast_any c l a b v B w hv e hc hl
  go_enter Try.func52, Try.ntmps52
  go_wp2_with fail
  refine H.mono ?_
  rintro e w1 ⟨rfl, rfl⟩
  go_wp2
  go_ret
  exact ⟨rfl, rfl⟩
/-- what is left of the pieces behind what is kept -/
def Pm.rest (K : List Pm.B) (f : Bool) (t : Pm.B) : Option (List Pm.B) := if f = true then (Pm.cut t).foldl Pm.step (some K) else some K
end Go.Proofs.Ytppcfidaalejfaa
