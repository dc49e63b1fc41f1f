/-
  slices.Equal of numbers; slices.Repeat of one bool; the calls on nil.
-/
import Derived.Test.YtccfoafcfnhejaaCrash
import Derived.Test.YtccfoafcfnhejaaFill
namespace Go.Proofs.Ytccfoafcfnhejaa
open Go.RowKit

/-- v is a slice whose elements are the numbers l; they lie below block B -/
def Ints (w : World) (B : Nat) (v : Value) (l : List Int) : Prop :=
  ∃ ad c, v = .slice ad l.length c ∧ (l ≠ [] → ∃ b o, ad = some ⟨b, o, none⟩ ∧ b < B ∧ ∀ j, j < l.length → w.cell? ⟨b, o + j, none⟩ = some (.int .i64 (l.getD j 0)))

theorem Ints.open {w : World} {B : Nat} {ad : Option Addr} {n c : Nat} {l : List Int} (h : Ints w B (.slice ad n c) l) (hne : l ≠ []) :
    ∃ b o, ad = some ⟨b, o, none⟩ ∧ b < B ∧ ∀ j, j < l.length → w.cell? ⟨b, o + j, none⟩ = some (.int .i64 (l.getD j 0)) := by
  obtain ⟨ad', c', hv, h⟩ := h
  simp only [Value.slice.injEq] at hv
  obtain ⟨rfl, _, rfl⟩ := hv
  exact h hne
theorem OwnI.ints {w : World} {base : Nat} {v : Value} {l : List Int} (h : OwnI w base v l) : Ints w w.heap.size v l := by
  obtain ⟨ad, c, rfl, _⟩ := h.shape
  refine ⟨ad, c, rfl, fun hne => ?_⟩
  obtain ⟨g, rfl, _, hlt, hc⟩ := h.cell hne
  exact ⟨g, 0, rfl, hlt, fun j hj => by rw [Nat.zero_add]; exact hc j hj⟩
theorem Ints.turn {w w' : World} {B : Nat} {v : Value} {l : List Int} {S : List Nat} (h : Ints w B v l) (ht : Turn S w w') (hB : B ≤ w.heap.size) (hS : ∀ k, v.ownBlock = some k → k ∉ S) : Ints w' B v l := by
  obtain ⟨ad, c, rfl, h⟩ := h
  refine ⟨ad, c, rfl, fun hne => ?_⟩
  obtain ⟨b, o, rfl, hb, hc⟩ := h hne
  exact ⟨b, o, rfl, hb, fun j hj => (World.cell?_of_block (a := ⟨b, o + j, none⟩) (ht.block b (by omega) (hS b rfl))).trans (hc j hj)⟩
theorem Ints.below {w w' : World} {B : Nat} {v : Value} {l : List Int} (h : Ints w B v l) (hb : Below w.heap.size w w') (hB : B ≤ w.heap.size) : Ints w' B v l := h.turn (Turn.of_below hb) hB (by simp)

theorem take_eq_succI {la lb : List Int} {k : Nat} (ha : k < la.length) (hb : k < lb.length) (h : la.take k = lb.take k) (hk : la.getD k 0 = lb.getD k 0) : la.take (k + 1) = lb.take (k + 1) := by
  rw [List.take_succ_eq_append_getElem ha, List.take_succ_eq_append_getElem hb, h]
  simp only [List.getD, List.getElem?_eq_getElem ha, List.getElem?_eq_getElem hb, Option.getD_some] at hk
  rw [hk]

set_option maxRecDepth 100000 in
set_option maxHeartbeats 1000000 in
theorem EqualI_any (va vb : Value) (la lb : List Int) (B1 B2 : Nat) (w : World) (ha : Ints w B1 va la) (hb : Ints w B2 vb lb) (hl : la.length ≤ 1099511627776) :
    Calls Try.prog 25 #[va, vb] w fun e w' => e = .returned (.bool (decide (la = lb))) ∧ ∃ q, w' = w.drewN q := by
  have ha' := ha
  have hb' := hb
  obtain ⟨ad, c, rfl, _⟩ := ha
  obtain ⟨bd, d, rfl, _⟩ := hb
  by_cases h : la.length = lb.length
  · have h0 : ((la.length : Int) != (lb.length : Int)) = false := by rw [bne_eq_false_iff_eq]; omega
    have Hlen : Hid (la.length = lb.length) := h
    clear h
    go_enter Try.func25, Try.ntmps25
    go_wp2
    go_loopw [13] (fun i wr => ∃ k : Nat, k ≤ la.length ∧ i = .int .i64 (k : Int) ∧ la.take k = lb.take k ∧ ∃ q, wr = w.drewN q) (fun i _ => la.length - (RowKit.intOf i).toNat)
    case atStart => exact ⟨0, by omega, rfl, by simp, 0, rfl⟩
    case round =>
      obtain ⟨k, hk, rfl, htk, q, rfl⟩ := hrel
      have Htk : Hid (la.take k = lb.take k) := htk
      clear htk
      by_cases hlt : k < la.length
      · have hltb : k < lb.length := by have := Hlen.out; omega
        obtain ⟨b1, o1, rfl, hb1, hc1⟩ := ha'.open (by intro h; subst h; simp at hlt)
        obtain ⟨b2, o2, rfl, hb2, hc2⟩ := hb'.open (by intro h; subst h; simp at hltb)
        have e1 := hc1 k hlt
        have e2 := hc2 k hltb
        obtain ⟨s, hs⟩ : ∃ s, s = la.getD k 0 := ⟨_, rfl⟩
        obtain ⟨t, ht⟩ : ∃ t, t = lb.getD k 0 := ⟨_, rfl⟩
        rw [← hs] at e1
        rw [← ht] at e2
        have Hs : Hid (s = la.getD k 0) := hs
        have Ht : Hid (t = lb.getD k 0) := ht
        have i1 : (k : Int) < (la.length : Int) := by omega
        have i2 : (k : Int) < (lb.length : Int) := by omega
        have i3 : (0 : Int) ≤ (k : Int) := by omega
        clear hs ht hc1 hc2 ha' hb'
        by_cases hst : s = t
        · have hst' : (s != t) = false := by rw [hst]; simp
          have Hst : Hid (s = t) := hst
          clear hst
          go_wp2
          go_quiet (fail)
          go_wp2
          refine ⟨⟨k + 1, by omega, by go_num, take_eq_succI hlt hltb Htk.out (by rw [← Hs.out, ← Ht.out]; exact Hst.out), _, rfl⟩, by simp [RowKit.intOf]; omega⟩
        · have hst' : (s != t) = true := by simpa using hst
          have Hst : Hid (s = t → False) := hst
          clear hst
          go_wp2
          go_quiet (fail)
          go_wp2
          go_ret
          refine ⟨?_, q + nq, World.drewN_drewN _ _ _⟩
          have e : decide (la = lb) = false := by
            rw [decide_eq_false_iff_not]; intro h; exact absurd (show s = t by rw [Hs.out, Ht.out, h]) Hst.out
          rw [e]; rfl
      · go_wp2
        go_ret
        refine ⟨?_, _, rfl⟩
        have e : la = lb := by
          have h1 := Htk.out
          rw [List.take_of_length_le (by omega), List.take_of_length_le (by have := Hlen.out; omega)] at h1
          exact h1
        rw [decide_eq_true e]; rfl
  · have h0 : ((la.length : Int) != (lb.length : Int)) = true := by simp; omega
    go_enter Try.func25, Try.ntmps25
    go_wp2
    go_ret
    refine ⟨?_, 0, rfl⟩
    have e : decide (la = lb) = false := by
      rw [decide_eq_false_iff_not]; intro e; rw [e] at h; exact h rfl
    rw [e]; rfl
theorem below_drewN {B : Nat} {a w : World} (h : Below B a w) (n : Nat) : Below B a (w.drewN n) := ⟨h.os, h.tape, h.output, h.size, h.block⟩

theorem nil_Size (w : World) : Calls Try.prog 20 #[.pointer none] w fun e w' => e = .returned (.int .i64 0) ∧ w' = w := by
  go_enter Try.func20, Try.ntmps20
  go_wp2
  go_ret
  exact ⟨rfl, rfl⟩
theorem nil_Ops (w : World) : Calls Try.prog 21 #[.pointer none] w fun e w' => e = .returned (.int .i64 0) ∧ w' = w := by
  go_enter Try.func21, Try.ntmps21
  go_wp2
  go_ret
  exact ⟨rfl, rfl⟩
theorem nil_Dirty (w : World) : Calls Try.prog 19 #[.pointer none] w fun e w' => e = .returned (.slice none 0 0) ∧ w' = w := by
  go_enter Try.func19, Try.ntmps19
  go_wp2
  go_ret
  exact ⟨rfl, rfl⟩
theorem nil_Copy (w : World) : Calls Try.prog 18 #[.pointer none] w fun e w' => e = .returned (.pointer none) ∧ w' = w := by
  go_enter Try.func18, Try.ntmps18
  go_wp2
  go_ret
  exact ⟨rfl, rfl⟩
theorem nil_Crash (w : World) (v : Value) (t : Int) : Calls Try.prog 11 #[.pointer none, v, .int .i64 t] w fun e w' => e = .returned (.int .i64 1) ∧ w' = w := by
  go_enter Try.func11, Try.ntmps11
  go_wp2
  go_ret
  exact ⟨rfl, rfl⟩
theorem nil_Cut (w : World) (t : Int) : Calls Try.prog 17 #[.pointer none, .int .i64 t] w fun e w' => e = .returned (.int .i64 1) ∧ w' = w := by
  go_enter Try.func17, Try.ntmps17
  go_wp2
  go_ret
  exact ⟨rfl, rfl⟩
theorem nil_Fail (w : World) (t e : Int) : Calls Try.prog 14 #[.pointer none, .int .i64 t, .int .i64 e] w fun r w' => r = .returned (.int .i64 1) ∧ w' = w := by
  go_enter Try.func14, Try.ntmps14
  go_wp2
  go_ret
  exact ⟨rfl, rfl⟩
theorem nil_Flush (w : World) : Calls Try.prog 16 #[.pointer none] w fun e w' => e = .returned (.int .i64 1) ∧ w' = w := by
  go_enter Try.func16, Try.ntmps16
  go_wp2
  go_ret
  exact ⟨rfl, rfl⟩
theorem nil_lacks (w : World) (i : Int) : Calls Try.prog 33 #[.pointer none, .int .i64 i] w fun e w' => e = .returned (.int .i64 1) ∧ w' = w := by
  go_enter Try.func33, Try.ntmps33
  go_wp2
  go_ret
  exact ⟨rfl, rfl⟩
theorem nil_Write (w : World) (i : Int) (v : Value) : Calls Try.prog 10 #[.pointer none, .int .i64 i, v] w fun e w' => e = .returned (.int .i64 1) ∧ w' = w := by
  go_enter Try.func10, Try.ntmps10
  go_wp2_with fail
  refine (nil_lacks w i).mono ?_
  rintro e w1 ⟨rfl, rfl⟩
  go_wp2
  go_ret
  exact ⟨rfl, rfl⟩
theorem nil_Read (w : World) (i : Int) : Calls Try.prog 15 #[.pointer none, .int .i64 i] w fun e w' => e = .returned (.tuple #[.slice none 0 0, .int .i64 1]) ∧ w' = w := by
  go_enter Try.func15, Try.ntmps15
  go_wp2_with fail
  refine (nil_lacks w i).mono ?_
  rintro e w1 ⟨rfl, rfl⟩
  go_wp2
  go_ret2
  exact ⟨rfl, rfl⟩
theorem nil_Stable (w : World) (i : Int) : Calls Try.prog 12 #[.pointer none, .int .i64 i] w fun e w' => e = .returned (.tuple #[.slice none 0 0, .int .i64 1]) ∧ w' = w := by
  go_enter Try.func12, Try.ntmps12
  go_wp2_with fail
  refine (nil_lacks w i).mono ?_
  rintro e w1 ⟨rfl, rfl⟩
  go_wp2
  go_ret2
  exact ⟨rfl, rfl⟩
end Go.Proofs.Ytccfoafcfnhejaa
