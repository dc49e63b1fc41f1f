/-
  THE WALKS OF slices.Equal ON ITEMS AND ON NUMBERS, OF same, OF pages.
-/
import Derived.Test.YtplfcpbjlhobeaaRSame
import Derived.Test.YtplfcpbjlhobeaaRPage
namespace Go.Proofs.Ytplfcpbjlhobeaa
open Go.RowKit

set_option maxRecDepth 100000 in
set_option maxHeartbeats 1000000 in
theorem EqualC_any (la lb : List Cm.It) (va vb : Value) (B1 B2 : Nat) (w : World) (ha : Its w B1 va la) (hb : Its w B2 vb lb) (hl : la.length ≤ 1000000) :
    Calls Try.prog 25 #[va, vb] w fun e w' => e = .returned (.bool (decide (la = lb))) ∧ ∃ q, w' = w.drewN q := by
  obtain ⟨ad, c, rfl, _, _, hi⟩ := ha
  obtain ⟨bd, d, rfl, _, _, hi'⟩ := hb
  have Hi : Hid _ := hi
  have Hi' : Hid _ := hi'
  clear hi hi'
  by_cases h : la.length = lb.length
  · have h0 : ((la.length : Int) != (lb.length : Int)) = false := by rw [bne_eq_false_iff_eq]; omega
    have Hlen : Hid (la.length = lb.length) := h
    clear h
    go_enter Try.func25, Try.ntmps25
    go_wp2
    go_loopw [13] (fun i wr => ∃ k q : Nat, k ≤ la.length ∧ i = .int .i64 (k : Int) ∧ la.take k = lb.take k ∧ wr = w.drewN q) (fun i _ => la.length - (intOf i).toNat)
    case atStart => exact ⟨0, 0, by omega, rfl, by simp, rfl⟩
    case round =>
      obtain ⟨k, q, hk, rfl, htk, rfl⟩ := hrel
      have Htk : Hid (la.take k = lb.take k) := htk
      clear htk
      by_cases hlt : k < la.length
      · have hltb : k < lb.length := by have := Hlen.out; omega
        obtain ⟨b, o, rfl, _, hcs⟩ := Hi.out (by intro h; rw [h] at hlt; simp at hlt)
        obtain ⟨b', o', rfl, _, hcs'⟩ := Hi'.out (by intro h; rw [h] at hltb; simp at hltb)
        obtain ⟨c0, c1, c2, c3⟩ := hcs k hlt
        obtain ⟨d0, d1, d2, d3⟩ := hcs' k hltb
        obtain ⟨x, hx⟩ : ∃ x, la.getD k Cm.zero = x := ⟨_, rfl⟩
        obtain ⟨y, hy⟩ : ∃ y, lb.getD k Cm.zero = y := ⟨_, rfl⟩
        rw [hx] at c0 c1 c2 c3
        rw [hy] at d0 d1 d2 d3
        have Hx : Hid _ := hx
        have Hy : Hid _ := hy
        have hneq : ∀ W' : World, (binOp .neq 24 (.agg #[.string x.key, .string x.val, .int .i64 x.page, .int .i64 x.len]) (.agg #[.string y.key, .string y.val, .int .i64 y.page, .int .i64 y.len])).run Try.prog W' = .ok (.bool (!decide (x = y))) W' := fun W' => neq_cell W' x y
        have hgd := fun (W' : World) (a b : Operand) => guard_cell W' .neq a b
        have i1 : (k : Int) < (la.length : Int) := by omega
        have i2 : (k : Int) < (lb.length : Int) := by omega
        clear hx hy hcs hcs' Hi Hi'
        by_cases hxy : x = y
        · rw [decide_eq_true hxy] at hneq
          have Hxy : Hid (x = y) := hxy
          clear hxy
          go_wp2_with fail
          go_quiet (fail)
          go_wp2
          refine ⟨⟨k + 1, _, by omega, by go_num, take_eq Cm.zero hlt hltb Htk.out (by rw [Hx.out, Hy.out]; exact Hxy.out), rfl⟩, by simp [intOf]; omega⟩
        · rw [decide_eq_false hxy] at hneq
          have Hxy : Hid (x = y → False) := hxy
          clear hxy
          go_wp2_with fail
          go_quiet (fail)
          go_wp2
          go_ret
          refine ⟨?_, q + nq, World.drewN_drewN _ _ _⟩
          have e : decide (la = lb) = false := by
            rw [decide_eq_false_iff_not]; intro h; exact Hxy.out (by rw [← Hx.out, ← Hy.out, h])
          rw [e]; rfl
      · go_wp2
        go_ret
        refine ⟨?_, _, rfl⟩
        have e : decide (la = lb) = true := by
          rw [decide_eq_true_iff]
          have := Htk.out
          rwa [List.take_of_length_le (by omega), List.take_of_length_le (by have := Hlen.out; omega)] at this
        rw [e]; rfl
  · have h0 : ((la.length : Int) != (lb.length : Int)) = true := by rw [bne_iff_ne]; omega
    go_enter Try.func25, Try.ntmps25
    go_wp2
    go_ret
    refine ⟨?_, 0, rfl⟩
    have e : decide (la = lb) = false := by
      rw [decide_eq_false_iff_not]; intro h'; exact h (by rw [h'])
    rw [e]; rfl
set_option maxRecDepth 100000 in
set_option maxHeartbeats 1000000 in
theorem EqualN_any (la lb : List Int) (va vb : Value) (B1 B2 : Nat) (w : World) (ha : Ints w B1 va la) (hb : Ints w B2 vb lb) (hl : la.length ≤ 1000000) :
    Calls Try.prog 22 #[va, vb] w fun e w' => e = .returned (.bool (decide (la = lb))) ∧ ∃ q, w' = w.drewN q := by
  obtain ⟨ad, c, rfl, _, _, hi⟩ := ha
  obtain ⟨bd, d, rfl, _, _, hi'⟩ := hb
  have Hi : Hid _ := hi
  have Hi' : Hid _ := hi'
  clear hi hi'
  by_cases h : la.length = lb.length
  · have h0 : ((la.length : Int) != (lb.length : Int)) = false := by rw [bne_eq_false_iff_eq]; omega
    have Hlen : Hid (la.length = lb.length) := h
    clear h
    go_enter Try.func22, Try.ntmps22
    go_wp2
    go_loopw [13] (fun i wr => ∃ k q : Nat, k ≤ la.length ∧ i = .int .i64 (k : Int) ∧ la.take k = lb.take k ∧ wr = w.drewN q) (fun i _ => la.length - (intOf i).toNat)
    case atStart => exact ⟨0, 0, by omega, rfl, by simp, rfl⟩
    case round =>
      obtain ⟨k, q, hk, rfl, htk, rfl⟩ := hrel
      have Htk : Hid (la.take k = lb.take k) := htk
      clear htk
      by_cases hlt : k < la.length
      · have hltb : k < lb.length := by have := Hlen.out; omega
        obtain ⟨b, o, rfl, _, hcs⟩ := Hi.out (by intro h; rw [h] at hlt; simp at hlt)
        obtain ⟨b', o', rfl, _, hcs'⟩ := Hi'.out (by intro h; rw [h] at hltb; simp at hltb)
        have c0 := hcs k hlt
        have d0 := hcs' k hltb
        obtain ⟨x, hx⟩ : ∃ x, la.getD k 0 = x := ⟨_, rfl⟩
        obtain ⟨y, hy⟩ : ∃ y, lb.getD k 0 = y := ⟨_, rfl⟩
        rw [hx] at c0
        rw [hy] at d0
        have Hx : Hid _ := hx
        have Hy : Hid _ := hy
        have i1 : (k : Int) < (la.length : Int) := by omega
        have i2 : (k : Int) < (lb.length : Int) := by omega
        clear hx hy hcs hcs' Hi Hi'
        by_cases hxy : x = y
        · have hne : (x != y) = false := by rw [bne_eq_false_iff_eq]; exact hxy
          have Hxy : Hid (x = y) := hxy
          clear hxy
          go_wp2_with fail
          go_quiet (fail)
          go_wp2
          refine ⟨⟨k + 1, _, by omega, by go_num, take_eq 0 hlt hltb Htk.out (by rw [Hx.out, Hy.out]; exact Hxy.out), rfl⟩, by simp [intOf]; omega⟩
        · have hne : (x != y) = true := by rw [bne_iff_ne]; exact hxy
          have Hxy : Hid (x = y → False) := hxy
          clear hxy
          go_wp2_with fail
          go_quiet (fail)
          go_wp2
          go_ret
          refine ⟨?_, q + nq, World.drewN_drewN _ _ _⟩
          have e : decide (la = lb) = false := by
            rw [decide_eq_false_iff_not]; intro h; exact Hxy.out (by rw [← Hx.out, ← Hy.out, h])
          rw [e]; rfl
      · go_wp2
        go_ret
        refine ⟨?_, _, rfl⟩
        have e : decide (la = lb) = true := by
          rw [decide_eq_true_iff]
          have := Htk.out
          rwa [List.take_of_length_le (by omega), List.take_of_length_le (by have := Hlen.out; omega)] at this
        rw [e]; rfl
  · have h0 : ((la.length : Int) != (lb.length : Int)) = true := by rw [bne_iff_ne]; omega
    go_enter Try.func22, Try.ntmps22
    go_wp2
    go_ret
    refine ⟨?_, 0, rfl⟩
    have e : decide (la = lb) = false := by
      rw [decide_eq_false_iff_not]; intro h'; exact h (by rw [h'])
    rw [e]; rfl

theorem Its.drewN {w : World} {B : Nat} {v : Value} {l : List Cm.It} (h : Its w B v l) (q : Nat) : Its (w.drewN q) B v l := h
theorem Ints.drewN {w : World} {B : Nat} {v : Value} {l : List Int} (h : Ints w B v l) (q : Nat) : Ints (w.drewN q) B v l := h

set_option maxRecDepth 100000 in
set_option maxHeartbeats 1000000 in
theorem same_any (n m : Cm.Nd) (v u : Value) (B : Nat) (w : World) (hv : NdS w B v n) (hu : NdS w B u m) (hB : B ≤ w.heap.size) (hl : n.items.length ≤ 1000000) (hk : n.kids.length ≤ 1000000) :
    Calls Try.prog 26 #[v, u] w fun e w' => e = .returned (.bool (decide (n = m))) ∧ Below w.heap.size w w' := by
  obtain ⟨vi, vk, rfl, hI, hK⟩ := hv
  obtain ⟨ui, uk, rfl, hI', hK'⟩ := hu
  obtain ⟨ad, c, rfl, -, -, -⟩ := id hI
  obtain ⟨kd, d, rfl, -, -, -⟩ := id hK
  obtain ⟨ad', c', rfl, -, -, -⟩ := id hI'
  obtain ⟨kd', d', rfl, -, -, -⟩ := id hK'
  have hbx := heap_alloc_new w (.cells #[.bool n.leaf, .slice ad n.items.length c, .slice kd n.kids.length d] 28)
  have hbw := (Below.refl w.heap.size w).alloc (Nat.le_refl _) (.cells #[.bool n.leaf, .slice ad n.items.length c, .slice kd n.kids.length d] 28)
  have hs0 : (w.alloc (.cells #[.bool n.leaf, .slice ad n.items.length c, .slice kd n.kids.length d] 28)).heap.size = w.heap.size + 1 := by simp
  go_enter Try.func26, Try.ntmps26
  go_upto_region 1 with fail
  generalize w.alloc (.cells #[.bool n.leaf, .slice ad n.items.length c, .slice kd n.kids.length d] 28) = W0 at *
  have hby := heap_alloc_new W0 (.cells #[.bool m.leaf, .slice ad' m.items.length c', .slice kd' m.kids.length d'] 28)
  have hbw1 := hbw.alloc (by omega) (.cells #[.bool m.leaf, .slice ad' m.items.length c', .slice kd' m.kids.length d'] 28)
  have hbx1 := (((Below.refl _ W0).alloc (Nat.le_refl _) (.cells #[.bool m.leaf, .slice ad' m.items.length c', .slice kd' m.kids.length d'] 28)).block w.heap.size (lt_of_heap hbx)).trans hbx
  rw [hs0] at hby
  generalize W0.alloc (.cells #[.bool m.leaf, .slice ad' m.items.length c', .slice kd' m.kids.length d'] 28) = W at *
  clear hbx hbw
  obtain ⟨n0, n1, n2⟩ := cells3_of hbx1
  obtain ⟨m0, m1, m2⟩ := cells3_of hby
  have HI : Hid _ := hI.below hbw1 hB
  have HI' : Hid _ := hI'.below hbw1 hB
  have HK : Hid _ := hK.below hbw1 hB
  have HK' : Hid _ := hK'.below hbw1 hB
  clear hI hI' hK hK'
  by_cases h1 : n.leaf = m.leaf
  · have e1 : (n.leaf == m.leaf) = true := by rw [h1]; simp
    have HL : Hid (n.leaf = m.leaf) := h1
    clear h1
    go_wp2_with fail
    refine (EqualC_any n.items m.items _ _ B B _ HI.out HI'.out hl).mono ?_
    rintro e w1 ⟨rfl, q, rfl⟩
    by_cases h2 : n.items = m.items
    · rw [decide_eq_true h2]
      have H2 : Hid (n.items = m.items) := h2
      clear h2
      go_wp2_with fail
      refine (EqualN_any n.kids m.kids _ _ B B _ (Ints.drewN HK.out q) (Ints.drewN HK'.out q) hk).mono ?_
      rintro e w2 ⟨rfl, q2, rfl⟩
      go_wp2
      go_ret
      refine ⟨?_, ⟨hbw1.os, hbw1.tape, hbw1.output, hbw1.size, hbw1.block⟩⟩
      have e : decide (n = m) = decide (n.kids = m.kids) := by
        rw [decide_eq_decide]
        exact ⟨fun h => by rw [h], fun h => Cm.Nd.ext' HL.out H2.out h⟩
      rw [e]
      rfl
    · rw [decide_eq_false h2]
      have H2 : Hid (n.items = m.items → False) := h2
      clear h2
      go_wp2
      go_ret
      refine ⟨?_, ⟨hbw1.os, hbw1.tape, hbw1.output, hbw1.size, hbw1.block⟩⟩
      have e : decide (n = m) = false := by
        rw [decide_eq_false_iff_not]; intro h; exact H2.out (by rw [h])
      rw [e]; rfl
  · have e1 : (n.leaf == m.leaf) = false := by rw [beq_eq_false_iff_ne]; exact h1
    have HL : Hid (n.leaf = m.leaf → False) := h1
    clear h1
    go_wp2
    go_ret
    refine ⟨?_, hbw1⟩
    have e : decide (n = m) = false := by
      rw [decide_eq_false_iff_not]; intro h; exact HL.out (by rw [h])
    rw [e]; rfl

/-- a leaf without items -/
def Cm.bare : Cm.Nd := ⟨true, [], []⟩
theorem Cm.bare_fit : Cm.Fit Cm.bare := ⟨fun i hi => by simp [Cm.bare] at hi, fun h => by simp [Cm.bare] at h⟩


end Go.Proofs.Ytplfcpbjlhobeaa
