/-
  THE WALK OF THE DOCUMENT's Same.
-/
import Derived.Test.YtplfcpbjlhobeaaRSmall
import Derived.Test.YtplfcpbjlhobeaaREq
namespace Go.Proofs.Ytplfcpbjlhobeaa
open Go.RowKit

theorem take_eq {α : Type} (z : α) {la lb : List α} {k : Nat} (ha : k < la.length) (hb : k < lb.length) (h : la.take k = lb.take k) (hk : la.getD k z = lb.getD k z) : la.take (k + 1) = lb.take (k + 1) := by
  rw [List.take_succ_eq_append_getElem ha, List.take_succ_eq_append_getElem hb, h]
  simp only [List.getD, List.getElem?_eq_getElem ha, List.getElem?_eq_getElem hb, Option.getD_some] at hk
  rw [hk]

set_option maxRecDepth 100000 in
set_option maxHeartbeats 2000000 in
theorem Same_any (n m : Cm.Nd) (v u : Value) (B : Nat) (w : World) (hv : NdS w B v n) (hu : NdS w B u m) (hB : B ≤ w.heap.size) (hl : n.items.length ≤ 1000000) (hk : n.kids.length ≤ 1000000) :
    Calls Try.prog 14 #[v, u] w fun e w' => e = .returned (.bool (decide (n = m))) ∧ Below w.heap.size w w' := by
  obtain ⟨vi, vk, rfl, ⟨ad, c, rfl, hc, hn, hi⟩, ⟨kd, d, rfl, hd, hkn, hki⟩⟩ := hv
  obtain ⟨ui, uk, rfl, ⟨ad', c', rfl, hc', hn', hi'⟩, ⟨kd', d', rfl, hd', hkn', hki'⟩⟩ := hu
  have Hi : Hid _ := hi
  have Hki : Hid _ := hki
  have Hi' : Hid _ := hi'
  have Hki' : Hid _ := hki'
  clear hi hki hi' hki' hn hkn hn' hkn'
  have hbx := heap_alloc_new w (.cells #[.bool n.leaf, .slice ad n.items.length c, .slice kd n.kids.length d] 28)
  have hbw := (Below.refl w.heap.size w).alloc (Nat.le_refl _) (.cells #[.bool n.leaf, .slice ad n.items.length c, .slice kd n.kids.length d] 28)
  have hs0 : (w.alloc (.cells #[.bool n.leaf, .slice ad n.items.length c, .slice kd n.kids.length d] 28)).heap.size = w.heap.size + 1 := by simp
  go_enter Try.func14, Try.ntmps14
  go_upto_region 1 with fail
  generalize w.alloc (.cells #[.bool n.leaf, .slice ad n.items.length c, .slice kd n.kids.length d] 28) = W0 at *
  have hby := heap_alloc_new W0 (.cells #[.bool m.leaf, .slice ad' m.items.length c', .slice kd' m.kids.length d'] 28)
  have hbw1 := hbw.alloc (by omega) (.cells #[.bool m.leaf, .slice ad' m.items.length c', .slice kd' m.kids.length d'] 28)
  have hbx1 := (((Below.refl _ W0).alloc (Nat.le_refl _) (.cells #[.bool m.leaf, .slice ad' m.items.length c', .slice kd' m.kids.length d'] 28)).block w.heap.size (lt_of_heap hbx)).trans hbx
  rw [hs0] at hby
  generalize W0.alloc (.cells #[.bool m.leaf, .slice ad' m.items.length c', .slice kd' m.kids.length d'] 28) = W at *
  clear hbx hbw
  obtain ⟨n0, n1, n2⟩ := cells3_of hbx1
  obtain ⟨m0, m1, m2⟩ := cells3_of hby
  by_cases h1 : n.leaf = m.leaf
  · have Hlf : Hid (n.leaf = m.leaf) := h1
    rw [h1] at n0 ⊢
    generalize hml : m.leaf = lf at *
    have Hml : Hid (m.leaf = lf) := hml
    clear hml
    by_cases h2 : n.items.length = m.items.length
    · have b2 : ((n.items.length : Int) != (m.items.length : Int)) = false := by rw [bne_eq_false_iff_eq]; omega
      by_cases h3 : n.kids.length = m.kids.length
      · have b3 : ((n.kids.length : Int) != (m.kids.length : Int)) = false := by rw [bne_eq_false_iff_eq]; omega
        have H2 : Hid (n.items.length = m.items.length) := h2
        have H3 : Hid (n.kids.length = m.kids.length) := h3
        clear h1 h2 h3
        have e1 : (lf != lf) = false := by simp
        go_wp2
        go_loopw [5] (fun i wr => ∃ k q : Nat, k ≤ n.items.length ∧ i = .int .i64 (k : Int) ∧ n.items.take k = m.items.take k ∧ wr = W.drewN q)
          (fun i _ => n.items.length - (intOf i).toNat)
        case atStart => exact ⟨0, 0, Nat.zero_le _, rfl, by simp, rfl⟩
        case round =>
          obtain ⟨k, q, hkl, rfl, htk, rfl⟩ := hrel
          have Htk : Hid (n.items.take k = m.items.take k) := htk
          clear htk
          by_cases hlt : k < n.items.length
          · have hltm : k < m.items.length := by have := H2.out; omega
            obtain ⟨b, o, rfl, hbl, hcs⟩ := Hi.out (by intro h; rw [h] at hlt; simp at hlt)
            obtain ⟨b', o', rfl, hbl', hcs'⟩ := Hi'.out (by intro h; rw [h] at hltm; simp at hltm)
            have hbk := hbw1.block b (Nat.lt_of_lt_of_le hbl hB)
            have hbk' := hbw1.block b' (Nat.lt_of_lt_of_le hbl' hB)
            obtain ⟨c0, c1, c2, c3⟩ := hcs k hlt
            replace c0 := (World.cell?_of_block (a := ⟨b, o + k * 4, none⟩) hbk).trans c0
            replace c1 := (World.cell?_of_block (a := ⟨b, o + k * 4 + 1, none⟩) hbk).trans c1
            replace c2 := (World.cell?_of_block (a := ⟨b, o + k * 4 + 2, none⟩) hbk).trans c2
            replace c3 := (World.cell?_of_block (a := ⟨b, o + k * 4 + 3, none⟩) hbk).trans c3
            obtain ⟨d0, d1, d2, d3⟩ := hcs' k hltm
            replace d0 := (World.cell?_of_block (a := ⟨b', o' + k * 4, none⟩) hbk').trans d0
            replace d1 := (World.cell?_of_block (a := ⟨b', o' + k * 4 + 1, none⟩) hbk').trans d1
            replace d2 := (World.cell?_of_block (a := ⟨b', o' + k * 4 + 2, none⟩) hbk').trans d2
            replace d3 := (World.cell?_of_block (a := ⟨b', o' + k * 4 + 3, none⟩) hbk').trans d3
            obtain ⟨x, hx⟩ : ∃ x, n.items.getD k Cm.zero = x := ⟨_, rfl⟩
            obtain ⟨y, hy⟩ : ∃ y, m.items.getD k Cm.zero = y := ⟨_, rfl⟩
            rw [hx] at c0 c1 c2 c3
            rw [hy] at d0 d1 d2 d3
            have Hx : Hid _ := hx
            have Hy : Hid _ := hy
            have hneq : ∀ W' : World, (binOp .neq 24 (.agg #[.string x.key, .string x.val, .int .i64 x.page, .int .i64 x.len]) (.agg #[.string y.key, .string y.val, .int .i64 y.page, .int .i64 y.len])).run Try.prog W' = .ok (.bool (!decide (x = y))) W' := fun W' => neq_cell W' x y
            have hgd := fun (W' : World) (a b : Operand) => guard_cell W' .neq a b
            have i1 : (k : Int) < (n.items.length : Int) := by omega
            have i2 : (k : Int) < (m.items.length : Int) := by omega
            clear hx hy hcs hcs' Hi Hi' hbk hbk'
            by_cases hxy : x = y
            · rw [decide_eq_true hxy] at hneq
              have Hxy : Hid (x = y) := hxy
              clear hxy
              go_wp2_with fail
              go_quiet (fail)
              go_wp2
              refine ⟨⟨k + 1, _, by omega, by go_num, take_eq Cm.zero hlt hltm Htk.out (by rw [Hx.out, Hy.out]; exact Hxy.out), rfl⟩, by simp [intOf]; omega⟩
            · rw [decide_eq_false hxy] at hneq
              have Hxy : Hid (x = y → False) := hxy
              clear hxy
              go_wp2_with fail
              go_quiet (fail)
              go_wp2
              go_ret
              refine ⟨?_, ⟨hbw1.os, hbw1.tape, hbw1.output, hbw1.size, hbw1.block⟩⟩
              have e : decide (n = m) = false := by
                rw [decide_eq_false_iff_not]; intro h; exact Hxy.out (by rw [← Hx.out, ← Hy.out, h])
              rw [e]; rfl
          · obtain rfl : k = n.items.length := by omega
            have HI : Hid (n.items = m.items) := by
              have := Htk.out
              rw [List.take_length, H2.out, List.take_length] at this
              exact this
            clear Htk Hi Hi'
            go_wp2
            go_loopw [6] (fun i wr => ∃ k q : Nat, k ≤ n.kids.length ∧ i = .int .i64 (k : Int) ∧ n.kids.take k = m.kids.take k ∧ wr = W.drewN q)
              (fun i _ => n.kids.length - (intOf i).toNat)
            case atStart => exact ⟨0, q, Nat.zero_le _, rfl, by simp, rfl⟩
            case round =>
              obtain ⟨k, q', hkl2, rfl, htk, rfl⟩ := hrel
              have Htk : Hid (n.kids.take k = m.kids.take k) := htk
              clear htk
              by_cases hlt2 : k < n.kids.length
              · have hltm2 : k < m.kids.length := by have := H3.out; omega
                obtain ⟨b, o, rfl, hbl, hcs⟩ := Hki.out (by intro h; rw [h] at hlt2; simp at hlt2)
                obtain ⟨b', o', rfl, hbl', hcs'⟩ := Hki'.out (by intro h; rw [h] at hltm2; simp at hltm2)
                have c0 := (hbw1.cell (p := ⟨b, o + k, none⟩) (Nat.lt_of_lt_of_le hbl hB)).trans (hcs k hlt2)
                have d0 := (hbw1.cell (p := ⟨b', o' + k, none⟩) (Nat.lt_of_lt_of_le hbl' hB)).trans (hcs' k hltm2)
                obtain ⟨x, hx⟩ : ∃ x, n.kids.getD k 0 = x := ⟨_, rfl⟩
                obtain ⟨y, hy⟩ : ∃ y, m.kids.getD k 0 = y := ⟨_, rfl⟩
                rw [hx] at c0
                rw [hy] at d0
                have Hx : Hid _ := hx
                have Hy : Hid _ := hy
                have i1 : (k : Int) < (n.kids.length : Int) := by omega
                have i2 : (k : Int) < (m.kids.length : Int) := by omega
                clear hx hy hcs hcs' Hki Hki'
                by_cases hxy : x = y
                · have hne : (x != y) = false := by rw [bne_eq_false_iff_eq]; exact hxy
                  have Hxy : Hid (x = y) := hxy
                  clear hxy
                  go_wp2_with fail
                  go_quiet (fail)
                  go_wp2
                  refine ⟨⟨k + 1, _, by omega, by go_num, take_eq 0 hlt2 hltm2 Htk.out (by rw [Hx.out, Hy.out]; exact Hxy.out), rfl⟩, by simp [intOf]; omega⟩
                · have hne : (x != y) = true := by rw [bne_iff_ne]; exact hxy
                  have Hxy : Hid (x = y → False) := hxy
                  clear hxy
                  go_wp2_with fail
                  go_quiet (fail)
                  go_wp2
                  go_ret
                  refine ⟨?_, ⟨hbw1.os, hbw1.tape, hbw1.output, hbw1.size, hbw1.block⟩⟩
                  have e : decide (n = m) = false := by
                    rw [decide_eq_false_iff_not]; intro h; exact Hxy.out (by rw [← Hx.out, ← Hy.out, h])
                  rw [e]; rfl
              · obtain rfl : k = n.kids.length := by omega
                have HK : Hid (n.kids = m.kids) := by
                  have := Htk.out
                  rw [List.take_length, H3.out, List.take_length] at this
                  exact this
                clear Htk Hki Hki'
                go_wp2
                go_ret
                refine ⟨?_, ⟨hbw1.os, hbw1.tape, hbw1.output, hbw1.size, hbw1.block⟩⟩
                rw [decide_eq_true (Cm.Nd.ext' (Hlf.out.trans Hml.out.symm) HI.out HK.out)]; rfl
      · have b3 : ((n.kids.length : Int) != (m.kids.length : Int)) = true := by rw [bne_iff_ne]; omega
        have HN : Hid (n.kids.length = m.kids.length → False) := h3
        have e1 : (lf != lf) = false := by simp
        clear h1 h2 h3
        go_wp2
        go_ret
        refine ⟨?_, hbw1⟩
        have e : decide (n = m) = false := by
          rw [decide_eq_false_iff_not]; intro h; exact HN.out (by rw [h])
        rw [e]; rfl
    · have b2 : ((n.items.length : Int) != (m.items.length : Int)) = true := by rw [bne_iff_ne]; omega
      have HN : Hid (n.items.length = m.items.length → False) := h2
      have e1 : (lf != lf) = false := by simp
      clear h1 h2
      go_wp2
      go_ret
      refine ⟨?_, hbw1⟩
      have e : decide (n = m) = false := by
        rw [decide_eq_false_iff_not]; intro h; exact HN.out (by rw [h])
      rw [e]; rfl
  · have e1 : (n.leaf != m.leaf) = true := by rw [bne_iff_ne]; exact h1
    have HN : Hid (n.leaf = m.leaf → False) := h1
    clear h1
    go_wp2
    go_ret
    refine ⟨?_, hbw1⟩
    have e : decide (n = m) = false := by
      rw [decide_eq_false_iff_not]; intro h; exact HN.out (by rw [h])
    rw [e]; rfl
end Go.Proofs.Ytplfcpbjlhobeaa
