/-
  WHAT THE DOCUMENT's Same DOES.
-/
import Derived.Test.YthpipbkbldlfjaaYWrite
import Derived.Laws.StructEq
namespace Go.Proofs.Ythpipbkbldlfjaa
open Go.RowKit

theorem stood_word : Try.prog.stoodInHeld 36 = false := by kernel_rfl
theorem guardT_word : Try.prog.eqGuardType Try.prog.depth 36 = false := by kernel_rfl
def wdA (v : Lx.V) : Array Value := #[.string (str v.text), .int .i64 v.line, .int .i64 v.col, .bool v.quoted, .bool v.mark]
theorem eq_word (W : World) (a b : Lx.V) : (Op.equalIn 10000 36 (.agg (wdA a)) (.agg (wdA b))).run Try.prog W = .ok (decide (a = b)) W := by
  rw [show (10000 : Nat) = 9999 + 1 from rfl, run_equalIn_agg W 9999 36 _ _ (by simp [Program.fieldsOf, Try.underlying36]) stood_word]
  obtain ⟨t, l, c, q, m⟩ := a
  obtain ⟨t', l', c', q', m'⟩ := b
  simp [Program.fieldsOf, Try.underlying36, go_sem, wdA, ByteArray.toList_eq, str_toList]
  by_cases h1 : t = t' <;> by_cases h2 : l = l' <;> by_cases h3 : c = c' <;> cases q <;> cases q' <;> cases m <;> cases m' <;> simp [h1, h2, h3]
theorem neq_word (W : World) (a b : Lx.V) : (binOp .neq 36 (.agg (wdA a)) (.agg (wdA b))).run Try.prog W = .ok (.bool (!decide (a = b))) W := by
  rw [run_neq_struct, eq_word]; rfl
theorem guard_word (W : World) (op : BinOp) (x y : Operand) (xs ys : Array Value) : (eqGuard op 36 x y (.agg xs) (.agg ys)).run Try.prog W = .ok () W := run_eqGuard_agg W op 36 x y xs ys guardT_word
theorem take_more {α : Type} (z : α) {a c : List α} {k : Nat} (h1 : k < a.length) (h2 : k < c.length) (h : a.take k = c.take k) (e : a.getD k z = c.getD k z) : a.take (k + 1) = c.take (k + 1) := by
  rw [List.take_succ_eq_append_getElem h1, List.take_succ_eq_append_getElem h2, h]
  simp only [List.getD, List.getElem?_eq_getElem h1, List.getElem?_eq_getElem h2, Option.getD_some] at e
  rw [e]

set_option maxRecDepth 100000 in
set_option maxHeartbeats 4000000 in
theorem SameT_any (va vb : Value) (A C : List Lx.L) (w : World) (B : Nat) (ha : LnsS w B va A) (hb : LnsS w B vb C) (hAl : A.length ≤ 1099511627) (hwl : ∀ x ∈ A, x.words.length ≤ 1099511627) :
    Calls Try.prog 34 #[va, vb] w fun e w' => e = .returned (.bool (decide (A = C))) ∧ Below w.heap.size w w' := by
  obtain ⟨ad, c, rfl, hle⟩ := ha.shape
  obtain ⟨ad', c', rfl, hle'⟩ := hb.shape
  have HWL : Hid _ := hwl
  clear hwl
  obtain ⟨D, hDD⟩ : ∃ D, decide (A = C) = D := ⟨_, rfl⟩
  rw [hDD]
  have HNE : Hid (A ≠ C → D = false) := fun h => by rw [← hDD]; exact decide_eq_false h
  have HEQ : Hid (A = C → D = true) := fun h => by rw [← hDD]; exact decide_eq_true h
  clear hDD
  go_enter Try.func34, Try.ntmps34
  by_cases hlen : A.length = C.length
  · have n1 : ((A.length : Int) != (C.length : Int)) = false := by rw [bne_eq_false_iff_eq]; omega
    have HLE : Hid _ := hlen
    clear hlen
    go_wp2
    go_loopw [5] (fun k wr => ∃ i q : Nat, i ≤ A.length ∧ k = .int .i64 (i : Int) ∧ Hid (A.take i = C.take i) ∧ wr = w.drewN q) (fun k _ => A.length - (intOf k).toNat)
    case atStart => exact ⟨0, 0, Nat.zero_le _, rfl, by simp [Hid], rfl⟩
    case round =>
      obtain ⟨i, q, hi, rfl, HT, rfl⟩ := hrel
      have hD := below_drewN (Below.refl w.heap.size w) q
      by_cases hlt : i < A.length
      · have hlt' : i < C.length := by have := HLE.out; omega
        have i1 : (i : Int) < (A.length : Int) := by omega
        have i2 : (i : Int) < (C.length : Int) := by omega
        have hwl := HWL.out (A.getD i Lx.noL) (by simp [List.getD, List.getElem?_eq_getElem hlt])
        obtain ⟨b, o, c1, ad1, c2, e, hb1, p0, p1, p2, hW⟩ := ha.at i hlt
        simp only [Value.slice.injEq] at e
        obtain ⟨rfl, -, rfl⟩ := e
        obtain ⟨b', o', c1', ad1', c2', e, hb1', p0', p1', p2', hW'⟩ := hb.at i hlt'
        simp only [Value.slice.injEq] at e
        obtain ⟨rfl, -, rfl⟩ := e
        obtain ⟨x, hx⟩ : ∃ x, A.getD i Lx.noL = x := ⟨_, rfl⟩
        obtain ⟨y, hy⟩ : ∃ y, C.getD i Lx.noL = y := ⟨_, rfl⟩
        rw [hx] at p0 p1 p2 hW hwl
        rw [hy] at p0' p1' p2' hW'
        have HX : Hid _ := hx
        have HY : Hid _ := hy
        have HNO : Hid (x ≠ y → D = false) := fun h => HNE.out fun h2 => absurd (by rw [← hx, ← hy, h2]) h
        clear hx hy
        by_cases hn : x.num = y.num
        · have m1 : (x.num != y.num) = false := by rw [bne_eq_false_iff_eq]; exact hn
          by_cases hd : x.ind = y.ind
          · have m2 : (x.ind == y.ind) = true := by rw [beq_iff_eq]; exact hd
            by_cases hl : x.words.length = y.words.length
            · have m3 : ((x.words.length : Int) != (y.words.length : Int)) = false := by rw [bne_eq_false_iff_eq]; omega
              have HN : Hid _ := hn
              have HD : Hid _ := hd
              have HL : Hid _ := hl
              clear hn hd hl
              go_wp2_with fail
              go_quiet (fail)
              go_wp2
              go_loopw [6] (fun k wr => ∃ j q : Nat, j ≤ x.words.length ∧ k = .int .i64 (j : Int) ∧ Hid (x.words.take j = y.words.take j) ∧ wr = w.drewN q) (fun k _ => x.words.length - (intOf k).toNat)
              case atStart => exact ⟨0, _, Nat.zero_le _, rfl, by simp [Hid], World.drewN_drewN _ _ _⟩
              case round =>
                obtain ⟨j, q', hj, rfl, HT2, rfl⟩ := hrel
                have hD' := below_drewN (Below.refl w.heap.size w) q'
                by_cases hjl : j < x.words.length
                · have hjl' : j < y.words.length := by have := HL.out; omega
                  have j1 : (j : Int) < (x.words.length : Int) := by omega
                  have j2 : (j : Int) < (y.words.length : Int) := by omega
                  obtain ⟨b2, o2, cc2, e, -, r0, r1, r2, r3, r4⟩ := WdR.at hW j hjl
                  simp only [Value.slice.injEq] at e
                  obtain ⟨rfl, -, rfl⟩ := e
                  obtain ⟨b3, o3, cc3, e, -, s0, s1, s2, s3, s4⟩ := WdR.at hW' j hjl'
                  simp only [Value.slice.injEq] at e
                  obtain ⟨rfl, -, rfl⟩ := e
                  obtain ⟨u, hu⟩ : ∃ u, x.words.getD j Lx.noV = u := ⟨_, rfl⟩
                  obtain ⟨v, hv⟩ : ∃ v, y.words.getD j Lx.noV = v := ⟨_, rfl⟩
                  rw [hu] at r0 r1 r2 r3 r4
                  rw [hv] at s0 s1 s2 s3 s4
                  have HU : Hid _ := hu
                  have HV : Hid _ := hv
                  have hneq : ∀ W' : World, (binOp .neq 36 (.agg #[.string (str u.text), .int .i64 u.line, .int .i64 u.col, .bool u.quoted, .bool u.mark]) (.agg #[.string (str v.text), .int .i64 v.line, .int .i64 v.col, .bool v.quoted, .bool v.mark])).run Try.prog W' = .ok (.bool (!decide (u = v))) W' := fun W' => neq_word W' u v
                  have hgd := fun (W' : World) (a b : Operand) => guard_word W' .neq a b
                  clear hu hv
                  by_cases huv : u = v
                  · rw [decide_eq_true huv] at hneq
                    have HT3 : Hid (x.words.take (j + 1) = y.words.take (j + 1)) := take_more Lx.noV hjl hjl' HT2.out (by rw [HU.out, HV.out, huv])
                    clear huv
                    go_wp2_with fail
                    go_quiet (fail)
                    go_wp2
                    refine ⟨⟨j + 1, _, by omega, by go_num, HT3, rfl⟩, by simp [intOf]; omega⟩
                  · rw [decide_eq_false huv] at hneq
                    have HF : Hid _ := HNO.out fun h => huv (by rw [← HU.out, ← HV.out, h])
                    clear huv
                    go_wp2_with fail
                    go_quiet (fail)
                    go_wp2
                    go_ret
                    rw [HF.out]
                    exact ⟨rfl, below_drewN hD' _⟩
                · obtain rfl : j = x.words.length := by omega
                  have j1 : ¬ (x.words.length : Int) < (x.words.length : Int) := by omega
                  have HXY : Hid (A.take (i + 1) = C.take (i + 1)) := take_more Lx.noL hlt hlt' HT.out (by
                    have hw := HT2.out
                    rw [List.take_length, HL.out, List.take_length] at hw
                    have h1 := HN.out
                    have h2 := HD.out
                    rw [HX.out, HY.out]
                    obtain ⟨n1, n2, n3⟩ := x
                    obtain ⟨m1, m2, m3⟩ := y
                    simp only at h1 h2 hw
                    rw [h1, h2, hw])
                  clear HT HT2 HNO
                  go_wp2
                  refine ⟨⟨i + 1, _, by omega, by go_num, HXY, rfl⟩, by simp [intOf]; omega⟩
            · have m3 : ((x.words.length : Int) != (y.words.length : Int)) = true := by rw [bne_iff_ne]; omega
              have HF : Hid _ := HNO.out fun h => hl (by rw [h])
              clear hn hd hl HNO
              go_wp2_with fail
              go_quiet (fail)
              go_wp2
              go_ret
              rw [HF.out]
              exact ⟨rfl, below_drewN hD _⟩
          · have m2 : (x.ind == y.ind) = false := by rw [beq_eq_false_iff_ne]; exact hd
            have HF : Hid _ := HNO.out fun h => hd (by rw [h])
            clear hn hd HNO
            go_wp2_with fail
            go_quiet (fail)
            go_wp2
            go_ret
            rw [HF.out]
            exact ⟨rfl, below_drewN hD _⟩
        · have m1 : (x.num != y.num) = true := by rw [bne_iff_ne]; exact hn
          have HF : Hid _ := HNO.out fun h => hn (by rw [h])
          clear hn HNO
          go_wp2_with fail
          go_quiet (fail)
          go_wp2
          go_ret
          rw [HF.out]
          exact ⟨rfl, below_drewN hD _⟩
      · obtain rfl : i = A.length := by omega
        have i1 : ¬ (A.length : Int) < (A.length : Int) := by omega
        have HE : Hid (A = C) := by
          show _ = _
          have := HT.out
          rwa [List.take_length, HLE.out, List.take_length] at this
        clear HT
        go_wp2
        go_ret
        rw [HEQ.out HE.out]
        exact ⟨rfl, hD⟩
  · have n1 : ((A.length : Int) != (C.length : Int)) = true := by rw [bne_iff_ne]; omega
    have HF : Hid (D = false) := HNE.out fun h => hlen (by rw [h])
    clear hlen
    go_wp2
    go_ret
    rw [HF.out]
    exact ⟨rfl, Below.refl _ _⟩

end Go.Proofs.Ythpipbkbldlfjaa
