/-
  THE READER: quoted words.
-/
import Derived.Test.YtfgdlnidfkjbdaaDoorZSkip
namespace Go.Proofs.YtfgdlnidfkjbdaaDoor
open Go.RowKit

theorem row_apart {w : World} {base : Nat} {e : TypeId} {size : Nat} {v : Value} {n : Nat} {xs : List Value} {p : Nat} (h : w.ownsRow base e size v n xs) (hp : p < base) : p ∉ v.ownBlock.toList := by
  intro hm
  have := (World.ownsRow.lt h p (by simpa using hm)).1
  omega
theorem row_turn {w w' : World} {base : Nat} {e : TypeId} {size : Nat} {v : Value} {n : Nat} {xs : List Value} {p : Nat} (h : w.ownsRow base e size v n xs) (ht : Turn [p] w w') (hp : p < base) : w'.ownsRow base e size v n xs :=
  Row.turn h ht fun g hg hm => by
    have := (World.ownsRow.lt h g hg).1
    simp only [List.mem_singleton] at hm
    omega
theorem row_grow {w w1 w2 : World} {e : TypeId} {size : Nat} {v : Value} {n : Nat} {xs : List Value} {S : List Nat} (ht : Turn S w w1) (h : w1.ownsRow w.heap.size e size v n xs) (hg : w1.grownBy w2 v.ownBlock) : Turn S w w2 :=
  ht.grow hg fun x hx hl => by
    have := (World.ownsRow.lt h x hx).1
    omega

/-- how quoted ends -/
def QEnd (p : Nat) (s : ByteArray) (k : Nat) (e : Ending) (w' : World) : Lx.R Nat (Option (List UInt8 × List (Lx.B Nat))) → Prop
  | .bad a => e = thrown a
  | .ok none => e = thrown k
  | .ok (some (t, r)) => e = .returned (.string (str t)) ∧ ∃ j, Rd w' p s j ∧ k < j ∧ j ≤ s.size ∧ r = Lx.ln s j ∧ Lx.bh s (k + 1) = Lx.bh s j

set_option maxRecDepth 100000 in
set_option maxHeartbeats 2000000 in
theorem quoted_any (w : World) (p : Nat) (s : ByteArray) (k : Nat) (h : Rd w p s k) (hk : k < s.size) (hs : s.size ≤ 32768) :
    Calls Tryd.prog 68 #[.pointer (some ⟨p, 0, none⟩)] w fun e w' => QEnd p s k e w' (Lx.quo (Lx.ln s (k + 1)) []) ∧ Turn [p] w w' := by
  obtain ⟨R, hR0⟩ : ∃ R, Lx.quo (Lx.ln s (k + 1)) [] = R := ⟨_, rfl⟩
  have HR0 : Hid _ := hR0
  rw [hR0]
  clear hR0
  have c1 := RdC.cell1 h
  have hpw := h.lt
  go_enter Tryd.func68, Tryd.ntmps68
  go_wp2_with fail
  refine (pass_any _ p s k h hk hs).mono ?_
  rintro e w0 ⟨rfl, hRa, hTa⟩
  clear c1
  go_wp2
  go_loopw [4] (fun v wr => ∃ (j : Nat) (acc : List UInt8), Rd wr p s j ∧ j ≤ s.size ∧ k + 1 ≤ j ∧ Own wr w.heap.size v acc ∧ acc.length ≤ j ∧ Hid (Lx.quo (Lx.ln s j) acc = R) ∧ Hid (Lx.bh s (k + 1) = Lx.bh s j) ∧ Turn [p] w wr) (fun _ wr => s.size - rdAt wr p)
  case atStart => exact ⟨k + 1, [], hRa, by omega, Nat.le_refl _, Own.nil _ _, Nat.zero_le _, HR0, rfl, hTa⟩
  case round =>
    clear hRa hTa
    obtain ⟨j, acc, hR, hj, hkj, hO, hal, HQ, HB, hT⟩ := hrel
    have hat := hR.at_
    obtain ⟨a5, n5, c5, rfl⟩ := own_sl hO
    by_cases he : Lx.Ends s j
    · have HE : Hid (R = .ok none) := by
        show _ = _
        rw [← HQ.out]; exact Lx.quo_end he acc
      have hend := ended_any _ p s j hR hj
      rw [decide_eq_true he] at hend
      clear he HQ
      go_wp2_with fail
      refine hend.mono ?_
      rintro e w1 ⟨rfl, q, rfl⟩
      go_wp2_with fail
      refine (wrong_any _ k).mono ?_
      rintro e w1 ⟨rfl, rfl⟩
      go_wp2
      refine ⟨rfl, ?_, hT.drewN _⟩
      rw [HE.out]; rfl
    · have hlt : j < s.size := by
        rcases Nat.lt_or_ge j s.size with h | h
        · exact h
        · exact absurd (.inl (by omega)) he
      have HN10 : Hid (s[j] ≠ 10) := fun e => he (.inr ⟨hlt, e⟩)
      have hend := ended_any _ p s j hR hj
      rw [decide_eq_false he] at hend
      clear he
      have i3 : (j : Int) < (s.size : Int) := by omega
      have c0 := RdC.cell0 hR
      have c1 := RdC.cell1 hR
      go_wp2_with fail
      refine hend.mono ?_
      rintro e w1 ⟨rfl, q, rfl⟩
      go_wp2_with fail
      go_quiet (fail)
      have hRq : Rd ((wr.drewN q).drewN nq) p s j := hR
      have hOq : Own ((wr.drewN q).drewN nq) w.heap.size (.slice a5 n5 c5) acc := hO
      have hTq : Turn [p] w ((wr.drewN q).drewN nq) := (hT.drewN q).drewN nq
      have HAT : Hid _ := hat
      clear hR hO hT hend c0 c1 hat
      generalize (wr.drewN q).drewN nq = W at *
      by_cases h34 : s[j] = 34
      · have e34 : ((s[j].toNat : Int) == 34) = true := byte_eq h34
        obtain ⟨q1, q2⟩ := Lx.quo_34 hlt h34 acc
        have HE : Hid (R = .ok (some (acc, Lx.ln s (j + 1)))) := HQ.out.symm.trans q1
        have HB2 : Hid _ := HB.out.trans q2
        clear h34 q1 q2 HQ
        go_wp2_with fail
        refine (pass_any _ p s j hRq hlt hs).mono ?_
        rintro e w2 ⟨rfl, hR2, hT2⟩
        have hO2 : Own w2 w.heap.size (.slice a5 n5 c5) acc := row_turn hOq hT2 hpw
        have hcv := conv_byts hO2.byts
        go_wp2
        go_ret
        refine ⟨?_, hTq.trans hT2 (by simp)⟩
        rw [HE.out]
        exact ⟨rfl, j + 1, hR2, by omega, by omega, rfl, HB2.out⟩
      have e34 : ((s[j].toNat : Int) == 34) = false := byte_ne h34
      by_cases h92 : s[j] = 92
      · have e92 : ((s[j].toNat : Int) == 92) = true := byte_eq h92
        have HQE : Hid _ := Lx.quo_esc hlt h92 acc
        clear h34 h92
        have hesc := escaped_any _ p s j hRq hs hlt
        cases hX : Lx.escAt s j with
        | none =>
          rw [hX] at hesc HQE
          have HE : Hid (R = .bad j) := HQ.out.symm.trans HQE.out
          clear HQE HQ hX
          go_wp2_with fail
          refine hesc.mono ?_
          rintro e w1 ⟨rfl, rfl⟩
          simp only [escEnd, thrown]
          go_wp2
          refine ⟨rfl, ?_, hTq⟩
          rw [HE.out]; rfl
        | some c =>
          rw [hX] at hesc HQE
          obtain ⟨q0, q1, q2⟩ := HQE.out
          have HQ2 : Hid _ := q1.symm.trans HQ.out
          have HB2 : Hid _ := HB.out.trans q2
          clear HQE HQ hX q1 q2
          go_wp2_with fail
          refine hesc.mono ?_
          rintro e w1 ⟨rfl, rfl⟩
          simp only [escEnd]
          have hb4 : Byts (w1.alloc (.cells #[.int .u8 (c.toNat : Int)] 5)) (w1.heap.size + 1) (.slice (some ⟨w1.heap.size, 0, none⟩) 1 1) [c] := byts_lit w1 #[.int .u8 (c.toNat : Int)] [c] 1 (by simp [bV]) rfl
          have hO4 := hOq.alloc (.cells #[.int .u8 (c.toNat : Int)] 5)
          have hT4 := hTq.alloc (.cells #[.int .u8 (c.toNat : Int)] 5)
          have hR4 := hRq.alloc (.cells #[.int .u8 (c.toNat : Int)] 5)
          have HLn : Hid (acc.length + ([c] : List UInt8).length ≤ 1099511627800) := by show _ ≤ _; simp only [List.length_cons, List.length_nil]; omega
          go_wp2_with (at_builtin; go_must (refine wpList_append_byts rfl _ _ rfl w.heap.size (w1.heap.size + 1) _ _ acc [c] rfl hO4 rfl hb4 HLn hT4.size ?_))
          intro v5 w5 hO5 hg5
          have hT5 := row_grow hT4 hO4 hg5
          have hR5 := hR4.turn (Turn.of_grown hg5) (row_apart hO4 hpw)
          clear hb4 hO4 hT4 hR4 HLn hg5 hesc hOq hTq hRq
          obtain ⟨a6, n6, c6, rfl⟩ := own_sl hO5
          go_wp2_with fail
          refine (pass_any _ p s j hR5 hlt hs).mono ?_
          rintro e w6 ⟨rfl, hR6, hT6⟩
          go_wp2_with fail
          refine (pass_any _ p s (j + 1) hR6 (by omega) hs).mono ?_
          rintro e w7 ⟨rfl, hR7, hT7⟩
          have hO7 := row_turn (row_turn hO5 hT6 hpw) hT7 hpw
          have hat7 := hR7.at_
          go_wp2
          exact ⟨⟨j + 2, _, hR7, by omega, by omega, hO7, by simp only [List.length_append, List.length_cons, List.length_nil]; omega, HQ2, HB2, (hT5.trans hT6 (by simp)).trans hT7 (by simp)⟩, by rw [hat7, HAT.out]; omega⟩
      · have e92 : ((s[j].toNat : Int) == 92) = false := byte_ne h92
        obtain ⟨q1, q2⟩ := Lx.quo_other hlt HN10.out h34 h92 acc
        have HQ2 : Hid _ := q1.symm.trans HQ.out
        have HB2 : Hid _ := HB.out.trans q2
        clear h34 h92 q1 q2 HQ
        obtain ⟨c, hc⟩ : ∃ c, s[j] = c := ⟨_, rfl⟩
        rw [hc] at HQ2 e34 e92 HN10
        have hb4 : Byts (W.alloc (.cells #[.int .u8 (c.toNat : Int)] 5)) (W.heap.size + 1) (.slice (some ⟨W.heap.size, 0, none⟩) 1 1) [c] := byts_lit W #[.int .u8 (c.toNat : Int)] [c] 1 (by simp [bV]) rfl
        have hO4 := hOq.alloc (.cells #[.int .u8 (c.toNat : Int)] 5)
        have hT4 := hTq.alloc (.cells #[.int .u8 (c.toNat : Int)] 5)
        have hR4 := hRq.alloc (.cells #[.int .u8 (c.toNat : Int)] 5)
        have HLn : Hid (acc.length + ([c] : List UInt8).length ≤ 1099511627800) := by show _ ≤ _; simp only [List.length_cons, List.length_nil]; omega
        go_wp2_with (at_builtin; go_must (refine wpList_append_byts rfl _ _ rfl w.heap.size (W.heap.size + 1) _ _ acc [c] rfl hO4 rfl hb4 HLn hT4.size ?_))
        intro v5 w5 hO5 hg5
        have hT5 := row_grow hT4 hO4 hg5
        have hR5 := hR4.turn (Turn.of_grown hg5) (row_apart hO4 hpw)
        clear hb4 hO4 hT4 hR4 HLn hg5 hOq hTq hRq
        obtain ⟨a6, n6, c6, rfl⟩ := own_sl hO5
        go_wp2_with fail
        refine (pass_any _ p s j hR5 hlt hs).mono ?_
        rintro e w6 ⟨rfl, hR6, hT6⟩
        have hO6 := row_turn hO5 hT6 hpw
        have hat6 := hR6.at_
        go_wp2
        exact ⟨⟨j + 1, _, hR6, by omega, by omega, hO6, by simp only [List.length_append, List.length_cons, List.length_nil]; omega, HQ2, HB2, hT5.trans hT6 (by simp)⟩, by rw [hat6, HAT.out]; omega⟩

end Go.Proofs.YtfgdlnidfkjbdaaDoor
