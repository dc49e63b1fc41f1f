/-
  THE WALK OF SumAdded.
-/
import Derived.Test.YtmogihffkglieaaOfs
import Derived.Deep.AppendLies
namespace Go.Proofs.Ytmogihffkglieaa
open Go.RowKit

theorem xor2_at (a b : List UInt8) (k : Nat) (h1 : k < a.length) (h2 : k < b.length) : ((Sm.xor2 a b).getD k 0).toNat = (a.getD k 0).toNat ^^^ (b.getD k 0).toNat := by
  have e : (Sm.xor2 a b).getD k 0 = UInt8.ofNat ((a.getD k 0).toNat ^^^ (b.getD k 0).toNat) := by
    simp [Sm.xor2, List.getD, List.getElem?_zipWith, List.getElem?_eq_getElem h1, List.getElem?_eq_getElem h2]
  rw [e, UInt8.toNat_ofNat']
  exact Nat.mod_eq_of_lt (Nat.xor_lt_two_pow (n := 8) (UInt8.toNat_lt _) (UInt8.toNat_lt _))

theorem World.ownsRow.count {w : World} {base k : Nat} {v : Value} {l : List UInt8} (h : w.ownsRow base 5 1 v k (bV l)) : l.length = k := by
  have := h.1
  rwa [bV_length, Nat.mul_one] at this

set_option maxRecDepth 100000 in
set_option maxHeartbeats 4000000 in
theorem added_walk (va : Value) (a : List UInt8) (vb : Value) (b : List UInt8) (vc : Value) (c : List UInt8) (w : World) (ha : Byts w w.heap.size va a) (hb : Byts w w.heap.size vb b) (hc : Byts w w.heap.size vc c) :
    Calls Try.prog 7 #[va, vb, vc] w fun e w' => e = .returned (.bool true) ∧ Below w.heap.size w w' := by
  obtain ⟨i0, hi0, hz0, hz1, hz2⟩ := info_parts info5
  have ha0 := ha
  have hb0 := hb
  have hc0 := hc
  obtain ⟨a1, a2, rfl, -, -, ha1⟩ := ha0
  obtain ⟨b1, b2, rfl, -, -, hb1⟩ := hb0
  obtain ⟨c1, c2, rfl, -, -, hc1⟩ := hc0
  go_enter Try.func7, Try.ntmps7
  go_wp2_with fail
  refine (works_any w).mono ?_
  rintro e w1 ⟨rfl, hbw⟩
  by_cases hab : a.length = b.length
  · have hab' : ((a.length : Int) == (b.length : Int)) = true := by rw [beq_iff_eq]; omega
    by_cases hbc : b.length = c.length
    · have hbc' : ((b.length : Int) == (c.length : Int)) = true := by rw [beq_iff_eq]; omega
      by_cases hl : a.length ≤ 3000
      · have hl' : decide ((3000 : Int) < (a.length : Int)) = false := decide_eq_false (by omega)
        go_wp2_with fail
        go_loopw [7, 30] (fun v i wr => ∃ k : Nat, k ≤ a.length ∧ i = .int .i64 (k : Int) ∧ Own wr w.heap.size v ((Sm.xor2 (Sm.xor2 a b) c).take k) ∧ Below w.heap.size w wr) (fun _ i _ => a.length - (intOf i).toNat)
        case atStart => exact ⟨0, Nat.zero_le _, rfl, Own.nil _ _, hbw⟩
        case round =>
          obtain ⟨k, hk, rfl, hor, hbr⟩ := hrel
          by_cases hlt : k < a.length
          · have hltb : k < b.length := by omega
            have hltc : k < c.length := by omega
            obtain ⟨p1, o1, rfl, q1, r1⟩ := ha1 (by intro h; rw [h] at hlt; simp at hlt)
            obtain ⟨p2, o2, rfl, q2, r2⟩ := hb1 (by intro h; rw [h] at hltb; simp at hltb)
            obtain ⟨p3, o3, rfl, q3, r3⟩ := hc1 (by intro h; rw [h] at hltc; simp at hltc)
            have s1 := (hbr.cell (p := ⟨p1, o1 + k, none⟩) q1).trans (r1 k hlt)
            have s2 := (hbr.cell (p := ⟨p2, o2 + k, none⟩) q2).trans (r2 k hltb)
            have s3 := (hbr.cell (p := ⟨p3, o3 + k, none⟩) q3).trans (r3 k hltc)
            have l1 := Sm.xor2_length a b hab
            have x1 := xor2_at a b k hlt hltb
            have x2 := xor2_at (Sm.xor2 a b) c k (by omega) hltc
            have y1 : bits .xor .u8 ((a.getD k 0).toNat : Int) ((b.getD k 0).toNat : Int) = (((Sm.xor2 a b).getD k 0).toNat : Int) := by rw [x1]; exact u8_xor_nat _ _ (UInt8.toNat_lt _) (UInt8.toNat_lt _)
            have y2 : bits .xor .u8 (((Sm.xor2 a b).getD k 0).toNat : Int) ((c.getD k 0).toNat : Int) = (((Sm.xor2 (Sm.xor2 a b) c).getD k 0).toNat : Int) := by rw [x2]; exact u8_xor_nat _ _ (UInt8.toNat_lt _) (UInt8.toNat_lt _)
            have l2 : (Sm.xor2 (Sm.xor2 a b) c).length = a.length := by rw [Sm.xor2_length _ _ (by omega), l1]
            have HT : Hid ((Sm.xor2 (Sm.xor2 a b) c).take (k + 1) = (Sm.xor2 (Sm.xor2 a b) c).take k ++ [(Sm.xor2 (Sm.xor2 a b) c).getD k 0]) := take_snoc _ k (by omega)
            have hlk : ((Sm.xor2 (Sm.xor2 a b) c).take k).length = k := by simp; omega
            have Hor : Hid (wr.ownsRow w.heap.size 5 1 u7 k (bV ((Sm.xor2 (Sm.xor2 a b) c).take k))) := by have := hor; unfold Own at this; rwa [hlk] at this
            have hn1 : ∀ p, p < w.heap.size → u7.ownBlock ≠ some p := fun p hp h => by have := (World.ownsRow.lt hor p h).1; omega
            have n1 := hn1 p1 q1
            have n2 := hn1 p2 q2
            have n3 := hn1 p3 q3
            have hz := hbr.size
            have HBr : Hid (Below w.heap.size w wr) := hbr
            have e1 := World.new_ne wr ⟨p1, o1 + k, none⟩ s1
            have e2 := World.new_ne wr ⟨p2, o2 + k, none⟩ s2
            have e3 := World.new_ne wr ⟨p3, o3 + k, none⟩ s3
            have hlti : (k : Int) < (a.length : Int) := by omega
            have hltbi : (k : Int) < (b.length : Int) := by omega
            have hltci : (k : Int) < (c.length : Int) := by omega
            generalize (a.getD k 0).toNat = xa at *
            generalize (b.getD k 0).toNat = xb at *
            generalize (c.getD k 0).toNat = xc at *
            generalize ((Sm.xor2 a b).getD k 0).toNat = xd at *
            generalize (Sm.xor2 (Sm.xor2 a b) c).getD k 0 = be at *
            generalize hbn : be.toNat = xe at *
            clear ha1 hb1 hc1 ha hb hc r1 r2 r3 x1 x2 hn1 hlk hor hbr l1 l2
            go_wp2_with fail
            go_region_held3 (fun w' => w'.cell? ⟨p1, o1 + k, none⟩ = some (.int .u8 (xa : Int)) ∧ w'.cell? ⟨p2, o2 + k, none⟩ = some (.int .u8 (xb : Int)) ∧ w'.cell? ⟨p3, o3 + k, none⟩ = some (.int .u8 (xc : Int)))
              (first
                | go_keep
                | (go_split_ands
                   refine ⟨?_, ?_, ?_⟩
                   · (rw [hgrow.cell_far _ (by simp; omega) (Ne.symm n1)]; assumption)
                   · (rw [hgrow.cell_far _ (by simp; omega) (Ne.symm n2)]; assumption)
                   · (rw [hgrow.cell_far _ (by simp; omega) (Ne.symm n3)]; assumption)))
              ((refine step_append_lies _ (by rfl) _ _ _ (by rfl) w.heap.size 5 i0 _ 1 1 Try.underlying23 hi0 hz0 hz1 hz2 rfl (by omega) u7 k (bV ((Sm.xor2 (Sm.xor2 a b) c).take k)) (by rfl) ((Hor.out.alloc _).drew)
                  ⟨wr.heap.size, 0, none⟩ 1 1 [.int .u8 (xe : Int)] (by rfl) (by rfl) (World.news_of_block (cs := #[.int .u8 (xe : Int)]) (t := 5) (fr := (0, 0)) (heap_alloc_new wr _)) (by simp [Value.oneCell'])
                  (by omega) (by unfold maxLen; omega) (by omega) (by simp; omega) (wr.heap.size + 1) (by simp) ?_; intro gg cap w4 hown1 hgrow hat hltg))
            go_wp2
            refine ⟨⟨k + 1, by omega, by go_num, ?_, ?_⟩, by simp [intOf]; omega⟩
            · have hlk := World.ownsRow.count Hor.out
              rw [HT.out]
              unfold Own
              rw [bV_append, List.length_append, hlk]
              simpa [bV, hbn] using hown1
            · exact ((HBr.out.alloc hz _).drew).grown hgrow (by simp; omega) fun p hp => (World.ownsRow.lt Hor.out p hp).1
          · have hD : (Sm.xor2 (Sm.xor2 a b) c).length = a.length := by rw [Sm.xor2_length _ _ (by rw [Sm.xor2_length _ _ hab]; omega), Sm.xor2_length _ _ hab]
            have hy := hor.byts
            rw [List.take_of_length_le (by omega)] at hy
            rw [hab, hbc] at ha
            rw [hbc] at hb
            have Hl : Hid (a.length ≤ 1099511627776) := by show _ ≤ _; omega
            have Hm : Hid (b.length ≤ 1099511627776) := by show _ ≤ _; omega
            have Hn : Hid (c.length ≤ 1099511627776) := by show _ ≤ _; omega
            have HD : Hid ((Sm.xor2 (Sm.xor2 a b) c).length ≤ 1099511627776) := by show _ ≤ _; omega
            have HE : Hid (Sm.of (Sm.xor2 (Sm.xor2 a b) c) = Sm.of a ^^^ Sm.of b ^^^ Sm.of c) := Sm.added a b c hab hbc
            have x1 : bits .xor .u32 (Sm.of a : Int) (Sm.of b : Int) = ((Sm.of a ^^^ Sm.of b : Nat) : Int) := u32_xor_nat _ _ (Sm.of_lt a) (Sm.of_lt b)
            have x2 : bits .xor .u32 ((Sm.of a ^^^ Sm.of b : Nat) : Int) (Sm.of c : Int) = ((Sm.of a ^^^ Sm.of b ^^^ Sm.of c : Nat) : Int) := u32_xor_nat _ _ (xor32_lt (Sm.of_lt a) (Sm.of_lt b)) (Sm.of_lt c)
            rw [← HE.out] at x2
            have X1 : Hid (bits .xor .u32 (Sm.of a : Int) (Sm.of b : Int) = ((Sm.of a ^^^ Sm.of b : Nat) : Int)) := x1
            generalize Sm.of a ^^^ Sm.of b = q at *
            generalize Sm.xor2 (Sm.xor2 a b) c = D at *
            clear HE hor X1
            go_wp2_with fail
            refine (Of_any _ D wr wr.heap.size (Nat.le_refl _) hy HD).mono ?_
            rintro e w2 ⟨rfl, hb2⟩
            have hB2 := hbr.trans (hb2.mono hbr.size)
            go_wp2_with fail
            refine (Of_any _ a w2 w.heap.size hB2.size (ha.below hB2 (Nat.le_refl _)) Hl).mono ?_
            rintro e w3 ⟨rfl, hb3⟩
            have hB3 := hB2.trans (hb3.mono hB2.size)
            go_wp2_with fail
            refine (Of_any _ b w3 w.heap.size hB3.size (hb.below hB3 (Nat.le_refl _)) Hm).mono ?_
            rintro e w4 ⟨rfl, hb4⟩
            have hB4 := hB3.trans (hb4.mono hB3.size)
            go_wp2_with fail
            refine (Of_any _ c w4 w.heap.size hB4.size (hc.below hB4 (Nat.le_refl _)) Hn).mono ?_
            rintro e w5 ⟨rfl, hb5⟩
            have hB5 := hB4.trans (hb5.mono hB4.size)
            go_wp2
            go_ret
            exact ⟨rfl, hB5⟩
      · have hl' : decide ((3000 : Int) < (a.length : Int)) = true := decide_eq_true (by omega)
        go_wp2
        go_ret
        exact ⟨rfl, hbw⟩
    · have hbc' : ((b.length : Int) == (c.length : Int)) = false := by rw [beq_eq_false_iff_ne]; omega
      go_wp2
      go_ret
      exact ⟨rfl, hbw⟩
  · have hab' : ((a.length : Int) == (b.length : Int)) = false := by rw [beq_eq_false_iff_ne]; omega
    go_wp2
    go_ret
    exact ⟨rfl, hbw⟩
end Go.Proofs.Ytmogihffkglieaa
