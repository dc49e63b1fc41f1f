/-
  THE REPLACER, MADE: what replaces which byte.
-/
import Derived.Test.YtppcfidaalejfaaDZSync
import Derived.Test.YtppcfidaalejfaaDZTab
import Derived.Laws.OwnMore
namespace Go.Proofs.Ytppcfidaalejfaa
open Go.RowKit

set_option maxRecDepth 100000 in
set_option maxHeartbeats 4000000 in
theorem build_any (w : World) (r : Nat) (B : Nat) (ad : Option Addr) (c : Nat) (hR : w.cell? ⟨r, 4, none⟩ = some (.slice ad 6 c)) (hS : BR.Sl w B (.slice ad 6 c) rp6) (hB : B ≤ w.heap.size) :
    Calls Try.prog 67 #[.pointer (some ⟨r, 0, none⟩)] w fun e w' => ∃ b, e = .returned (.iface 133 (.pointer (some ⟨b, 0, none⟩))) ∧ w.heap.size ≤ b ∧ (∃ g tv, RB w' b g tv ∧ RepG w' g s3 ∧ BR.Own w' w.heap.size tv l3) ∧ Below w.heap.size w w' := by
  obtain ⟨bo, oo, co, e, hbo, -⟩ := BR.ix hS (j := 0) (by decide)
  simp only [Value.slice.injEq] at e
  obtain ⟨rfl, -, rfl⟩ := e
  have hc : ∀ j (hj : j < 6), w.cell? ⟨bo, oo + j, none⟩ = some (.string (str (rp6[j]'hj))) := fun j hj => by
    obtain ⟨b2, o2, c2, e, -, hh⟩ := BR.ix hS (j := j) hj
    simp only [Value.slice.injEq, Option.some.injEq, Addr.mk.injEq, and_true] at e
    obtain ⟨⟨rfl, rfl⟩, -, -⟩ := e
    exact hh
  have hen := eql_nil54
  go_enter Try.func67, Try.ntmps67
  go_wp2
  go_loopw [4, 5] (fun nb k wr => ((k = .int .i64 0 ∧ nb = .bool true) ∨ (k = .int .i64 2 ∧ nb = .bool false) ∨ (k = .int .i64 4 ∧ nb = .bool false) ∨ (k = .int .i64 6 ∧ nb = .bool false)) ∧ w = wr) (fun _ k _ => 6 - (intOf k).toNat)
  case atStart => exact ⟨.inl ⟨rfl, rfl⟩, rfl⟩
  case round =>
    obtain ⟨hx, rfl⟩ := hrel
    rcases hx with ⟨rfl, rfl⟩ | ⟨rfl, rfl⟩ | ⟨rfl, rfl⟩ | ⟨rfl, rfl⟩
    · have c0 : w.cell? ⟨bo, oo, none⟩ = some (.string ⟨#[32]⟩) := hc 0 (by decide)
      have c1 : w.cell? ⟨bo, oo + 1, none⟩ = some (.string ⟨#[92, 32]⟩) := hc 1 (by decide)
      go_wp2
      exact ⟨⟨.inr (.inl ⟨rfl, rfl⟩), trivial⟩, by simp [intOf]⟩
    · have c0 : w.cell? ⟨bo, oo + 2, none⟩ = some (.string ⟨#[58]⟩) := hc 2 (by decide)
      have c1 : w.cell? ⟨bo, oo + 3, none⟩ = some (.string ⟨#[92, 58]⟩) := hc 3 (by decide)
      go_wp2
      exact ⟨⟨.inr (.inr (.inl ⟨rfl, rfl⟩)), trivial⟩, by simp [intOf]⟩
    · have c0 : w.cell? ⟨bo, oo + 4, none⟩ = some (.string ⟨#[92]⟩) := hc 4 (by decide)
      have c1 : w.cell? ⟨bo, oo + 5, none⟩ = some (.string ⟨#[92, 92]⟩) := hc 5 (by decide)
      go_wp2
      exact ⟨⟨.inr (.inr (.inr ⟨rfl, rfl⟩)), trivial⟩, by simp [intOf]⟩
    · obtain ⟨i0, hi, hz0, hz1, hz2⟩ := info_parts BR.info
      obtain ⟨W1, hmk, hO1, hg1⟩ := run_make_own (P := Try.prog) w w.heap.size 30 9 i0 (.string .empty) 1 Try.underlying30 hi hz0 hz1 .i64 .i64 3 (by rw [hz2]; decide) (by decide) (Nat.le_refl _)
      have hmk : (Instr.makeSlice 30 (.int .i64 0) (.int .i64 3)).run Try.prog w = .ok (.slice (some ⟨w.heap.size, 0, none⟩) 0 3) W1 := hmk
      have hsc := store132 W1 (.slice (some ⟨w.heap.size, 0, none⟩) 0 3) rfl
      have hRB := RB.new W1 (.slice (some ⟨w.heap.size, 0, none⟩) 0 3)
      go_upto_region 27 with fail
      have hbb : B ≤ W1.heap.size := Nat.le_trans hB hg1.size
      have hB1 : Below w.heap.size w W1 := ⟨hg1.os, hg1.tape, hg1.output, hg1.size, fun k hk => hg1.block k hk (by simp)⟩
      have hbz := hB1.size
      have hB2 := hB1.alloc hbz (.cells (Try.zeroCells132.setIfInBounds 256 (.slice (some ⟨w.heap.size, 0, none⟩) 0 3)) 132)
      have hO2 : BR.Own (W1.alloc (.cells (Try.zeroCells132.setIfInBounds 256 (.slice (some ⟨w.heap.size, 0, none⟩) 0 3)) 132)) w.heap.size (.slice (some ⟨w.heap.size, 0, none⟩) 0 3) [] := World.ownsRow.alloc hO1 _
      have hG0 : RepG (W1.alloc (.cells (Try.zeroCells132.setIfInBounds 256 (.slice (some ⟨w.heap.size, 0, none⟩) 0 3)) 132)) (fun _ => .slice none 0 0) [] := fun k => ⟨fun h => (by cases h), fun _ => rfl⟩
      obtain ⟨rb, hrb⟩ : ∃ rb, W1.heap.size = rb := ⟨_, rfl⟩
      rw [hrb] at hRB hbz ⊢
      clear hsc hmk hO1 hg1 hB1 hrb
      generalize W1.alloc (.cells (Try.zeroCells132.setIfInBounds 256 (.slice (some ⟨w.heap.size, 0, none⟩) 0 3)) 132) = W2 at *
      go_wp2
      go_loopw [12] (fun k wr => ∃ (j : Nat) (tv : Value) (g : Nat → Value), j ≤ 3 ∧ k = .int .i64 (4 - 2 * (j : Int)) ∧ RB wr rb g tv ∧ BR.Own wr w.heap.size tv (l3.take j) ∧ RepG wr g (s3.take j) ∧ Below w.heap.size w wr) (fun k _ => (2 + intOf k).toNat)
      case atStart => exact ⟨0, _, _, by omega, rfl, hRB, hO2, hG0, hB2⟩
      case round =>
        clear hRB hO2 hG0 hB2
        obtain ⟨j, tv, g, hj, rfl, hRB, hO, hG, hBe⟩ := hrel
        have hrl := hRB.lt
        have hx : j = 0 ∨ j = 1 ∨ j = 2 ∨ j = 3 := by omega
        have hcw : Hid (∀ j (hj : j < 6), wr.cell? ⟨bo, oo + j, none⟩ = some (.string (str (rp6[j]'hj)))) := fun j hj => (hBe.cell (p := ⟨bo, oo + j, none⟩) (Nat.lt_of_lt_of_le hbo hB)).trans (hc j hj)
        rcases hx with rfl | rfl | rfl | rfl
        · obtain ⟨sb, hsb, hsz, hget⟩ : ∃ sb : ByteArray, (⟨#[92]⟩ : ByteArray) = sb ∧ sb.size = 1 ∧ ∀ h : 0 < sb.size, sb[0] = 92 := ⟨_, rfl, rfl, fun _ => rfl⟩
          have hg0 : 0 < sb.size := by omega
          have hget : sb[0] = 92 := hget hg0
          have c0 : wr.cell? ⟨bo, oo + 4, none⟩ = some (.string sb) := by rw [← hsb]; exact hcw.out 4 (by decide)
          clear hsb
          have hO : BR.Own wr w.heap.size tv [] := hO
          obtain ⟨ta, tc, hv, htc⟩ := hO.sl.shape
          subst hv
          have c1 : wr.cell? ⟨bo, oo + 5, none⟩ = some (.string ⟨#[92, 92]⟩) := hcw.out 5 (by decide)
          have r0 : wr.cell? ⟨rb, 92, none⟩ = some (.slice none 0 0) := by rw [hRB.cell (k := 92) (by decide)]; exact congrArg some ((hG 92).2 (by decide))
          have r1 : wr.cell? ⟨rb, 256, none⟩ = some (.slice ta 0 tc) := hRB.row
          have hBy : Byts (wr.alloc (.cells #[.int .u8 92] 5)) (wr.heap.size + 1) (.slice (some ⟨wr.heap.size, 0, none⟩) 1 1) [92] := byts_lit wr #[.int .u8 92] [92] 1 rfl rfl
          have hcv1 := conv_byts hBy
          rw [show str [92] = ⟨#[92]⟩ from rfl] at hcv1
          have hL := BR.lit (wr.alloc (.cells #[.int .u8 92] 5)) [92] #[.string ⟨#[92]⟩] rfl
          have hz1 : (wr.alloc (.cells #[.int .u8 92] 5)).heap.size = wr.heap.size + 1 := size_alloc _ _
          rw [hz1] at hL
          have hO3 := (hO.alloc (.cells #[.int .u8 92] 5)).alloc (.cells #[.string ⟨#[92]⟩] 9)
          have hTa : Turn [] wr ((wr.alloc (.cells #[.int .u8 92] 5)).alloc (.cells #[.string ⟨#[92]⟩] 9)) := ((Turn.refl [] wr).alloc _).alloc _
          have hRB3 := hRB.turn hTa (by simp)
          have hG3 := hG.turn hTa (fun x hx => by cases hx)
          have hB3 := hBe.trans (hTa.below' hBe.size (by simp))
          have HLn : Hid (0 + [[(92 : UInt8)]].length ≤ 1099511627) := by show _ ≤ _; decide
          have hbs3 := hB3.size
          go_wp2_with (at_builtin; go_must (refine BR.append_at rfl _ _ rfl w.heap.size (wr.heap.size + 1 + 1) _ _ [] [[92]] rfl hO3 rfl hL (by simp) HLn hbs3 ?_))
          intro g4 cap4 W4 hO4 hg4 hw4 hlt4
          have hT4 := Turn.of_grown hg4
          have hnb : ∀ {cs : Array Value} {t : TypeId} {x : Nat}, Rw ((wr.alloc (.cells #[.int .u8 92] 5)).alloc (.cells #[.string ⟨#[92]⟩] 9)) x cs t → t ≠ 9 → x ∉ (Value.slice ta 0 tc).ownBlock.toList := fun hq ht hm => Rw.ne_row hq hO3 ht (by simpa using hm) rfl
          have hRB4 : RB W4 rb g (.slice ta 0 tc) := by
            obtain ⟨cs, h1, h2⟩ := hRB3
            exact ⟨cs, h1.turn hT4 (hnb h1 (by decide)), h2⟩
          have hG4 := hG3.turn hT4 (fun x hx X hu => hu.notRow hO3 (by simpa using hx))
          have hB4 := hB3.trans (hT4.below' hB3.size (fun x hx => (hO3.lt x (by simpa using hx)).1))
          have r2 := hRB4.row
          have q2 := hRB4.free 256
          have hRB5 := hRB4.setRow (.slice (some ⟨g4, 0, none⟩) (0 + 1) cap4)
          have hT5 := Turn.put1 W4 rb 256 (.slice (some ⟨g4, 0, none⟩) (0 + 1) cap4)
          have hrbw : ∃ cs, Rw W4 rb cs 132 := by obtain ⟨cs, h1, -⟩ := hRB4; exact ⟨cs, h1⟩
          have hG5 := hG4.turn hT5 (fun x hx X hu => by rw [List.mem_singleton] at hx; subst hx; obtain ⟨cs, h1⟩ := hrbw; exact hu.notRw h1 (by decide))
          have hO5 : BR.Own (W4.setCell ⟨rb, 256, none⟩ (.slice (some ⟨g4, 0, none⟩) (0 + 1) cap4)) w.heap.size (.slice (some ⟨g4, 0, none⟩) (0 + 1) cap4) ([] ++ [[92]]) := Row.turn hO4 hT5 (fun x hx hm => by rw [List.mem_singleton] at hm; subst hm; obtain ⟨cs, h1⟩ := hrbw; exact Rw.ne_row h1 hO4 (by decide) hx rfl)
          have hB5 : Below w.heap.size w _ := hT5.bel hB4 (by simpa using hbz)
          obtain ⟨c6, W6, hcv6, hb6, hu6, hc6⟩ := UpB.made (W4.setCell ⟨rb, 256, none⟩ (.slice (some ⟨g4, 0, none⟩) (0 + 1) cap4)) ⟨#[92, 92]⟩
          rw [size_setCell] at hcv6 hu6
          have hRB6 : RB W6 rb g (.slice (some ⟨g4, 0, none⟩) (0 + 1) cap4) := by
            obtain ⟨cs, h1, h2⟩ := hRB5
            exact ⟨cs, h1.below hb6 h1.lt, h2⟩
          have hG6 := hG5.turn (Turn.of_below hb6) (fun x hx => by cases hx)
          have hO6 := hO5.below hb6 (Nat.le_refl _)
          have hB6 := hB5.trans (hb6.mono hB5.size)
          have r3 : W6.cell? ⟨rb, 92, none⟩ = some (g 92) := hRB6.cell (by decide)
          have q3 := hRB6.free 92
          have hRB7 := hRB6.set 92 (by decide) (.slice (some ⟨W4.heap.size, 0, none⟩) 2 c6)
          have hT7 := Turn.put1 W6 rb 92 (.slice (some ⟨W4.heap.size, 0, none⟩) 2 c6)
          have hrbw6 : ∃ cs, Rw W6 rb cs 132 := by obtain ⟨cs, h1, -⟩ := hRB6; exact ⟨cs, h1⟩
          have hG7 := (hG6.more hc6 hu6).turn hT7 (fun x hx X hu => by rw [List.mem_singleton] at hx; subst hx; obtain ⟨cs, h1⟩ := hrbw6; exact hu.notRw h1 (by decide))
          have hO7 := Row.turn hO6 hT7 (fun x hx hm => by rw [List.mem_singleton] at hm; subst hm; obtain ⟨cs, h1⟩ := hrbw6; exact Rw.ne_row h1 hO6 (by decide) hx rfl)
          have hB7 : Below w.heap.size w _ := hT7.bel hB6 (by simpa using hbz)
          clear hO3 hRB3 hG3 hB3 hRB4 hG4 hB4 hRB5 hG5 hO5 hB5 hRB6 hG6 hO6 hB6 hnb hRB hO hG hBe hL hBy hT5 hT7 hrbw hrbw6
          go_wp2
          exact ⟨⟨1, _, _, by omega, rfl, hRB7, hO7, hG7, hB7⟩, by simp [intOf]⟩
        · obtain ⟨sb, hsb, hsz, hget⟩ : ∃ sb : ByteArray, (⟨#[58]⟩ : ByteArray) = sb ∧ sb.size = 1 ∧ ∀ h : 0 < sb.size, sb[0] = 58 := ⟨_, rfl, rfl, fun _ => rfl⟩
          have hg0 : 0 < sb.size := by omega
          have hget : sb[0] = 58 := hget hg0
          have c0 : wr.cell? ⟨bo, oo + 2, none⟩ = some (.string sb) := by rw [← hsb]; exact hcw.out 2 (by decide)
          clear hsb
          have hO : BR.Own wr w.heap.size tv [[92]] := hO
          obtain ⟨ta, tc, hv, htc⟩ := hO.sl.shape
          subst hv
          have c1 : wr.cell? ⟨bo, oo + 3, none⟩ = some (.string ⟨#[92, 58]⟩) := hcw.out 3 (by decide)
          have r0 : wr.cell? ⟨rb, 58, none⟩ = some (.slice none 0 0) := by rw [hRB.cell (k := 58) (by decide)]; exact congrArg some ((hG 58).2 (by decide))
          have r1 : wr.cell? ⟨rb, 256, none⟩ = some (.slice ta 1 tc) := hRB.row
          have hBy : Byts (wr.alloc (.cells #[.int .u8 58] 5)) (wr.heap.size + 1) (.slice (some ⟨wr.heap.size, 0, none⟩) 1 1) [58] := byts_lit wr #[.int .u8 58] [58] 1 rfl rfl
          have hcv1 := conv_byts hBy
          rw [show str [58] = ⟨#[58]⟩ from rfl] at hcv1
          have hL := BR.lit (wr.alloc (.cells #[.int .u8 58] 5)) [58] #[.string ⟨#[58]⟩] rfl
          have hz1 : (wr.alloc (.cells #[.int .u8 58] 5)).heap.size = wr.heap.size + 1 := size_alloc _ _
          rw [hz1] at hL
          have hO3 := (hO.alloc (.cells #[.int .u8 58] 5)).alloc (.cells #[.string ⟨#[58]⟩] 9)
          have hTa : Turn [] wr ((wr.alloc (.cells #[.int .u8 58] 5)).alloc (.cells #[.string ⟨#[58]⟩] 9)) := ((Turn.refl [] wr).alloc _).alloc _
          have hRB3 := hRB.turn hTa (by simp)
          have hG3 := hG.turn hTa (fun x hx => by cases hx)
          have hB3 := hBe.trans (hTa.below' hBe.size (by simp))
          have HLn : Hid (1 + [[(58 : UInt8)]].length ≤ 1099511627) := by show _ ≤ _; decide
          have hbs3 := hB3.size
          go_wp2_with (at_builtin; go_must (refine BR.append_at rfl _ _ rfl w.heap.size (wr.heap.size + 1 + 1) _ _ [[92]] [[58]] rfl hO3 rfl hL (by simp) HLn hbs3 ?_))
          intro g4 cap4 W4 hO4 hg4 hw4 hlt4
          have hT4 := Turn.of_grown hg4
          have hnb : ∀ {cs : Array Value} {t : TypeId} {x : Nat}, Rw ((wr.alloc (.cells #[.int .u8 58] 5)).alloc (.cells #[.string ⟨#[58]⟩] 9)) x cs t → t ≠ 9 → x ∉ (Value.slice ta 1 tc).ownBlock.toList := fun hq ht hm => Rw.ne_row hq hO3 ht (by simpa using hm) rfl
          have hRB4 : RB W4 rb g (.slice ta 1 tc) := by
            obtain ⟨cs, h1, h2⟩ := hRB3
            exact ⟨cs, h1.turn hT4 (hnb h1 (by decide)), h2⟩
          have hG4 := hG3.turn hT4 (fun x hx X hu => hu.notRow hO3 (by simpa using hx))
          have hB4 := hB3.trans (hT4.below' hB3.size (fun x hx => (hO3.lt x (by simpa using hx)).1))
          have r2 := hRB4.row
          have q2 := hRB4.free 256
          have hRB5 := hRB4.setRow (.slice (some ⟨g4, 0, none⟩) (1 + 1) cap4)
          have hT5 := Turn.put1 W4 rb 256 (.slice (some ⟨g4, 0, none⟩) (1 + 1) cap4)
          have hrbw : ∃ cs, Rw W4 rb cs 132 := by obtain ⟨cs, h1, -⟩ := hRB4; exact ⟨cs, h1⟩
          have hG5 := hG4.turn hT5 (fun x hx X hu => by rw [List.mem_singleton] at hx; subst hx; obtain ⟨cs, h1⟩ := hrbw; exact hu.notRw h1 (by decide))
          have hO5 : BR.Own (W4.setCell ⟨rb, 256, none⟩ (.slice (some ⟨g4, 0, none⟩) (1 + 1) cap4)) w.heap.size (.slice (some ⟨g4, 0, none⟩) (1 + 1) cap4) ([[92]] ++ [[58]]) := Row.turn hO4 hT5 (fun x hx hm => by rw [List.mem_singleton] at hm; subst hm; obtain ⟨cs, h1⟩ := hrbw; exact Rw.ne_row h1 hO4 (by decide) hx rfl)
          have hB5 : Below w.heap.size w _ := hT5.bel hB4 (by simpa using hbz)
          obtain ⟨c6, W6, hcv6, hb6, hu6, hc6⟩ := UpB.made (W4.setCell ⟨rb, 256, none⟩ (.slice (some ⟨g4, 0, none⟩) (1 + 1) cap4)) ⟨#[92, 58]⟩
          rw [size_setCell] at hcv6 hu6
          have hRB6 : RB W6 rb g (.slice (some ⟨g4, 0, none⟩) (1 + 1) cap4) := by
            obtain ⟨cs, h1, h2⟩ := hRB5
            exact ⟨cs, h1.below hb6 h1.lt, h2⟩
          have hG6 := hG5.turn (Turn.of_below hb6) (fun x hx => by cases hx)
          have hO6 := hO5.below hb6 (Nat.le_refl _)
          have hB6 := hB5.trans (hb6.mono hB5.size)
          have r3 : W6.cell? ⟨rb, 58, none⟩ = some (g 58) := hRB6.cell (by decide)
          have q3 := hRB6.free 58
          have hRB7 := hRB6.set 58 (by decide) (.slice (some ⟨W4.heap.size, 0, none⟩) 2 c6)
          have hT7 := Turn.put1 W6 rb 58 (.slice (some ⟨W4.heap.size, 0, none⟩) 2 c6)
          have hrbw6 : ∃ cs, Rw W6 rb cs 132 := by obtain ⟨cs, h1, -⟩ := hRB6; exact ⟨cs, h1⟩
          have hG7 := (hG6.more hc6 hu6).turn hT7 (fun x hx X hu => by rw [List.mem_singleton] at hx; subst hx; obtain ⟨cs, h1⟩ := hrbw6; exact hu.notRw h1 (by decide))
          have hO7 := Row.turn hO6 hT7 (fun x hx hm => by rw [List.mem_singleton] at hm; subst hm; obtain ⟨cs, h1⟩ := hrbw6; exact Rw.ne_row h1 hO6 (by decide) hx rfl)
          have hB7 : Below w.heap.size w _ := hT7.bel hB6 (by simpa using hbz)
          clear hO3 hRB3 hG3 hB3 hRB4 hG4 hB4 hRB5 hG5 hO5 hB5 hRB6 hG6 hO6 hB6 hnb hRB hO hG hBe hL hBy hT5 hT7 hrbw hrbw6
          go_wp2
          exact ⟨⟨2, _, _, by omega, rfl, hRB7, hO7, hG7, hB7⟩, by simp [intOf]⟩
        · obtain ⟨sb, hsb, hsz, hget⟩ : ∃ sb : ByteArray, (⟨#[32]⟩ : ByteArray) = sb ∧ sb.size = 1 ∧ ∀ h : 0 < sb.size, sb[0] = 32 := ⟨_, rfl, rfl, fun _ => rfl⟩
          have hg0 : 0 < sb.size := by omega
          have hget : sb[0] = 32 := hget hg0
          have c0 : wr.cell? ⟨bo, oo, none⟩ = some (.string sb) := by rw [← hsb]; exact hcw.out 0 (by decide)
          clear hsb
          have hO : BR.Own wr w.heap.size tv [[92], [58]] := hO
          obtain ⟨ta, tc, hv, htc⟩ := hO.sl.shape
          subst hv
          have c1 : wr.cell? ⟨bo, oo + 1, none⟩ = some (.string ⟨#[92, 32]⟩) := hcw.out 1 (by decide)
          have r0 : wr.cell? ⟨rb, 32, none⟩ = some (.slice none 0 0) := by rw [hRB.cell (k := 32) (by decide)]; exact congrArg some ((hG 32).2 (by decide))
          have r1 : wr.cell? ⟨rb, 256, none⟩ = some (.slice ta 2 tc) := hRB.row
          have hBy : Byts (wr.alloc (.cells #[.int .u8 32] 5)) (wr.heap.size + 1) (.slice (some ⟨wr.heap.size, 0, none⟩) 1 1) [32] := byts_lit wr #[.int .u8 32] [32] 1 rfl rfl
          have hcv1 := conv_byts hBy
          rw [show str [32] = ⟨#[32]⟩ from rfl] at hcv1
          have hL := BR.lit (wr.alloc (.cells #[.int .u8 32] 5)) [32] #[.string ⟨#[32]⟩] rfl
          have hz1 : (wr.alloc (.cells #[.int .u8 32] 5)).heap.size = wr.heap.size + 1 := size_alloc _ _
          rw [hz1] at hL
          have hO3 := (hO.alloc (.cells #[.int .u8 32] 5)).alloc (.cells #[.string ⟨#[32]⟩] 9)
          have hTa : Turn [] wr ((wr.alloc (.cells #[.int .u8 32] 5)).alloc (.cells #[.string ⟨#[32]⟩] 9)) := ((Turn.refl [] wr).alloc _).alloc _
          have hRB3 := hRB.turn hTa (by simp)
          have hG3 := hG.turn hTa (fun x hx => by cases hx)
          have hB3 := hBe.trans (hTa.below' hBe.size (by simp))
          have HLn : Hid (2 + [[(32 : UInt8)]].length ≤ 1099511627) := by show _ ≤ _; decide
          have hbs3 := hB3.size
          go_wp2_with (at_builtin; go_must (refine BR.append_at rfl _ _ rfl w.heap.size (wr.heap.size + 1 + 1) _ _ [[92], [58]] [[32]] rfl hO3 rfl hL (by simp) HLn hbs3 ?_))
          intro g4 cap4 W4 hO4 hg4 hw4 hlt4
          have hT4 := Turn.of_grown hg4
          have hnb : ∀ {cs : Array Value} {t : TypeId} {x : Nat}, Rw ((wr.alloc (.cells #[.int .u8 32] 5)).alloc (.cells #[.string ⟨#[32]⟩] 9)) x cs t → t ≠ 9 → x ∉ (Value.slice ta 2 tc).ownBlock.toList := fun hq ht hm => Rw.ne_row hq hO3 ht (by simpa using hm) rfl
          have hRB4 : RB W4 rb g (.slice ta 2 tc) := by
            obtain ⟨cs, h1, h2⟩ := hRB3
            exact ⟨cs, h1.turn hT4 (hnb h1 (by decide)), h2⟩
          have hG4 := hG3.turn hT4 (fun x hx X hu => hu.notRow hO3 (by simpa using hx))
          have hB4 := hB3.trans (hT4.below' hB3.size (fun x hx => (hO3.lt x (by simpa using hx)).1))
          have r2 := hRB4.row
          have q2 := hRB4.free 256
          have hRB5 := hRB4.setRow (.slice (some ⟨g4, 0, none⟩) (2 + 1) cap4)
          have hT5 := Turn.put1 W4 rb 256 (.slice (some ⟨g4, 0, none⟩) (2 + 1) cap4)
          have hrbw : ∃ cs, Rw W4 rb cs 132 := by obtain ⟨cs, h1, -⟩ := hRB4; exact ⟨cs, h1⟩
          have hG5 := hG4.turn hT5 (fun x hx X hu => by rw [List.mem_singleton] at hx; subst hx; obtain ⟨cs, h1⟩ := hrbw; exact hu.notRw h1 (by decide))
          have hO5 : BR.Own (W4.setCell ⟨rb, 256, none⟩ (.slice (some ⟨g4, 0, none⟩) (2 + 1) cap4)) w.heap.size (.slice (some ⟨g4, 0, none⟩) (2 + 1) cap4) ([[92], [58]] ++ [[32]]) := Row.turn hO4 hT5 (fun x hx hm => by rw [List.mem_singleton] at hm; subst hm; obtain ⟨cs, h1⟩ := hrbw; exact Rw.ne_row h1 hO4 (by decide) hx rfl)
          have hB5 : Below w.heap.size w _ := hT5.bel hB4 (by simpa using hbz)
          obtain ⟨c6, W6, hcv6, hb6, hu6, hc6⟩ := UpB.made (W4.setCell ⟨rb, 256, none⟩ (.slice (some ⟨g4, 0, none⟩) (2 + 1) cap4)) ⟨#[92, 32]⟩
          rw [size_setCell] at hcv6 hu6
          have hRB6 : RB W6 rb g (.slice (some ⟨g4, 0, none⟩) (2 + 1) cap4) := by
            obtain ⟨cs, h1, h2⟩ := hRB5
            exact ⟨cs, h1.below hb6 h1.lt, h2⟩
          have hG6 := hG5.turn (Turn.of_below hb6) (fun x hx => by cases hx)
          have hO6 := hO5.below hb6 (Nat.le_refl _)
          have hB6 := hB5.trans (hb6.mono hB5.size)
          have r3 : W6.cell? ⟨rb, 32, none⟩ = some (g 32) := hRB6.cell (by decide)
          have q3 := hRB6.free 32
          have hRB7 := hRB6.set 32 (by decide) (.slice (some ⟨W4.heap.size, 0, none⟩) 2 c6)
          have hT7 := Turn.put1 W6 rb 32 (.slice (some ⟨W4.heap.size, 0, none⟩) 2 c6)
          have hrbw6 : ∃ cs, Rw W6 rb cs 132 := by obtain ⟨cs, h1, -⟩ := hRB6; exact ⟨cs, h1⟩
          have hG7 := (hG6.more hc6 hu6).turn hT7 (fun x hx X hu => by rw [List.mem_singleton] at hx; subst hx; obtain ⟨cs, h1⟩ := hrbw6; exact hu.notRw h1 (by decide))
          have hO7 := Row.turn hO6 hT7 (fun x hx hm => by rw [List.mem_singleton] at hm; subst hm; obtain ⟨cs, h1⟩ := hrbw6; exact Rw.ne_row h1 hO6 (by decide) hx rfl)
          have hB7 : Below w.heap.size w _ := hT7.bel hB6 (by simpa using hbz)
          clear hO3 hRB3 hG3 hB3 hRB4 hG4 hB4 hRB5 hG5 hO5 hB5 hRB6 hG6 hO6 hB6 hnb hRB hO hG hBe hL hBy hT5 hT7 hrbw hrbw6
          go_wp2
          exact ⟨⟨3, _, _, by omega, rfl, hRB7, hO7, hG7, hB7⟩, by simp [intOf]⟩
        · have hR9 : RB wr rb g tv := hRB
          have hG9 : RepG wr g s3 := hG
          have hO9 : BR.Own wr w.heap.size tv l3 := hO
          obtain ⟨ta, tc, hv, htc⟩ := hO9.sl.shape
          subst hv
          clear hO hG hRB hcw
          go_wp2
          go_ret
          exact ⟨rb, rfl, hbz, ⟨g, _, hR9, hG9, hO9⟩, hBe⟩

end Go.Proofs.Ytppcfidaalejfaa
