/-
  THE WALK OF works.
-/
import Derived.Test.YtoablejghckaeaaListW
import Derived.Test.YtoablejghckaeaaNew
import Derived.Test.YtoablejghckaeaaPuts
namespace Go.Proofs.Ytoablejghckaeaa
open Go.RowKit

/-- bytes that are laid out in the text -/
theorem byts_lit (w : World) (cs : Array Value) (l : List UInt8) (n : Nat) (h : cs.toList = bV l) (hn : n = l.length) : Byts (w.alloc (.cells cs 5)) (w.heap.size + 1) (.slice (some ⟨w.heap.size, 0, none⟩) n n) l := by
  subst hn
  refine ⟨_, _, rfl, Nat.le_refl _, (fun h => by cases h), fun _ => ⟨w.heap.size, 0, rfl, by omega, fun j hj => ?_⟩⟩
  have h1 := cell_of_row (w.alloc (.cells cs 5)) w.heap.size (0 + j) cs 5 (0, 0) (heap_alloc_new w _)
  rw [h1, ← Array.getElem?_toList, h]
  simp [bV, List.getD, List.getElem?_eq_getElem hj]
/-- texts that are laid out in the text -/
theorem strs_lit (w : World) (cs : Array Value) (l : List ByteArray) (n : Nat) (h : cs.toList = sV l) (hn : n = l.length) : Strs (w.alloc (.cells cs 9)) (w.heap.size + 1) (.slice (some ⟨w.heap.size, 0, none⟩) n n) l := by
  subst hn
  refine ⟨_, _, rfl, Nat.le_refl _, (fun h => by cases h), fun _ => ⟨w.heap.size, 0, rfl, by omega, fun j hj => ?_⟩⟩
  have h1 := cell_of_row (w.alloc (.cells cs 9)) w.heap.size (0 + j) cs 9 (0, 0) (heap_alloc_new w _)
  rw [h1, ← Array.getElem?_toList, h]
  simp [sV, List.getD, List.getElem?_eq_getElem hj]

theorem Byts.alloc {w : World} {B : Nat} {v : Value} {l : List UInt8} (h : Byts w B v l) (hB : B ≤ w.heap.size) (o : Obj) : Byts (w.alloc o) B v l := h.below ((Below.refl w.heap.size w).alloc (Nat.le_refl _) o) hB
theorem Strs.alloc {w : World} {B : Nat} {v : Value} {l : List ByteArray} (h : Strs w B v l) (hB : B ≤ w.heap.size) (o : Obj) : Strs (w.alloc o) B v l := h.below ((Below.refl w.heap.size w).alloc (Nat.le_refl _) o) hB

theorem Own.below {w w' : World} {base B : Nat} {v : Value} {l : List UInt8} (h : Own w base v l) (hb : Below B w w') (hB : w.heap.size ≤ B) : Own w' base v l :=
  World.ownsRow.kept h (row := none) ⟨hb.os, hb.tape, hb.output, hb.size, fun k hk _ => hb.block k (by omega)⟩ (by cases hv : v.ownBlock <;> simp)
theorem toL_inj {a b : List ByteArray} (h : toL a = toL b) : a = b := by
  unfold toL at h
  refine (List.map_inj_right ?_).1 h
  intro x y hxy
  exact ByteArray.ext (Array.toList_inj.1 hxy)
theorem below_grow {B : Nat} {a w w' : World} {p : Nat} (h : Below B a w) (hg : w.grownBy w' (some p)) (hB : B ≤ w.heap.size) (hp : B ≤ p) : Below B a w' :=
  h.grown hg hB fun k hk => by simp only [Option.some.injEq] at hk; omega

set_option maxRecDepth 100000 in
set_option maxHeartbeats 2000000 in
theorem works_any (w : World) : Calls Try.prog 9 #[] w fun e w' => e = .returned (.bool true) ∧ Below w.heap.size w w' := by
  go_enter Try.func9, Try.ntmps9
  go_wp2_with fail
  refine (New_any _ [172, 2, 2, 1, 97, 0] _ _ (byts_lit w #[.int .u8 172, .int .u8 2, .int .u8 2, .int .u8 1, .int .u8 97, .int .u8 0] [172, 2, 2, 1, 97, 0] 6 rfl rfl) (by simp)).mono ?_
  rintro e w1 ⟨p, v, rfl, hp, hc1, ho1, hb1⟩
  have hB1 : Below w.heap.size w w1 := ((Below.refl _ w).alloc (Nat.le_refl _) _).trans (hb1.mono (by simp))
  have hpw : w.heap.size ≤ p := by simp at hp; omega
  have hp1 := hc1.lt
  clear hb1 hp
  simp only [World.size_alloc] at ho1
  go_wp2_with fail
  refine (PutUint_any 300 (by decide) _).mono ?_
  rintro e w2 ⟨v2, rfl, ho2, hb2⟩
  have hc2 := hc1.below hb2 hp1
  have hr2 := ho1.below hb2 (Nat.le_refl _)
  have hB2 := hB1.trans (hb2.mono hB1.size)
  go_wp2_with fail
  refine (Equal_any _ _ (Wm.putU 300) [172, 2] _ _ _ (ho2.byts.alloc (Nat.le_refl _) _) (byts_lit w2 #[.int .u8 172, .int .u8 2] [172, 2] 2 rfl rfl)).mono ?_
  rintro e w' ⟨rfl, rfl⟩
  rw [show decide (Wm.putU 300 = [172, 2]) = true from by decide]
  have hc3 := hc2.alloc (.cells #[.int .u8 172, .int .u8 2] 5)
  have hr3 := hr2.alloc (.cells #[.int .u8 172, .int .u8 2] 5)
  have hB3 := hB2.alloc hB2.size (.cells #[.int .u8 172, .int .u8 2] 5)
  clear hc2 hB2 ho2 hb2 hB1 hc1 ho1 hr2
  generalize (w2.alloc (.cells #[.int .u8 172, .int .u8 2] 5)) = w3 at *
  go_wp2_with fail
  refine (PutList_any [⟨#[97]⟩, ⟨#[]⟩] _ _ ((strs_lit w3 #[.string ⟨#[97]⟩, .string ⟨#[]⟩] [⟨#[97]⟩, ⟨#[]⟩] 2 rfl rfl).mono (by simp)) (by decide)).mono ?_
  rintro e w4 ⟨v4, rfl, ho4, hb4⟩
  simp only [World.size_alloc] at ho4 hb4
  have hc4 := (hc3.alloc (.cells #[.string ⟨#[97]⟩, .string ⟨#[]⟩] 9)).below hb4 (by have := hc3.lt; omega)
  have hr4 := (hr3.alloc (.cells #[.string ⟨#[97]⟩, .string ⟨#[]⟩] 9)).below hb4 (by simp)
  have hB4 := (hB3.alloc hB3.size (.cells #[.string ⟨#[97]⟩, .string ⟨#[]⟩] 9)).trans (hb4.mono (by have := hB3.size; omega))
  clear hc3 hr3 hB3 hb4
  go_wp2_with fail
  refine (Equal_any _ _ (Wm.putL (toL [⟨#[97]⟩, ⟨#[]⟩])) [2, 1, 97, 0] _ _ _ (ho4.byts.alloc (Nat.le_refl _) _) (byts_lit w4 #[.int .u8 2, .int .u8 1, .int .u8 97, .int .u8 0] [2, 1, 97, 0] 4 rfl rfl)).mono ?_
  rintro e w' ⟨rfl, rfl⟩
  rw [show decide (Wm.putL (toL [⟨#[97]⟩, ⟨#[]⟩]) = [2, 1, 97, 0]) = true from by decide]
  have hc5 := hc4.alloc (.cells #[.int .u8 2, .int .u8 1, .int .u8 97, .int .u8 0] 5)
  have hr5 := hr4.alloc (.cells #[.int .u8 2, .int .u8 1, .int .u8 97, .int .u8 0] 5)
  have hB5 := hB4.alloc hB4.size (.cells #[.int .u8 2, .int .u8 1, .int .u8 97, .int .u8 0] 5)
  clear hc4 hr4 hB4 ho4
  generalize (w4.alloc (.cells #[.int .u8 2, .int .u8 1, .int .u8 97, .int .u8 0] 5)) = w5 at *
  go_wp2_with fail
  refine (Uint_any p v 0 _ [172, 2, 2, 1, 97, 0] 1000 _ hc5 hr5 (by simp) (by simp)).mono ?_
  rintro e w6 ⟨rfl, hc6, hg6⟩
  have hr6 := hr5.kept hc5 hg6
  have hB6 := below_grow hB5 hg6 hB5.size hpw
  clear hc5 hr5 hB5 hg6
  rw [show askU [172, 2, 2, 1, 97, 0] 0 1000 = (300, 0, 2) from by decide] at hc6 ⊢
  go_wp2_with fail
  refine (List_any p v 2 _ [172, 2, 2, 1, 97, 0] 9 9 _ hc6 hr6 (by simp) (by simp) (by decide) (by decide)).mono ?_
  rintro e w7 ⟨vl, done, rfl, hol, htl, hc7, hg7⟩
  have hr7 := hr6.kept hc6 hg7
  have hB7 := below_grow hB6 hg7 hB6.size hpw
  clear hc6 hr6 hB6 hg7
  rw [show askL [172, 2, 2, 1, 97, 0] 2 9 9 = ([[97], []], 0, 4) from by decide] at hc7 htl ⊢
  have hd : done = [⟨#[97]⟩, ⟨#[]⟩] := toL_inj (htl.trans (by decide))
  subst hd
  go_wp2_with fail
  refine (EqualS_any _ _ [⟨#[97]⟩, ⟨#[]⟩] [⟨#[97]⟩, ⟨#[]⟩] _ _ _ (hol.strs.alloc (Nat.le_refl _) _) (strs_lit w7 #[.string ⟨#[97]⟩, .string ⟨#[]⟩] [⟨#[97]⟩, ⟨#[]⟩] 2 rfl rfl) (by simp)).mono ?_
  rintro e w' ⟨rfl, q, rfl⟩
  rw [decide_eq_true rfl]
  have hc8 := (hc7.alloc (.cells #[.string ⟨#[97]⟩, .string ⟨#[]⟩] 9)).drewN q
  have hr8 := hr7.alloc (.cells #[.string ⟨#[97]⟩, .string ⟨#[]⟩] 9)
  have hB8 := hB7.alloc hB7.size (.cells #[.string ⟨#[97]⟩, .string ⟨#[]⟩] 9)
  replace hB8 : Below w.heap.size w ((w7.alloc (.cells #[.string ⟨#[97]⟩, .string ⟨#[]⟩] 9)).drewN q) := ⟨hB8.os, hB8.tape, hB8.output, hB8.size, hB8.block⟩
  obtain ⟨ad, cp, hv, _⟩ := hr8.byts
  clear hc7 hr7 hB7 hol htl hr8
  generalize ((w7.alloc (.cells #[.string ⟨#[97]⟩, .string ⟨#[]⟩] 9)).drewN q) = w8 at *
  subst hv
  go_wp2_with fail
  refine (At_any p _ 6 _ hc8).mono ?_
  rintro e w' ⟨rfl, rfl⟩
  go_wp2_with fail
  refine (Left_any p ad 6 cp 6 _ hc8 (by decide) (by decide)).mono ?_
  rintro e w' ⟨rfl, q2, rfl⟩
  go_wp2
  go_ret
  exact ⟨rfl, ⟨hB8.os, hB8.tape, hB8.output, hB8.size, hB8.block⟩⟩
end Go.Proofs.Ytoablejghckaeaa
