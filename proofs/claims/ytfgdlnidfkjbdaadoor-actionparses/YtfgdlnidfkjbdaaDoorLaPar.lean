/-
  ActionParses' walk.
-/
import Derived.Test.YtfgdlnidfkjbdaaDoorLaParK
import Derived.Test.YtfgdlnidfkjbdaaDoorLaCut
import Derived.Test.YtfgdlnidfkjbdaaDoorASame
namespace Go.Proofs.YtfgdlnidfkjbdaaDoor
open Go.RowKit

def Ac.foOf : Lx.R (Int × Nat) Ac.Fo → Ac.Fo
  | .bad _ => .nil
  | .ok t => t
def Ac.spOf : Lx.R (Int × Nat) Ac.Fo → Int × Nat
  | .bad x => x
  | .ok _ => (0, 0)
theorem ps_one {w : World} {base : Nat} {e : Ending} : ∀ {r : Lx.R (Int × Nat) Ac.Fo}, PsEnd w base e r → ∃ va vc, e = .returned (.tuple #[.slice va (Ac.foOf r).len vc, .agg #[.int .i64 (Ac.spOf r).1, .int .i64 ((Ac.spOf r).2 : Int)]]) ∧ FoNew w base (.slice va (Ac.foOf r).len vc) (Ac.foOf r)
  | .bad x, h => ⟨none, 0, h, FoNew.nil _ _⟩
  | .ok t, ⟨va, vn, vc, he, hN⟩ => by
    obtain ⟨ad', c', e2, -⟩ := hN.foS.shape
    simp only [Value.slice.injEq] at e2
    obtain ⟨rfl, rfl, rfl⟩ := e2
    exact ⟨va, vc, he, hN⟩
theorem fo_small {ls : List (List (List UInt8))} (hF : Fit ls) : Ac.size (Ac.foOf (Ac.parse ls)) ≤ 256 ∧ Ac.nar 1099511627 (Ac.foOf (Ac.parse ls)) := by
  cases hp : Ac.parse ls with
  | bad x => exact ⟨by simp [Ac.foOf, Ac.size], trivial⟩
  | ok t => exact ⟨(Ac.may_iff.1 (Ac.parse_ok hp).1).2.1, parse_nar hp hF⟩

set_option maxRecDepth 100000 in
set_option maxHeartbeats 2000000 in
theorem parses_walk (hC : StmtC) (v : Value) (ls : List (List (List UInt8))) (w : World) (hL : Laid w) (hv : LiS w w.heap.size v ls) (hz : Sized ls) :
    Calls Tryd.prog 3 #[v] w fun e w' => e = .returned (.bool true) ∧ Below w.heap.size w w' := by
  have hW := works_any w hL
  have hWd := fun W (h : Below w.heap.size w W) => wide_any v ls w.heap.size W (hv.below h (Nat.le_refl _)) hz
  obtain ⟨ad, c, rfl, hle⟩ := hv.shape
  by_cases hbig : 262144 ≤ Ac.bulk ls
  · rw [decide_eq_true hbig] at hWd
    go_enter Tryd.func3, Tryd.ntmps3
    go_wp2_with (first
      | (go_at_call 9; refine hW.mono ?_; rintro e w1 ⟨rfl, hb1⟩)
      | (go_at_call 10; refine (hWd _ hb1).mono ?_; rintro e w2 ⟨rfl, rfl⟩)
      | fail)
    go_ret
    exact ⟨rfl, hb1⟩
  · rw [decide_eq_false hbig] at hWd
    have hF : Fit ls := fit_bulk (by omega)
    have hP1 := fun W (h : Below w.heap.size w W) => (Parse_any (.slice ad ls.length c) ls w.heap.size W (hL.below h hL.size) (hv.below h (Nat.le_refl _)) h.size hF).mono fun e w' h => (⟨ps_one h.1, h.2⟩ : _ ∧ _)
    have hR1 := fun W (h : Below w.heap.size w W) => (RefParse_any hC (.slice ad ls.length c) ls w.heap.size W (hv.below h (Nat.le_refl _)) h.size hF).mono fun e w' h => (⟨ps_one h.1, h.2⟩ : _ ∧ _)
    obtain ⟨hsz, hnr⟩ := fo_small hF
    obtain ⟨F, hFo⟩ : ∃ F, Ac.foOf (Ac.parse ls) = F := ⟨_, rfl⟩
    obtain ⟨e1, j1, hsp⟩ : ∃ e1 j1, Ac.spOf (Ac.parse ls) = (e1, j1) := ⟨_, _, rfl⟩
    rw [hFo, hsp] at hP1 hR1
    rw [hFo] at hsz hnr
    simp only [] at hP1 hR1
    have hFl := Ac.len_size F
    have lb : (F.len : Int) ≤ 256 := by omega
    clear hz hbig hFo hsp
    go_enter Tryd.func3, Tryd.ntmps3
    go_upto_region 5 with (first
      | (go_at_call 9; refine hW.mono ?_; rintro e w1 ⟨rfl, hb1⟩)
      | (go_at_call 10; refine (hWd _ hb1).mono ?_; rintro e w2 ⟨rfl, hw2⟩; rw [hw2]; clear hw2)
      | fail)
    clear hW hWd
    go_upto_region 6 with (first | (go_at_call 11; refine (hP1 _ hb1).mono ?_; rintro e w3 ⟨⟨va, vc, rfl, hN3⟩, hb3⟩) | fail)
    have r3 := Rw.new w3 #[.int .i64 e1, .int .i64 (j1 : Int)] 28
    have ha3 := (Below.refl w3.heap.size w3).alloc (Nat.le_refl _) (.cells #[.int .i64 e1, .int .i64 (j1 : Int)] 28)
    have hw3 := hb1.trans (hb3.mono hb1.size)
    have hV1 := hw3.trans (ha3.mono hw3.size)
    generalize w3.alloc (.cells #[.int .i64 e1, .int .i64 (j1 : Int)] 28) = V1 at r3 ha3 hV1 ⊢
    go_upto_region 7 with (first | (go_at_call 12; refine (hR1 _ hV1).mono ?_; rintro e w4 ⟨⟨vb, vd, rfl, hN4⟩, hb4⟩) | fail)
    have r4 := Rw.new w4 #[.int .i64 e1, .int .i64 (j1 : Int)] 28
    have ha4 := (Below.refl w4.heap.size w4).alloc (Nat.le_refl _) (.cells #[.int .i64 e1, .int .i64 (j1 : Int)] 28)
    have h14 := hb4.trans (ha4.mono hb4.size)
    have h34 := ha3.trans (h14.mono ha3.size)
    have hV2 := hV1.trans (h14.mono hV1.size)
    have hN2 := hN4.turn (Turn.of_below ha4) (by simp)
    have hz4 : V1.heap.size ≤ w4.heap.size := hb4.size
    have r3b := r3.below h14 r3.lt
    have hSa : FoS _ _ _ F := (hN3.foS.below h34 (Nat.le_refl _)).mono h34.size
    generalize w4.alloc (.cells #[.int .i64 e1, .int .i64 (j1 : Int)] 28) = V2 at r4 ha4 h14 h34 hV2 hN2 r3b hSa ⊢
    have hSm := SameT_any F F (.slice va F.len vc) (.slice vb F.len vd) V2 V2.heap.size hSa hN2.foS (Nat.le_refl _) (by omega) hnr
    simp only [decide_true] at hSm
    have a0 : ∀ W, Below V2.heap.size V2 W → W.cell? ⟨w3.heap.size, 0, none⟩ = some (.int .i64 e1) ∧ W.cell? ⟨w3.heap.size, 1, none⟩ = some (.int .i64 (j1 : Int)) := fun W h => ⟨(r3b.below h r3b.lt).cell 0, (r3b.below h r3b.lt).cell 1⟩
    have b0 : ∀ W, Below V2.heap.size V2 W → W.cell? ⟨w4.heap.size, 0, none⟩ = some (.int .i64 e1) ∧ W.cell? ⟨w4.heap.size, 1, none⟩ = some (.int .i64 (j1 : Int)) := fun W h => ⟨(r4.below h r4.lt).cell 0, (r4.below h r4.lt).cell 1⟩
    go_upto_region 9 with (first | (go_at_call 13; refine hSm.mono ?_; rintro e w5 ⟨rfl, hb5⟩; have q3 := a0 _ hb5; have q4 := b0 _ hb5; obtain ⟨q3a, q3b⟩ := q3; obtain ⟨q4a, q4b⟩ := q4) | fail)
    have hN5 := hN2.turn (Turn.of_below hb5) (by simp)
    have h35 := h34.trans (hb5.mono h34.size)
    have hw5 := hV2.trans (hb5.mono hV2.size)
    have r5 := r4.below hb5 r4.lt
    have hWs := WipeS.start (Bb := V1.heap.size) hN3 h35 ha3.size
    have hlow := hb1.size
    clear q3a q3b q4a q4b a0 b0 hSm hSa r3b r3 hN2 hN4 r4 hN3
    go_wp2
    go_loopw [7] (fun t W => ∃ i : Nat, i ≤ F.len ∧ t = .int .i64 (i : Int) ∧ Hid ((F.len = 0 ∧ W = w5) ∨ ∃ ga rs, va = some ⟨ga, 0, none⟩ ∧ rs.length = F.len ∧ WipeS w5 w1.heap.size V1.heap.size ga rs i W)) (fun t _ => F.len - (intOf t).toNat)
    case atStart => exact ⟨0, Nat.zero_le _, rfl, hWs.elim (fun h => .inl ⟨h, rfl⟩) .inr⟩
    case round =>
      clear hWs
      obtain ⟨i, hi, rfl, HI⟩ := hrel
      by_cases hlt : i < F.len
      · have i1 : (i : Int) < (F.len : Int) := by omega
        obtain ⟨ga, rs, rfl, hrl, hWp⟩ : ∃ ga rs, va = some ⟨ga, 0, none⟩ ∧ rs.length = F.len ∧ WipeS w5 w1.heap.size V1.heap.size ga rs i wr := by
          rcases HI.out with h | h
          · omega
          · exact h
        have hil : i < rs.length := by omega
        have HRL : Hid _ := hrl
        clear HI hrl
        obtain ⟨r, hr⟩ : ∃ r, rs[i] = r := ⟨_, rfl⟩
        have hmem : r ∈ rs := by rw [← hr]; exact List.getElem_mem hil
        have hp1 : ∀ W, WipeS w5 w1.heap.size V1.heap.size ga rs i W → W.cell? ⟨ga, i * 4 + 1, none⟩ = some (.slice r.aa r.an r.ac) := fun W h => by
          have := (h.zero hil (.int .i64 0) (.int .i64 0) (.int .i64 0) (.int .i64 0)).1
          obtain ⟨u0, u2, u3, -, h1, -⟩ := this
          rw [hr] at h1
          exact h1
        have hfw : (r.an : Int) ≤ 9223372036854775807 := by have := hWp.few r hmem; unfold maxLen at this; omega
        have HIL : Hid (i < rs.length) := hil
        clear hr hil
        go_wp2
        generalize wr = wo at *
        go_loopw [8] (fun t W => ∃ k : Nat, k ≤ r.an ∧ t = .int .i64 (k : Int) ∧ WipeS w5 w1.heap.size V1.heap.size ga rs i W) (fun t _ => r.an - (intOf t).toNat)
        case atStart => exact ⟨0, Nat.zero_le _, rfl, hWp⟩
        case round =>
          clear hWp
          obtain ⟨k, hk, rfl, hWk⟩ := hrel
          have p1 := hp1 _ hWk
          by_cases hkl : k < r.an
          · have k1 : (k : Int) < (r.an : Int) := by omega
            obtain ⟨g, u, ea, q1, q2, hW2⟩ := hWk.arg hmem hkl (.string ⟨#[103, 111, 110, 101]⟩)
            rw [ea] at p1
            obtain ⟨an, han⟩ : ∃ an, r.an = an := ⟨_, rfl⟩
            rw [han] at p1 k1 hfw
            go_wp2
            refine ⟨⟨k + 1, by omega, by go_num, hW2⟩, by simp [intOf]; omega⟩
          · obtain rfl : k = r.an := by omega
            have k1 : ¬ (r.an : Int) < (r.an : Int) := by omega
            obtain ⟨⟨u0, u2, u3, c0, c1, c2, c3⟩, hfz, hW2⟩ := hWk.zero HIL.out (.int .i64 0) (.slice none 0 0) (.int .i64 0) (.slice none 0 0)
            have f0 := hfz (i * 4)
            have f1 := hfz (i * 4 + 1)
            have f2 := hfz (i * 4 + 2)
            have f3 := hfz (i * 4 + 3)
            clear hfz c1
            go_wp2
            exact ⟨⟨i + 1, by omega, by go_num, .inr ⟨ga, rs, rfl, HRL.out, hW2⟩⟩, by simp [intOf]; omega⟩
      · obtain rfl : i = F.len := by omega
        have i1 : ¬ (F.len : Int) < (F.len : Int) := by omega
        obtain ⟨hbW, hFb, rt⟩ : Below w.heap.size w wr ∧ FoS wr wr.heap.size (.slice vb F.len vd) F ∧ Rw wr w4.heap.size #[.int .i64 e1, .int .i64 (j1 : Int)] 28 := by
          rcases HI.out with ⟨-, rfl⟩ | ⟨ga, rs, -, -, h⟩
          · exact ⟨hw5, hN5.foS, r5⟩
          · exact ⟨h.lower hw5 hlow, h.foP hN5, h.rw r5 hz4⟩
        clear HI hN5 r5 h35
        go_upto_region 18 with (first | (go_at_call 11; refine (hP1 _ hbW).mono ?_; rintro e w8 ⟨⟨xa, xc, rfl, hN8⟩, hb8⟩) | fail)
        have r8 := Rw.new w8 #[.int .i64 e1, .int .i64 (j1 : Int)] 28
        have ha8 := (Below.refl w8.heap.size w8).alloc (Nat.le_refl _) (.cells #[.int .i64 e1, .int .i64 (j1 : Int)] 28)
        have h89 := hb8.trans (ha8.mono hb8.size)
        have hw8 := hbW.trans (h89.mono hbW.size)
        have rt8 := rt.below h89 rt.lt
        have hSc : FoS _ _ _ F := (hN8.foS.below ha8 (Nat.le_refl _)).mono ha8.size
        have hSb : FoS _ _ _ F := (hFb.below h89 (Nat.le_refl _)).mono h89.size
        generalize w8.alloc (.cells #[.int .i64 e1, .int .i64 (j1 : Int)] 28) = V3 at r8 ha8 h89 hw8 rt8 hSc hSb ⊢
        have hSm := SameT_any F F (.slice xa F.len xc) (.slice vb F.len vd) V3 V3.heap.size hSc hSb (Nat.le_refl _) (by omega) hnr
        simp only [decide_true] at hSm
        have a0 : ∀ W, Below V3.heap.size V3 W → W.cell? ⟨w8.heap.size, 0, none⟩ = some (.int .i64 e1) ∧ W.cell? ⟨w8.heap.size, 1, none⟩ = some (.int .i64 (j1 : Int)) := fun W h => ⟨(r8.below h r8.lt).cell 0, (r8.below h r8.lt).cell 1⟩
        have b0 : ∀ W, Below V3.heap.size V3 W → W.cell? ⟨w4.heap.size, 0, none⟩ = some (.int .i64 e1) ∧ W.cell? ⟨w4.heap.size, 1, none⟩ = some (.int .i64 (j1 : Int)) := fun W h => ⟨(rt8.below h rt8.lt).cell 0, (rt8.below h rt8.lt).cell 1⟩
        go_wp2_with (first | (go_at_call 13; refine hSm.mono ?_; rintro e w9 ⟨rfl, hb9⟩; have q3 := a0 _ hb9; have q4 := b0 _ hb9; obtain ⟨q3a, q3b⟩ := q3; obtain ⟨q4a, q4b⟩ := q4) | fail)
        go_ret
        exact ⟨by simp, hw8.trans (hb9.mono hw8.size)⟩

end Go.Proofs.YtfgdlnidfkjbdaaDoor
