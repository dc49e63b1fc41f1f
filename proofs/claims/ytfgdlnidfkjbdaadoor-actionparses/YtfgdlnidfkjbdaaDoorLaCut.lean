/-
  ActionCut's walk.
-/
import Derived.Test.YtfgdlnidfkjbdaaDoorAWide
import Derived.Test.YtfgdlnidfkjbdaaDoorASameL
namespace Go.Proofs.YtfgdlnidfkjbdaaDoor
open Go.RowKit

theorem FoRow.take {w : World} {B : Nat} : ∀ {f : Ac.Fo} {rs : List RawS} (k : Nat), FoRow w B f rs → FoRow w B (f.take k) (rs.take k)
  | .nil, rs, k, h => by
    rw [show _ = _ from h]
    cases k <;> simp [Ac.Fo.take, FoRow]
  | .cons _ _ _ _ t, _, 0, _ => by simp [Ac.Fo.take, FoRow]
  | .cons _ _ _ _ t, _, k + 1, ⟨r, rs', h1, h2, h3, h4, h5, h7⟩ => by
    rw [h1, List.take_succ_cons]
    exact ⟨r, rs'.take k, rfl, h2, h3, h4, h5, FoRow.take k h7⟩
theorem FoS.head {w : World} {B : Nat} {ad : Option Addr} {n c : Nat} {f : Ac.Fo} (h : FoS w B (.slice ad n c) f) (k : Nat) (hk : k ≤ f.len) : FoS w B (.slice ad k c) (f.take k) := by
  obtain ⟨rs, h1, h2⟩ := h
  exact ⟨rs.take k, h1.head k (by rw [h2.len]; exact hk), h2.take k⟩
theorem LiRow.take {w : World} {B : Nat} : ∀ {l : List (List (List UInt8))} {rs : List RawT} (k : Nat), LiRow w B l rs → LiRow w B (l.take k) (rs.take k)
  | [], rs, k, h => by
    rw [show _ = _ from h]
    simp [LiRow]
  | _ :: _, _, 0, _ => by simp [LiRow]
  | _ :: _, _, k + 1, ⟨r, rs', h1, h2, h3⟩ => by
    rw [h1, List.take_succ_cons, List.take_succ_cons]
    exact ⟨r, rs'.take k, rfl, h2, LiRow.take k h3⟩
theorem LiS.head {w : World} {B : Nat} {ad : Option Addr} {n c : Nat} {l : List (List (List UInt8))} (h : LiS w B (.slice ad n c) l) (k : Nat) (hk : k ≤ l.length) : LiS w B (.slice ad k c) (l.take k) := by
  obtain ⟨rs, h1, h2⟩ := h
  exact ⟨rs.take k, h1.head k (by rw [h2.len]; exact hk), h2.take k⟩
theorem Fit.take {ls : List (List (List UInt8))} (h : Fit ls) (k : Nat) : Fit (ls.take k) :=
  ⟨Nat.le_trans (List.length_take_le' _ _) h.1, fun l hl => h.2.1 l (List.mem_of_mem_take hl), fun l hl => h.2.2 l (List.mem_of_mem_take hl)⟩
theorem tmod_le (c : Int) (n : Nat) : -(n : Int) ≤ c.tmod ((n : Int) + 1) ∧ c.tmod ((n : Int) + 1) ≤ n := by
  have h1 := Int.tmod_lt_of_pos c (b := (n : Int) + 1) (by omega)
  have h2 := Int.tmod_lt_of_pos (-c) (b := (n : Int) + 1) (by omega)
  rw [Int.neg_tmod] at h2
  omega
theorem Ac.may_ht {f : Ac.Fo} (h : Ac.may f = true) : Ac.ht f ≤ 65536 ∧ Ac.size f ≤ 1099511627 := by
  have := (Ac.may_iff.1 h).2.1
  have := Ac.ht_size f
  omega
theorem Ac.all_nar : ∀ (f : Ac.Fo) {N : Nat}, (∀ l ∈ Ac.all f, l.length ≤ N) → (Ac.one f = true) → Ac.nar N f
  | .nil, _, _, _ => trivial
  | .cons op a n b t, N, h, ho => by
    simp only [Ac.one, Bool.and_eq_true] at ho
    obtain ⟨⟨⟨k1, k2⟩, k3⟩, k4⟩ := ho
    have h1 := h (Ac.lineOf op a n) (by rw [Ac.all]; simp)
    refine ⟨by rw [Ac.lineOf, List.length_cons, List.length_append] at h1; omega, ?_, Ac.all_nar t (fun l hl => h l (by rw [Ac.all]; simp [hl])) k4⟩
    by_cases hop : Ac.opens op = true
    · exact Ac.all_nar b (fun l hl => h l (by rw [Ac.all, if_pos hop]; simp [hl])) k3
    · have hb : b = .nil := by
        rcases (by simpa using k2 : Ac.opens op = true ∨ b = .nil) with h | h
        · exact absurd h hop
        · exact h
      subst hb
      trivial
theorem parse_nar {ls : List (List (List UInt8))} {f : Ac.Fo} (h : Ac.parse ls = .ok f) (hF : Fit ls) : Ac.nar 1099511627 f := by
  obtain ⟨h1, h2⟩ := Ac.parse_ok h
  refine Ac.all_nar f (fun l hl => ?_) (Ac.may_iff.1 h1).1
  rw [h2] at hl
  have := hF.2.1 l hl
  omega
theorem parse_err {ls : List (List (List UInt8))} {e : Int} {j : Nat} (h : Ac.parse ls = .bad (e, j)) : ¬ e = 0 := by
  unfold Ac.parse at h
  cases hc : Ac.chk 0 0 0 ls with
  | none => rw [hc] at h; cases h
  | some x =>
    rw [hc] at h
    cases h
    exact Ac.chk_err hc

set_option maxRecDepth 100000 in
set_option maxHeartbeats 1000000 in
theorem cut_walk (v : Value) (ls : List (List (List UInt8))) (B : Nat) (cut : Int) (w : World) (hL : Laid w) (hv : LiS w B v ls) (hB : B ≤ w.heap.size) (hz : Sized ls) (_ : -9223372036854775808 ≤ cut) (_ : cut ≤ 9223372036854775807) :
    Calls Tryd.prog 7 #[v, .int .i64 cut] w fun e w' => e = .returned (.bool true) ∧ Below w.heap.size w w' := by
  have hW := works_any w hL
  have hWd := fun W (h : Below w.heap.size w W) => wide_any v ls B W (hv.below h hB) hz
  obtain ⟨ad, c, rfl, hle⟩ := hv.shape
  by_cases hbig : 262144 ≤ Ac.bulk ls
  · rw [decide_eq_true hbig] at hWd
    go_enter Tryd.func7, Tryd.ntmps7
    go_wp2_with (first
      | (go_at_call 9; refine hW.mono ?_; rintro e w1 ⟨rfl, hb1⟩)
      | (go_at_call 10; refine (hWd _ hb1).mono ?_; rintro e w2 ⟨rfl, rfl⟩)
      | fail)
    go_ret
    exact ⟨rfl, hb1⟩
  · rw [decide_eq_false hbig] at hWd
    have hF : Fit ls := fit_bulk (by omega)
    have hln : ls.length ≤ 262144 := by have := Ac.bulk_len ls; omega
    have lb : (ls.length : Int) ≤ 262144 := by omega
    have tm := tmod_le cut ls.length
    clear hbig hz
    go_enter Tryd.func7, Tryd.ntmps7
    go_upto_if 20 with (first
      | (go_at_call 9; refine hW.mono ?_; rintro e w1 ⟨rfl, hb1⟩)
      | (go_at_call 10; refine (hWd _ hb1).mono ?_; rintro e w2 ⟨rfl, rfl⟩)
      | fail)
    go_cut [5] (fun k5 w' => ∃ k : Nat, k ≤ ls.length ∧ k5 = .int .i64 (k : Int) ∧ Below w.heap.size w w')
    case first =>
      by_cases hneg : cut.tmod ((ls.length : Int) + 1) < 0
      · obtain ⟨q, hq⟩ : ∃ q, cut.tmod ((ls.length : Int) + 1) = q := ⟨_, rfl⟩
        rw [hq] at tm hneg ⊢
        have q1 : -262144 ≤ q := by omega
        have q2 : q ≤ 262144 := by omega
        have HQ : Hid (q + ((ls.length : Int) + 1) = ((q + ((ls.length : Int) + 1)).toNat : Int)) := by show _ = _; omega
        clear hq
        go_wp2
        go_meet
        case rel => exact ⟨(q + ((ls.length : Int) + 1)).toNat, by omega, by first | rw [← HQ.out] | (rw [HQ.out]) , hb1⟩
      · obtain ⟨q, hq⟩ : ∃ q, cut.tmod ((ls.length : Int) + 1) = q := ⟨_, rfl⟩
        rw [hq] at tm hneg ⊢
        have HQ : Hid (q = (q.toNat : Int)) := by show _ = _; omega
        clear hq
        go_wp2
        go_meet
        case rel => exact ⟨q.toNat, by omega, by rw [← HQ.out], hb1⟩
    case rest =>
      obtain ⟨k, hk, rfl, hbw⟩ := hcut
      have hP1 := fun W (h : Below w.heap.size w W) => Parse_any (.slice ad ls.length c) ls B W (hL.below h hL.size) (hv.below h hB) (by have := h.size; omega) hF
      have hP2 := fun W (h : Below w.heap.size w W) => Parse_any (.slice ad k c) (ls.take k) B W (hL.below h hL.size) ((hv.head k hk).below h hB) (by have := h.size; omega) (hF.take k)
      obtain ⟨hA, hO⟩ := Ac.parse_cut (ls.take k) (ls.drop k)
      rw [List.take_append_drop, List.length_take, Nat.min_eq_left hk] at hA
      rw [List.take_append_drop, List.length_take, Nat.min_eq_left hk] at hO
      have hsl1 : ∀ W : World, (Instr.slice 22 (.slice ad ls.length c) none (some (.int .i64 (k : Int))) none).run Tryd.prog W = .ok (.slice ad k c) W := fun W => LiR.slice_head W ad ls.length c k (by omega)
      have kb : (k : Int) ≤ 262144 := by omega
      clear tm hW hWd
      cases hp1 : Ac.parse ls with
      | bad x =>
        obtain ⟨e1, j1⟩ := x
        have ne1 := parse_err hp1
        rw [hp1] at hP1
        have n1 : (e1 == 0) = false := by rw [beq_eq_false_iff_ne]; exact ne1
        have hA1 := hA e1 j1 hp1
        have hP1' : ∀ W, Below w.heap.size w W → Calls Tryd.prog 11 #[.slice ad ls.length c] W fun e w' => e = .returned (.tuple #[.slice none 0 0, .agg #[.int .i64 e1, .int .i64 (j1 : Int)]]) ∧ Below W.heap.size W w' := hP1
        clear hP1 hA hO ne1
        by_cases hkj : k ≤ j1
        · have kj : (k : Int) ≤ (j1 : Int) := by omega
          cases hp2 : Ac.parse (ls.take k) with
          | bad y =>
            obtain ⟨e2, j2⟩ := y
            rw [hp2] at hP2
            have hP2' : ∀ W, Below w.heap.size w W → Calls Tryd.prog 11 #[.slice ad k c] W fun e w' => e = .returned (.tuple #[.slice none 0 0, .agg #[.int .i64 e2, .int .i64 (j2 : Int)]]) ∧ Below W.heap.size W w' := hP2
            clear hP2 hp1 hp2 hA1 hkj
            go_upto_region 9 with (first | (go_at_call 11; refine (hP1' _ hbw).mono ?_; rintro e w3 ⟨rfl, hb3⟩) | fail)
            have r7 := Rw.new w3 #[.int .i64 e1, .int .i64 (j1 : Int)] 28
            have hbv := (hbw.trans (hb3.mono hbw.size)).alloc (hbw.trans (hb3.mono hbw.size)).size (.cells #[.int .i64 e1, .int .i64 (j1 : Int)] 28)
            generalize w3.alloc (.cells #[.int .i64 e1, .int .i64 (j1 : Int)] 28) = V1 at *
            go_upto_region 10 with (first | (go_at_call 11; refine (hP2' _ hbv).mono ?_; rintro e w4 ⟨rfl, hb4⟩) | fail)
            have r9 := Rw.new w4 #[.int .i64 e2, .int .i64 (j2 : Int)] 28
            have hb5 := hbv.trans (hb4.mono hbv.size)
            have hbf := hb5.alloc hb5.size (.cells #[.int .i64 e2, .int .i64 (j2 : Int)] 28)
            have r7' := (r7.below hb4 r7.lt).alloc (.cells #[.int .i64 e2, .int .i64 (j2 : Int)] 28)
            generalize w4.alloc (.cells #[.int .i64 e2, .int .i64 (j2 : Int)] 28) = V2 at *
            have a0 : V2.cell? ⟨w3.heap.size, 0, none⟩ = some (.int .i64 e1) := r7'.cell 0
            have a1 : V2.cell? ⟨w3.heap.size, 1, none⟩ = some (.int .i64 (j1 : Int)) := r7'.cell 1
            have b0 : V2.cell? ⟨w4.heap.size, 0, none⟩ = some (.int .i64 e2) := r9.cell 0
            have b1 : V2.cell? ⟨w4.heap.size, 1, none⟩ = some (.int .i64 (j2 : Int)) := r9.cell 1
            go_wp2
            go_ret
            exact ⟨rfl, hbf⟩
          | ok f2 =>
            rw [hp2] at hP2
            have hP2' : ∀ W, Below w.heap.size w W → Calls Tryd.prog 11 #[.slice ad k c] W fun e w' => (∃ va vc, e = .returned (.tuple #[.slice va f2.len vc, .agg #[.int .i64 0, .int .i64 0]]) ∧ FoS w' w'.heap.size (.slice va f2.len vc) f2) ∧ Below W.heap.size W w' := by
              intro W h
              refine (hP2 W h).mono ?_
              rintro e w' ⟨⟨va, vn, vc, rfl, hN⟩, hb⟩
              obtain ⟨ad', c', he, -⟩ := hN.foS.shape
              simp only [Value.slice.injEq] at he
              obtain ⟨rfl, rfl, rfl⟩ := he
              exact ⟨⟨va, vc, rfl, hN.foS⟩, hb⟩
            clear hP2 hp1 hp2 hA1 hkj
            go_upto_region 9 with (first | (go_at_call 11; refine (hP1' _ hbw).mono ?_; rintro e w3 ⟨rfl, hb3⟩) | fail)
            have r7 := Rw.new w3 #[.int .i64 e1, .int .i64 (j1 : Int)] 28
            have hbv := (hbw.trans (hb3.mono hbw.size)).alloc (hbw.trans (hb3.mono hbw.size)).size (.cells #[.int .i64 e1, .int .i64 (j1 : Int)] 28)
            generalize w3.alloc (.cells #[.int .i64 e1, .int .i64 (j1 : Int)] 28) = V1 at *
            go_upto_region 10 with (first | (go_at_call 11; refine (hP2' _ hbv).mono ?_; rintro e w4 ⟨⟨vb, vd, rfl, hf4⟩, hb4⟩) | fail)
            have r9 := Rw.new w4 #[.int .i64 0, .int .i64 0] 28
            have hb5 := hbv.trans (hb4.mono hbv.size)
            have hbf := hb5.alloc hb5.size (.cells #[.int .i64 0, .int .i64 0] 28)
            have r7' := (r7.below hb4 r7.lt).alloc (.cells #[.int .i64 0, .int .i64 0] 28)
            have hf4' := (hf4.below ((Below.refl w4.heap.size w4).alloc (Nat.le_refl _) (.cells #[.int .i64 0, .int .i64 0] 28)) (Nat.le_refl _))
            generalize w4.alloc (.cells #[.int .i64 0, .int .i64 0] 28) = V2 at *
            have a0 : V2.cell? ⟨w3.heap.size, 0, none⟩ = some (.int .i64 e1) := r7'.cell 0
            have a1 : V2.cell? ⟨w3.heap.size, 1, none⟩ = some (.int .i64 (j1 : Int)) := r7'.cell 1
            have b0 : V2.cell? ⟨w4.heap.size, 0, none⟩ = some (.int .i64 0) := r9.cell 0
            have b1 : V2.cell? ⟨w4.heap.size, 1, none⟩ = some (.int .i64 0) := r9.cell 1
            go_wp2
            go_ret
            exact ⟨rfl, hbf⟩
        · have kj : ¬ (k : Int) ≤ (j1 : Int) := by omega
          have hp2 := hA1.resolve_left hkj
          rw [hp2] at hP2
          have hP2' : ∀ W, Below w.heap.size w W → Calls Tryd.prog 11 #[.slice ad k c] W fun e w' => e = .returned (.tuple #[.slice none 0 0, .agg #[.int .i64 e1, .int .i64 (j1 : Int)]]) ∧ Below W.heap.size W w' := hP2
          clear hP2 hp1 hp2 hA1 hkj
          go_upto_region 9 with (first | (go_at_call 11; refine (hP1' _ hbw).mono ?_; rintro e w3 ⟨rfl, hb3⟩) | fail)
          have r7 := Rw.new w3 #[.int .i64 e1, .int .i64 (j1 : Int)] 28
          have hbv := (hbw.trans (hb3.mono hbw.size)).alloc (hbw.trans (hb3.mono hbw.size)).size (.cells #[.int .i64 e1, .int .i64 (j1 : Int)] 28)
          generalize w3.alloc (.cells #[.int .i64 e1, .int .i64 (j1 : Int)] 28) = V1 at *
          go_upto_region 10 with (first | (go_at_call 11; refine (hP2' _ hbv).mono ?_; rintro e w4 ⟨rfl, hb4⟩) | fail)
          have r9 := Rw.new w4 #[.int .i64 e1, .int .i64 (j1 : Int)] 28
          have hb5 := hbv.trans (hb4.mono hbv.size)
          have hbf := hb5.alloc hb5.size (.cells #[.int .i64 e1, .int .i64 (j1 : Int)] 28)
          have r7' := (r7.below hb4 r7.lt).alloc (.cells #[.int .i64 e1, .int .i64 (j1 : Int)] 28)
          generalize w4.alloc (.cells #[.int .i64 e1, .int .i64 (j1 : Int)] 28) = V2 at *
          have a0 : V2.cell? ⟨w3.heap.size, 0, none⟩ = some (.int .i64 e1) := r7'.cell 0
          have a1 : V2.cell? ⟨w3.heap.size, 1, none⟩ = some (.int .i64 (j1 : Int)) := r7'.cell 1
          have b0 : V2.cell? ⟨w4.heap.size, 0, none⟩ = some (.int .i64 e1) := r9.cell 0
          have b1 : V2.cell? ⟨w4.heap.size, 1, none⟩ = some (.int .i64 (j1 : Int)) := r9.cell 1
          go_wp2
          go_ret
          exact ⟨rfl, hbf⟩
      | ok f1 =>
        rw [hp1] at hP1
        have hO1 := hO f1 hp1
        have hP1' : ∀ W, Below w.heap.size w W → Calls Tryd.prog 11 #[.slice ad ls.length c] W fun e w' => (∃ va vc, e = .returned (.tuple #[.slice va f1.len vc, .agg #[.int .i64 0, .int .i64 0]]) ∧ FoS w' w'.heap.size (.slice va f1.len vc) f1) ∧ Below W.heap.size W w' := by
          intro W h
          refine (hP1 W h).mono ?_
          rintro e w' ⟨⟨va, vn, vc, rfl, hN⟩, hb⟩
          obtain ⟨ad', c', he, -⟩ := hN.foS.shape
          simp only [Value.slice.injEq] at he
          obtain ⟨rfl, rfl, rfl⟩ := he
          exact ⟨⟨va, vc, rfl, hN.foS⟩, hb⟩
        clear hP1 hA hO
        rcases hO1 with hp2 | ⟨f2, g, hp2, hfg⟩
        · rw [hp2] at hP2
          have hP2' : ∀ W, Below w.heap.size w W → Calls Tryd.prog 11 #[.slice ad k c] W fun e w' => e = .returned (.tuple #[.slice none 0 0, .agg #[.int .i64 131, .int .i64 (k : Int)]]) ∧ Below W.heap.size W w' := hP2
          clear hP2 hp1 hp2
          go_upto_region 9 with (first | (go_at_call 11; refine (hP1' _ hbw).mono ?_; rintro e w3 ⟨⟨va, vc, rfl, hf3⟩, hb3⟩) | fail)
          have r7 := Rw.new w3 #[.int .i64 0, .int .i64 0] 28
          have hbv := (hbw.trans (hb3.mono hbw.size)).alloc (hbw.trans (hb3.mono hbw.size)).size (.cells #[.int .i64 0, .int .i64 0] 28)
          have hf3' := (hf3.below ((Below.refl w3.heap.size w3).alloc (Nat.le_refl _) (.cells #[.int .i64 0, .int .i64 0] 28)) (Nat.le_refl _))
          generalize w3.alloc (.cells #[.int .i64 0, .int .i64 0] 28) = V1 at *
          go_upto_region 10 with (first | (go_at_call 11; refine (hP2' _ hbv).mono ?_; rintro e w4 ⟨rfl, hb4⟩) | fail)
          have r9 := Rw.new w4 #[.int .i64 131, .int .i64 (k : Int)] 28
          have hb5 := hbv.trans (hb4.mono hbv.size)
          have hbf := hb5.alloc hb5.size (.cells #[.int .i64 131, .int .i64 (k : Int)] 28)
          have r7' := (r7.below hb4 r7.lt).alloc (.cells #[.int .i64 131, .int .i64 (k : Int)] 28)
          have hf3b := (hf3'.below hb4 (Nat.le_of_lt r7.lt)).below ((Below.refl w4.heap.size w4).alloc (Nat.le_refl _) (.cells #[.int .i64 131, .int .i64 (k : Int)] 28)) (by have := hb4.size; have := r7.lt; omega)
          have hzz : w3.heap.size ≤ w4.heap.size := by have := hb4.size; have := r7.lt; omega
          have hz5 := size_alloc w4 (.cells #[.int .i64 131, .int .i64 (k : Int)] 28)
          have HZ5 : Hid _ := hz5
          clear hz5
          generalize w4.alloc (.cells #[.int .i64 131, .int .i64 (k : Int)] 28) = V2 at *
          have a0 : V2.cell? ⟨w3.heap.size, 0, none⟩ = some (.int .i64 0) := r7'.cell 0
          have a1 : V2.cell? ⟨w3.heap.size, 1, none⟩ = some (.int .i64 0) := r7'.cell 1
          have b0 : V2.cell? ⟨w4.heap.size, 0, none⟩ = some (.int .i64 131) := r9.cell 0
          have b1 : V2.cell? ⟨w4.heap.size, 1, none⟩ = some (.int .i64 (k : Int)) := r9.cell 1
          go_wp2
          go_ret
          exact ⟨rfl, hbf⟩
        · rw [hp2] at hP2
          have hP2' : ∀ W, Below w.heap.size w W → Calls Tryd.prog 11 #[.slice ad k c] W fun e w' => (∃ va vc, e = .returned (.tuple #[.slice va f2.len vc, .agg #[.int .i64 0, .int .i64 0]]) ∧ FoS w' w'.heap.size (.slice va f2.len vc) f2) ∧ Below W.heap.size W w' := by
            intro W h
            refine (hP2 W h).mono ?_
            rintro e w' ⟨⟨va, vn, vc, rfl, hN⟩, hb⟩
            obtain ⟨ad', c', he, -⟩ := hN.foS.shape
            simp only [Value.slice.injEq] at he
            obtain ⟨rfl, rfl, rfl⟩ := he
            exact ⟨⟨va, vc, rfl, hN.foS⟩, hb⟩
          obtain ⟨hm2, -⟩ := Ac.parse_ok hp2
          obtain ⟨hh2, hs2⟩ := Ac.may_ht hm2
          have hn2 := parse_nar hp2 (hF.take k)
          have hle1 : f2.len ≤ f1.len := by rw [hfg, Ac.Fo.len_app]; omega
          have htk : f1.take f2.len = f2 := by rw [hfg, Ac.Fo.take_app]
          have li : (f2.len : Int) ≤ (f1.len : Int) := by omega
          have HTK : Hid _ := htk
          clear hP2 hp1 hp2 hfg htk hm2
          go_upto_region 9 with (first | (go_at_call 11; refine (hP1' _ hbw).mono ?_; rintro e w3 ⟨⟨va, vc, rfl, hf3⟩, hb3⟩) | fail)
          have r7 := Rw.new w3 #[.int .i64 0, .int .i64 0] 28
          have hbv := (hbw.trans (hb3.mono hbw.size)).alloc (hbw.trans (hb3.mono hbw.size)).size (.cells #[.int .i64 0, .int .i64 0] 28)
          have hf3' := (hf3.below ((Below.refl w3.heap.size w3).alloc (Nat.le_refl _) (.cells #[.int .i64 0, .int .i64 0] 28)) (Nat.le_refl _))
          generalize w3.alloc (.cells #[.int .i64 0, .int .i64 0] 28) = V1 at *
          go_upto_region 10 with (first | (go_at_call 11; refine (hP2' _ hbv).mono ?_; rintro e w4 ⟨⟨vb, vd, rfl, hf4⟩, hb4⟩) | fail)
          have r9 := Rw.new w4 #[.int .i64 0, .int .i64 0] 28
          have hb5 := hbv.trans (hb4.mono hbv.size)
          have hbf := hb5.alloc hb5.size (.cells #[.int .i64 0, .int .i64 0] 28)
          have r7' := (r7.below hb4 r7.lt).alloc (.cells #[.int .i64 0, .int .i64 0] 28)
          have hf4' := (hf4.below ((Below.refl w4.heap.size w4).alloc (Nat.le_refl _) (.cells #[.int .i64 0, .int .i64 0] 28)) (Nat.le_refl _))
          have hf3b := (hf3'.below hb4 (Nat.le_of_lt r7.lt)).below ((Below.refl w4.heap.size w4).alloc (Nat.le_refl _) (.cells #[.int .i64 0, .int .i64 0] 28)) (by have := hb4.size; have := r7.lt; omega)
          have hzz : w3.heap.size ≤ w4.heap.size := by have := hb4.size; have := r7.lt; omega
          have hz5 := size_alloc w4 (.cells #[.int .i64 0, .int .i64 0] 28)
          have HZ5 : Hid _ := hz5
          clear hz5
          generalize w4.alloc (.cells #[.int .i64 0, .int .i64 0] 28) = V2 at *
          have a0 : V2.cell? ⟨w3.heap.size, 0, none⟩ = some (.int .i64 0) := r7'.cell 0
          have a1 : V2.cell? ⟨w3.heap.size, 1, none⟩ = some (.int .i64 0) := r7'.cell 1
          have b0 : V2.cell? ⟨w4.heap.size, 0, none⟩ = some (.int .i64 0) := r9.cell 0
          have b1 : V2.cell? ⟨w4.heap.size, 1, none⟩ = some (.int .i64 0) := r9.cell 1
          have hSm := Same_any f2 f2 (.slice vb f2.len vd) (.slice va f2.len vc) V2.heap.size V2 (hf4'.mono (by have := HZ5.out; omega)) (by have := hf3b.head f2.len hle1; rw [HTK.out] at this; exact this.mono (by have := HZ5.out; omega)) (Nat.le_refl _) (by omega) (by omega) hs2 hn2
          rw [decide_eq_true rfl] at hSm
          have hvc : f1.len ≤ vc := by obtain ⟨ad', c', he, hle'⟩ := hf3b.shape; simp only [Value.slice.injEq] at he; omega
          have hsl2 : ∀ W : World, (Instr.slice 25 (.slice va f1.len vc) none (some (.int .i64 (f2.len : Int))) none).run Tryd.prog W = .ok (.slice va f2.len vc) W := fun W => SmR.slice_head W va f1.len vc f2.len (by omega)
          go_wp2_with (first | (go_at_call 15; refine hSm.mono ?_; rintro e w6 ⟨rfl, hb6⟩) | fail)
          go_ret
          exact ⟨rfl, hbf.trans (hb6.mono hbf.size)⟩

theorem cut_walkS (v : Value) (ls : List (List (List UInt8))) (cut : Int) (w : World) (hL : Laid w) (hv : LiS w w.heap.size v ls) (hz : Sized ls) (h1 : -9223372036854775808 ≤ cut) (h2 : cut ≤ 9223372036854775807) :
    Calls Tryd.prog 7 #[v, .int .i64 cut] w fun e w' => e = .returned (.bool true) ∧ Below w.heap.size w w' := cut_walk v ls w.heap.size cut w hL hv (Nat.le_refl _) hz h1 h2

end Go.Proofs.YtfgdlnidfkjbdaaDoor
