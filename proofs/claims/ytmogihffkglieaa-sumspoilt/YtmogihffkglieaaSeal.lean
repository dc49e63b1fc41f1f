/-
  Seal and Open.
-/
import Derived.Test.YtmogihffkglieaaLay
import Derived.Deep.RegionHeld3
namespace Go.Proofs.Ytmogihffkglieaa
open Go.RowKit

theorem size5' : (Try.prog.info? 5).map (·.size) = some 1 := by
  obtain ⟨i0, hi, hz0, hz1, hz2⟩ := info_parts info5
  rw [hi]; simp [hz1]

theorem splice_zeros (l : List UInt8) (k : Nat) : splice (bV (List.replicate (l.length + k) 0)) 0 (bV l) = bV (l ++ List.replicate k 0) := by
  unfold splice
  rw [List.take_zero, List.nil_append, Nat.zero_add, bV_length, bV_append]
  congr 1
  simp [bV]

/-- 'copy' onto a new block, from its head on -/
theorem copy_new (w w0 : World) (g k n m c : Nat) (ad : Option Addr) (l l' : List UInt8) (B : Nat) (hl : Byts w B (.slice ad m c) l') (hpre : l = l'.take l.length) (hmin : Nat.min l'.length n = l.length)
    (hg : Blk w g (List.replicate (l.length + k) 0)) (hb : Below g w0 w) :
    ∃ w', (Builtin.copy_ #[23, 23] 3 #[.slice (some ⟨g, 0, none⟩) n n, .slice ad m c]).run Try.prog w = .ok (goInt l.length) w' ∧ Blk w' g (l ++ List.replicate k 0) ∧ Below g w0 w' := by
  obtain ⟨ad', c', hv, hle, hn0, hcell⟩ := hl
  simp only [Value.slice.injEq] at hv
  obtain ⟨rfl, rfl, rfl⟩ := hv
  by_cases h0 : l = []
  · subst h0
    refine ⟨w, run_copy_none (P := Try.prog) w 23 23 3 5 (some ⟨g, 0, none⟩) ad n n l'.length c Try.underlying23 size5' hmin, ?_, hb⟩
    simpa using hg
  · have hle2 : l.length ≤ l'.length := by rw [← hmin]; exact Nat.min_le_left _ _
    have hl0 : 0 < l.length := List.length_pos_iff.2 h0
    obtain ⟨b, o', rfl, _, hc⟩ := hcell (by intro e; subst e; simp at hle2; exact h0 hle2)
    have hsrc := byts_news (w := w) (b := b) (o := o') (l := l) fun j hj => by
      rw [hc j (by omega)]
      have : l.getD j 0 = l'.getD j 0 := by
        rw [hpre]
        simp [List.getD, hj]
      rw [this]
    have hrun := run_copy_row (P := Try.prog) w 23 23 3 5 g 0 n n ⟨b, o', none⟩ l'.length c (bV (List.replicate (l.length + k) 0)).toArray 5 (bV l) Try.underlying23 size5' hg (by rw [bV_length, hmin]) hsrc (by simp [bV_length]) (bV_oneCell l)
    rw [bV_length] at hrun
    refine ⟨_, hrun, ?_, below_setRow hb (Nat.le_refl _) _⟩
    have h2 := setRow_heap w g _ ((List.take 0 (bV (List.replicate (l.length + k) 0)).toArray.toList ++ bV l ++ List.drop (0 + l.length) (bV (List.replicate (l.length + k) 0)).toArray.toList).toArray) 5 (0, 0) hg
    have h3 := splice_zeros l k
    unfold splice at h3
    unfold Blk
    rw [← h3, bV_length]
    simpa using h2

theorem slice_room (g n : Nat) (W : World) : (Instr.slice 23 (.slice (some ⟨g, 0, none⟩) (n + 4) (n + 4)) (some (.int .i64 (n : Int))) none none).run Try.prog W = .ok (.slice (some ⟨g, n, none⟩) 4 4) W := by
  rw [run_slice_l W 23 _ (n + 4) (n + 4) (by rw [elem23]; exact Try.underlying23) .i64 (n : Int) (by omega) (by omega), elem23, size5]
  simp [Result.andThen, sliced, addr_add]

set_option maxHeartbeats 2000000 in
theorem Seal_any (v : Value) (l : List UInt8) (w : World) (B : Nat) (hB : B ≤ w.heap.size) (hv : Byts w B v l) (hl : Hid (l.length ≤ 1099511627776)) :
    Calls Try.prog 14 #[v] w fun e w' => ∃ g, e = .returned (.slice (some ⟨g, 0, none⟩) (l.length + 4) (l.length + 4)) ∧ w.heap.size ≤ g ∧ Blk w' g (Sm.seal_ l) ∧ Below w.heap.size w w' := by
  have hv0 := hv
  obtain ⟨ad, c, rfl, -, -, -⟩ := hv0
  have hl2 := hl.out
  have hmk := fun W => make_byts ((l.length : Int) + 4) (l.length + 4) (by omega) (by omega) W
  obtain ⟨w1, hcp, hk1, hb1⟩ := copy_new (w.alloc (.cells (bV (List.replicate (l.length + 4) 0)).toArray 5)) w w.heap.size 4 (l.length + 4) l.length c ad l l B (hv.alloc hB _) (by simp) (by simp) (Blk.made _ _) ((Below.refl _ _).alloc (Nat.le_refl _) _)
  have hv1 := hv.below hb1 hB
  have hB1 : B ≤ w1.heap.size := Nat.le_trans hB hb1.size
  have HK : Hid (Blk w1 w.heap.size (l ++ [0, 0, 0, 0])) := hk1
  have HB1 : Hid (Below w.heap.size w w1) := hb1
  clear hk1 hb1
  go_enter Try.func14, Try.ntmps14
  go_wp2_with fail
  have hsl := slice_room w.heap.size l.length
  have HKd : Hid (Blk w1.drew w.heap.size (l ++ [0, 0, 0, 0])) := HK.out
  have HKlt : Hid (w.heap.size < w1.drew.heap.size) := HK.out.lt
  have hB1d : B ≤ w1.drew.heap.size := hB1
  have hv1d : Byts w1.drew B (.slice ad l.length c) l := hv1
  go_region_with (first | (go_at_call 11; refine (Of_any _ l _ B hB1d hv1d hl).mono ?_; rintro e w2 ⟨rfl, hb2⟩; have hk2 := HKd.out.below hb2 HKlt.out) | (go_at_call 21; refine (laySum_any w.heap.size l hl (Sm.of l) _ hk2).mono ?_; rintro e w3 ⟨rfl, hk3, hb3⟩))
  all_goals go_wp2
  all_goals go_ret
  all_goals exact ⟨w.heap.size, rfl, Nat.le_refl _, hk3, (HB1.out.drew.trans (hb2.mono HB1.out.size)).trans hb3⟩

theorem below_drewN {B : Nat} {a w : World} (h : Below B a w) (n : Nat) : Below B a (w.drewN n) := ⟨h.os, h.tape, h.output, h.size, h.block⟩

set_option maxHeartbeats 2000000 in
/-- not whole -/
theorem Open_no (v : Value) (l : List UInt8) (w : World) (B : Nat) (hB : B ≤ w.heap.size) (hv : Byts w B v l) (hl : Hid (l.length ≤ 1099511627776)) (hw : Sm.whole l = false) :
    Calls Try.prog 10 #[v] w fun e w' => e = .returned (.tuple #[.slice none 0 0, .bool false]) ∧ Below w.heap.size w w' := by
  have hv0 := hv
  obtain ⟨ad, c, rfl, hlc, -, -⟩ := hv0
  have hl2 := hl.out
  by_cases h4 : 4 ≤ l.length
  · obtain ⟨m, hm⟩ : ∃ m, l.length = m + 4 := ⟨l.length - 4, by omega⟩
    rw [hm] at hv hl2 hlc ⊢
    obtain ⟨A, hA, hbA⟩ := slice_tail hv m (by omega)
    have hh := fun W => slice_head W ad (m + 4) c m (by omega)
    have hbh := hv.head m (by omega)
    have h44 : m + 4 - m = 4 := by omega
    rw [h44] at hA hbA
    unfold Sm.whole at hw
    rw [hm, Nat.add_sub_cancel] at hw
    have hd : (l.drop m).length = 4 := by rw [List.length_drop]; omega
    obtain ⟨x0, x1, x2, x3, hx⟩ : ∃ x0 x1 x2 x3, l.drop m = [x0, x1, x2, x3] := by
      match h : l.drop m, hd with
      | [a, b, c, d], _ => exact ⟨a, b, c, d, rfl⟩
    rw [hx] at hbA hw
    simp only [Nat.le_add_left, decide_true, Bool.true_and] at hw
    have hne : ((Sm.num [x0, x1, x2, x3] : Int) == (Sm.of (l.take m) : Int)) = false := by
      rw [beq_eq_false_iff_ne] at hw ⊢
      omega
    have hln : Hid ((l.take m).length ≤ 1099511627776) := by show _ ≤ _; simp; omega
    have HV : Hid (Byts w B (.slice ad (m + 4) c) l) := hv
    have Hm : Hid (l.length = m + 4) := hm
    clear hd hx hw hv hm h44 h4
    generalize hq1 : Sm.num [x0, x1, x2, x3] = q1 at *
    go_enter Try.func10, Try.ntmps10
    go_wp2_with fail
    have h0 : decide ((m : Int) < 0) = false := decide_eq_false (by omega)
    clear hl hlc
    go_region_held3 (fun w' => Below w.heap.size w w') (first | assumption | exact Below.refl _ _ | exact (Below.refl _ _).drew)
      (first
        | (go_at_call 19; refine (readSum_any _ x0 x1 x2 x3 _ B ?_).mono ?_; (exact hbA.below (by assumption) hB); rintro e w2 ⟨rfl, hw2⟩; rw [hw2, hq1]; clear hw2)
        | (go_at_call 11; refine (Of_any _ (l.take m) _ B ?_ ?_ hln).mono ?_; (exact Nat.le_trans hB (Below.size (by assumption))); (exact hbh.below (by assumption) hB); rintro e w3 ⟨rfl, hb3⟩; have hS3 := fun (h : Below w.heap.size w _) => h.trans (hb3.mono h.size); specialize hS3 (by assumption)))
    go_wp2
    go_ret2
    exact ⟨rfl, hS3⟩
  · have h0 : (l.length : Int) - 4 < 0 := by omega
    go_enter Try.func10, Try.ntmps10
    go_wp2_with fail
    go_quiet (fail)
    go_wp2
    go_ret2
    exact ⟨rfl, below_drewN (Below.refl _ _) _⟩
set_option maxHeartbeats 2000000 in
/-- whole -/
theorem Open_yes (v : Value) (l : List UInt8) (w : World) (B : Nat) (hB : B ≤ w.heap.size) (hv : Byts w B v l) (hl : Hid (l.length ≤ 1099511627776)) (hw : Sm.whole l = true) :
    Calls Try.prog 10 #[v] w fun e w' => ((l.length = 4 ∧ e = .returned (.tuple #[.slice none 0 0, .bool true])) ∨ (4 < l.length ∧ ∃ g, e = .returned (.tuple #[.slice (some ⟨g, 0, none⟩) (l.length - 4) (l.length - 4), .bool true]) ∧ w.heap.size ≤ g ∧ Blk w' g (l.take (l.length - 4)))) ∧ Below w.heap.size w w' := by
  have hv0 := hv
  obtain ⟨ad, c, rfl, hlc, -, -⟩ := hv0
  have hl2 := hl.out
  by_cases h4 : 4 ≤ l.length
  · obtain ⟨m, hm⟩ : ∃ m, l.length = m + 4 := ⟨l.length - 4, by omega⟩
    rw [hm] at hv hl2 hlc ⊢
    rw [Nat.add_sub_cancel]
    obtain ⟨A, hA, hbA⟩ := slice_tail hv m (by omega)
    have hh := fun W => slice_head W ad (m + 4) c m (by omega)
    have hbh := hv.head m (by omega)
    have h44 : m + 4 - m = 4 := by omega
    rw [h44] at hA hbA
    unfold Sm.whole at hw
    rw [hm, Nat.add_sub_cancel] at hw
    have hd : (l.drop m).length = 4 := by rw [List.length_drop]; omega
    obtain ⟨x0, x1, x2, x3, hx⟩ : ∃ x0 x1 x2 x3, l.drop m = [x0, x1, x2, x3] := by
      match h : l.drop m, hd with
      | [a, b, c, d], _ => exact ⟨a, b, c, d, rfl⟩
    rw [hx] at hbA hw
    simp only [Nat.le_add_left, decide_true, Bool.true_and] at hw
    have hne : ((Sm.num [x0, x1, x2, x3] : Int) == (Sm.of (l.take m) : Int)) = true := by
      rw [beq_iff_eq] at hw ⊢
      omega
    have hln : Hid ((l.take m).length ≤ 1099511627776) := by show _ ≤ _; simp; omega
    have HV : Hid (Byts w B (.slice ad (m + 4) c) l) := hv
    have Hm : Hid (l.length = m + 4) := hm
    clear hd hx hw hv hm h44 h4
    generalize hq1 : Sm.num [x0, x1, x2, x3] = q1 at *
    go_enter Try.func10, Try.ntmps10
    go_wp2_with fail
    have h0 : decide ((m : Int) < 0) = false := decide_eq_false (by omega)
    clear hl hlc
    go_region_held3 (fun w' => Below w.heap.size w w') (first | assumption | exact Below.refl _ _ | exact (Below.refl _ _).drew)
      (first
        | (go_at_call 19; refine (readSum_any _ x0 x1 x2 x3 _ B ?_).mono ?_; (exact hbA.below (by assumption) hB); rintro e w2 ⟨rfl, hw2⟩; rw [hw2, hq1]; clear hw2)
        | (go_at_call 11; refine (Of_any _ (l.take m) _ B ?_ ?_ hln).mono ?_; (exact Nat.le_trans hB (Below.size (by assumption))); (exact hbh.below (by assumption) hB); rintro e w3 ⟨rfl, hb3⟩; have hS3 := fun (h : Below w.heap.size w _) => h.trans (hb3.mono h.size); specialize hS3 (by assumption)))
    by_cases hm0 : m = 0
    · have hm0' : ((m : Int) == 0) = true := by rw [beq_iff_eq]; omega
      go_wp2
      go_ret2
      exact ⟨.inl ⟨by omega, rfl⟩, hS3⟩
    · have hm0' : ((m : Int) == 0) = false := by rw [beq_eq_false_iff_ne]; omega
      have hlm : (l.take m).length = m := by have := Hm.out; simp; omega
      have hmk := fun W => make_byts (m : Int) m rfl (by omega) W
      obtain ⟨w5, hcp, hk5, hb5⟩ := copy_new (w3.alloc (.cells (bV (List.replicate m 0)).toArray 5)) w3 w3.heap.size 0 m (m + 4) c ad (l.take m) l B ((HV.out.below hS3 hB).alloc (Nat.le_trans hB hS3.size) _) (by rw [hlm]) (by rw [hlm, Hm.out]; simp) (by rw [hlm]; exact Blk.made _ _) ((Below.refl _ _).alloc (Nat.le_refl _) _)
      rw [hlm] at hcp
      go_wp2
      go_ret2
      refine ⟨.inr ⟨by omega, w3.heap.size, rfl, hS3.size, by simpa using hk5⟩, hS3.trans (hb5.mono hS3.size)⟩
  · unfold Sm.whole at hw
    simp [h4] at hw
end Go.Proofs.Ytmogihffkglieaa
