/-
  The document's device: operation, Content, Read, Cut.
-/
import Derived.Test.YtccfoafcfnhejaaRefHas
namespace Go.Proofs.Ytccfoafcfnhejaa
open Go.RowKit

theorem err_cut {y : RPl} {d : Dk.Dev} (h : RTie y d) (h0 : 0 ≤ y.cut) (h1 : y.cut ≤ (d.op : Int)) : d.err = 30 := by
  unfold Dk.Dev.err
  rcases h.cu with ⟨e, _⟩ | ⟨e, _, _⟩
  · omega
  · rw [if_pos (by omega)]
theorem err_not {y : RPl} {d : Dk.Dev} (h : RTie y d) (hop : (d.op : Int) ≤ 1000000000) (h1 : y.cut < 0 ∨ (d.op : Int) < y.cut) : d.err = (lastF y.fl d.op).getD 0 := by
  unfold Dk.Dev.err
  rw [h.fa d.op (Int.le_refl _)]
  rcases h.cu with ⟨_, e⟩ | ⟨e, _, _⟩
  · rw [if_neg (by omega)]
  · rw [if_neg (by omega)]

set_option maxRecDepth 100000 in
set_option maxHeartbeats 1000000 in
theorem operation_any (w : World) (y : RPl) (d : Dk.Dev) (h : RHas w y d) (hop : (d.op : Int) ≤ 1000000000) :
    Calls Try.prog 55 #[ptr y.p] w fun e w' => e = .returned (.int .i64 d.err) ∧ RHas w' y d.begun ∧ Turn y.bl w w' := by
  obtain ⟨-, -, -, c3, c4, c5, fz⟩ := h.m.cells
  have hk : RHas (w.setCell ⟨y.p, 3, none⟩ (.int .i64 ((d.op : Int) + 1))) y d.begun := ⟨h.m.setF 3 _ (op' := d.op + 1) y.last y.cut (by simp [rf]), h.t.begun, Dk.begun_ok h.ok⟩
  have ht : Turn y.bl w (w.setCell ⟨y.p, 3, none⟩ (.int .i64 ((d.op : Int) + 1))) := turn_rset w y (by simp [RPl.bl]) 3 _
  obtain ⟨-, -, -, d3, d4, d5, -⟩ := hk.m.cells
  obtain ⟨ad, cf, hfv, hfl, hfc⟩ := hk.m.hf.shape
  rw [hfv] at c4 d4
  have HK : Hid (RHas (w.setCell ⟨y.p, 3, none⟩ (.int .i64 ((d.op : Int) + 1))) y d.begun) := hk
  have HT : Hid (Turn y.bl w (w.setCell ⟨y.p, 3, none⟩ (.int .i64 ((d.op : Int) + 1)))) := ht
  have HE1 : Hid (0 ≤ y.cut → y.cut ≤ (d.op : Int) → d.err = 30) := fun a b => err_cut h.t a b
  have HE2 : Hid (y.cut < 0 ∨ (d.op : Int) < y.cut → d.err = (lastF y.fl d.op).getD 0) := fun a => err_not h.t hop a
  have HC : Hid (y.fl ≠ [] → ∃ g, ad = some ⟨g, 0, none⟩ ∧ ∀ j, j < y.fl.length → (w.setCell ⟨y.p, 3, none⟩ (.int .i64 ((d.op : Int) + 1))).cell? ⟨g, j * 2, none⟩ = some (.int .i64 (y.fl.getD j (0, 0)).1) ∧ (w.setCell ⟨y.p, 3, none⟩ (.int .i64 ((d.op : Int) + 1))).cell? ⟨g, j * 2 + 1, none⟩ = some (.int .i64 (y.fl.getD j (0, 0)).2)) := hfc
  clear hk ht h hfc hfv
  unfold ptr
  unfold maxLen at hfl
  by_cases hc0 : 0 ≤ y.cut ∧ y.cut ≤ (d.op : Int)
  · obtain ⟨h0, h1⟩ := hc0
    rw [HE1.out h0 h1]
    clear hfl
    go_enter Try.func55, Try.ntmps55
    go_wp2
    go_ret
    exact ⟨rfl, HK.out, HT.out⟩
  · have hn : y.cut < 0 ∨ (d.op : Int) < y.cut := by omega
    rw [HE2.out hn]
    clear hc0
    rcases hn with hn | hn
    · go_enter Try.func55, Try.ntmps55
      go_wp2
      go_loopw [4, 5] (fun t4 t5 wr => ∃ j : Nat, j ≤ y.fl.length ∧ t4 = .int .i64 ((lastF (y.fl.take j) d.op).getD 0) ∧ t5 = .int .i64 (j : Int) ∧ wr = w.setCell ⟨y.p, 3, none⟩ (.int .i64 ((d.op : Int) + 1))) (fun _ t5 _ => y.fl.length - (RowKit.intOf t5).toNat)
      case atStart => exact ⟨0, Nat.zero_le _, rfl, rfl, rfl⟩
      case round =>
        obtain ⟨j, hjl, rfl, rfl, rfl⟩ := hrel
        generalize w.setCell ⟨y.p, 3, none⟩ (.int .i64 ((d.op : Int) + 1)) = w1 at *
        by_cases hlt : j < y.fl.length
        · obtain ⟨g, rfl, hcells⟩ := HC.out (by intro e; rw [e] at hlt; simp at hlt)
          obtain ⟨q0, q1⟩ := hcells j hlt
          have hstep := lastF_take y.fl (d.op : Int) hlt
          generalize y.fl.getD j (0, 0) = pt at q0 q1 hstep
          obtain ⟨I, X⟩ := pt
          simp only at q0 q1 hstep
          have HS : Hid (lastF (y.fl.take (j + 1)) d.op = if I = (d.op : Int) then some X else lastF (y.fl.take j) d.op) := hstep
          clear hcells hstep
          by_cases hI : I = (d.op : Int)
          · go_wp2
            go_roundw
            case rel => exact ⟨j + 1, by omega, by rw [HS.out, if_pos hI]; rfl, by go_num, trivial⟩
            case measure => simp [RowKit.intOf]; omega
          · go_wp2
            go_roundw
            case rel => exact ⟨j + 1, by omega, by rw [HS.out, if_neg hI], by go_num, trivial⟩
            case measure => simp [RowKit.intOf]; omega
        · obtain rfl : j = y.fl.length := by omega
          rw [List.take_length]
          go_wp2
          go_ret
          exact ⟨rfl, HK.out, HT.out⟩
    · have hn2 : 0 ≤ y.cut := by omega
      go_enter Try.func55, Try.ntmps55
      go_wp2
      go_loopw [4, 5] (fun t4 t5 wr => ∃ j : Nat, j ≤ y.fl.length ∧ t4 = .int .i64 ((lastF (y.fl.take j) d.op).getD 0) ∧ t5 = .int .i64 (j : Int) ∧ wr = w.setCell ⟨y.p, 3, none⟩ (.int .i64 ((d.op : Int) + 1))) (fun _ t5 _ => y.fl.length - (RowKit.intOf t5).toNat)
      case atStart => exact ⟨0, Nat.zero_le _, rfl, rfl, rfl⟩
      case round =>
        obtain ⟨j, hjl, rfl, rfl, rfl⟩ := hrel
        generalize w.setCell ⟨y.p, 3, none⟩ (.int .i64 ((d.op : Int) + 1)) = w1 at *
        by_cases hlt : j < y.fl.length
        · obtain ⟨g, rfl, hcells⟩ := HC.out (by intro e; rw [e] at hlt; simp at hlt)
          obtain ⟨q0, q1⟩ := hcells j hlt
          have hstep := lastF_take y.fl (d.op : Int) hlt
          generalize y.fl.getD j (0, 0) = pt at q0 q1 hstep
          obtain ⟨I, X⟩ := pt
          simp only at q0 q1 hstep
          have HS : Hid (lastF (y.fl.take (j + 1)) d.op = if I = (d.op : Int) then some X else lastF (y.fl.take j) d.op) := hstep
          clear hcells hstep
          by_cases hI : I = (d.op : Int)
          · go_wp2
            go_roundw
            case rel => exact ⟨j + 1, by omega, by rw [HS.out, if_pos hI]; rfl, by go_num, trivial⟩
            case measure => simp [RowKit.intOf]; omega
          · go_wp2
            go_roundw
            case rel => exact ⟨j + 1, by omega, by rw [HS.out, if_neg hI], by go_num, trivial⟩
            case measure => simp [RowKit.intOf]; omega
        · obtain rfl : j = y.fl.length := by omega
          rw [List.take_length]
          go_wp2
          go_ret
          exact ⟨rfl, HK.out, HT.out⟩

theorem Cel.some_slice {w : World} {v : Value} {X : Dk.Blk} (h : Cel w v (some X)) : ∃ g c, v = .slice (some ⟨g, 0, none⟩) 256 c := by
  obtain ⟨g, c, e, _⟩ := h
  exact ⟨g, c, e⟩

set_option maxRecDepth 100000 in
set_option maxHeartbeats 1000000 in
theorem Content_any (w : World) (y : RPl) (n op : Nat) (bs cs : Nat → Option Dk.Blk) (h : RMem w y n op bs cs) (i : Nat) (hi : i < n) :
    Calls Try.prog 56 #[ptr y.p, .int .i64 (i : Int)] w fun e w' => ∃ v, e = .returned v ∧ Cel w v (if (cs i).isSome then cs i else bs i) ∧ w' = w := by
  obtain ⟨c0, c1, -⟩ := h.cells
  obtain ⟨vb, hb, hvb⟩ := h.hb.cell hi
  obtain ⟨vc, hc, hvc⟩ := h.hc.cell hi
  have hi0 : (0 : Int) ≤ (i : Int) := by omega
  have hi1 : (i : Int) < (n : Int) := by omega
  unfold ptr
  cases hd : cs i with
  | none =>
    rw [hd] at hvc
    obtain rfl : vc = .slice none 0 0 := hvc
    rw [if_neg (by simp)]
    clear hd h
    go_enter Try.func56, Try.ntmps56
    go_wp2
    go_ret
    exact ⟨vb, rfl, hvb, rfl⟩
  | some X =>
    rw [hd] at hvc
    obtain ⟨g, c, rfl⟩ := hvc.some_slice
    rw [if_pos (show (some X).isSome = true from rfl)]
    clear hd h
    have HV : Hid (Cel w (.slice (some ⟨g, 0, none⟩) 256 c) (some X)) := hvc
    clear hvc hvb
    go_enter Try.func56, Try.ntmps56
    go_wp2
    go_ret
    exact ⟨_, rfl, HV.out, rfl⟩

theorem cont_if (d : Dk.Dev) (i : Nat) : (if (d.di i).isSome then d.di i else some (d.stab i)) = some (d.cont i) := by
  unfold Dk.Dev.cont
  cases d.di i <;> rfl

set_option maxRecDepth 100000 in
theorem RRead_no (w : World) (y : RPl) (d : Dk.Dev) (h : RHas w y d) (hop : (d.op : Int) ≤ 1000000000) (i : Nat) (he : d.err ≠ 0) :
    Calls Try.prog 41 #[ptr y.p, .int .i64 (i : Int)] w fun e w' => e = .returned (.tuple #[.slice none 0 0, .int .i64 d.err]) ∧ RHas w' y d.begun ∧ Turn y.bl w w' := by
  have hO := operation_any w y d h hop
  unfold ptr at *
  generalize d.err = er at *
  go_enter Try.func41, Try.ntmps41
  go_wp2_with fail
  refine hO.mono ?_
  rintro r w1 ⟨rfl, hk, ht⟩
  go_wp2
  go_ret2
  exact ⟨rfl, hk, ht⟩
set_option maxRecDepth 100000 in
theorem RRead_ok (w : World) (y : RPl) (d : Dk.Dev) (h : RHas w y d) (hop : (d.op : Int) ≤ 1000000000) (i : Nat) (hi : i < d.st.length) (he : d.err = 0) :
    Calls Try.prog 41 #[ptr y.p, .int .i64 (i : Int)] w fun e w' => ∃ v, e = .returned (.tuple #[v, .int .i64 0]) ∧ Cel w' v (some (d.cont i)) ∧ RHas w' y d.begun ∧ Turn y.bl w w' := by
  have hO := operation_any w y d h hop
  rw [he] at hO
  clear he
  unfold ptr at *
  go_enter Try.func41, Try.ntmps41
  go_wp2_with fail
  refine hO.mono ?_
  rintro r w1 ⟨rfl, hk, ht⟩
  have hC := Content_any w1 y _ _ _ _ hk.m i hi
  have e1 : (if (d.begun.di i).isSome then d.begun.di i else some (d.begun.stab i)) = some (d.cont i) := cont_if d i
  rw [e1] at hC
  unfold ptr at hC
  go_wp2_with fail
  refine hC.mono ?_
  rintro r w2 ⟨v, rfl, hv, rfl⟩
  go_wp2
  go_ret2
  exact ⟨v, rfl, hv, hk, ht⟩

set_option maxRecDepth 100000 in
theorem RCut_arg (w : World) (y : RPl) (after : Int) (h0 : after < 0 ∨ 1073741824 < after) : Calls Try.prog 45 #[ptr y.p, .int .i64 after] w fun e w' => e = .returned (.int .i64 2) ∧ w' = w := by
  unfold ptr
  by_cases h1 : after < 0
  · clear h0
    go_enter Try.func45, Try.ntmps45
    go_wp2
    go_ret
    exact ⟨rfl, rfl⟩
  · have h2 : 1073741824 < after := by omega
    clear h0
    go_enter Try.func45, Try.ntmps45
    go_wp2
    go_ret
    exact ⟨rfl, rfl⟩

theorem RTie.cut_set {y : RPl} {d : Dk.Dev} (h : RTie y d) {after : Int} (h0 : 0 ≤ after) (h1 : (d.op : Int) + after < 9223372036854775807) (hc : y.cut < 0 ∨ (d.op : Int) + after < y.cut) : RTie { y with cut := (d.op : Int) + after } (d.cut after) := by
  have e : ¬ d.cu ≤ (d.op : Int) + after := by
    rcases h.cu with ⟨_, e⟩ | ⟨e, _, _⟩ <;> omega
  refine ⟨h.la, h.fa, .inr ⟨?_, ?_, ?_⟩⟩
  · show (d.op : Int) + after = if d.cu ≤ (d.op : Int) + after then d.cu else (d.op : Int) + after
    rw [if_neg e]
  · show 0 ≤ if d.cu ≤ (d.op : Int) + after then d.cu else (d.op : Int) + after
    rw [if_neg e]; omega
  · show (if d.cu ≤ (d.op : Int) + after then d.cu else (d.op : Int) + after) < _
    rw [if_neg e]; exact h1
theorem RTie.cut_keep {y : RPl} {d : Dk.Dev} (h : RTie y d) {after : Int} (hc : 0 ≤ y.cut ∧ y.cut ≤ (d.op : Int) + after) : d.cut after = d := by
  have e : d.cu ≤ (d.op : Int) + after := by
    rcases h.cu with ⟨e, _⟩ | ⟨e, _, _⟩ <;> omega
  unfold Dk.Dev.cut
  rw [if_pos e]

theorem RHas.drewN {w : World} {y : RPl} {d : Dk.Dev} (h : RHas w y d) (q : Nat) : RHas (w.drewN q) y d := ⟨h.m.kept (w' := w.drewN q) (fun _ _ => rfl) (fun _ _ _ => rfl), h.t, h.ok⟩
theorem Turn.drewN {S : List Nat} {a b : World} (h : Turn S a b) (q : Nat) : Turn S a (b.drewN q) := ⟨h.os, h.tape, h.output, h.size, h.block⟩

set_option maxRecDepth 100000 in
set_option maxHeartbeats 1000000 in
theorem RCut_ok (w : World) (y : RPl) (d : Dk.Dev) (h : RHas w y d) (hop : (d.op : Int) ≤ 1000000000) (after : Int) (h0 : 0 ≤ after) (h1 : after ≤ 1073741824) :
    Calls Try.prog 45 #[ptr y.p, .int .i64 after] w fun e w' => e = .returned (.int .i64 0) ∧ (∃ z, RHas w' { y with cut := z } (d.cut after)) ∧ Turn y.bl w w' := by
  obtain ⟨-, -, -, c3, -, c5, fz⟩ := h.m.cells
  have hwr : IntKind.i64.wrap ((d.op : Int) + after) = (d.op : Int) + after := by rw [IntKind.wrap_i64]; omega
  have HS : Hid (y.cut < 0 ∨ (d.op : Int) + after < y.cut → ∀ q, RHas ((w.drewN q).setCell ⟨y.p, 5, none⟩ (.int .i64 ((d.op : Int) + after))) { y with cut := (d.op : Int) + after } (d.cut after)) := fun hc q =>
    ⟨(h.drewN q).m.setF 5 _ (op' := d.op) y.last ((d.op : Int) + after) (by simp [rf]), h.t.cut_set h0 (by omega) hc, Dk.cut_ok h.ok h0 (by omega)⟩
  have HT : Hid (∀ q, Turn y.bl w ((w.drewN q).setCell ⟨y.p, 5, none⟩ (.int .i64 ((d.op : Int) + after)))) := fun q => ((Turn.refl _ w).drewN q).join (turn_rset (w.drewN q) y (by simp [RPl.bl]) 5 _)
  have HKe : Hid (0 ≤ y.cut ∧ y.cut ≤ (d.op : Int) + after → d.cut after = d) := fun hc => h.t.cut_keep hc
  have HH : Hid (RHas w y d) := h
  clear h
  unfold ptr
  by_cases hc : y.cut < 0
  · have hd : decide (y.cut < 0) = true := decide_eq_true hc
    go_enter Try.func45, Try.ntmps45
    go_wp2_with fail
    go_quiet (fail)
    go_wp2
    go_ret
    exact ⟨rfl, ⟨_, HS.out (.inl hc) _⟩, HT.out _⟩
  · have hd : decide (y.cut < 0) = false := decide_eq_false hc
    have hc2 : 0 ≤ y.cut := by omega
    by_cases hl : (d.op : Int) + after < y.cut
    · go_enter Try.func45, Try.ntmps45
      go_wp2_with fail
      go_quiet (fail)
      go_wp2
      go_ret
      exact ⟨rfl, ⟨_, HS.out (.inr hl) _⟩, HT.out _⟩
    · have hl2 : y.cut ≤ (d.op : Int) + after := by omega
      rw [HKe.out ⟨hc2, hl2⟩]
      go_enter Try.func45, Try.ntmps45
      go_wp2_with fail
      go_quiet (fail)
      go_wp2
      go_ret
      exact ⟨rfl, ⟨y.cut, HH.out.drewN _⟩, (Turn.refl _ w).drewN _⟩
end Go.Proofs.Ytccfoafcfnhejaa
