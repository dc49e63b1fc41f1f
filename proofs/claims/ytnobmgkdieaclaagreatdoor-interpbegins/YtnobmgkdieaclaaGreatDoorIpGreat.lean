/-
  WHAT THE LAWS' OWN weight, great DO.
-/
import Derived.Test.YtnobmgkdieaclaaGreatDoorALineR
import Derived.Test.YtnobmgkdieaclaaGreatDoorIpMay
namespace Go.Proofs.YtnobmgkdieaclaaGreatDoor
open Go.RowKit

namespace Ac
/-- how much a line has -/
def bulkL : List (List UInt8) → Nat
  | [] => 0
  | s :: r => 1 + s.length + bulkL r
theorem bulkL_len : ∀ l : List (List UInt8), l.length ≤ bulkL l
  | [] => Nat.le_refl _
  | s :: r => by have := bulkL_len r; rw [List.length_cons, bulkL]; omega
theorem bulkL_mem : ∀ {l : List (List UInt8)} {s : List UInt8}, s ∈ l → s.length ≤ bulkL l
  | s :: r, x, h => by
    rw [bulkL]
    rcases List.mem_cons.1 h with rfl | h
    · omega
    · have := bulkL_mem h; omega
theorem take_len : ∀ f : Fo, f.take f.len = f
  | .nil => rfl
  | .cons _ _ _ _ t => by rw [Fo.len, Fo.take, take_len t]
/-- how much statements have -/
def wgt : Fo → Nat
  | .nil => 0
  | .cons _ a _ b t => 1 + bulkL a + wgt b + wgt t
theorem wgt_size : ∀ f : Fo, size f ≤ wgt f
  | .nil => Nat.le_refl _
  | .cons _ a _ b t => by
    have h1 := wgt_size b
    have h2 := wgt_size t
    rw [size, wgt]
    omega
theorem wgt_nar : ∀ (f : Fo) {N : Nat}, wgt f ≤ N → nar N f
  | .nil, _, _ => trivial
  | .cons _ a _ b t, N, h => by
    rw [wgt] at h
    have := bulkL_len a
    exact ⟨by omega, wgt_nar b (by omega), wgt_nar t (by omega)⟩
theorem ht_take : ∀ {f : Fo} {j : Nat} {o : Int} {a : List (List UInt8)} {n : Int} {b r : Fo}, f.drop j = .cons o a n b r → ht (f.take (j + 1)) = max (ht (f.take j)) (1 + ht b)
  | .nil, j, _, _, _, _, _, h => by rw [Fo.drop_nil] at h; cases h
  | .cons _ _ _ c t, 0, _, _, _, _, _, h => by
    simp only [Fo.drop, Fo.cons.injEq] at h
    cases t <;> simp [Fo.take, ht, h.2.2.2.1]
  | .cons _ _ _ c t, j + 1, _, _, _, _, _, h => by
    have := ht_take (f := t) (j := j) h
    rw [Fo.take, Fo.take, ht, ht, this]
    omega
theorem sz_at : ∀ {f : Fo} {k : Nat} {o : Int} {a : List (List UInt8)} {n : Int} {b r : Fo}, SzE f → f.drop k = .cons o a n b r → a.length ≤ reachBytes ∧ (∀ s ∈ a, s.length ≤ reachBytes) ∧ b.len ≤ reachBytes ∧ SzE b
  | .nil, k, _, _, _, _, _, _, e => by rw [Fo.drop_nil] at e; cases e
  | .cons _ _ _ _ _, 0, _, _, _, _, _, h, e => by
    simp only [Fo.drop, Fo.cons.injEq] at e
    obtain ⟨rfl, rfl, rfl, rfl, rfl⟩ := e
    exact ⟨by have := h.1; omega, h.2.1, h.2.2.1, h.2.2.2.1⟩
  | .cons _ _ _ _ _, k + 1, _, _, _, _, _, h, e => sz_at (k := k) h.2.2.2.2 e
end Ac

/-- what weighing answers -/
structure WtR (f : Ac.Fo) (most : Int) (d : Nat) (r : Int) : Prop where
  lo : 0 ≤ r
  hi : r ≤ max most 0 + 140737488351233
  none : most ≤ 0 → r = 0
  all : r < most → r = (Ac.wgt f : Int) ∧ d + Ac.ht f ≤ 61
set_option maxRecDepth 100000 in
set_option maxHeartbeats 2000000 in
theorem weight_any : ∀ (f : Ac.Fo) (v : Value) (w : World) (B d : Nat) (most : Int), FoS w B v f → f.len ≤ reachBytes → Ac.SzE f → d ≤ 61 → most ≤ 262144 → -281474976710656 ≤ most →
    Calls Tryz.prog 42 #[v, .int .i64 most, .int .i64 (d : Int)] w fun e w' => (∃ r, e = .returned (.int .i64 r) ∧ WtR f most d r) ∧ w' = w := by
  refine Ac.fo_ind fun f ih => ?_
  intro v w B d most h hfl hsz hd hm1 hm2
  obtain ⟨ad, c, rfl, hle⟩ := h.shape
  have HI : Hid _ := ih
  clear ih
  have hreach := reach_is
  have fb : (f.len : Int) ≤ 140737488351232 := by omega
  have db : (d : Int) ≤ 61 := by omega
  clear hreach
  go_enter Tryz.func42, Tryz.ntmps42
  go_wp2
  go_loop [7, 8] (fun n i => ∃ (j : Nat) (m : Int), j ≤ f.len ∧ i = .int .i64 (j : Int) ∧ n = .int .i64 m ∧ 0 ≤ m ∧ m ≤ 140737488620000 ∧ Hid (m ≤ max most 0 + 140737488351233 ∧ (most ≤ 0 → m = 0) ∧ (m < most → m + (Ac.wgt (f.drop j) : Int) = Ac.wgt f ∧ d + Ac.ht (f.take j) ≤ 61))) (fun _ i => f.len - (intOf i).toNat)
  case atStart => exact ⟨0, 0, Nat.zero_le _, rfl, rfl, by omega, by omega, ⟨by omega, fun _ => rfl, fun _ => ⟨by simp [Ac.Fo.drop], by cases f <;> simp [Ac.Fo.take, Ac.ht] <;> omega⟩⟩⟩
  case round =>
    obtain ⟨j, m, hj, rfl, rfl, hm0, hmb, HH⟩ := hrel
    by_cases hlt : j < f.len
    · have i1 : (j : Int) < (f.len : Int) := by omega
      by_cases hmm : m < most
      · obtain ⟨o, a, n, b, r, e⟩ := Ac.Fo.drop_lt hlt
        obtain ⟨g, og, c', aa, ac, ba, bc, e1, hg, c0, c1, c2, c3, hta, hfb⟩ := h.at e hlt
        simp only [Value.slice.injEq] at e1
        obtain ⟨rfl, -, rfl⟩ := e1
        obtain ⟨hq1, hq2, hq3⟩ := HH.out
        obtain ⟨hq3, hq4⟩ := hq3 hmm
        have h2 := Ac.Fo.drop_next e
        have hht := Ac.ht_take e
        rw [e, Ac.wgt] at hq3
        obtain ⟨sa, sb, sc, sd⟩ := Ac.sz_at hsz e
        have hreach := reach_is
        have ab : (a.length : Int) ≤ 140737488351232 := by omega
        have hIH := fun D most' => HI.out j o a n b r e (.slice ba b.len bc) w B D most' hfb sc sd
        obtain ⟨RS, hRS⟩ : ∃ RS : Int, (Ac.wgt b : Int) + (Ac.wgt r : Int) = RS := ⟨_, rfl⟩
        have HQ : Hid (m + (1 + (Ac.bulkL a : Int) + RS) = Ac.wgt f) := by show _ = _; rw [← hRS]; omega
        have hSA : Hid _ := sa
        have hSB : Hid _ := sb
        have HH2 : Hid (Ac.ht (f.take (j + 1)) = max (Ac.ht (f.take j)) (1 + Ac.ht b) ∧ f.drop (j + 1) = r ∧ d + Ac.ht (f.take j) ≤ 61 ∧ (Ac.wgt b : Int) + (Ac.wgt r : Int) = RS) := ⟨hht, h2, hq4, hRS⟩
        clear HH hq1 hq2 hq3 hq4 h2 hht hRS hreach
        go_wp2
        go_loop [7, 9] (fun n i => ∃ (q : Nat) (m' : Int), q ≤ a.length ∧ i = .int .i64 (q : Int) ∧ n = .int .i64 m' ∧ 0 < m' ∧ m' ≤ 140737488620000 ∧ Hid (m' ≤ most + 140737488351233 ∧ (m' < most → m' + (Ac.bulkL (a.drop q) : Int) + RS = Ac.wgt f))) (fun _ i => a.length - (intOf i).toNat)
        case atStart => exact ⟨0, m + 1, Nat.zero_le _, rfl, rfl, by omega, by omega, ⟨by omega, fun _ => by rw [List.drop_zero]; have := HQ.out; omega⟩⟩
        case round =>
          obtain ⟨q, m', hq, rfl, rfl, hm0', hmb', HH'⟩ := hrel
          by_cases hqt : q < a.length
          · have i2 : (q : Int) < (a.length : Int) := by omega
            by_cases hmm' : m' < most
            · obtain ⟨k1, k2⟩ := HH'.out
              have k2 := k2 hmm'
              have hd' := List.drop_eq_getElem_cons hqt
              have hmem := List.getElem_mem hqt
              have hss := hSB.out _ hmem
              rw [hd', Ac.bulkL] at k2
              obtain ⟨g2, o2, c2', e2, hg2, p2⟩ := TxR.at hta hqt
              simp only [Value.slice.injEq] at e2
              obtain ⟨rfl, -, rfl⟩ := e2
              have hsz2 := str_size a[q]
              generalize a[q] = s at *
              generalize str s = S at *
              have hreach := reach_is
              have bs2 : (S.size : Int) ≤ 140737488351232 := by omega
              have HA : Hid (m' + (1 + (S.size : Int)) ≤ most + 140737488351233 ∧ (m' + (1 + (S.size : Int)) < most → m' + (1 + (S.size : Int)) + (Ac.bulkL (a.drop (q + 1)) : Int) + RS = Ac.wgt f)) := ⟨by omega, fun _ => by omega⟩
              clear hd' hmem k1 k2 HH' hss hsz2 hreach
              go_wp2
              exact ⟨⟨q + 1, m' + (1 + (S.size : Int)), by omega, by go_num, rfl, by omega, by omega, HA.out⟩, by simp [intOf]; omega⟩
            · have m2 : ¬ m' < most := hmm'
              have HX : Hid (m' ≤ most + 140737488351233 ∧ (m' < most → m' + RS = Ac.wgt f)) := ⟨HH'.out.1, fun h => absurd h m2⟩
              clear HH' HQ hSA hSB hmm'
              by_cases hd60 : 60 < d
              · have d1 : (60 : Int) < (d : Int) := by omega
                have HF : Hid (WtR f most d most) := ⟨by omega, by omega, fun h => by omega, fun h => by omega⟩
                clear HX HH2 hIH
                go_wp2
                go_ret
                exact ⟨⟨_, rfl, HF.out⟩, rfl⟩
              · have d1 : ¬ (60 : Int) < (d : Int) := by omega
                have hc := hIH (d + 1) (most - m') (by omega) (by omega) (by omega)
                have de : ((d + 1 : Nat) : Int) = (d : Int) + 1 := by omega
                rw [de] at hc
                clear hIH de
                go_wp2_with (first | (go_at_call 42; refine hc.mono ?_; rintro e w1 ⟨⟨r', rfl, hr'⟩, rfl⟩; have rb1 := hr'.lo; have rb2 : r' ≤ 140737488620000 := by have := hr'.hi; omega) | fail)
                refine ⟨⟨j + 1, m' + r', by omega, by go_num, rfl, by omega, ?_, ⟨?_, fun h => by omega, fun h => ?_⟩⟩, by simp [intOf]; omega⟩
                · have := hr'.hi
                  have := hr'.none
                  have := HX.out.1
                  omega
                · have := hr'.hi
                  have := hr'.none
                  have := HX.out.1
                  omega
                · obtain ⟨k1, k2⟩ := hr'.all (by omega)
                  obtain ⟨l1, l2, l3, l4⟩ := HH2.out
                  have := HX.out.2 (by omega)
                  rw [l1, l2]
                  omega
          · obtain rfl : q = a.length := by omega
            have i2 : ¬ (a.length : Int) < (a.length : Int) := by omega
            have HX : Hid (m' ≤ most + 140737488351233 ∧ (m' < most → m' + RS = Ac.wgt f)) := ⟨HH'.out.1, fun h => by
              have := HH'.out.2 h
              rw [List.drop_length, Ac.bulkL] at this
              omega⟩
            clear HH' HQ hSA hSB
            by_cases hd60 : 60 < d
            · have d1 : (60 : Int) < (d : Int) := by omega
              have HF : Hid (WtR f most d most) := ⟨by omega, by omega, fun h => by omega, fun h => by omega⟩
              clear HX HH2 hIH
              go_wp2
              go_ret
              exact ⟨⟨_, rfl, HF.out⟩, rfl⟩
            · have d1 : ¬ (60 : Int) < (d : Int) := by omega
              have hc := hIH (d + 1) (most - m') (by omega) (by omega) (by omega)
              have de : ((d + 1 : Nat) : Int) = (d : Int) + 1 := by omega
              rw [de] at hc
              clear hIH de
              go_wp2_with (first | (go_at_call 42; refine hc.mono ?_; rintro e w1 ⟨⟨r', rfl, hr'⟩, rfl⟩; have rb1 := hr'.lo; have rb2 : r' ≤ 140737488620000 := by have := hr'.hi; omega) | fail)
              refine ⟨⟨j + 1, m' + r', by omega, by go_num, rfl, by omega, ?_, ⟨?_, fun h => by omega, fun h => ?_⟩⟩, by simp [intOf]; omega⟩
              · have := hr'.hi
                have := hr'.none
                have := HX.out.1
                omega
              · have := hr'.hi
                have := hr'.none
                have := HX.out.1
                omega
              · obtain ⟨k1, k2⟩ := hr'.all (by omega)
                obtain ⟨l1, l2, l3, l4⟩ := HH2.out
                have := HX.out.2 (by omega)
                rw [l1, l2]
                omega
      · obtain ⟨hq1, hq2, hq3⟩ := HH.out
        have HF : Hid (WtR f most d m) := ⟨hm0, hq1, hq2, fun h => absurd h hmm⟩
        clear HH hq1 hq2 hq3
        go_wp2
        go_ret
        exact ⟨⟨_, rfl, HF.out⟩, rfl⟩
    · obtain rfl : j = f.len := by omega
      have i1 : ¬ (f.len : Int) < (f.len : Int) := by omega
      obtain ⟨hq1, hq2, hq3⟩ := HH.out
      have HF : Hid (WtR f most d m) := ⟨hm0, hq1, hq2, fun h => by
        have := hq3 h
        rw [Ac.Fo.drop_len, Ac.wgt, Ac.take_len] at this
        omega⟩
      clear HH hq1 hq2 hq3
      go_wp2
      go_ret
      exact ⟨⟨_, rfl, HF.out⟩, rfl⟩

end Go.Proofs.YtnobmgkdieaclaaGreatDoor
