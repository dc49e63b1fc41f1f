/-
  WHAT THE LAWS' great DOES.
-/
import Derived.Test.YtppcfidaalejfaaDpSame
import Derived.Test.YtppcfidaalejfaaDpVol
namespace Go.Proofs.Ytppcfidaalejfaa
open Go.RowKit

/-- a slice as it lies -/
structure RawS where
  ad : Option Addr
  n : Nat
  c : Nat
def SlR : Rc RawS where
  e := 23
  st := 64
  k := 1
  bytes := 24
  z := .slice none 0 0
  enc r := [.slice r.ad r.n r.c]
  pos := by decide
  len _ := rfl
  one f u hu := by
    simp only [List.mem_cons, List.not_mem_nil, or_false] at hu
    subst hu; rfl
  info := by kernel_rfl
  under := Try.underlying64
  zk := rfl
  small := by decide
/-- how great rules that come in can be -/
structure Dp.Sized (L : List Dp.Rule) : Prop where
  len : L.length ≤ 140737488351232
  t : ∀ u ∈ L, u.1.length ≤ 140737488351232
  d : ∀ u ∈ L, u.2.length ≤ 140737488351232
  dt : ∀ u ∈ L, ∀ x ∈ u.2, x.length ≤ 140737488351232
/-- rows of rules in a row -/
def RowsS (w : World) (B : Nat) (v : Value) (Ls : List (List Dp.Rule)) : Prop :=
  ∃ qs : List (RawS × List Dp.Rule), SlR.Sl w B v (qs.map Prod.fst) ∧ Ls = qs.map Prod.snd ∧ ∀ q ∈ qs, DrS w B (.slice q.1.ad q.1.n q.1.c) q.2
theorem RowsS.shape {w : World} {B : Nat} {v : Value} {L : List (List Dp.Rule)} (h : RowsS w B v L) : ∃ ad c, v = .slice ad L.length c ∧ L.length ≤ c := by
  obtain ⟨ps, h1, rfl, -⟩ := h
  obtain ⟨ad, c, e, hc⟩ := h1.shape
  rw [List.length_map] at e hc ⊢
  exact ⟨ad, c, e, hc⟩
theorem RowsS.at {w : World} {B : Nat} {v : Value} {L : List (List Dp.Rule)} (h : RowsS w B v L) (j : Nat) (hj : j < L.length) :
    ∃ b o c ad c2, v = .slice (some ⟨b, o, none⟩) L.length c ∧ b < B ∧ w.cell? ⟨b, o + j, none⟩ = some (.slice ad (L.getD j []).length c2) ∧ DrS w B (.slice ad (L.getD j []).length c2) (L.getD j []) := by
  obtain ⟨ps, h1, rfl, h3⟩ := h
  rw [List.length_map] at hj
  obtain ⟨b, o, c, e, hb, hc⟩ := h1.cells j (by rw [List.length_map]; exact hj)
  have hg : (ps.map Prod.snd).getD j [] = ps[j].2 := by simp [List.getD, List.getElem?_eq_getElem hj]
  rw [hg]
  have k3 := h3 ps[j] (List.getElem_mem hj)
  obtain ⟨ad, c2, e2, -⟩ := k3.shape
  rw [e2] at k3
  refine ⟨b, o, c, ad, c2, by rw [e]; simp, hb, ?_, k3⟩
  have := hc 0 _ (by decide) rfl
  rw [Nat.add_zero, show j * SlR.k = j from Nat.mul_one j] at this
  rw [this, ← e2]
  simp
theorem RowsS.one {w : World} {ad : Option Addr} {n c : Nat} {L : List Dp.Rule} {B : Nat} (h : DrS w B (.slice ad n c) L) (hB : B ≤ w.heap.size) : RowsS (w.alloc (.cells #[.slice ad n c] 23)) (w.heap.size + 1) (.slice (some ⟨w.heap.size, 0, none⟩) 1 1) [L] := by
  refine ⟨[(⟨ad, n, c⟩, L)], SlR.lit w ⟨ad, n, c⟩ _ rfl, rfl, fun q hq => ?_⟩
  rw [List.mem_singleton] at hq
  subst hq
  exact (h.below ((Below.refl w.heap.size w).alloc (Nat.le_refl _) _) hB).mono (by omega)
/-- all that several rows of rules are -/
def Dp.vols (Ls : List (List Dp.Rule)) : Nat := (Ls.map Dp.vol).sum
theorem Dp.vols_take {Ls : List (List Dp.Rule)} {i : Nat} (h : i < Ls.length) : Dp.vols (Ls.take (i + 1)) = Dp.vols (Ls.take i) + Dp.vol (Ls.getD i []) := by
  unfold Dp.vols
  rw [List.take_succ_eq_append_getElem h, List.map_append, List.sum_append]
  simp [List.getD, List.getElem?_eq_getElem h]
theorem Dp.vol_take {L : List Dp.Rule} {i : Nat} (h : i < L.length) : Dp.vol (L.take (i + 1)) = Dp.vol (L.take i) + (1 + (L.getD i Dp.noR).1.length + ((L.getD i Dp.noR).2.map fun d => 1 + d.length).sum) := by
  unfold Dp.vol
  rw [List.take_succ_eq_append_getElem h, List.map_append, List.sum_append]
  simp [List.getD, List.getElem?_eq_getElem h]
def Dp.dsum (d : List (List UInt8)) : Nat := (d.map fun d => 1 + d.length).sum
theorem Dp.dsum_take {d : List (List UInt8)} {i : Nat} (h : i < d.length) : Dp.dsum (d.take (i + 1)) = Dp.dsum (d.take i) + (1 + (d[i]).length) := by
  unfold Dp.dsum
  rw [List.take_succ_eq_append_getElem h, List.map_append, List.sum_append]
  simp
theorem List.getD_mem' {α : Type} (z : α) {l : List α} {i : Nat} (h : i < l.length) : l.getD i z ∈ l := by simp [List.getD, List.getElem?_eq_getElem h]

set_option maxRecDepth 100000 in
set_option maxHeartbeats 4000000 in
theorem great_any (vL : Value) (Ls : List (List Dp.Rule)) (w : World) (B : Nat) (hv : RowsS w B vL Ls) (hl : Ls.length ≤ 10) (hz : ∀ L ∈ Ls, Dp.Sized L) :
    Calls Try.prog 15 #[vL] w fun e w' => ∃ M : Nat, e = .returned (.bool (decide ((M : Int) ≥ 32768))) ∧ Hid (M < 32768 → M = Dp.vols Ls) ∧ w' = w := by
  obtain ⟨ad, c, rfl, hle⟩ := hv.shape
  have HZ : Hid _ := hz
  clear hz
  go_enter Try.func15, Try.ntmps15
  go_wp2
  go_loopw [3, 10] (fun m k wr => ∃ i M : Nat, i ≤ Ls.length ∧ k = .int .i64 (i : Int) ∧ m = .int .i64 (M : Int) ∧ Hid (M ≤ 150000000000000) ∧ Hid (M < 32768 → M = Dp.vols (Ls.take i)) ∧ w = wr) (fun _ k _ => Ls.length - (intOf k).toNat)
  case atStart => exact ⟨0, 0, Nat.zero_le _, rfl, rfl, (by simp [Hid]), (fun _ => rfl), rfl⟩
  case round =>
    obtain ⟨i, M, hi, rfl, rfl, HMB, HM, rfl⟩ := hrel
    by_cases hlt : i < Ls.length
    · have i1 : (i : Int) < (Ls.length : Int) := by omega
      obtain ⟨b, o, c0, ad2, c2, e, hbl, p0, hS⟩ := hv.at i hlt
      simp only [Value.slice.injEq] at e
      obtain ⟨rfl, -, rfl⟩ := e
      have hzx := HZ.out _ (List.getD_mem' [] hlt)
      have HVT : Hid _ := Dp.vols_take hlt
      obtain ⟨L, hL⟩ : ∃ L, Ls.getD i [] = L := ⟨_, rfl⟩
      rw [hL] at p0 hS hzx HVT
      clear hL
      obtain ⟨zl, zt, zd, zdt⟩ := hzx
      have HZT : Hid _ := zt
      have HZD : Hid _ := zd
      have HZX : Hid _ := zdt
      clear zt zd zdt
      obtain ⟨T0, hT0⟩ : ∃ T0, Dp.vols (Ls.take i) = T0 := ⟨_, rfl⟩
      rw [hT0] at HM HVT
      clear hT0
      go_wp2
      go_loopw [3, 6] (fun m k wr => ∃ j M : Nat, j ≤ L.length ∧ k = .int .i64 (j : Int) ∧ m = .int .i64 (M : Int) ∧ Hid (M ≤ 150000000000000) ∧ Hid (M < 32768 → M = T0 + Dp.vol (L.take j)) ∧ w = wr) (fun _ k _ => L.length - (intOf k).toNat)
      case atStart => exact ⟨0, M, Nat.zero_le _, rfl, rfl, HMB, (fun h => by rw [HM.out h]; rfl), rfl⟩
      case round =>
        obtain ⟨j, M, hj, rfl, rfl, HMB, HM, rfl⟩ := hrel
        have mb : (M : Int) ≤ 150000000000000 := by have := HMB.out; omega
        have HEND : Hid ((M < 32768 → j = L.length) → M < 32768 → M = Dp.vols (Ls.take (i + 1))) := fun h1 h2 => by
          rw [HM.out h2, HVT.out, h1 h2, List.take_length]
        by_cases hjl : j < L.length
        · have j1 : (j : Int) < (L.length : Int) := by omega
          by_cases hm : M < 32768
          · have m1 : (M : Int) < 32768 := by omega
            have HM2 : Hid _ := HM.out hm
            obtain ⟨b2, o2, c3, ad3, c4, e, hbl2, q0, q1, hS2⟩ := hS.at j hjl
            simp only [Value.slice.injEq] at e
            obtain ⟨rfl, -, rfl⟩ := e
            have zt := HZT.out _ (List.getD_mem' Dp.noR hjl)
            have zd := HZD.out _ (List.getD_mem' Dp.noR hjl)
            have zx := HZX.out _ (List.getD_mem' Dp.noR hjl)
            have HVJ : Hid _ := Dp.vol_take hjl
            obtain ⟨u, hu⟩ : ∃ u, L.getD j Dp.noR = u := ⟨_, rfl⟩
            rw [hu] at q0 q1 hS2 zt zd zx HVJ
            clear hu HM HEND hm
            obtain ⟨u1, u2⟩ := u
            simp only at zt zd
            have HVJ : Hid (Dp.vol (L.take (j + 1)) = Dp.vol (L.take j) + (1 + u1.length + Dp.dsum u2)) := HVJ.out
            have HZX2 : Hid _ := zx
            clear zx
            have hsz := str_size u1
            obtain ⟨s1, hs1⟩ : ∃ s1, str u1 = s1 := ⟨_, rfl⟩
            rw [hs1] at q0 hsz
            obtain ⟨S1, hS1⟩ : ∃ S1, s1.size = S1 := ⟨_, rfl⟩
            have HS1 : Hid (u1.length = S1) := by show _ = _; omega
            have hsb : (S1 : Int) ≤ 140737488351232 := by omega
            have HSS : Hid _ := hS1
            obtain ⟨M1, hM1⟩ : ∃ M1, M + (1 + S1) = M1 := ⟨_, rfl⟩
            have HM1 : Hid _ := hM1
            have hmw : (M : Int) + (1 + (s1.size : Int)) = (M1 : Int) := by omega
            have mb1 : (M1 : Int) ≤ 140737488384001 := by omega
            have sbz : (s1.size : Int) ≤ 140737488351232 := by omega
            clear hs1 hsz hS1 hM1 zt
            go_wp2
            go_loopw [3, 7] (fun m k wr => ∃ n M : Nat, n ≤ u2.length ∧ k = .int .i64 (n : Int) ∧ m = .int .i64 (M : Int) ∧ Hid (M ≤ 150000000000000) ∧ Hid (M < 32768 → M = M1 + Dp.dsum (u2.take n)) ∧ w = wr) (fun _ k _ => u2.length - (intOf k).toNat)
            case atStart => exact ⟨0, M1, Nat.zero_le _, rfl, by go_num, (by show _ ≤ _; omega), (fun _ => rfl), rfl⟩
            case round =>
              obtain ⟨n, M9, hn, rfl, rfl, HMB9, HM9, rfl⟩ := hrel
              have mb9 : (M9 : Int) ≤ 150000000000000 := by have := HMB9.out; omega
              have HE9 : Hid ((M9 < 32768 → n = u2.length) → M9 < 32768 → M9 = T0 + Dp.vol (L.take (j + 1))) := fun h1 h2 => by
                rw [HM9.out h2, HVJ.out, h1 h2, List.take_length, ← HM1.out, HM2.out, ← HS1.out]
                omega
              by_cases hnl : n < u2.length
              · have n1 : (n : Int) < (u2.length : Int) := by omega
                by_cases hm9 : M9 < 32768
                · have m9 : (M9 : Int) < 32768 := by omega
                  obtain ⟨b3, o3, c5, e, -, r0⟩ := BR.ix hS2 hnl
                  simp only [Value.slice.injEq] at e
                  obtain ⟨rfl, -, rfl⟩ := e
                  have zx := HZX2.out u2[n] (List.getElem_mem hnl)
                  have hsz := str_size u2[n]
                  have HDT : Hid _ := Dp.dsum_take hnl
                  have HM9' : Hid _ := HM9.out hm9
                  generalize u2[n] = dd at *
                  obtain ⟨s2, hs2⟩ : ∃ s2, str dd = s2 := ⟨_, rfl⟩
                  rw [hs2] at r0 hsz
                  obtain ⟨M2, hM2⟩ : ∃ M2, M9 + (1 + s2.size) = M2 := ⟨_, rfl⟩
                  have HM2' : Hid (M2 = M1 + Dp.dsum (u2.take (n + 1))) := by
                    show _ = _
                    rw [HDT.out, ← hM2, HM9'.out]; omega
                  have hmw2 : (M9 : Int) + (1 + (s2.size : Int)) = (M2 : Int) := by omega
                  have sb2 : (s2.size : Int) ≤ 140737488351232 := by omega
                  have mb2 : (M2 : Int) ≤ 140737488384001 := by omega
                  clear hs2 hsz hM2 HM9 HDT HE9 zx
                  go_wp2
                  exact ⟨⟨n + 1, M2, by omega, by go_num, by go_num, (by show _ ≤ _; omega), (fun _ => HM2'.out), trivial⟩, by simp [intOf]; omega⟩
                · have m9 : ¬ (M9 : Int) < 32768 := by omega
                  have HX : Hid _ := HE9.out (fun h => absurd h hm9)
                  clear hm9 HE9
                  go_wp2
                  exact ⟨⟨j + 1, M9, by omega, by go_num, rfl, HMB9, HX, trivial⟩, by simp [intOf]; omega⟩
              · have n1 : ¬ (n : Int) < (u2.length : Int) := by omega
                have HX : Hid _ := HE9.out (fun _ => by omega)
                clear HE9
                go_wp2
                exact ⟨⟨j + 1, M9, by omega, by go_num, rfl, HMB9, HX, trivial⟩, by simp [intOf]; omega⟩
          · have m1 : ¬ (M : Int) < 32768 := by omega
            have HX : Hid _ := HEND.out (fun h => absurd h hm)
            clear hm HEND
            go_wp2
            exact ⟨⟨i + 1, M, by omega, by go_num, rfl, HMB, HX, trivial⟩, by simp [intOf]; omega⟩
        · have j1 : ¬ (j : Int) < (L.length : Int) := by omega
          have HX : Hid _ := HEND.out (fun _ => by omega)
          clear HEND
          go_wp2
          exact ⟨⟨i + 1, M, by omega, by go_num, rfl, HMB, HX, trivial⟩, by simp [intOf]; omega⟩
    · obtain rfl : i = Ls.length := by omega
      have i1 : ¬ (Ls.length : Int) < (Ls.length : Int) := by omega
      rw [List.take_length] at HM
      go_wp2
      go_ret
      exact ⟨M, rfl, HM, rfl⟩

end Go.Proofs.Ytppcfidaalejfaa
