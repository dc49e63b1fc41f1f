/-
  LexWrites ANSWERS true.
-/
import Derived.Test.YtdknggccjhillaaLWorks
import Derived.Test.YtdknggccjhillaaZWrite
import Derived.Test.YtdknggccjhillaaOpenLns
namespace Go.Proofs.Ytdknggccjhillaa
open Go.RowKit

def Lx.vsum (ws : List Lx.V) : Nat := (ws.map fun u => u.text.length + 1).sum
def Lx.lsum (L : List Lx.L) : Nat := (L.map fun x => Lx.vsum x.words).sum
theorem Lx.vsum_cons (u : Lx.V) (r : List Lx.V) : Lx.vsum (u :: r) = u.text.length + 1 + Lx.vsum r := rfl
theorem Lx.lsum_cons (x : Lx.L) (r : List Lx.L) : Lx.lsum (x :: r) = Lx.vsum x.words + Lx.lsum r := rfl
theorem Lx.vsum_app (a b : List Lx.V) : Lx.vsum (a ++ b) = Lx.vsum a + Lx.vsum b := by simp [Lx.vsum]
theorem Lx.lsum_app (a b : List Lx.L) : Lx.lsum (a ++ b) = Lx.lsum a + Lx.lsum b := by simp [Lx.lsum]
theorem vtext_len (u : Lx.V) : (Lx.vtext u).length ≤ 2 * u.text.length + 2 := by
  have h := qb_len u.text
  have hq : (Lx.quote u.text).length ≤ 2 * u.text.length + 2 := by
    unfold Lx.quote
    rw [List.length_cons, List.length_append, List.length_singleton]; omega
  unfold Lx.vtext Lx.show_
  split
  · omega
  · split
    · exact hq
    · split <;> omega
theorem wrest_len : ∀ (b : Bool) (ws : List Lx.V), (Lx.wrest b ws).length ≤ 3 * Lx.vsum ws
  | _, [] => by simp [Lx.wrest]
  | b, u :: r => by
    have h1 := vtext_len u
    have h2 := wrest_len false r
    rw [Lx.wrest, List.length_append, List.length_append, Lx.vsum_cons]
    have : (if b = true then [] else ([32] : List UInt8)).length ≤ 1 := by split <;> simp
    omega
theorem vwrite_len : ∀ (L : List Lx.L), (Lx.vwrite L).length ≤ 3 * Lx.lsum L + 2 * L.length
  | [] => by simp [Lx.vwrite]
  | x :: r => by
    have h1 := wrest_len true x.words
    have h2 := vwrite_len r
    have e : Lx.vwrite (x :: r) = Lx.vline x ++ Lx.vwrite r := by simp [Lx.vwrite]
    rw [e, List.length_append, Lx.lsum_cons, List.length_cons]
    unfold Lx.vline
    rw [List.length_append, List.length_append, List.length_singleton]
    have : (if x.ind = true then [9] else ([] : List UInt8)).length ≤ 1 := by split <;> simp
    omega
theorem vsum_mem {u : Lx.V} : ∀ {ws : List Lx.V}, u ∈ ws → u.text.length ≤ Lx.vsum ws
  | x :: r, h => by
    rw [Lx.vsum_cons]
    rcases List.mem_cons.1 h with rfl | h
    · omega
    · have := vsum_mem h; omega
theorem vsum_len : ∀ (ws : List Lx.V), ws.length ≤ Lx.vsum ws
  | [] => by simp [Lx.vsum]
  | x :: r => by
    have := vsum_len r
    rw [Lx.vsum_cons, List.length_cons]; omega
theorem lsum_mem {x : Lx.L} : ∀ {L : List Lx.L}, x ∈ L → Lx.vsum x.words ≤ Lx.lsum L
  | y :: r, h => by
    rw [Lx.lsum_cons]
    rcases List.mem_cons.1 h with rfl | h
    · omega
    · have := lsum_mem h; omega

set_option maxRecDepth 100000 in
set_option maxHeartbeats 2000000 in
theorem writes_walk (v : Value) (L : List Lx.L) (w : World) (h : LnsS w w.heap.size v L) (hz : Lx.Sized L) : Calls Try.prog 6 #[v] w fun e w' => e = .returned (.bool true) ∧ Below w.heap.size w w' := by
  obtain ⟨z1, z2, z3⟩ := hz
  unfold reachBytes at z1 z2 z3
  have HZ2 : Hid _ := z2
  have HZ3 : Hid _ := z3
  clear z2 z3
  obtain ⟨ad, c, rfl, hle⟩ := h.shape
  go_enter Try.func6, Try.ntmps6
  go_wp2_with fail
  refine (works_any _).mono ?_
  rintro e w1 ⟨rfl, hB1⟩
  have h1 := h.below hB1 (Nat.le_refl _)
  go_wp2
  go_loopw [3, 4] (fun n i wr => ∃ (k N : Nat), k ≤ L.length ∧ i = .int .i64 (k : Int) ∧ n = .int .i64 (N : Int) ∧ N ≤ 200000000000000 ∧ Hid (N < 262144 → N = Lx.lsum (L.take k)) ∧ wr = w1) (fun _ i _ => L.length - (intOf i).toNat)
  case atStart => exact ⟨0, 0, Nat.zero_le _, rfl, rfl, by omega, fun _ => by simp [Lx.lsum], rfl⟩
  case round =>
  obtain ⟨k, N, hk, rfl, rfl, hN, HN, rfl⟩ := hrel
  have b0 : (N : Int) ≤ 200000000000000 := by omega
  have b1 : (L.length : Int) ≤ 140737488351232 := by omega
  by_cases hgo : k < L.length ∧ N < 262144
  · obtain ⟨hlt, hns⟩ := hgo
    have i1 : (k : Int) < (L.length : Int) := by omega
    have i2 : decide ((N : Int) < 262144) = true := decide_eq_true (by omega)
    have HNE := HN.out hns
    have hwl := HZ2.out (L.getD k Lx.noL) (by simp [List.getD, List.getElem?_eq_getElem hlt])
    have HTX : Hid _ := HZ3.out (L.getD k Lx.noL) (by simp [List.getD, List.getElem?_eq_getElem hlt])
    have HTK : Hid (Lx.lsum (L.take (k + 1)) = Lx.lsum (L.take k) + Lx.vsum (L.getD k Lx.noL).words) := by
      show _ = _
      have e : L.getD k Lx.noL = L[k] := by simp [List.getD, List.getElem?_eq_getElem hlt]
      rw [List.take_succ_eq_append_getElem hlt, Lx.lsum_app, e]
      simp [Lx.lsum]
    obtain ⟨b, o, c', ad2, c2, e, hb, -, -, p2, hW⟩ := h1.at k hlt
    simp only [Value.slice.injEq] at e
    obtain ⟨rfl, -, rfl⟩ := e
    obtain ⟨x, hx⟩ : ∃ x, L.getD k Lx.noL = x := ⟨_, rfl⟩
    rw [hx] at hwl HTX HTK p2 hW
    clear hx HN
    obtain ⟨xn, xi, xw⟩ := x
    simp only at hwl HTX HTK p2 hW
    have HNE' : Hid _ := HNE
    clear HNE
    go_wp2
    go_loopw [3, 5] (fun n i wr' => ∃ (q M : Nat), q ≤ xw.length ∧ i = .int .i64 (q : Int) ∧ n = .int .i64 (M : Int) ∧ M ≤ 200000000000000 ∧ Hid (M < 262144 → M = Lx.lsum (L.take k) + Lx.vsum (xw.take q)) ∧ wr' = wr) (fun _ i _ => xw.length - (intOf i).toNat)
    case atStart => exact ⟨0, N, Nat.zero_le _, rfl, rfl, hN, fun _ => by rw [HNE'.out]; simp [Lx.vsum], rfl⟩
    case round =>
    obtain ⟨q, M, hq, rfl, rfl, hM, HM, rfl⟩ := hrel
    have b2 : (M : Int) ≤ 200000000000000 := by omega
    have b3 : (xw.length : Int) ≤ 140737488351232 := by omega
    by_cases hgo2 : q < xw.length ∧ M < 262144
    · obtain ⟨hql, hms⟩ := hgo2
      have i3 : (q : Int) < (xw.length : Int) := by omega
      have i4 : decide ((M : Int) < 262144) = true := decide_eq_true (by omega)
      have HME : Hid _ := HM.out hms
      have htl := HTX.out (xw.getD q Lx.noV) (by simp [List.getD, List.getElem?_eq_getElem hql])
      have HVK : Hid (Lx.vsum (xw.take (q + 1)) = Lx.vsum (xw.take q) + ((xw.getD q Lx.noV).text.length + 1)) := by
        show _ = _
        have e : xw.getD q Lx.noV = xw[q] := by simp [List.getD, List.getElem?_eq_getElem hql]
        rw [List.take_succ_eq_append_getElem hql, Lx.vsum_app, e]
        simp [Lx.vsum]
      obtain ⟨b2', o2, cc2, e, hb2, q0, -, -, -, -⟩ := WdR.at hW q hql
      simp only [Value.slice.injEq] at e
      obtain ⟨rfl, -, rfl⟩ := e
      obtain ⟨T, hT⟩ : ∃ T, (xw.getD q Lx.noV).text = T := ⟨_, rfl⟩
      rw [hT] at htl HVK q0
      clear hT HM
      have b4 : ((str T).size : Int) ≤ 140737488351232 := by rw [str_size]; omega
      have HSZ : Hid _ := str_size T
      have HVQ : Hid (M + ((str T).size + 1) = Lx.lsum (L.take k) + Lx.vsum (xw.take (q + 1))) := by
        show _ = _
        rw [HVK.out, HME.out, HSZ.out]; omega
      go_wp2
      exact ⟨⟨q + 1, M + ((str T).size + 1), by omega, by go_num, by go_num, by have := HSZ.out; omega, fun _ => HVQ.out, trivial⟩, by simp [intOf]; omega⟩
    · have i5 : (¬ (q : Int) < (xw.length : Int)) ∨ ((q : Int) < (xw.length : Int) ∧ ¬ (M : Int) < 262144) := by
        by_cases hql : q < xw.length
        · exact .inr ⟨by omega, fun h => hgo2 ⟨hql, by omega⟩⟩
        · exact .inl (by omega)
      have HFIN : Hid (M < 262144 → M = Lx.lsum (L.take (k + 1))) := fun hms => by
        have hql : q = xw.length := by
          rcases Nat.lt_or_ge q xw.length with h | h
          · exact absurd ⟨h, hms⟩ hgo2
          · omega
        have := HM.out hms
        rw [hql, List.take_length] at this
        rw [this, HTK.out]
      clear hgo2 HM
      rcases i5 with i6 | ⟨i6, i7⟩
      all_goals
        go_wp2
        exact ⟨⟨k + 1, M, by omega, by go_num, rfl, hM, HFIN, trivial⟩, by simp [intOf]; omega⟩
  · have i5 : (¬ (k : Int) < (L.length : Int)) ∨ ((k : Int) < (L.length : Int) ∧ ¬ (N : Int) < 262144) := by
      by_cases hql : k < L.length
      · exact .inr ⟨by omega, fun h => hgo ⟨hql, by omega⟩⟩
      · exact .inl (by omega)
    by_cases hbig : 262144 ≤ N ∨ 65536 < L.length
    · have i6 : ((262144 : Int) ≤ (N : Int)) ∨ ((N : Int) ≤ 262143 ∧ decide ((262144 : Int) ≤ (N : Int)) = false ∧ (65536 : Int) < (L.length : Int)) := by
        by_cases hn : 262144 ≤ N
        · exact .inl (by omega)
        · exact .inr ⟨by omega, decide_eq_false (by omega), by have := hbig.resolve_left hn; omega⟩
      clear hbig hgo
      rcases i5 with i7 | ⟨i7, i8⟩
      all_goals
        rcases i6 with i9 | ⟨i9', i9, i10⟩
        all_goals
          go_wp2
          go_ret
          exact ⟨rfl, hB1⟩
    · have hN2 : N < 262144 := by omega
      have hL2 : L.length ≤ 65536 := by omega
      have hkl : k = L.length := by
        rcases Nat.lt_or_ge k L.length with h | h
        · exact absurd ⟨h, hN2⟩ hgo
        · omega
      have hS := HN.out hN2
      rw [hkl, List.take_length] at hS
      have hvl := vwrite_len L
      have i9 : decide ((262144 : Int) ≤ (N : Int)) = false := decide_eq_false (by omega)
      have i10 : decide ((65536 : Int) < (L.length : Int)) = false := decide_eq_false (by omega)
      have i7 : decide ((k : Int) < (L.length : Int)) = false := decide_eq_false (by omega)
      have HWW : Hid (∀ x ∈ L, x.words.length ≤ 1099511627) := fun x hx => by
        have h1 := lsum_mem hx
        have h2 := vsum_len x.words
        omega
      have HXX : Hid (∀ x ∈ L, ∀ u ∈ x.words, u.text.length ≤ 1099511) := fun x hx u hu => by
        have h1 := lsum_mem hx
        have h2 := vsum_mem hu
        omega
      have hW1 := Write_any _ L wr w.heap.size h1 hB1.size (by omega) (by omega) HWW.out HXX.out
      have HT1 : Hid (∀ W, Below wr.heap.size wr W → Calls Try.prog 26 #[.slice ad L.length c] W fun e w' => e = .returned (.string (str (Lx.vwrite L))) ∧ Below W.heap.size W w') := fun W hW => WriteT_any _ L W w.heap.size (h1.below hW hB1.size) (Nat.le_trans hB1.size hW.size) (by omega) (by omega) HWW.out HXX.out
      clear hgo hbig i5 hS HN
      go_wp2_with fail
      refine hW1.mono ?_
      rintro e w2 ⟨rfl, hB2⟩
      go_wp2_with fail
      refine (HT1.out _ hB2).mono ?_
      rintro e w3 ⟨rfl, hB3⟩
      have i11 : ((str (Lx.vwrite L)).toList == (str (Lx.vwrite L)).toList) = true := by simp
      go_wp2
      go_ret
      exact ⟨rfl, (hB1.trans (hB2.mono hB1.size)).trans (hB3.mono (Nat.le_trans hB1.size hB2.size))⟩

end Go.Proofs.Ytdknggccjhillaa
