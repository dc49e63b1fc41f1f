/-
  DepfileParses, walked.
-/
import Derived.Test.YtppcfidaalejfaaDpRead
import Derived.Test.YtppcfidaalejfaaDpParT
import Derived.Test.YtppcfidaalejfaaDpWipe
import Derived.Test.YtppcfidaalejfaaDpSame
namespace Go.Proofs.Ytppcfidaalejfaa
open Go.RowKit

/-- the blocks from lo to hi are what they were -/
def Zone (lo hi : Nat) (w w' : World) : Prop := w.heap.size ≤ w'.heap.size ∧ ∀ k, lo ≤ k → k < hi → w'.heap[k]? = w.heap[k]?
theorem Zone.refl (lo hi : Nat) (w : World) : Zone lo hi w w := ⟨Nat.le_refl _, fun _ _ _ => rfl⟩
theorem Zone.grow {lo hi : Nat} {a b c : World} {row : Option Nat} (h : Zone lo hi a b) (hg : b.grownBy c row) (hhi : hi ≤ a.heap.size) (hr : ∀ g, row = some g → g < lo ∨ hi ≤ g) : Zone lo hi a c :=
  ⟨Nat.le_trans h.1 hg.size, fun k h1 h2 => (hg.block k (Nat.lt_of_lt_of_le h2 (Nat.le_trans hhi h.1)) (fun e => by have := hr k e.symm; omega)).trans (h.2 k h1 h2)⟩
theorem Zone.alloc {lo hi : Nat} {a b : World} (h : Zone lo hi a b) (hhi : hi ≤ a.heap.size) (o : Obj) : Zone lo hi a (b.alloc o) :=
  ⟨Nat.le_trans h.1 (by rw [size_alloc]; omega), fun k h1 h2 => (Below.heap_alloc b o k (Nat.lt_of_lt_of_le h2 (Nat.le_trans hhi h.1))).trans (h.2 k h1 h2)⟩
theorem Zone.set {lo hi : Nat} {a b : World} (h : Zone lo hi a b) {g j : Nat} (hg : g < lo ∨ hi ≤ g) (v : Value) : Zone lo hi a (b.setCell ⟨g, j, none⟩ v) :=
  ⟨by rw [size_setCell]; exact h.1, fun k h1 h2 => (Below.heap_setCell b ⟨g, j, none⟩ v k (fun e => by have : k = g := e; omega)).trans (h.2 k h1 h2)⟩
theorem Zone.drewN {lo hi : Nat} {a b : World} (h : Zone lo hi a b) (n : Nat) : Zone lo hi a (b.drewN n) := h
theorem own_keep {α : Type} {R : Rc α} {w w' : World} {lo hi : Nat} {v : Value} {l : List α} (h : R.Own w lo v l) (hz : Zone lo hi w w') (hh : w.heap.size ≤ hi) : R.Own w' lo v l := by
  refine ⟨h.1, ?_⟩
  have hlt := h.lt
  rcases h.2 with h0 | ⟨g, cap, cur, rfl, h2, h3, h4⟩
  · exact .inl h0
  · exact .inr ⟨g, cap, cur, rfl, h2, (hz.2 g h2 (Nat.lt_of_lt_of_le (hlt g rfl).2 hh)).trans h3, h4⟩
theorem DrOwn.keep {w w' : World} {lo hi : Nat} {v : Value} {L : List Dp.Rule} (h : DrOwn w lo v L) (hz : Zone lo hi w w') (hh : w.heap.size ≤ hi) : DrOwn w' lo v L := by
  obtain ⟨ps, h1, h2, h3, h4⟩ := h
  exact ⟨ps, own_keep h1 hz hh, h2, fun p hp => ⟨(h3 p hp).1, own_keep (h3 p hp).2 hz hh⟩, h4⟩
theorem own_none {w : World} {base n c : Nat} {ad : Option Addr} {l : List (List UInt8)} (h : BR.Own w base (.slice ad n c) l) : BR.Own w base (.slice ad 0 c) [] ∧ (Value.slice ad 0 c).ownBlock = (Value.slice ad n c).ownBlock := by
  rcases h.2 with ⟨h0, -⟩ | ⟨g, cap, cur, e, h2, h3, h4, h5, h6, h7⟩
  · cases h0
    exact ⟨Rc.Own.nil _ _, rfl⟩
  · simp only [Value.slice.injEq] at e
    obtain ⟨rfl, -, rfl⟩ := e
    exact ⟨⟨rfl, .inr ⟨g, c, cur, rfl, h2, h3, Nat.zero_le _, h5, h6, by simp [Rc.vals]⟩⟩, rfl⟩

set_option maxRecDepth 100000 in
set_option maxHeartbeats 8000000 in
theorem parses_walk (hP : ParseC) (tx : ByteArray) (w : World) (htx : tx.size ≤ 140737488351232) :
    Calls Try.prog 3 #[.string tx] w fun e w' => e = .returned (.bool true) ∧ Below w.heap.size w w' := by
  have eS := eql_spot
  have nS := neq_spot
  have gS := guard_spot
  have hW := works_any hP w
  have htb : (tx.size : Int) ≤ 140737488351232 := by omega
  go_enter Try.func3, Try.ntmps3
  go_wp2_with fail
  refine hW.mono ?_
  rintro e w1 ⟨rfl, hb1⟩
  clear hW
  by_cases hbig : tx.size ≤ 262144
  rotate_left
  · have p0 : decide ((262144 : Int) < (tx.size : Int)) = true := decide_eq_true (by omega)
    have hp := hP tx w1
    rw [Dp.parse_long (by rw [bs_length]; omega)] at hp
    go_wp2_with fail
    refine hp.mono ?_
    rintro e w2 ⟨rfl, hb2⟩
    have hb := (hb1.trans (hb2.mono hb1.size)).alloc (Nat.le_trans hb1.size hb2.size) (.cells #[.int .i64 3, .int .i64 32768] 26)
    have s2 := Rw.new w2 #[.int .i64 3, .int .i64 32768] 26
    have z0 : (w2.alloc (.cells #[.int .i64 3, .int .i64 32768] 26)).cell? ⟨w2.heap.size, 0, none⟩ = some (.int .i64 3) := s2.cell 0
    have z1 : (w2.alloc (.cells #[.int .i64 3, .int .i64 32768] 26)).cell? ⟨w2.heap.size, 1, none⟩ = some (.int .i64 32768) := s2.cell 1
    clear s2 hp hb2
    go_wp2
    go_ret
    exact ⟨rfl, hb⟩
  have p0 : decide ((262144 : Int) < (tx.size : Int)) = false := decide_eq_false (by omega)
  have HPP : Hid (∀ W, Calls Try.prog 12 #[.string tx] W fun e w' => PsDEnd W w' e (Dp.parse (bs tx))) := fun W => hP tx W
  have HRP : Hid (∀ W, Calls Try.prog 13 #[.string tx] W fun e w' => PsDEnd W w' e (Dp.parse (bs tx))) := fun W => ParseT_any tx W
  have HSM : Hid (∀ l, Dp.parse (bs tx) = .inr l → l.length ≤ 32769 ∧ ∀ x ∈ l, x.2.length ≤ 32769) := fun l h => by
    by_cases hs : tx.size ≤ 32768
    · exact Dp.parse_small (by rw [bs_length]; exact hs) h
    · rw [Dp.parse_long (by rw [bs_length]; omega)] at h; cases h
  generalize Dp.parse (bs tx) = R at *
  clear hbig htx
  cases R with
  | inl x =>
    obtain ⟨x1, x2⟩ := x
    go_wp2_with fail
    refine (HPP.out w1).mono ?_
    rintro e w2 ⟨rfl, hb2⟩
    have hb := (hb1.trans (hb2.mono hb1.size)).alloc (Nat.le_trans hb1.size hb2.size) (.cells #[.int .i64 x1, .int .i64 (x2 : Int)] 26)
    have s2 := Rw.new w2 #[.int .i64 x1, .int .i64 (x2 : Int)] 26
    clear hb2 hb1 p0
    go_wp2_with fail
    generalize w2.alloc (.cells #[.int .i64 x1, .int .i64 (x2 : Int)] 26) = W2 at *
    generalize w2.heap.size = g2 at *
    refine (HRP.out W2).mono ?_
    rintro e w3 ⟨rfl, hb3⟩
    have hbb := (hb.trans (hb3.mono hb.size)).alloc (Nat.le_trans hb.size hb3.size) (.cells #[.int .i64 x1, .int .i64 (x2 : Int)] 26)
    have s3 := (s2.below hb3 s2.lt).alloc (.cells #[.int .i64 x1, .int .i64 (x2 : Int)] 26)
    have t3 := Rw.new w3 #[.int .i64 x1, .int .i64 (x2 : Int)] 26
    clear hb3 hb s2
    have hEq := fun W => SameD_quiet (.slice none 0 0) (.slice none 0 0) [] [] W 0 (DrS.nil _ _) (DrS.nil _ _) (by simp) (fun x hx => by cases hx)
    simp only [decide_true] at hEq
    have HEQ : Hid _ := hEq
    clear hEq
    go_wp2_with fail
    generalize w3.alloc (.cells #[.int .i64 x1, .int .i64 (x2 : Int)] 26) = W3 at *
    generalize w3.heap.size = g3 at *
    refine (HEQ.out W3).mono ?_
    rintro e w4 ⟨rfl, n4, hn4⟩
    have s4 : Rw w4 g2 #[.int .i64 x1, .int .i64 (x2 : Int)] 26 := by rw [hn4]; exact s3.drewN n4
    have t4 : Rw w4 g3 #[.int .i64 x1, .int .i64 (x2 : Int)] 26 := by rw [hn4]; exact t3.drewN n4
    have hb4 : Below w.heap.size w w4 := by rw [hn4]; exact below_drewN hbb n4
    clear hn4 s3 t3 hbb
    have z0 : w4.cell? ⟨g2, 0, none⟩ = some (.int .i64 x1) := s4.cell 0
    have z1 : w4.cell? ⟨g2, 1, none⟩ = some (.int .i64 (x2 : Int)) := s4.cell 1
    have z2 : w4.cell? ⟨g3, 0, none⟩ = some (.int .i64 x1) := t4.cell 0
    have z3 : w4.cell? ⟨g3, 1, none⟩ = some (.int .i64 (x2 : Int)) := t4.cell 1
    clear s4
    go_wp2
    go_loopw [9] (fun k wr => k = .int .i64 0 ∧ wr = w4) (fun _ _ => 0)
    case atStart => exact ⟨rfl, rfl⟩
    case round =>
      obtain ⟨rfl, rfl⟩ := hrel
      clear z0 z1 z2 z3
      go_wp2_with fail
      refine (HPP.out wr).mono ?_
      rintro e w5 ⟨rfl, hb5⟩
      have hb6 := (hb4.trans (hb5.mono hb4.size)).alloc (Nat.le_trans hb4.size hb5.size) (.cells #[.int .i64 x1, .int .i64 (x2 : Int)] 26)
      have t6 := (t4.below hb5 t4.lt).alloc (.cells #[.int .i64 x1, .int .i64 (x2 : Int)] 26)
      have u6 := Rw.new w5 #[.int .i64 x1, .int .i64 (x2 : Int)] 26
      clear hb5 t4 hb4
      go_wp2_with fail
      generalize w5.alloc (.cells #[.int .i64 x1, .int .i64 (x2 : Int)] 26) = W6 at *
      generalize w5.heap.size = g6 at *
      refine (HEQ.out W6).mono ?_
      rintro e w7 ⟨rfl, n7, hn7⟩
      have t7 : Rw w7 g3 #[.int .i64 x1, .int .i64 (x2 : Int)] 26 := by rw [hn7]; exact t6.drewN n7
      have u7 : Rw w7 g6 #[.int .i64 x1, .int .i64 (x2 : Int)] 26 := by rw [hn7]; exact u6.drewN n7
      have hb7 : Below w.heap.size w w7 := by rw [hn7]; exact below_drewN hb6 n7
      clear hn7 t6 u6 hb6
      have z2 : w7.cell? ⟨g3, 0, none⟩ = some (.int .i64 x1) := t7.cell 0
      have z3 : w7.cell? ⟨g3, 1, none⟩ = some (.int .i64 (x2 : Int)) := t7.cell 1
      have z4 : w7.cell? ⟨g6, 0, none⟩ = some (.int .i64 x1) := u7.cell 0
      have z5 : w7.cell? ⟨g6, 1, none⟩ = some (.int .i64 (x2 : Int)) := u7.cell 1
      clear t7 u7
      go_wp2
      go_ret
      exact ⟨rfl, hb7⟩
  | inr l =>
    obtain ⟨hll, hld⟩ := HSM.out l rfl
    have HLL : Hid (l.length ≤ 32769 ∧ ∀ x ∈ l, x.2.length ≤ 32769) := ⟨hll, hld⟩
    clear HSM hll hld
    go_wp2_with fail
    refine (HPP.out w1).mono ?_
    rintro e w2 ⟨va, rfl, hOa, hb2⟩
    have hb := (hb1.trans (hb2.mono hb1.size)).alloc (Nat.le_trans hb1.size hb2.size) (.cells #[.int .i64 0, .int .i64 0] 26)
    have s2 := Rw.new w2 #[.int .i64 0, .int .i64 0] 26
    have hOa := hOa.alloc (.cells #[.int .i64 0, .int .i64 0] 26)
    have hg2 : w2.heap.size < (w2.alloc (.cells #[.int .i64 0, .int .i64 0] 26)).heap.size := s2.lt
    have hw12 : w1.heap.size ≤ (w2.alloc (.cells #[.int .i64 0, .int .i64 0] 26)).heap.size := Nat.le_trans hb2.size (Nat.le_of_lt hg2)
    have hw1 : w.heap.size ≤ w1.heap.size := hb1.size
    clear hb2 hb1 p0
    go_wp2_with fail
    generalize w2.alloc (.cells #[.int .i64 0, .int .i64 0] 26) = W2 at *
    generalize w2.heap.size = g2 at *
    refine (HRP.out W2).mono ?_
    rintro e w3 ⟨vb, rfl, hOb, hb3⟩
    have hB23 : Below W2.heap.size W2 (w3.alloc (.cells #[.int .i64 0, .int .i64 0] 26)) := hb3.alloc hb3.size _
    have s3 := s2.below hB23 s2.lt
    have t3 := Rw.new w3 #[.int .i64 0, .int .i64 0] 26
    have hOb := hOb.alloc (.cells #[.int .i64 0, .int .i64 0] 26)
    have hOa3 := hOa.below hB23 (Nat.le_refl _)
    have hg3 : W2.heap.size ≤ w3.heap.size := hb3.size
    clear hb3 s2
    have hgz : (w3.alloc (.cells #[.int .i64 0, .int .i64 0] 26)).heap.size = w3.heap.size + 1 := size_alloc _ _
    go_wp2_with fail
    generalize w3.alloc (.cells #[.int .i64 0, .int .i64 0] 26) = W3 at *
    generalize w3.heap.size = g3 at *
    have hEq := SameD_quiet va vb l l W3 W3.heap.size hOa3.s hOb.s (by have := HLL.out.1; omega) (fun x hx => by have := HLL.out.2 x hx; omega)
    rw [decide_eq_true rfl] at hEq
    refine hEq.mono ?_
    rintro e w4 ⟨rfl, n4, hn4⟩
    have hB34 : Below W3.heap.size W3 w4 := by rw [hn4]; exact below_drewN (Below.refl _ _) n4
    have hZ34 : Zone W2.heap.size W3.heap.size W3 w4 := by rw [hn4]; exact (Zone.refl _ _ _).drewN n4
    have hs34 : w4.heap.size = W3.heap.size := by rw [hn4]; rfl
    have z0 : w4.cell? ⟨g2, 0, none⟩ = some (.int .i64 0) := (s3.below hB34 s3.lt).cell 0
    have z1 : w4.cell? ⟨g2, 1, none⟩ = some (.int .i64 0) := (s3.below hB34 s3.lt).cell 1
    have z2 : w4.cell? ⟨g3, 0, none⟩ = some (.int .i64 0) := (t3.below hB34 t3.lt).cell 0
    have z3 : w4.cell? ⟨g3, 1, none⟩ = some (.int .i64 0) := (t3.below hB34 t3.lt).cell 1
    -- the rules of the first answer lie below the second one's
    obtain ⟨ps, k1, k2, k3, k4⟩ := hOa
    have hD2 : Drs W2 w1.heap.size va ps := ⟨k1, k3, k4⟩
    have hLow : Hid (∀ p ∈ ps, ∀ g, p.1.deps.ownBlock = some g → g < W2.heap.size) := fun p hp g hg => (hD2.lt hp hg).2
    have hRow : Hid (∀ g, va.ownBlock = some g → g < W2.heap.size) := fun g hg => (hD2.row.lt g hg).2
    have hB24 := hB23.trans (hB34.mono hB23.size)
    have hD4 := hD2.below hB24 (Nat.le_refl _)
    have hbe := hb.trans (hB24.mono hb.size)
    obtain ⟨b0, bC, rfl, hbC⟩ := hOb.s.shape
    obtain ⟨a0, aC, e4, haC⟩ := hD4.own.s.shape
    rw [← k2] at e4 haC
    subst e4
    have hpl : ps.length = l.length := by rw [k2, List.length_map]
    have HK2 : Hid (l = ps.map Prod.snd) := k2
    clear k1 k2 k3 k4 hEq hn4 hD2 hOa3 hB23 hB34 s3 hb hB24
    obtain ⟨N, hN⟩ : ∃ N, l.length = N := ⟨_, rfl⟩
    have HN : Hid _ := hN
    have hbn : (N : Int) ≤ 32769 := by have := HLL.out.1; omega
    rw [hN] at hpl hbC haC hD4 hRow hOb ⊢
    have HPL : Hid _ := hpl
    clear hN hpl
    go_wp2
    clear z0 z1 z2 z3
    go_loopw [9] (fun k wr => ∃ (i : Nat) (qs : List (RawD × Dp.Rule)), i ≤ N ∧ k = .int .i64 (i : Int) ∧ Drs wr w1.heap.size (.slice a0 N aC) qs ∧ Hid (qs.length = N) ∧ Hid (∀ j (hj : j < qs.length), i ≤ j → qs[j].2 = l.getD j Dp.noR) ∧ Hid (∀ p ∈ qs, ∀ g, p.1.deps.ownBlock = some g → g < W2.heap.size ∨ W3.heap.size ≤ g) ∧ Zone W2.heap.size W3.heap.size W3 wr ∧ Below w.heap.size w wr) (fun k _ => N - (intOf k).toNat)
    case atStart => exact ⟨0, ps, Nat.zero_le _, rfl, hD4, HPL, (fun j hj _ => by rw [HK2.out]; simp [List.getD, List.getElem?_eq_getElem hj]), (fun p hp g hg => .inl (hLow.out p hp g hg)), hZ34, hbe⟩
    case round =>
      obtain ⟨i, qs, hi, rfl, hD, HQL, HQ, HQB, hZ, hBe⟩ := hrel
      have hS3 := hOb.keep hZ (Nat.le_refl _)
      have hts := (hZ.2 g3 hg3 (by omega)).trans t3
      have hW3r : W3.heap.size ≤ wr.heap.size := hZ.1
      by_cases hlt : i < N
      · have i1 : (i : Int) < (N : Int) := by omega
        have hiq : i < qs.length := by rw [HQL.out]; exact hlt
        obtain ⟨ga, ca, e, hga, -, -, -⟩ := Rc.Own.set hD.row i 1 (by rw [List.length_map]; exact hiq) (by decide)
        simp only [Value.slice.injEq] at e
        obtain ⟨rfl, -, rfl⟩ := e
        have hgl : ga < W2.heap.size := hRow.out ga rfl
        have hDa := hD.alloc (.cells #[.string ⟨#[103, 111, 110, 101]⟩] 9)
        obtain ⟨-, m1, hOd⟩ := hDa.cells hiq
        obtain ⟨-, m1', -⟩ := hD.cells hiq
        obtain ⟨dA, dn, dc, hqd⟩ : ∃ dA dn dc, qs[i].1.deps = .slice dA dn dc := ⟨_, _, _, rfl⟩
        rw [hqd] at m1 m1' hOd
        obtain ⟨hO0, hob0⟩ := own_none hOd
        have hh0 := Rc.slice_head BR wr dA dn dc 0 (Nat.zero_le _)
        have hh0' : ∀ X : World, (Instr.slice 30 (.slice dA dn dc) none (some (.int .i64 0)) none).run Try.prog X = .ok (.slice dA 0 dc) X := fun X => Rc.slice_head BR X dA dn dc 0 (Nat.zero_le _)
        have hLt := BR.lit wr [103, 111, 110, 101] #[.string ⟨#[103, 111, 110, 101]⟩] rfl
        have HLn : Hid (([] : List (List UInt8)).length + [([103, 111, 110, 101] : List UInt8)].length ≤ 1099511627) := by show _ ≤ _; simp
        have hzb : w1.heap.size ≤ (wr.alloc (.cells #[.string ⟨#[103, 111, 110, 101]⟩] 9)).heap.size := by rw [size_alloc]; omega
        have HSD : Hid _ := fun (w6 : World) (g cap n : Nat) (D : List (List UInt8)) (hO : BR.Own w6 w1.heap.size (.slice (some ⟨g, 0, none⟩) n cap) D) hg hn => hDa.setDeps (w5 := w6) hiq (ad' := some ⟨g, 0, none⟩) (n' := n) (c' := cap) (D := D) hO hg hn
        have HQ2 : Hid (∀ (r : RawD) (D : List (List UInt8)) j (hj : j < (qs.set i (r, (qs[i].2.1, D))).length), i + 1 ≤ j → (qs.set i (r, (qs[i].2.1, D)))[j].2 = l.getD j Dp.noR) := fun r D j hj hij => by
          rw [List.getElem_set, if_neg (by omega)]
          exact HQ.out j (by rw [List.length_set] at hj; exact hj) (by omega)
        have HQ3 : Hid (∀ (r : RawD) (D : List (List UInt8)), (qs.set i (r, (qs[i].2.1, D))).length = N) := fun r D => by rw [List.length_set]; exact HQL.out
        have HQ4 : Hid (∀ (r : RawD) (D : List (List UInt8)), (∀ g, r.deps.ownBlock = some g → g < W2.heap.size ∨ W3.heap.size ≤ g) → ∀ p ∈ qs.set i (r, (qs[i].2.1, D)), ∀ g, p.1.deps.ownBlock = some g → g < W2.heap.size ∨ W3.heap.size ≤ g) := fun r D hr p hp g hg => by
          rcases List.mem_or_eq_of_mem_set hp with hp | rfl
          · exact HQB.out p hp g hg
          · exact hr g hg
        have hdb : ∀ g, (Value.slice dA dn dc).ownBlock = some g → g < W2.heap.size ∨ W3.heap.size ≤ g := fun g hg => HQB.out qs[i] (List.getElem_mem hiq) g (by rw [hqd]; exact hg)
        have HDB : Hid _ := hdb
        have hBa := hBe.alloc hBe.size (.cells #[.string ⟨#[103, 111, 110, 101]⟩] 9)
        have hZa := hZ.alloc (Nat.le_refl _) (.cells #[.string ⟨#[103, 111, 110, 101]⟩] 9)
        have HQD : Hid _ := hqd
        have HOB : Hid _ := hob0
        clear hDa HQ HQL hqd hob0 hdb hh0 hOd m1 HQB
        go_wp2_with (at_builtin; go_must (refine BR.append_at rfl (.tmp 62) (.tmp 63) rfl w1.heap.size (wr.heap.size + 1) _ _ [] [[103, 111, 110, 101]] rfl hO0 rfl hLt (by simp) HLn hzb ?_))
        intro g cap w6 hO6 hg6 hw6 hlt6
        have hg6' : (wr.alloc (.cells #[.string ⟨#[103, 111, 110, 101]⟩] 9)).grownBy w6 (Value.slice dA dn dc).ownBlock := by rw [← HOB.out]; exact hg6
        have hO6' : BR.Own w6 w1.heap.size (.slice (some ⟨g, 0, none⟩) 1 cap) [[103, 111, 110, 101]] := hO6
        have hgz6 : g < W2.heap.size ∨ W3.heap.size ≤ g := by
          rcases hw6 with h | h
          · exact HDB.out g (by rw [← HOB.out]; exact h)
          · right; omega
        have hbe6 : Below w.heap.size w w6 := hBa.grown hg6' hBa.size fun q e => by
          have := (hD.lt (List.getElem_mem hiq) (by rw [HQD.out]; exact e)).1
          omega
        have hz6 : Zone W2.heap.size W3.heap.size W3 w6 := hZa.grow hg6' (Nat.le_refl _) HDB.out
        obtain ⟨fr6, ce6, hD6⟩ := HSD.out w6 g cap 1 [[103, 111, 110, 101]] hO6' (by rw [HQD.out]; exact hg6') (fun q hq => by
          have hq : some g = some q := hq
          rw [Option.some.injEq] at hq
          subst hq
          rw [HQD.out]
          rcases hw6 with h | h
          · exact .inl (by rw [← HOB.out]; exact h)
          · right; rw [size_alloc', h]; omega)
        rw [HQD.out] at ce6
        have hB6 : Below w.heap.size w (w6.setCell ⟨ga, i * 2 + 1, none⟩ (.slice (some ⟨g, 0, none⟩) 1 cap)) := hbe6.trans (((Turn.refl [ga] w6).set (fun _ => by simp) _).below' hbe6.size (by simp; omega))
        have hZ6 : Zone W2.heap.size W3.heap.size W3 (w6.setCell ⟨ga, i * 2 + 1, none⟩ (.slice (some ⟨g, 0, none⟩) 1 cap)) := hz6.set (.inl hgl) _
        have HR2 := HQ2.out ⟨qs[i].1.t, some ⟨g, 0, none⟩, 1, cap⟩ [[103, 111, 110, 101]]
        have HR3 := HQ3.out ⟨qs[i].1.t, some ⟨g, 0, none⟩, 1, cap⟩ [[103, 111, 110, 101]]
        have HR4 := HQ4.out ⟨qs[i].1.t, some ⟨g, 0, none⟩, 1, cap⟩ [[103, 111, 110, 101]] (fun q hq => by
          have hq : some g = some q := hq
          rw [Option.some.injEq] at hq
          subst hq
          exact hgz6)
        generalize qs.set i (⟨qs[i].1.t, some ⟨g, 0, none⟩, 1, cap⟩, (qs[i].2.1, [[103, 111, 110, 101]])) = rs at *
        have HR2 : Hid _ := HR2
        have HR3 : Hid _ := HR3
        have HR4 : Hid _ := HR4
        clear HSD HQ2 HQ3 HQ4 hg6 hg6' hw6 hlt6 hO6 hO6' hLt HLn hzb HQD HDB HOB hbe6 hz6 hBa hZa hO0
        go_upto_region 14 with fail
        generalize w6.setCell ⟨ga, i * 2 + 1, none⟩ (.slice (some ⟨g, 0, none⟩) 1 cap) = W6 at *
        have hS6 := hOb.keep hZ6 (Nat.le_refl _)
        obtain ⟨A1, hA1, hT1⟩ := hD6.s.tail (i + 1) (by rw [List.length_map, HR3.out]; omega)
        obtain ⟨A2, hA2, hT2⟩ := hS6.s.tail (i + 1) (by rw [HN.out]; omega)
        have hA1' : ∀ W : World, (Instr.slice 23 (.slice (some ⟨ga, 0, none⟩) N aC) (some (.int .i64 ((i : Int) + 1))) none none).run Try.prog W = .ok (.slice A1 (N - (i + 1)) (aC - (i + 1))) W := hA1
        have hA2' : ∀ W : World, (Instr.slice 23 (.slice b0 N bC) (some (.int .i64 ((i : Int) + 1))) none none).run Try.prog W = .ok (.slice A2 (N - (i + 1)) (bC - (i + 1))) W := hA2
        have hEqs : (rs.map Prod.snd).drop (i + 1) = l.drop (i + 1) := by
          refine List.ext_getElem (by rw [List.length_drop, List.length_drop, List.length_map, HR3.out, HN.out]) fun j h1 h2 => ?_
          rw [List.getElem_drop, List.getElem_drop, List.getElem_map]
          rw [List.length_drop, List.length_map] at h1
          rw [HR2.out (i + 1 + j) (by omega) (by omega)]
          rw [List.length_drop] at h2
          simp [List.getD, List.getElem?_eq_getElem (show i + 1 + j < l.length by omega)]
        rw [hEqs] at hT1
        have hTq : ∀ q : Nat, Calls Try.prog 14 #[.slice A1 (N - (i + 1)) (aC - (i + 1)), .slice A2 (N - (i + 1)) (bC - (i + 1))] (W6.drewN q) fun e w' => e = .returned (.bool true) ∧ ∃ n, w' = (W6.drewN q).drewN n := fun q => by
          have hb := below_drewN (Below.refl W6.heap.size W6) q
          have := SameD_quiet _ _ (l.drop (i + 1)) (l.drop (i + 1)) (W6.drewN q) W6.heap.size (hT1.below hb (Nat.le_refl _)) (hT2.below hb (Nat.le_refl _)) (by rw [List.length_drop, HN.out]; have := HLL.out.1; omega) (fun x hx => by have := HLL.out.2 x (List.mem_of_mem_drop hx); omega)
          rw [decide_eq_true rfl] at this
          exact this
        generalize N - (i + 1) = N2 at *
        generalize aC - (i + 1) = c42 at *
        generalize bC - (i + 1) = c32 at *
        clear hA1 hA2 hT1 hT2 hEqs hS6 ce6 fr6
        go_quiet (first | (go_at_call 14; exact Calls.quiet_of (hTq _)) | fail)
        go_wp2
        exact ⟨⟨i + 1, rs, by omega, by go_num, hD6.below (below_drewN (Below.refl W6.heap.size W6) _) (Nat.le_refl _), HR3, HR2, HR4, hZ6.drewN _, below_drewN hB6 _⟩, by simp [intOf]; omega⟩
      · obtain rfl : i = N := by omega
        have i1 : ¬ (i : Int) < (i : Int) := by omega
        go_wp2_with fail
        refine (HPP.out wr).mono ?_
        rintro e w8 ⟨v8, rfl, hO8, hb8⟩
        have hB8 := below_new w8 (.cells #[.int .i64 0, .int .i64 0] 26)
        have hb9 : Below wr.heap.size wr (w8.alloc (.cells #[.int .i64 0, .int .i64 0] 26)) := hb8.trans (hB8.mono hb8.size)
        have hbz := hBe.trans (hb9.mono hBe.size)
        have u8 := Rw.new w8 #[.int .i64 0, .int .i64 0] 26
        have t8 : Rw (w8.alloc (.cells #[.int .i64 0, .int .i64 0] 26)) g3 #[.int .i64 0, .int .i64 0] 26 := Rw.below hts hb9 (by omega)
        have hO9 := (hO8.alloc (.cells #[.int .i64 0, .int .i64 0] 26)).s
        have hS9 := (hS3.below hb9 (Nat.le_refl _)).s
        have hEq := SameD_quiet v8 (.slice b0 i bC) l l _ _ hO9 hS9 (by have := HLL.out.1; omega) (fun x hx => by have := HLL.out.2 x hx; omega)
        rw [decide_eq_true rfl] at hEq
        clear hO8 hO9 hS9 hb8 hB8 hts hS3 hD HQ HQL HQB
        go_wp2_with fail
        refine hEq.mono ?_
        rintro e w9 ⟨rfl, n9, hn9⟩
        have t9 : Rw w9 g3 #[.int .i64 0, .int .i64 0] 26 := by rw [hn9]; exact t8.drewN n9
        have u9 : Rw w9 w8.heap.size #[.int .i64 0, .int .i64 0] 26 := by rw [hn9]; exact u8.drewN n9
        have hb10 : Below w.heap.size w w9 := by rw [hn9]; exact below_drewN hbz n9
        clear hn9 hEq t8 u8
        have z2 : w9.cell? ⟨g3, 0, none⟩ = some (.int .i64 0) := t9.cell 0
        have z3 : w9.cell? ⟨g3, 1, none⟩ = some (.int .i64 0) := t9.cell 1
        have z4 : w9.cell? ⟨w8.heap.size, 0, none⟩ = some (.int .i64 0) := u9.cell 0
        have z5 : w9.cell? ⟨w8.heap.size, 1, none⟩ = some (.int .i64 0) := u9.cell 1
        clear t9 u9
        go_wp2
        go_ret
        exact ⟨rfl, hb10⟩

end Go.Proofs.Ytppcfidaalejfaa
