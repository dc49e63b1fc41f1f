/-
  RulesStands: the words of an item stand one behind the other: the law's own closure.
-/
import Derived.Test.YthpipbkbldlfjaaIntSt
import Derived.Test.YthpipbkbldlfjaaKit
import Derived.Test.YthpipbkbldlfjaaRSame
import Derived.Test.YthpipbkbldlfjaaRAns
import Derived.BigQuiet
import Derived.Deep.RegionHeld3
namespace Go.Proofs.Ythpipbkbldlfjaa
open Go.RowKit

/-- where the next word may stand -/
def Lx.lp : Nat → List (Lx.W Nat) → Nat
  | p, [] => p
  | _, w :: r => Lx.lp (w.at_ + 1) r
theorem Lx.row_app {t : List UInt8} : ∀ {T U : List (Lx.W Nat)} {p : Nat}, Lx.Row t p (T ++ U) → Lx.Row t p T ∧ Lx.Row t (Lx.lp p T) U
  | [], _, _, h => ⟨trivial, h⟩
  | _ :: _, _, _, h => ⟨⟨h.1, h.2.1, (Lx.row_app h.2.2).1⟩, (Lx.row_app h.2.2).2⟩
theorem Lx.lp_le : ∀ {T : List (Lx.W Nat)} {p q : Nat}, p ≤ q → (∀ w ∈ T, w.at_ < q) → Lx.lp p T ≤ q
  | [], _, _, h, _ => h
  | w :: T, p, q, _, hw => by
    rw [Lx.lp]
    exact Lx.lp_le (T := T) (hw w (List.mem_cons_self ..)) fun u hu => hw u (List.mem_cons_of_mem _ hu)

/-- the block of a number -/
def Lst (w : World) (g : Nat) (x : Int) : Prop := w.heap[g]? = some (.cells #[.int .i64 x] 3 (0, 0))
theorem Lst.cell {w : World} {g : Nat} {x : Int} (h : Lst w g x) : w.cell? ⟨g, 0, none⟩ = some (.int .i64 x) := by
  unfold Lst at h
  simp [World.cell?, h]
theorem Lst.set {w : World} {g : Nat} {x : Int} (h : Lst w g x) (y : Int) : Lst (w.setCell ⟨g, 0, none⟩ (.int .i64 y)) g y := by
  unfold Lst at h ⊢
  rw [heap_setCell_same w g 0 _ 3 _ h]
  rfl
theorem Lst.lt {w : World} {g : Nat} {x : Int} (h : Lst w g x) : g < w.heap.size := (Array.getElem?_eq_some_iff.1 h).1
theorem Lst.below {w w' : World} {g : Nat} {x : Int} (h : Lst w g x) (hb : Below w.heap.size w w') : Lst w' g x := (hb.block g h.lt).trans h

/-- what the closure reads: the lines' beginnings, the text; all below the block of 'last' -/
structure StW (s : ByteArray) (ST : List Nat) (w : World) (g1 g5 g7 b4 o4 c5 : Nat) : Prop where
  sm : s.size ≤ 1048576
  sl : ST.length ≤ s.size + 1
  sa : ∀ a, a ≤ s.size → 1 ≤ (Lx.place (bs s) a).1 ∧ (Lx.place (bs s) a).1 ≤ ST.length ∧ ST.getD ((Lx.place (bs s) a).1 - 1) 0 = a - (Lx.place (bs s) a).2
  st : IntR.Sl w g7 (.slice (some ⟨b4, o4, none⟩) ST.length c5) ST
  l5 : g5 < g7
  l1 : g1 < g7
  l7 : g7 < w.heap.size
  h5 : w.cell? ⟨g5, 0, none⟩ = some (.slice (some ⟨b4, o4, none⟩) ST.length c5)
  h1 : w.cell? ⟨g1, 0, none⟩ = some (.string s)
theorem StW.below {s : ByteArray} {ST : List Nat} {w w' : World} {g1 g5 g7 b4 o4 c5 : Nat} (h : StW s ST w g1 g5 g7 b4 o4 c5) (hb : Below g7 w w') : StW s ST w' g1 g5 g7 b4 o4 c5 :=
  ⟨h.sm, h.sl, h.sa, h.st.below hb (Nat.le_refl _), h.l5, h.l1, Nat.lt_of_lt_of_le h.l7 hb.size, (cell_below hb h.l5 0).trans h.h5, (cell_below hb h.l1 0).trans h.h1⟩
theorem StW.turn {s : ByteArray} {ST : List Nat} {w w' : World} {g1 g5 g7 b4 o4 c5 : Nat} (h : StW s ST w g1 g5 g7 b4 o4 c5) (ht : Turn [g7] w w') : Below g7 w w' :=
  ht.below' (by have := h.l7; omega) (fun x hx => by rw [List.mem_singleton] at hx; omega)
/-- a place's line begins in the row -/
theorem StW.at {s : ByteArray} {ST : List Nat} {w : World} {g1 g5 g7 b4 o4 c5 : Nat} (h : StW s ST w g1 g5 g7 b4 o4 c5) (a : Nat) (ha : a ≤ s.size) :
    ∃ pl pc st : Nat, (Lx.place (bs s) a).1 = pl + 1 ∧ (Lx.place (bs s) a).2 = pc ∧ st + pc = a ∧ pl < ST.length ∧ b4 < g7 ∧ w.cell? ⟨b4, o4 + pl, none⟩ = some (.int .i64 (st : Int)) := by
  obtain ⟨h1, h2, h3⟩ := h.sa a ha
  have hle := (place_le s a).2
  refine ⟨(Lx.place (bs s) a).1 - 1, (Lx.place (bs s) a).2, a - (Lx.place (bs s) a).2, by omega, rfl, by omega, by omega, ?_⟩
  obtain ⟨b, o, c, e, hb, hc⟩ := IntR.at h.st ((Lx.place (bs s) a).1 - 1) (by omega)
  simp only [Value.slice.injEq, Option.some.injEq, Addr.mk.injEq, and_true] at e
  obtain ⟨⟨rfl, rfl⟩, -⟩ := e
  rw [h3] at hc
  exact ⟨hb, hc⟩

set_option maxRecDepth 100000 in
set_option maxHeartbeats 4000000 in
theorem stand_any (s : ByteArray) (ST : List Nat) (v : Value) (T : List (Lx.W Nat)) (p : Nat) (la : Int) (w : World) (g1 g5 g7 b4 o4 c5 : Nat) (hC : StW s ST w g1 g5 g7 b4 o4 c5) (hv : WdR.Sl w g7 v (T.map (Lx.told (bs s)))) (h7 : Lst w g7 la) (hR : Lx.Row (bs s) p T) (h0 : -1 ≤ la) (h1 : la < (p : Int)) (h2 : la < (s.size : Int)) (hTl : T.length ≤ 1099511627) :
    Calls Try.prog 27 #[v, .pointer (some ⟨g5, 0, none⟩), .pointer (some ⟨g7, 0, none⟩), .pointer (some ⟨g1, 0, none⟩)] w fun e w' => e = .returned (.bool true) ∧ ∃ la' : Int, Lst w' g7 la' ∧ -1 ≤ la' ∧ la' < (Lx.lp p T : Int) ∧ la' < (s.size : Int) ∧ Turn [g7] w w' := by
  obtain ⟨ad, c, rfl, hle⟩ := hv.shape
  rw [List.length_map] at hv hle ⊢
  have hsm := hC.sm
  have hstl := hC.sl
  obtain ⟨P, hP⟩ : ∃ P, Lx.lp p T = P := ⟨_, rfl⟩
  rw [hP]
  go_enter Try.func27, Try.ntmps27
  go_wp2
  go_loopw [10] (fun k wr => ∃ (i p' : Nat) (la' : Int), i ≤ T.length ∧ k = .int .i64 (i : Int) ∧ Lst wr g7 la' ∧ Lx.Row (bs s) p' (T.drop i) ∧ Hid (Lx.lp p' (T.drop i) = P) ∧ -1 ≤ la' ∧ la' < (p' : Int) ∧ la' < (s.size : Int) ∧ Turn [g7] w wr) (fun k _ => T.length - (intOf k).toNat)
  case atStart => exact ⟨0, p, la, Nat.zero_le _, rfl, h7, by simpa using hR, by show _ = _; simpa using hP, h0, h1, h2, Turn.refl _ _⟩
  case round =>
    obtain ⟨i, p', la', hi, rfl, hL, hRi, HPi, a0, a1, a2, hT⟩ := hrel
    have hbT := hC.turn hT
    have hCw := hC.below hbT
    by_cases hlt : i < T.length
    · have i1 : (i : Int) < (T.length : Int) := by omega
      rw [List.drop_eq_getElem_cons hlt] at hRi HPi
      obtain ⟨x, hx⟩ : ∃ x, T[i] = x := ⟨_, rfl⟩
      rw [hx] at hRi HPi
      obtain ⟨k1, k2, k3⟩ := hRi
      have hxa := k2.lt
      rw [bs_length] at hxa
      obtain ⟨pl, pc, st, e1, e2, e3, e4, e5, q5⟩ := hCw.at x.at_ (by omega)
      obtain ⟨b2, o2, cc2, e, hb2, r0, r1, r2, r3, r4⟩ := WdR.at (hv.below hbT (Nat.le_refl _)) i (by rw [List.length_map]; exact hlt)
      simp only [Value.slice.injEq] at e
      obtain ⟨rfl, -, rfl⟩ := e
      have hg : (T.map (Lx.told (bs s))).getD i Lx.noV = Lx.told (bs s) x := by rw [getD_mem _ (by rw [List.length_map]; exact hlt), List.getElem_map, hx]
      rw [hg] at r0 r1 r2 r3 r4
      obtain ⟨pn, hpn⟩ : ∃ pn, pl + 1 = pn := ⟨_, rfl⟩
      obtain ⟨xa, hxx⟩ : ∃ xa, x.at_ = xa := ⟨_, rfl⟩
      rw [hpn] at e1
      replace r1 : wr.cell? ⟨b2, o2 + i * 5 + 1, none⟩ = some (.int .i64 (pn : Int)) := by rw [← e1]; exact r1
      replace r2 : wr.cell? ⟨b2, o2 + i * 5 + 2, none⟩ = some (.int .i64 (pc : Int)) := by rw [← e2]; exact r2
      rw [hxx] at e3 k1 k3 hxa
      have HPx : Hid (Lx.lp (xa + 1) (T.drop (i + 1)) = P) := by
        have := HPi.out
        rw [Lx.lp, hxx] at this
        exact this
      generalize (Lx.told (bs s) x).text = tx at *
      generalize (Lx.told (bs s) x).quoted = qx at *
      generalize (Lx.told (bs s) x).mark = mx at *
      have n1 : decide ((pn : Int) < 1) = false := decide_eq_false (by omega)
      have n2 : decide (ST.length < pn) = false := decide_eq_false (by omega)
      have n3 : decide ((xa : Int) ≤ la') = false := decide_eq_false (by omega)
      have n4 : (pn : Int) - 1 = (pl : Int) := by omega
      have n5 : (st : Int) + (pc : Int) = (xa : Int) := by omega
      have n6 : (pl : Int) < (ST.length : Int) := by omega
      have n7 : (xa : Int) ≤ 1048576 := by omega
      have n8 : (pn : Int) ≤ 1048578 := by omega
      have q1 := hCw.h5
      have q2 := hL.cell
      have HK3 : Hid _ := k3
      have HLT : Hid (i + 1 ≤ T.length) := hlt
      have HXA : Hid ((xa : Int) < (s.size : Int)) := by rw [Hid]; omega
      clear HPi hx hg e1 e2 e3 k1 k2 k3 hxa hxx hpn
      go_upto_region 4 with fail
      obtain ⟨X, hX⟩ : ∃ X, wr.alloc (.cells #[.string (str tx), .int .i64 (pn : Int), .int .i64 (pc : Int), .bool qx, .bool mx] 36) = X := ⟨_, rfl⟩
      rw [hX]
      obtain ⟨gx, hgx⟩ : ∃ gx, wr.heap.size = gx := ⟨_, rfl⟩
      have hbX : Below wr.heap.size wr X := by rw [← hX]; exact below_box wr _
      have hXn : X.heap[gx]? = some (.cells #[.string (str tx), .int .i64 (pn : Int), .int .i64 (pc : Int), .bool qx, .bool mx] 36 (0, 0)) := by rw [← hX, ← hgx]; exact heap_alloc_new wr _
      have x1 : X.cell? ⟨gx, 1, none⟩ = some (.int .i64 (pn : Int)) := by simp [World.cell?, hXn]
      have x2 : X.cell? ⟨gx, 2, none⟩ = some (.int .i64 (pc : Int)) := by simp [World.cell?, hXn]
      have hlX := hL.below hbX
      have hTX := hT.belowTrans hbX
      have y1 := (cell_below hbX (b := g5) (by have := hL.lt; have := hCw.l5; omega) 0).trans q1
      have y2 := hlX.cell
      have y5 := (cell_below hbX (b := b4) (by have := hL.lt; omega) (o4 + pl)).trans q5
      have yf : X.frozen? ⟨g7, 0, none⟩ = false := frozen_of_row X g7 0 _ _ hlX
      have HTS : Hid (∀ q, Turn [g7] w ((X.drewN q).setCell ⟨g7, 0, none⟩ (.int .i64 (xa : Int)))) := fun q => (hTX.drewN q).set (fun _ => List.mem_singleton_self _) _
      have HLS : Hid (∀ q, Lst ((X.drewN q).setCell ⟨g7, 0, none⟩ (.int .i64 (xa : Int))) g7 (xa : Int)) := fun q => Lst.set (w := X.drewN q) hlX (xa : Int)
      have z1 : g7 ≠ gx := by have := hL.lt; omega
      have z2 : g7 ≠ g5 := by have := hCw.l5; omega
      have z3 : g7 ≠ b4 := by omega
      rw [hgx]
      clear hX hgx hXn hbX hlX hTX q1 q2 q5 r0 r1 r2 r3 r4 hT hL hCw hbT hv hC h7 hR
      go_quiet (fail)
      go_wp2_with fail
      have m0 : (0 : Int) ≤ (pl : Int) := by omega
      have m1 : IntKind.i64.wrap (pl : Int) = (pl : Int) := by rw [IntKind.wrap_i64]; omega
      have m2 : IntKind.i64.wrap (xa : Int) = (xa : Int) := by rw [IntKind.wrap_i64]; omega
      go_region_held3 (fun W : World => W.cell? ⟨gx, 1, none⟩ = some (.int .i64 (pn : Int)) ∧ W.cell? ⟨gx, 2, none⟩ = some (.int .i64 (pc : Int)) ∧ W.cell? ⟨g5, 0, none⟩ = some (.slice (some ⟨b4, o4, none⟩) ST.length c5) ∧ W.cell? ⟨b4, o4 + pl, none⟩ = some (.int .i64 (st : Int))) (go_keep) (fail)
      go_wp2
      exact ⟨⟨i + 1, xa + 1, (xa : Int), HLT.out, by go_num, HLS.out _, HK3.out, HPx.out, by omega, by omega, HXA.out, HTS.out _⟩, by have := HLT.out; simp [intOf]; omega⟩
    · have i1 : ¬ (i : Int) < (T.length : Int) := by omega
      obtain rfl : i = T.length := by omega
      have HFP : Hid (p' = P) := by
        have := HPi.out
        rwa [List.drop_length, Lx.lp] at this
      have q1 := hCw.h1
      have q2 := hL.cell
      have n1 : decide (la' < (s.size : Int)) = true := decide_eq_true a2
      clear HPi hRi
      go_wp2
      go_ret
      rw [← HFP.out]
      exact ⟨rfl, la', hL, a0, a1, a2, hT⟩

end Go.Proofs.Ythpipbkbldlfjaa
