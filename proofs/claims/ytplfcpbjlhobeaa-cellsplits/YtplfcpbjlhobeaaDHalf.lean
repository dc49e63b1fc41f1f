/-
  THE WALK OF Half.
-/
import Derived.Test.YtplfcpbjlhobeaaDMiddle
import Derived.Test.YtplfcpbjlhobeaaDWell
import Derived.Test.YtplfcpbjlhobeaaDGet
namespace Go.Proofs.Ytplfcpbjlhobeaa
open Go.RowKit

theorem elemC : Try.prog.elem 25 = 24 := by simp [Program.elem, Try.underlying25]
theorem elemN : Try.prog.elem 26 = 3 := by simp [Program.elem, Try.underlying26]
theorem sizeC (w : World) : (Go.sizeOf 24).run Try.prog w = .ok 4 w := by
  obtain ⟨i0, hi, hz0, hz1, hz2⟩ := info_parts infoC
  simp [sizeOf, typeInfo, hi, hz1]
theorem sizeN (w : World) : (Go.sizeOf 3).run Try.prog w = .ok 1 w := by
  obtain ⟨i0, hi, hz0, hz1, hz2⟩ := info_parts infoN
  simp [sizeOf, typeInfo, hi, hz1]
/-- 's[:m]' and 's[m:]' of items -/
theorem headC {w : World} {B : Nat} {ad : Option Addr} {n c : Nat} {l : List Cm.It} (h : Its w B (.slice ad n c) l) (m : Nat) (hm : m ≤ l.length) :
    (∀ W : World, (Instr.slice 25 (.slice ad n c) none (some (.int .i64 (m : Int))) none).run Try.prog W = .ok (.slice ad m c) W) ∧ Its w B (.slice ad m c) (l.take m) := by
  obtain ⟨ad', c', hv, hle, hn0, h⟩ := h
  simp only [Value.slice.injEq] at hv
  obtain ⟨rfl, rfl, rfl⟩ := hv
  have hlen : (l.take m).length = m := by rw [List.length_take]; omega
  refine ⟨fun W => ?_, ad, c, by rw [hlen], by rw [hlen]; omega, hn0, fun hne => ?_⟩
  · rw [run_slice_h W 25 ad l.length c (by rw [elemC]; exact Try.underlying25) .i64 (m : Int) (by omega) (by omega), elemC, sizeC]
    simp [Result.andThen, sliced, addr_add_zero]
  · obtain ⟨b, o, rfl, hb, hcell⟩ := h (by rintro rfl; simp at hne)
    refine ⟨b, o, rfl, hb, fun j hj => ?_⟩
    rw [hlen] at hj
    rw [Cm.getD_take l m j hj]
    exact hcell j (by omega)
theorem tailC {w : World} {B : Nat} {ad : Option Addr} {n c : Nat} {l : List Cm.It} (h : Its w B (.slice ad n c) l) (m : Nat) (hm : m ≤ l.length) :
    ∃ A, (∀ W : World, (Instr.slice 25 (.slice ad n c) (some (.int .i64 (m : Int))) none none).run Try.prog W = .ok (.slice A (n - m) (c - m)) W) ∧ Its w B (.slice A (n - m) (c - m)) (l.drop m) := by
  obtain ⟨ad', c', hv, hle, hn0, h⟩ := h
  simp only [Value.slice.injEq] at hv
  obtain ⟨rfl, rfl, rfl⟩ := hv
  refine ⟨if c = m then ad else ad.map (·.add (m * 4)), fun W => ?_, if c = m then ad else ad.map (·.add (m * 4)), c - m, by rw [List.length_drop], by rw [List.length_drop]; omega, fun h0 => ?_, fun hne => ?_⟩
  · rw [run_slice_l W 25 ad l.length c (by rw [elemC]; exact Try.underlying25) .i64 (m : Int) (by omega) (by omega), elemC, sizeC]
    simp [Result.andThen, sliced]
  · by_cases hcm : c = m
    · omega
    · rw [if_neg hcm] at h0
      cases ad with
      | none => have := hn0 rfl; omega
      | some x => simp at h0
  · have hlm : m < l.length := by
      rcases Nat.lt_or_ge m l.length with h | h
      · exact h
      · exact absurd (List.drop_eq_nil_of_le h) hne
    obtain ⟨b, o, rfl, hb, hcell⟩ := h (by rintro rfl; simp at hlm)
    rw [if_neg (by omega)]
    refine ⟨b, o + m * 4, by simp [addr_add], hb, fun j hj => ?_⟩
    rw [List.length_drop] at hj
    have := hcell (m + j) (by omega)
    rw [Cm.getD_drop]
    rw [show o + m * 4 + j * 4 = o + (m + j) * 4 by omega]
    exact this
/-- 's[:m]' and 's[m:]' of numbers -/
theorem headN {w : World} {B : Nat} {ad : Option Addr} {n c : Nat} {l : List Int} (h : Ints w B (.slice ad n c) l) (m : Nat) (hm : m ≤ l.length) :
    (∀ W : World, (Instr.slice 26 (.slice ad n c) none (some (.int .i64 (m : Int))) none).run Try.prog W = .ok (.slice ad m c) W) ∧ Ints w B (.slice ad m c) (l.take m) := by
  obtain ⟨ad', c', hv, hle, hn0, h⟩ := h
  simp only [Value.slice.injEq] at hv
  obtain ⟨rfl, rfl, rfl⟩ := hv
  have hlen : (l.take m).length = m := by rw [List.length_take]; omega
  refine ⟨fun W => ?_, ad, c, by rw [hlen], by rw [hlen]; omega, hn0, fun hne => ?_⟩
  · rw [run_slice_h W 26 ad l.length c (by rw [elemN]; exact Try.underlying26) .i64 (m : Int) (by omega) (by omega), elemN, sizeN]
    simp [Result.andThen, sliced, addr_add_zero]
  · obtain ⟨b, o, rfl, hb, hcell⟩ := h (by rintro rfl; simp at hne)
    refine ⟨b, o, rfl, hb, fun j hj => ?_⟩
    rw [hlen] at hj
    rw [hcell j (by omega)]
    simp [List.getD, hj]
theorem tailN {w : World} {B : Nat} {ad : Option Addr} {n c : Nat} {l : List Int} (h : Ints w B (.slice ad n c) l) (m : Nat) (hm : m ≤ l.length) :
    ∃ A, (∀ W : World, (Instr.slice 26 (.slice ad n c) (some (.int .i64 (m : Int))) none none).run Try.prog W = .ok (.slice A (n - m) (c - m)) W) ∧ Ints w B (.slice A (n - m) (c - m)) (l.drop m) := by
  obtain ⟨ad', c', hv, hle, hn0, h⟩ := h
  simp only [Value.slice.injEq] at hv
  obtain ⟨rfl, rfl, rfl⟩ := hv
  refine ⟨if c = m then ad else ad.map (·.add m), fun W => ?_, if c = m then ad else ad.map (·.add m), c - m, by rw [List.length_drop], by rw [List.length_drop]; omega, fun h0 => ?_, fun hne => ?_⟩
  · rw [run_slice_l W 26 ad l.length c (by rw [elemN]; exact Try.underlying26) .i64 (m : Int) (by omega) (by omega), elemN, sizeN]
    simp [Result.andThen, sliced]
  · by_cases hcm : c = m
    · omega
    · rw [if_neg hcm] at h0
      cases ad with
      | none => have := hn0 rfl; omega
      | some x => simp at h0
  · have hlm : m < l.length := by
      rcases Nat.lt_or_ge m l.length with h | h
      · exact h
      · exact absurd (List.drop_eq_nil_of_le h) hne
    obtain ⟨b, o, rfl, hb, hcell⟩ := h (by rintro rfl; simp at hlm)
    rw [if_neg (by omega)]
    refine ⟨b, o + m, by simp [addr_add], hb, fun j hj => ?_⟩
    rw [List.length_drop] at hj
    rw [Nat.add_assoc, hcell (m + j) (by omega)]
    simp [List.getD, List.getElem?_drop]

theorem k_al {W : World} {b : Nat} {x : Obj} (h : W.heap[b]? = some x) (o : Obj) : (W.alloc o).heap[b]? = some x := (Below.heap_alloc W o b (lt_of_heap h)).trans h
theorem k_st {W : World} {b q : Nat} {x : Obj} (h : W.heap[b]? = some x) (hne : b ≠ q) (u0 u1 u2 : Value) : (((W.setCell ⟨q, 0, none⟩ u0).setCell ⟨q, 1, none⟩ u1).setCell ⟨q, 2, none⟩ u2).heap[b]? = some x :=
  (Below.heap_setCell _ ⟨q, 2, none⟩ u2 b hne).trans ((Below.heap_setCell _ ⟨q, 1, none⟩ u1 b hne).trans ((Below.heap_setCell W ⟨q, 0, none⟩ u0 b hne).trans h))

/-- Half's variables: the node, the places of both results -/
structure HInv (w wr : World) (lf : Bool) (vi vk : Value) : Prop where
  nd : wr.heap[w.heap.size]? = some (.cells #[.bool lf, vi, vk] 28 (0, 0))
  ra : wr.heap[w.heap.size + 1]? = some (.cells #[.bool false, .slice none 0 0, .slice none 0 0] 28 (0, 0))
  rb : wr.heap[w.heap.size + 2]? = some (.cells #[.bool false, .slice none 0 0, .slice none 0 0] 28 (0, 0))
  be : Below w.heap.size w wr
theorem HInv.below {w wr w' : World} {lf : Bool} {vi vk : Value} (h : HInv w wr lf vi vk) (hb : Below wr.heap.size wr w') : HInv w w' lf vi vk :=
  ⟨(hb.block _ (lt_of_heap h.nd)).trans h.nd, (hb.block _ (lt_of_heap h.ra)).trans h.ra, (hb.block _ (lt_of_heap h.rb)).trans h.rb, h.be.trans (hb.mono h.be.size)⟩
theorem HInv.alloc {w wr : World} {lf : Bool} {vi vk : Value} (h : HInv w wr lf vi vk) (o : Obj) : HInv w (wr.alloc o) lf vi vk := h.below ((Below.refl _ wr).alloc (Nat.le_refl _) o)
theorem HInv.drew {w wr : World} {lf : Bool} {vi vk : Value} (h : HInv w wr lf vi vk) : HInv w wr.drew lf vi vk := ⟨h.nd, h.ra, h.rb, ⟨h.be.os, h.be.tape, h.be.output, h.be.size, h.be.block⟩⟩
theorem HInv.st {w wr : World} {lf : Bool} {vi vk : Value} {q : Nat} (h : HInv w wr lf vi vk) (hq : w.heap.size + 3 ≤ q) (u0 u1 u2 : Value) : HInv w (((wr.setCell ⟨q, 0, none⟩ u0).setCell ⟨q, 1, none⟩ u1).setCell ⟨q, 2, none⟩ u2) lf vi vk :=
  ⟨k_st h.nd (by omega) _ _ _, k_st h.ra (by omega) _ _ _, k_st h.rb (by omega) _ _ _, ((h.be.setCell (by show w.heap.size ≤ q; omega) _).setCell (by show w.heap.size ≤ q; omega) _).setCell (by show w.heap.size ≤ q; omega) _⟩

theorem six {w X : World} (h : Below w.heap.size w X) (a0 a1 a2 b0 b1 b2 : Value) : Below w.heap.size w ((((((X.setCell ⟨w.heap.size + 1, 0, none⟩ a0).setCell ⟨w.heap.size + 1, 1, none⟩ a1).setCell ⟨w.heap.size + 1, 2, none⟩ a2).setCell ⟨w.heap.size + 2, 0, none⟩ b0).setCell ⟨w.heap.size + 2, 1, none⟩ b1).setCell ⟨w.heap.size + 2, 2, none⟩ b2) := by
  have c1 : w.heap.size ≤ w.heap.size + 1 := by omega
  have c2 : w.heap.size ≤ w.heap.size + 2 := by omega
  exact (((((h.setCell c1 _).setCell c1 _).setCell c1 _).setCell c2 _).setCell c2 _).setCell c2 _

theorem turn3 (W : World) (q : Nat) (u0 u1 u2 : Value) : Turn [q] W (((W.setCell ⟨q, 0, none⟩ u0).setCell ⟨q, 1, none⟩ u1).setCell ⟨q, 2, none⟩ u2) := (((Turn.refl [q] W).set (by simp) u0).set (by simp) u1).set (by simp) u2
theorem own_stC {W : World} {base q : Nat} {v : Value} {l : List Cm.It} {cs : Array Value} (h : OwnC W base v l) (hz : W.heap[q]? = some (.cells cs 28 (0, 0))) (u0 u1 u2 : Value) : OwnC (((W.setCell ⟨q, 0, none⟩ u0).setCell ⟨q, 1, none⟩ u1).setCell ⟨q, 2, none⟩ u2) base v l :=
  Row.turn h (turn3 W q u0 u1 u2) fun g hg hx => by
    simp only [List.mem_singleton] at hx
    exact Row.ne h hz (by decide) hg hx

theorem setN {W : World} {q : Nat} {x0 x1 x2 : Value} (h : W.heap[q]? = some (.cells #[x0, x1, x2] 28 (0, 0))) (u : Value) : (W.setCell ⟨q, 2, none⟩ u).heap[q]? = some (.cells #[x0, x1, u] 28 (0, 0)) := heap_setCell_same W q 2 _ _ u h
theorem row_set {W : World} {base q j : Nat} {e : TypeId} {size : Nat} {v u : Value} {m : Nat} {xs : List Value} {cs : Array Value} (h : W.ownsRow base e size v m xs) (hz : W.heap[q]? = some (.cells cs 28 (0, 0))) (he : (28 : TypeId) ≠ e) : (W.setCell ⟨q, j, none⟩ u).ownsRow base e size v m xs :=
  Row.turn h ((Turn.refl [q] W).set (by simp) u) fun g hg hx => by
    simp only [List.mem_singleton] at hx
    exact Row.ne h hz he hg hx
theorem k_s1 {W : World} {b q j : Nat} {x : Obj} {u : Value} (h : W.heap[b]? = some x) (hne : b ≠ q) : (W.setCell ⟨q, j, none⟩ u).heap[b]? = some x := (Below.heap_setCell W ⟨q, j, none⟩ u b hne).trans h
theorem HInv.s1 {w wr : World} {lf : Bool} {vi vk u : Value} {q j : Nat} (h : HInv w wr lf vi vk) (hq : w.heap.size + 3 ≤ q) : HInv w (wr.setCell ⟨q, j, none⟩ u) lf vi vk :=
  ⟨k_s1 h.nd (by omega), k_s1 h.ra (by omega), k_s1 h.rb (by omega), h.be.setCell (by show w.heap.size ≤ q; omega) _⟩
theorem own_stR {W : World} {base q : Nat} {e : TypeId} {size : Nat} {v : Value} {m : Nat} {xs : List Value} {cs : Array Value} (h : W.ownsRow base e size v m xs) (hz : W.heap[q]? = some (.cells cs 28 (0, 0))) (he : (28 : TypeId) ≠ e) (u0 u1 u2 : Value) : (((W.setCell ⟨q, 0, none⟩ u0).setCell ⟨q, 1, none⟩ u1).setCell ⟨q, 2, none⟩ u2).ownsRow base e size v m xs :=
  Row.turn h (turn3 W q u0 u1 u2) fun g hg hx => by
    simp only [List.mem_singleton] at hx
    exact Row.ne h hz he hg hx

/-- what Half answers -/
def HalfS (w w' : World) (n : Cm.Nd) (e : Ending) : Prop :=
  (¬ Cm.Right n ∧ e = .returned (.tuple #[.agg #[.bool false, .slice none 0 0, .slice none 0 0], .string ⟨#[]⟩, .agg #[.bool false, .slice none 0 0, .slice none 0 0], .int .i64 2])) ∨
  (Cm.Right n ∧ Cm.half n = .none ∧ e = .returned (.tuple #[.agg #[.bool false, .slice none 0 0, .slice none 0 0], .string ⟨#[]⟩, .agg #[.bool false, .slice none 0 0, .slice none 0 0], .int .i64 4])) ∨
  (Cm.Right n ∧ ∃ a key b vai vak vbi vbk, Cm.half n = some (a, key, b) ∧ e = .returned (.tuple #[.agg #[.bool a.leaf, vai, vak], .string key, .agg #[.bool b.leaf, vbi, vbk], .int .i64 0]) ∧ OwnC w' w.heap.size vai a.items ∧ OwnN w' w.heap.size vak a.kids ∧ OwnC w' w.heap.size vbi b.items ∧ OwnN w' w.heap.size vbk b.kids)

set_option maxRecDepth 100000 in
set_option maxHeartbeats 8000000 in
theorem Half_any (n : Cm.Nd) (v : Value) (B : Nat) (w : World) (hv : NdS w B v n) (hB : B ≤ w.heap.size) (hl : n.items.length ≤ 1000000) (hk : n.kids.length ≤ 1000010) :
    Calls Try.prog 10 #[v] w fun e w' => HalfS w w' n e ∧ Below w.heap.size w w' := by
  have HW : Hid (∀ W : World, Below w.heap.size w W → Calls Try.prog 30 #[v] W fun e w' => e = .returned (.bool (decide (Cm.Right n))) ∧ Below W.heap.size W w') :=
    fun W h => wellFormed_any n v B W (hv.below h hB) (Nat.le_trans hB h.size) hl hk
  have HU : Hid (∀ W : World, Below w.heap.size w W → Calls Try.prog 34 #[v] W fun e w' => e = .returned (.int .i64 (Cm.up n.leaf : Int)) ∧ Below W.heap.size W w') :=
    fun W h => goingUp_any n v B W (hv.below h hB)
  have HM : Hid (Cm.Right n → 2 + Cm.up n.leaf ≤ n.items.length → ∀ W : World, Below w.heap.size w W → Calls Try.prog 35 #[v, .int .i64 (Cm.up n.leaf : Int)] W fun e w' => e = .returned (.int .i64 ((Cm.best (Cm.cost n) (Cm.places n)).1 : Int)) ∧ Below W.heap.size W w') :=
    fun hr h2 W h => middle_any n v B W (hv.below h hB) (Nat.le_trans hB h.size) hl hr h2
  obtain ⟨vi, vk, rfl, hI, hK⟩ := hv
  have HI : Hid (∀ W : World, Below w.heap.size w W → Its W B vi n.items) := fun W h => hI.below h hB
  have HK : Hid (∀ W : World, Below w.heap.size w W → Ints W B vk n.kids) := fun W h => hK.below h hB
  obtain ⟨ad, c, rfl, -⟩ := hI
  obtain ⟨kd, d, rfl, -⟩ := hK
  generalize hlf : n.leaf = lf at *
  have Hlf : Hid (n.leaf = lf) := hlf
  clear hlf
  have Hup : Hid (Cm.up lf ≤ 1) := by show _ ≤ _; unfold Cm.up; split <;> omega
  have hH0 : HInv w (((w.alloc (.cells #[.bool lf, .slice ad n.items.length c, .slice kd n.kids.length d] 28)).alloc (.cells #[.bool false, .slice none 0 0, .slice none 0 0] 28)).alloc (.cells #[.bool false, .slice none 0 0, .slice none 0 0] 28)) lf (.slice ad n.items.length c) (.slice kd n.kids.length d) := by
    have b1 := heap_alloc_new w (.cells #[.bool lf, .slice ad n.items.length c, .slice kd n.kids.length d] 28)
    have e1 := (Below.refl w.heap.size w).alloc (Nat.le_refl _) (.cells #[.bool lf, .slice ad n.items.length c, .slice kd n.kids.length d] 28)
    have s1 : (w.alloc (.cells #[.bool lf, .slice ad n.items.length c, .slice kd n.kids.length d] 28)).heap.size = w.heap.size + 1 := by simp
    generalize w.alloc (.cells #[.bool lf, .slice ad n.items.length c, .slice kd n.kids.length d] 28) = W1 at *
    have b2 := heap_alloc_new W1 (.cells #[.bool false, .slice none 0 0, .slice none 0 0] 28)
    have s2 : (W1.alloc (.cells #[.bool false, .slice none 0 0, .slice none 0 0] 28)).heap.size = w.heap.size + 2 := by simp [s1]
    have b3 := heap_alloc_new (W1.alloc (.cells #[.bool false, .slice none 0 0, .slice none 0 0] 28)) (.cells #[.bool false, .slice none 0 0, .slice none 0 0] 28)
    rw [s2] at b3
    rw [s1] at b2
    exact ⟨k_al (k_al b1 _) _, k_al b2 _, b3, (e1.alloc (by omega) _).alloc (by rw [s2]; omega) _⟩
  go_enter Try.func10, Try.ntmps10
  go_upto_region 1 with fail
  generalize ((w.alloc (.cells #[.bool lf, .slice ad n.items.length c, .slice kd n.kids.length d] 28)).alloc (.cells #[.bool false, .slice none 0 0, .slice none 0 0] 28)).alloc (.cells #[.bool false, .slice none 0 0, .slice none 0 0] 28) = W0 at *
  rw [show w.heap.size + 1 + 1 = w.heap.size + 2 by omega]
  obtain ⟨n0, n1, n2⟩ := cells3_of hH0.nd
  go_wp2_with fail
  refine (HW.out _ hH0.be).mono ?_
  rintro e w1 ⟨rfl, hb1⟩
  have hH1 := hH0.below hb1
  clear hH0 hb1 n0 n1 n2
  obtain ⟨n0, n1, n2⟩ := cells3_of hH1.nd
  obtain ⟨p0, p1, p2⟩ := cells3_of hH1.ra
  obtain ⟨r0, r1, r2⟩ := cells3_of hH1.rb
  have pf := fun j => frozen_of_row w1 (w.heap.size + 1) j _ _ hH1.ra
  have rf := fun j => frozen_of_row w1 (w.heap.size + 2) j _ _ hH1.rb
  by_cases hr : Cm.Right n
  · rw [decide_eq_true hr]
    have Hr : Hid (Cm.Right n) := hr
    clear hr
    go_wp2_with fail
    refine (HU.out _ hH1.be).mono ?_
    rintro e w2 ⟨rfl, hb2⟩
    have hH2 := hH1.below hb2
    clear hH1 hb2 n0 n1 n2 p0 p1 p2 r0 r1 r2 pf rf
    obtain ⟨n0, n1, n2⟩ := cells3_of hH2.nd
    by_cases h2 : 2 + Cm.up lf ≤ n.items.length
    · have h2' : ¬ (n.items.length : Int) < 2 + (Cm.up lf : Int) := by omega
      have hup := Hup.out
      go_wp2_with fail
      refine (HM.out Hr.out h2 _ hH2.be).mono ?_
      rintro e w3 ⟨rfl, hb3⟩
      have hH3 := hH2.below hb3
      clear hH2 hb3 n0 n1 n2
      have hpl : Cm.places n = n.items.length - 1 - Cm.up lf := by unfold Cm.places Cm.up; rw [Hlf.out]; cases lf <;> simp; omega
      obtain ⟨hs1, hs2, -, -⟩ := Cm.best_spec (Cm.cost n) (Cm.places n) (by omega)
      obtain ⟨I, hIe⟩ : ∃ I, (Cm.best (Cm.cost n) (Cm.places n)).1 = I := ⟨_, rfl⟩
      have HH : Hid (Cm.half n = some (Cm.cutL n I, (n.items.getD I Cm.zero).key, Cm.cutR n I)) := by
        show _ = _
        unfold Cm.half
        rw [if_neg (by omega), hIe]
      rw [hIe] at hs1 hs2 ⊢
      rw [hpl] at hs2
      clear hpl hIe HM HU HW
      have hI1 : I + Cm.up lf < n.items.length := by omega
      have HC1 : Hid (∀ X : World, Below w.heap.size w X → Calls Try.prog 24 #[.slice ad I c] X fun e w' => ∃ v', e = .returned v' ∧ OwnC w' X.heap.size v' (n.items.take I) ∧ Below X.heap.size X w') :=
        fun X h => CloneC_any _ _ B X (headC (HI.out X h) I (by omega)).2 (Nat.le_trans hB h.size) (by rw [List.length_take]; omega)
      have hsl1 := (headC (HI.out w3 hH3.be) I (by omega)).1
      have HL1 : Hid ((n.items.take I).length = I) := by show _ = _; rw [List.length_take]; omega
      go_upto_region 7 with fail
      go_cut [8] (fun t wx => ∃ q v1, t = .pointer (some ⟨q, 0, none⟩) ∧ HInv w wx lf (.slice ad n.items.length c) (.slice kd n.kids.length d) ∧ w.heap.size + 3 ≤ q ∧ wx.heap[q]? = some (.cells #[.bool lf, v1, .slice none 0 0] 28 (0, 0)) ∧ OwnC wx (w.heap.size + 3) v1 (n.items.take I))
      case first =>
        have hb3 := lt_of_heap hH3.rb
        have HH3 : Hid (HInv w w3 lf (.slice ad n.items.length c) (.slice kd n.kids.length d)) := hH3
        go_wp2_with fail
        refine wp_region_held_drew (S := fun W : World => W.cell? ⟨w.heap.size, 0, none⟩ = some (.bool lf) ∧ W.cell? ⟨w.heap.size, 1, none⟩ = some (.slice ad n.items.length c) ∧ W.cell? ⟨w.heap.size, 2, none⟩ = some (.slice kd n.kids.length d)) (by kernel_rfl) (cells3_of HH3.out.nd) (fun hHeld => ?_)
        refine wpAnyH_take (i := 0) (v := ?_) rfl (by kernel_rfl) (by kernel_rfl) (by kernel_rfl) (fun _ _ _ h => h) (Or.inl ⟨(by simp [Region.wanted]), ?_⟩) (hHeld) ?_
        rotate_left
        · (intro w hSw; (try dsimp only at hSw); ((go_simp) <;> (with_reducible rfl)))
        try simp only [Act.put, List.setIfInBounds_toArray]
        refine wpAnyH_take (i := 1) (v := ?_) rfl (by kernel_rfl) (by kernel_rfl) (by kernel_rfl) (fun _ _ _ h => h) (Or.inl ⟨(by simp [Region.wanted]), ?_⟩) (hHeld) ?_
        rotate_left
        · (intro w hSw; (try dsimp only at hSw); ((go_simp) <;> (with_reducible rfl)))
        try simp only [Act.put]
        refine wpAnyH_take (i := 2) (v := ?_) rfl (by kernel_rfl) (by kernel_rfl) (by kernel_rfl) (fun _ _ _ h => h) (Or.inl ⟨(by simp [Region.wanted]), ?_⟩) (hHeld) ?_
        rotate_left
        · (intro w hSw; (try dsimp only at hSw); ((go_simp) <;> (with_reducible rfl)))
        try simp only [Act.put]
        refine wpAnyH_take (i := 3) (v := ?_) rfl (by kernel_rfl) (by kernel_rfl) (by kernel_rfl) (fun _ _ _ h => h) (Or.inl ⟨(by simp [Region.wanted]), ?_⟩) (hHeld) ?_
        rotate_left
        · (intro w hSw; (try dsimp only at hSw); ((go_simp) <;> (with_reducible rfl)))
        try simp only [Act.put]
        refine wpAnyH_take (i := 4) (v := ?_) rfl (by kernel_rfl) (by kernel_rfl) (by kernel_rfl) (fun _ _ _ h => h) (Or.inl ⟨(by simp [Region.wanted]), ?_⟩) (hHeld) ?_
        rotate_left
        · (intro w hSw; (try dsimp only at hSw); ((go_simp) <;> (with_reducible rfl)))
        try simp only [Act.put]
        refine wpAnyH_take (i := 5) (v := ?_) rfl (by kernel_rfl) (by kernel_rfl) (by kernel_rfl) (fun _ _ _ h => h) (Or.inl ⟨(by simp [Region.wanted]), ?_⟩) (hHeld) ?_
        rotate_left
        · (intro w hSw; (try dsimp only at hSw); ((go_simp) <;> (with_reducible rfl)))
        try simp only [Act.put]
        refine wpAnyH_ready (rs := [6, 8]) (by kernel_rfl) (by simp) ?_
        refine AllReadyH.cons rfl (fun K hK => ?_) (AllReadyH.cons rfl (fun K hK => ?_) AllReadyH.nil)
        · go_simp
          refine (HC1.out _ HH3.out.drew.be).mono ?_
          rintro e w4 ⟨v4, rfl, ho4, hb4⟩
          obtain ⟨ad4, c4, hv4, -⟩ := ho4.its
          rw [HL1.out] at hv4
          subst hv4
          have hH4 := HH3.out.drew.below hb4
          have hs4 := hb4.size
          have hr4 := lt_of_heap hH4.rb
          try go_wp2_with fail
          refine hK.out _ _ (cells3_of hH4.nd) (fun hHeld => ?_)
          clear hK K
          try simp only [Act.put, List.setIfInBounds_toArray, List.set_cons_zero, List.set_cons_succ]
          refine wpAnyH_take (i := 7) (v := ?_) rfl (by kernel_rfl) (by kernel_rfl) (by kernel_rfl) (fun _ _ _ h => h) (Or.inl ⟨(by simp [Region.wanted]), ?_⟩) (hHeld) ?_
          rotate_left
          · (intro w hSw; (try dsimp only at hSw); ((go_simp) <;> (with_reducible rfl)))
          try simp only [Act.put, List.setIfInBounds_toArray]
          refine wpAnyH_ready (rs := [8]) (by kernel_rfl) (by simp) ?_
          refine AllReadyH.cons rfl (fun K hK => ?_) AllReadyH.nil
          go_simp
          refine hK.out _ _ (cells3_of (hH4.alloc (.cells #[.bool false, .slice none 0 0, .slice none 0 0] 28)).nd) (fun hHeld => ?_)
          clear hK K
          try simp only [Act.put, List.setIfInBounds_toArray, List.set_cons_zero, List.set_cons_succ]
          refine wpAnyH_ready (rs := [9]) (by kernel_rfl) (by simp) ?_
          refine AllReadyH.cons rfl (fun K hK => ?_) AllReadyH.nil
          go_simp
          refine hK.out _ _ (cells3_of (hH4.alloc (.cells #[.bool lf, .slice ad4 I c4, .slice none 0 0] 28)).nd) (fun hHeld => ?_)
          clear hK K
          try simp only [Act.put, List.setIfInBounds_toArray, List.set_cons_zero, List.set_cons_succ]
          refine wpAnyH_done (by kernel_rfl) ?_ _
          go_wp2
          go_meet
          exact ⟨w4.heap.size, _, rfl, hH4.alloc _, by omega, heap_alloc_new w4 _, OwnC.alloc (OwnC.low ho4 (by show w.heap.size + 3 ≤ w3.heap.size; omega)) _⟩
        · go_simp
          refine hK.out _ _ (cells3_of (HH3.out.drew.alloc (.cells #[.bool false, .slice none 0 0, .slice none 0 0] 28)).nd) (fun hHeld => ?_)
          clear hK K
          try simp only [Act.put, List.setIfInBounds_toArray, List.set_cons_zero, List.set_cons_succ]
          refine wpAnyH_ready (rs := [6]) (by kernel_rfl) (by simp) ?_
          refine AllReadyH.cons rfl (fun K hK => ?_) AllReadyH.nil
          go_simp
          refine (HC1.out _ (HH3.out.drew.alloc (.cells #[.bool false, .slice none 0 0, .slice none 0 0] 28)).be).mono ?_
          rintro e w4 ⟨v4, rfl, ho4, hb4⟩
          obtain ⟨ad4, c4, hv4, -⟩ := ho4.its
          rw [HL1.out] at hv4
          subst hv4
          have hH4 := (HH3.out.drew.alloc (.cells #[.bool false, .slice none 0 0, .slice none 0 0] 28)).below hb4
          have hz4 := (hb4.block w3.heap.size (by simp)).trans (heap_alloc_new w3.drew (.cells #[.bool false, .slice none 0 0, .slice none 0 0] 28))
          obtain ⟨z0, z1, z2⟩ := cells3_of hz4
          have zf := fun j => frozen_of_row w4 w3.heap.size j _ _ hz4
          have hs4 := hb4.size
          have hr4 := lt_of_heap hH4.rb
          try go_wp2_with fail
          refine hK.out _ _ (cells3_of hH4.nd) (fun hHeld => ?_)
          clear hK K
          try simp only [Act.put, List.setIfInBounds_toArray, List.set_cons_zero, List.set_cons_succ]
          refine wpAnyH_take (i := 7) (v := ?_) rfl (by kernel_rfl) (by kernel_rfl) (by kernel_rfl) (fun _ _ _ h => h) (Or.inl ⟨(by simp [Region.wanted]), ?_⟩) (hHeld) ?_
          rotate_left
          · (intro w hSw; (try dsimp only at hSw); ((go_simp) <;> (with_reducible rfl)))
          try simp only [Act.put, List.setIfInBounds_toArray]
          refine wpAnyH_ready (rs := [9]) (by kernel_rfl) (by simp) ?_
          refine AllReadyH.cons rfl (fun K hK => ?_) AllReadyH.nil
          go_simp
          refine hK.out _ _ (cells3_of (hH4.st (q := w3.heap.size) (by omega) _ _ _).nd) (fun hHeld => ?_)
          clear hK K
          try simp only [Act.put, List.setIfInBounds_toArray, List.set_cons_zero, List.set_cons_succ]
          refine wpAnyH_done (by kernel_rfl) ?_ _
          go_wp2
          go_meet
          exact ⟨w3.heap.size, _, rfl, hH4.st (by omega) _ _ _, by omega, heap_set3 hz4 _ _ _, own_stC (OwnC.low ho4 (by simp; omega)) hz4 _ _ _⟩
      case rest =>
        obtain ⟨q1, v1, rfl, hH4, hq1, hQ1, hO1⟩ := hcut
        clear hH3 HC1 hsl1 HL1
        obtain ⟨J, hJ⟩ : ∃ J, I + Cm.up lf = J := ⟨_, rfl⟩
        obtain ⟨A2, hsl2, -⟩ := tailC (HI.out wc hH4.be) J (by omega)
        have hwJ : IntKind.i64.wrap ((I : Int) + (Cm.up lf : Int)) = (J : Int) := by rw [IntKind.wrap_i64]; omega
        have HC2 : Hid (∀ X : World, Below w.heap.size w X → Calls Try.prog 24 #[.slice A2 (n.items.length - J) (c - J)] X fun e w' => ∃ v', e = .returned v' ∧ OwnC w' X.heap.size v' (n.items.drop J) ∧ Below X.heap.size X w') := fun X h => by
          obtain ⟨A3, h3, h4⟩ := tailC (HI.out X h) J (by omega)
          have e := h3 X
          rw [hsl2 X] at e
          simp only [Result.ok.injEq, Value.slice.injEq, and_true] at e
          rw [e]
          exact CloneC_any _ _ B X h4 (Nat.le_trans hB h.size) (by rw [List.length_drop]; omega)
        have HL2 : Hid ((n.items.drop J).length = n.items.length - J) := by show _ = _; rw [List.length_drop]
        have HJ : Hid (I + Cm.up lf = J) := hJ
        have hJl : J < n.items.length := by omega
        obtain ⟨M, hM⟩ : ∃ M, n.items.length - J = M := ⟨_, rfl⟩
        obtain ⟨C2, hC2⟩ : ∃ C2, c - J = C2 := ⟨_, rfl⟩
        rw [hM, hC2] at hsl2
        rw [hM, hC2] at HC2
        rw [hM] at HL2
        clear hJ hM hC2
        go_upto_region 8 with fail
        go_cut [9] (fun t wx => ∃ q2 v2, t = .pointer (some ⟨q2, 0, none⟩) ∧ HInv w wx lf (.slice ad n.items.length c) (.slice kd n.kids.length d) ∧ w.heap.size + 3 ≤ q2 ∧ q2 ≠ q1 ∧ wx.heap[q2]? = some (.cells #[.bool lf, v2, .slice none 0 0] 28 (0, 0)) ∧ OwnC wx (w.heap.size + 3) v2 (n.items.drop J) ∧ wx.heap[q1]? = some (.cells #[.bool lf, v1, .slice none 0 0] 28 (0, 0)) ∧ OwnC wx (w.heap.size + 3) v1 (n.items.take I))
        case first =>
          have hb4 := lt_of_heap hH4.rb
          have HH4 : Hid (HInv w wc lf (.slice ad n.items.length c) (.slice kd n.kids.length d)) := hH4
          have HQ1 : Hid (wc.heap[q1]? = some (.cells #[.bool lf, v1, .slice none 0 0] 28 (0, 0))) := hQ1
          have HO1 : Hid (OwnC wc (w.heap.size + 3) v1 (n.items.take I)) := hO1
          have hql := lt_of_heap hQ1
          clear hH4 hQ1 hO1
          go_wp2_with fail
          refine wp_region_held_drew (S := fun W : World => W.cell? ⟨w.heap.size, 0, none⟩ = some (.bool lf) ∧ W.cell? ⟨w.heap.size, 1, none⟩ = some (.slice ad n.items.length c) ∧ W.cell? ⟨w.heap.size, 2, none⟩ = some (.slice kd n.kids.length d)) (by kernel_rfl) (cells3_of HH4.out.nd) (fun hHeld => ?_)
          refine wpAnyH_take (i := 0) (v := ?_) rfl (by kernel_rfl) (by kernel_rfl) (by kernel_rfl) (fun _ _ _ h => h) (Or.inl ⟨(by simp [Region.wanted]), ?_⟩) (hHeld) ?_
          rotate_left
          · (intro w hSw; (try dsimp only at hSw); ((go_simp) <;> (with_reducible rfl)))
          try simp only [Act.put, List.setIfInBounds_toArray]
          refine wpAnyH_take (i := 1) (v := ?_) rfl (by kernel_rfl) (by kernel_rfl) (by kernel_rfl) (fun _ _ _ h => h) (Or.inl ⟨(by simp [Region.wanted]), ?_⟩) (hHeld) ?_
          rotate_left
          · (intro w hSw; (try dsimp only at hSw); ((go_simp) <;> (with_reducible rfl)))
          try simp only [Act.put]
          refine wpAnyH_take (i := 2) (v := ?_) rfl (by kernel_rfl) (by kernel_rfl) (by kernel_rfl) (fun _ _ _ h => h) (Or.inl ⟨(by simp [Region.wanted]), ?_⟩) (hHeld) ?_
          rotate_left
          · (intro w hSw; (try dsimp only at hSw); ((go_simp) <;> (with_reducible rfl)))
          try simp only [Act.put]
          refine wpAnyH_take (i := 3) (v := ?_) rfl (by kernel_rfl) (by kernel_rfl) (by kernel_rfl) (fun _ _ _ h => h) (Or.inl ⟨(by simp [Region.wanted]), ?_⟩) (hHeld) ?_
          rotate_left
          · (intro w hSw; (try dsimp only at hSw); ((go_simp) <;> (with_reducible rfl)))
          try simp only [Act.put]
          refine wpAnyH_take (i := 4) (v := ?_) rfl (by kernel_rfl) (by kernel_rfl) (by kernel_rfl) (fun _ _ _ h => h) (Or.inl ⟨(by simp [Region.wanted]), ?_⟩) (hHeld) ?_
          rotate_left
          · (intro w hSw; (try dsimp only at hSw); ((go_simp) <;> (with_reducible rfl)))
          try simp only [Act.put]
          refine wpAnyH_take (i := 5) (v := ?_) rfl (by kernel_rfl) (by kernel_rfl) (by kernel_rfl) (fun _ _ _ h => h) (Or.inl ⟨(by simp [Region.wanted]), ?_⟩) (hHeld) ?_
          rotate_left
          · (intro w hSw; (try dsimp only at hSw); ((go_simp) <;> (with_reducible rfl)))
          try simp only [Act.put]
          refine wpAnyH_take (i := 6) (v := ?_) rfl (by kernel_rfl) (by kernel_rfl) (by kernel_rfl) (fun _ _ _ h => h) (Or.inl ⟨(by simp [Region.wanted]), ?_⟩) (hHeld) ?_
          rotate_left
          · (intro w hSw; (try dsimp only at hSw); ((go_simp) <;> (with_reducible rfl)))
          try simp only [Act.put]
          refine wpAnyH_take (i := 7) (v := ?_) rfl (by kernel_rfl) (by kernel_rfl) (by kernel_rfl) (fun _ _ _ h => h) (Or.inl ⟨(by simp [Region.wanted]), ?_⟩) (hHeld) ?_
          rotate_left
          · (intro w hSw; (try dsimp only at hSw); ((go_simp) <;> (with_reducible rfl)))
          try simp only [Act.put]
          refine wpAnyH_ready (rs := [8, 10]) (by kernel_rfl) (by simp) ?_
          refine AllReadyH.cons rfl (fun K hK => ?_) (AllReadyH.cons rfl (fun K hK => ?_) AllReadyH.nil)
          · go_simp
            refine (HC2.out _ HH4.out.drew.be).mono ?_
            rintro e w5 ⟨v5, rfl, ho5, hb5⟩
            obtain ⟨ad5, c5, hv5, -⟩ := ho5.its
            rw [HL2.out] at hv5
            subst hv5
            have hH5 := HH4.out.drew.below hb5
            have hs5 := hb5.size
            have hr5 := lt_of_heap hH5.rb
            have hQ5 := (hb5.block q1 (lt_of_heap HQ1.out)).trans HQ1.out
            have hO5 := OwnC.below (w := wc.drew) HO1.out hb5 (Nat.le_refl _)
            try go_wp2_with fail
            refine hK.out _ _ (cells3_of hH5.nd) (fun hHeld => ?_)
            clear hK K
            try simp only [Act.put, List.setIfInBounds_toArray, List.set_cons_zero, List.set_cons_succ]
            refine wpAnyH_take (i := 9) (v := ?_) rfl (by kernel_rfl) (by kernel_rfl) (by kernel_rfl) (fun _ _ _ h => h) (Or.inl ⟨(by simp [Region.wanted]), ?_⟩) (hHeld) ?_
            rotate_left
            · (intro w hSw; (try dsimp only at hSw); ((go_simp) <;> (with_reducible rfl)))
            try simp only [Act.put, List.setIfInBounds_toArray]
            refine wpAnyH_ready (rs := [10]) (by kernel_rfl) (by simp) ?_
            refine AllReadyH.cons rfl (fun K hK => ?_) AllReadyH.nil
            go_simp
            refine hK.out _ _ (cells3_of (hH5.alloc (.cells #[.bool false, .slice none 0 0, .slice none 0 0] 28)).nd) (fun hHeld => ?_)
            clear hK K
            try simp only [Act.put, List.setIfInBounds_toArray, List.set_cons_zero, List.set_cons_succ]
            refine wpAnyH_ready (rs := [11]) (by kernel_rfl) (by simp) ?_
            refine AllReadyH.cons rfl (fun K hK => ?_) AllReadyH.nil
            go_simp
            refine hK.out _ _ (cells3_of (hH5.alloc (.cells #[.bool lf, .slice ad5 M c5, .slice none 0 0] 28)).nd) (fun hHeld => ?_)
            clear hK K
            try simp only [Act.put, List.setIfInBounds_toArray, List.set_cons_zero, List.set_cons_succ]
            refine wpAnyH_done (by kernel_rfl) ?_ _
            go_wp2
            go_meet
            exact ⟨w5.heap.size, _, rfl, hH5.alloc _, by omega, by have := lt_of_heap hQ5; omega, heap_alloc_new w5 _, OwnC.alloc (OwnC.low ho5 (by show w.heap.size + 3 ≤ wc.heap.size; omega)) _, k_al hQ5 _, OwnC.alloc hO5 _⟩
          · go_simp
            refine hK.out _ _ (cells3_of (HH4.out.drew.alloc (.cells #[.bool false, .slice none 0 0, .slice none 0 0] 28)).nd) (fun hHeld => ?_)
            clear hK K
            try simp only [Act.put, List.setIfInBounds_toArray, List.set_cons_zero, List.set_cons_succ]
            refine wpAnyH_ready (rs := [8]) (by kernel_rfl) (by simp) ?_
            refine AllReadyH.cons rfl (fun K hK => ?_) AllReadyH.nil
            go_simp
            refine (HC2.out _ (HH4.out.drew.alloc (.cells #[.bool false, .slice none 0 0, .slice none 0 0] 28)).be).mono ?_
            rintro e w5 ⟨v5, rfl, ho5, hb5⟩
            obtain ⟨ad5, c5, hv5, -⟩ := ho5.its
            rw [HL2.out] at hv5
            subst hv5
            have hH5 := (HH4.out.drew.alloc (.cells #[.bool false, .slice none 0 0, .slice none 0 0] 28)).below hb5
            have hz5 := (hb5.block wc.heap.size (by simp)).trans (heap_alloc_new wc.drew (.cells #[.bool false, .slice none 0 0, .slice none 0 0] 28))
            obtain ⟨z0, z1, z2⟩ := cells3_of hz5
            have zf := fun j => frozen_of_row w5 wc.heap.size j _ _ hz5
            have hs5 := hb5.size
            have hr5 := lt_of_heap hH5.rb
            have hQ5 := (hb5.block q1 (by have := lt_of_heap HQ1.out; simp; omega)).trans (k_al (W := wc.drew) HQ1.out (.cells #[.bool false, .slice none 0 0, .slice none 0 0] 28))
            have hO5 := OwnC.below (OwnC.alloc (w := wc.drew) HO1.out (.cells #[.bool false, .slice none 0 0, .slice none 0 0] 28)) hb5 (Nat.le_refl _)
            try go_wp2_with fail
            refine hK.out _ _ (cells3_of hH5.nd) (fun hHeld => ?_)
            clear hK K
            try simp only [Act.put, List.setIfInBounds_toArray, List.set_cons_zero, List.set_cons_succ]
            refine wpAnyH_take (i := 9) (v := ?_) rfl (by kernel_rfl) (by kernel_rfl) (by kernel_rfl) (fun _ _ _ h => h) (Or.inl ⟨(by simp [Region.wanted]), ?_⟩) (hHeld) ?_
            rotate_left
            · (intro w hSw; (try dsimp only at hSw); ((go_simp) <;> (with_reducible rfl)))
            try simp only [Act.put, List.setIfInBounds_toArray]
            refine wpAnyH_ready (rs := [11]) (by kernel_rfl) (by simp) ?_
            refine AllReadyH.cons rfl (fun K hK => ?_) AllReadyH.nil
            go_simp
            refine hK.out _ _ (cells3_of (hH5.st (q := wc.heap.size) (by omega) _ _ _).nd) (fun hHeld => ?_)
            clear hK K
            try simp only [Act.put, List.setIfInBounds_toArray, List.set_cons_zero, List.set_cons_succ]
            refine wpAnyH_done (by kernel_rfl) ?_ _
            go_wp2
            go_meet
            exact ⟨wc.heap.size, _, rfl, hH5.st (by omega) _ _ _, by omega, by omega, heap_set3 hz5 _ _ _, own_stC (OwnC.low ho5 (by simp; omega)) hz5 _ _ _, k_st hQ5 (by omega) _ _ _, own_stC hO5 hz5 _ _ _⟩
        case rest =>
          obtain ⟨q2, v2, rfl, hH5, hq2, hq12, hQ2, hO2, hQ1, hO1⟩ := hcut
          generalize wc = W5 at *
          clear HC2 hsl2 HL2
          have HkL : Hid (lf = true → (Cm.cutL n I).kids = [] ∧ (Cm.cutR n I).kids = []) := fun h => by
            unfold Cm.cutL Cm.cutR
            rw [Hlf.out, if_pos h, if_pos h]
            exact ⟨rfl, rfl⟩
          have HkI : Hid (lf = false → (Cm.cutL n I).kids = n.kids.take (I + 1) ∧ (Cm.cutR n I).kids = n.kids.drop (I + 1) ∧ I + 1 ≤ n.kids.length ∧ n.kids.length ≤ n.items.length + 1) := fun h => by
            have hkn := Hr.out.2
            rw [Hlf.out, if_neg (by rw [h]; simp)] at hkn
            unfold Cm.cutL Cm.cutR
            rw [Hlf.out, if_neg (by rw [h]; simp), if_neg (by rw [h]; simp)]
            exact ⟨rfl, rfl, by omega, by omega⟩
          obtain ⟨KL, hKL⟩ : ∃ KL, (Cm.cutL n I).kids = KL := ⟨_, rfl⟩
          obtain ⟨KR, hKR⟩ : ∃ KR, (Cm.cutR n I).kids = KR := ⟨_, rfl⟩
          have HKL : Hid _ := hKL
          have HKR : Hid _ := hKR
          rw [hKL, hKR] at HkL HkI
          clear hKL hKR
          obtain ⟨n0, n1, n2⟩ := cells3_of hH5.nd
          go_upto_if 48 with fail
          go_cut [48] (fun _ wx => ∃ k1 k2, HInv w wx lf (.slice ad n.items.length c) (.slice kd n.kids.length d) ∧ wx.heap[q1]? = some (.cells #[.bool lf, v1, k1] 28 (0, 0)) ∧ wx.heap[q2]? = some (.cells #[.bool lf, v2, k2] 28 (0, 0)) ∧ OwnC wx (w.heap.size + 3) v1 (n.items.take I) ∧ OwnC wx (w.heap.size + 3) v2 (n.items.drop J) ∧ OwnN wx (w.heap.size + 3) k1 KL ∧ OwnN wx (w.heap.size + 3) k2 KR)
          case first =>
            cases lf
            · obtain ⟨hk1, hk2, hkl, hkm⟩ := HkI.out rfl
              have HC3 : Hid (∀ X : World, Below w.heap.size w X → Calls Try.prog 36 #[.slice kd (I + 1) d] X fun e w' => ∃ v', e = .returned v' ∧ OwnN w' X.heap.size v' KL ∧ Below X.heap.size X w') := fun X h => by
                rw [hk1]
                exact CloneN_any _ _ B X (headN (HK.out X h) (I + 1) hkl).2 (Nat.le_trans hB h.size) (by rw [List.length_take]; omega)
              have hsl3 := (headN (HK.out W5 hH5.be) (I + 1) hkl).1
              obtain ⟨A4, hsl4, -⟩ := tailN (HK.out W5 hH5.be) (I + 1) hkl
              have HC4 : Hid (∀ X : World, Below w.heap.size w X → Calls Try.prog 36 #[.slice A4 (n.kids.length - (I + 1)) (d - (I + 1))] X fun e w' => ∃ v', e = .returned v' ∧ OwnN w' X.heap.size v' KR ∧ Below X.heap.size X w') := fun X h => by
                obtain ⟨A3, h3, h4⟩ := tailN (HK.out X h) (I + 1) hkl
                have e := h3 X
                rw [hsl4 X] at e
                simp only [Result.ok.injEq, Value.slice.injEq, and_true] at e
                rw [e, hk2]
                exact CloneN_any _ _ B X h4 (Nat.le_trans hB h.size) (by rw [List.length_drop]; omega)
              obtain ⟨M4, hM4⟩ : ∃ M4, n.kids.length - (I + 1) = M4 := ⟨_, rfl⟩
              obtain ⟨D4, hD4⟩ : ∃ D4, d - (I + 1) = D4 := ⟨_, rfl⟩
              rw [hM4, hD4] at hsl4 HC4
              have eI : ((I + 1 : Nat) : Int) = (I : Int) + 1 := by omega
              rw [eI] at hsl3 hsl4
              have hq1l := lt_of_heap hQ1
              have hq2l := lt_of_heap hQ2
              clear hk1 hk2 hkl hkm hM4 hD4 eI HkL HkI
              go_wp2_with fail
              refine (HC3.out _ hH5.be).mono ?_
              rintro e w6 ⟨k1, rfl, hok1, hb6⟩
              obtain ⟨ak1, ck1, hvk1, -⟩ := hok1.ints
              subst hvk1
              have hQ1' := (hb6.block q1 hq1l).trans hQ1
              have hQ2' := (hb6.block q2 hq2l).trans hQ2
              have hO1' := OwnC.below hO1 hb6 (Nat.le_refl _)
              have hO2' := OwnC.below hO2 hb6 (Nat.le_refl _)
              have hH6 := hH5.below hb6
              have hok1' := OwnN.low hok1 (show w.heap.size + 3 ≤ W5.heap.size by have := lt_of_heap hH5.rb; omega)
              have hs6 := hb6.size
              clear hb6 n0 n1 n2 hsl3 hH5 hQ1 hQ2 hO1 hO2 hok1
              obtain ⟨y0, y1, y2⟩ := cells3_of hQ1'
              have yf := frozen_of_row w6 q1 2 _ _ hQ1'
              have hH7 := hH6.s1 (j := 2) (u := .slice ak1 KL.length ck1) hq1
              have hQ17 := setN hQ1' (.slice ak1 KL.length ck1)
              have hQ27 := k_s1 (q := q1) (j := 2) (u := .slice ak1 KL.length ck1) hQ2' hq12
              have hO17 : OwnC (w6.setCell ⟨q1, 2, none⟩ (.slice ak1 KL.length ck1)) (w.heap.size + 3) v1 (n.items.take I) := row_set hO1' hQ1' (by decide)
              have hO27 : OwnC (w6.setCell ⟨q1, 2, none⟩ (.slice ak1 KL.length ck1)) (w.heap.size + 3) v2 (n.items.drop J) := row_set hO2' hQ1' (by decide)
              have hK17 : OwnN (w6.setCell ⟨q1, 2, none⟩ (.slice ak1 KL.length ck1)) (w.heap.size + 3) (.slice ak1 KL.length ck1) KL := row_set hok1' hQ1' (by decide)
              go_upto_region 11 with fail
              generalize w6.setCell ⟨q1, 2, none⟩ (.slice ak1 KL.length ck1) = W7 at *
              clear hQ1' hQ2' hO1' hO2' hH6 hok1' y0 y1 y2 yf
              obtain ⟨n0, n1, n2⟩ := cells3_of hH7.nd
              go_wp2_with fail
              refine (HC4.out _ hH7.be).mono ?_
              rintro e w8 ⟨k2, rfl, hok2, hb8⟩
              obtain ⟨ak2, ck2, hvk2, -⟩ := hok2.ints
              subst hvk2
              have hQ18 := (hb8.block q1 (lt_of_heap hQ17)).trans hQ17
              have hQ28 := (hb8.block q2 (lt_of_heap hQ27)).trans hQ27
              have hO18 := OwnC.below hO17 hb8 (Nat.le_refl _)
              have hO28 := OwnC.below hO27 hb8 (Nat.le_refl _)
              have hK18 := OwnN.below hK17 hb8 (Nat.le_refl _)
              have hH8 := hH7.below hb8
              have hok2' := OwnN.low hok2 (show w.heap.size + 3 ≤ W7.heap.size by have := lt_of_heap hH7.rb; omega)
              clear hb8 n0 n1 n2 hsl4 hH7 hQ17 hQ27 hO17 hO27 hK17 hok2
              obtain ⟨y0, y1, y2⟩ := cells3_of hQ28
              have yf := frozen_of_row w8 q2 2 _ _ hQ28
              go_wp2
              go_meet
              exact ⟨_, _, hH8.s1 hq2, k_s1 hQ18 hq12.symm, setN hQ28 _, row_set hO18 hQ28 (by decide), row_set hO28 hQ28 (by decide), row_set hK18 hQ28 (by decide), row_set hok2' hQ28 (by decide)⟩
            · obtain ⟨hk1, hk2⟩ := HkL.out rfl
              go_wp2
              go_meet
              exact ⟨_, _, hH5, hQ1, hQ2, hO1, hO2, by rw [hk1]; exact OwnN.nil _ _, by rw [hk2]; exact OwnN.nil _ _⟩
          case rest =>
            obtain ⟨k1, k2, hH9, hQ19, hQ29, hO19, hO29, hK19, hK29⟩ := hcut
            obtain ⟨a1, c1, hv1, -⟩ := hO19.its
            obtain ⟨a3, c3, hv2, -⟩ := hO29.its
            obtain ⟨a2, c2, hk1, -⟩ := hK19.ints
            obtain ⟨a4, c4, hk2, -⟩ := hK29.ints
            have el1 : (n.items.take I).length = I := by rw [List.length_take]; omega
            obtain ⟨M, hM⟩ : ∃ M, (n.items.drop J).length = M := ⟨_, rfl⟩
            rw [el1] at hv1
            rw [hM] at hv2
            subst hv1 hv2 hk1 hk2
            clear el1 hM hH5 hQ1 hQ2 hO1 hO2 n0 n1 n2 HkL HkI
            obtain ⟨ad', c', hv', -, -, hcs⟩ := HI.out wc hH9.be
            simp only [Value.slice.injEq, true_and] at hv'
            obtain ⟨had', hcc'⟩ := hv'
            subst had' hcc'
            obtain ⟨b, o, had, hbl, hce⟩ := hcs (by intro h; rw [h] at hI1; simp at hI1)
            subst had
            have hkey := (hce I (by omega)).1
            obtain ⟨key, hke⟩ : ∃ key, (n.items.getD I Cm.zero).key = key := ⟨_, rfl⟩
            rw [hke] at hkey HH
            clear hce hcs hke
            have hbw : b < w.heap.size := Nat.lt_of_lt_of_le hbl hB
            have hbe := hH9.be.size
            have hnl := lt_of_heap hH9.nd
            have iI : (I : Int) < (n.items.length : Int) := by omega
            have HSS : Hid (∀ X : World, X.heap[w.heap.size]? = wc.heap[w.heap.size]? → X.heap[q1]? = wc.heap[q1]? → X.heap[q2]? = wc.heap[q2]? → X.heap[b]? = wc.heap[b]? → (X.cell? ⟨w.heap.size, 0, none⟩ = some (.bool lf) ∧ X.cell? ⟨w.heap.size, 1, none⟩ = some (.slice (some ⟨b, o, none⟩) n.items.length c) ∧ X.cell? ⟨w.heap.size, 2, none⟩ = some (.slice kd n.kids.length d) ∧ X.cell? ⟨q1, 0, none⟩ = some (.bool lf) ∧ X.cell? ⟨q1, 1, none⟩ = some (.slice a1 I c1) ∧ X.cell? ⟨q1, 2, none⟩ = some (.slice a2 KL.length c2) ∧ X.cell? ⟨q2, 0, none⟩ = some (.bool lf) ∧ X.cell? ⟨q2, 1, none⟩ = some (.slice a3 M c3) ∧ X.cell? ⟨q2, 2, none⟩ = some (.slice a4 KR.length c4) ∧ X.cell? ⟨b, o + I * 4, none⟩ = some (.string key))) := fun X e1 e2 e3 e4 => by
              obtain ⟨f0, f1, f2⟩ := cells3_of (e1.trans hH9.nd)
              obtain ⟨f3, f4, f5⟩ := cells3_of (e2.trans hQ19)
              obtain ⟨f6, f7, f8⟩ := cells3_of (e3.trans hQ29)
              exact ⟨f0, f1, f2, f3, f4, f5, f6, f7, f8, (World.cell?_of_block (a := ⟨b, o + I * 4, none⟩) e4).trans hkey⟩
            have hrb1 := k_st (q := w.heap.size + 1) hH9.rb (by omega) (.bool lf) (.slice a1 I c1) (.slice a2 KL.length c2)
            have hA := k_st (q := w.heap.size + 2) (heap_set3 hH9.ra (.bool lf) (.slice a1 I c1) (.slice a2 KL.length c2)) (by omega) (.bool lf) (.slice a3 M c3) (.slice a4 KR.length c4)
            have hBB := heap_set3 hrb1 (.bool lf) (.slice a3 M c3) (.slice a4 KR.length c4)
            have hfin : HalfS w ((((((wc.setCell ⟨w.heap.size + 1, 0, none⟩ (.bool lf)).setCell ⟨w.heap.size + 1, 1, none⟩ (.slice a1 I c1)).setCell ⟨w.heap.size + 1, 2, none⟩ (.slice a2 KL.length c2)).setCell ⟨w.heap.size + 2, 0, none⟩ (.bool lf)).setCell ⟨w.heap.size + 2, 1, none⟩ (.slice a3 M c3)).setCell ⟨w.heap.size + 2, 2, none⟩ (.slice a4 KR.length c4)) n (.returned (.tuple #[.agg #[.bool lf, .slice a1 I c1, .slice a2 KL.length c2], .string key, .agg #[.bool lf, .slice a3 M c3, .slice a4 KR.length c4], .int .i64 0])) := by
              refine .inr (.inr ⟨Hr.out, Cm.cutL n I, key, Cm.cutR n I, .slice a1 I c1, .slice a2 KL.length c2, .slice a3 M c3, .slice a4 KR.length c4, HH.out, ?_, ?_, ?_, ?_, ?_⟩)
              · rw [Cm.cutL_leaf, Cm.cutR_leaf, Hlf.out]
              · rw [Cm.cutL_items]
                exact OwnC.low (own_stR (own_stR hO19 hH9.ra (by decide) _ _ _) hrb1 (by decide) _ _ _) (by omega)
              · rw [HKL.out]
                exact OwnN.low (own_stR (own_stR hK19 hH9.ra (by decide) _ _ _) hrb1 (by decide) _ _ _) (by omega)
              · have e2 : (Cm.cutR n I).items = n.items.drop J := by
                  have hJ := HJ.out
                  unfold Cm.up at hJ
                  cases lf with
                  | true => rw [Cm.cutR_items_leaf n I Hlf.out]; simp at hJ; rw [hJ]
                  | false => rw [Cm.cutR_items_inner n I Hlf.out]; simp at hJ; rw [hJ]
                rw [e2]
                exact OwnC.low (own_stR (own_stR hO29 hH9.ra (by decide) _ _ _) hrb1 (by decide) _ _ _) (by omega)
              · rw [HKR.out]
                exact OwnN.low (own_stR (own_stR hK29 hH9.ra (by decide) _ _ _) hrb1 (by decide) _ _ _) (by omega)
            have HF : Hid _ := hfin
            have HBf : Hid _ := six hH9.be (.bool lf) (.slice a1 I c1) (.slice a2 KL.length c2) (.bool lf) (.slice a3 M c3) (.slice a4 KR.length c4)
            have hS0 := HSS.out wc rfl rfl rfl rfl
            have hS1 : ((((wc.setCell ⟨w.heap.size + 1, 0, none⟩ (.bool lf)).setCell ⟨w.heap.size + 1, 1, none⟩ (.slice a1 I c1)).setCell ⟨w.heap.size + 1, 2, none⟩ (.slice a2 KL.length c2)).cell? ⟨w.heap.size, 0, none⟩ = some (.bool lf) ∧ (((wc.setCell ⟨w.heap.size + 1, 0, none⟩ (.bool lf)).setCell ⟨w.heap.size + 1, 1, none⟩ (.slice a1 I c1)).setCell ⟨w.heap.size + 1, 2, none⟩ (.slice a2 KL.length c2)).cell? ⟨w.heap.size, 1, none⟩ = some (.slice (some ⟨b, o, none⟩) n.items.length c) ∧ (((wc.setCell ⟨w.heap.size + 1, 0, none⟩ (.bool lf)).setCell ⟨w.heap.size + 1, 1, none⟩ (.slice a1 I c1)).setCell ⟨w.heap.size + 1, 2, none⟩ (.slice a2 KL.length c2)).cell? ⟨w.heap.size, 2, none⟩ = some (.slice kd n.kids.length d) ∧ (((wc.setCell ⟨w.heap.size + 1, 0, none⟩ (.bool lf)).setCell ⟨w.heap.size + 1, 1, none⟩ (.slice a1 I c1)).setCell ⟨w.heap.size + 1, 2, none⟩ (.slice a2 KL.length c2)).cell? ⟨q1, 0, none⟩ = some (.bool lf) ∧ (((wc.setCell ⟨w.heap.size + 1, 0, none⟩ (.bool lf)).setCell ⟨w.heap.size + 1, 1, none⟩ (.slice a1 I c1)).setCell ⟨w.heap.size + 1, 2, none⟩ (.slice a2 KL.length c2)).cell? ⟨q1, 1, none⟩ = some (.slice a1 I c1) ∧ (((wc.setCell ⟨w.heap.size + 1, 0, none⟩ (.bool lf)).setCell ⟨w.heap.size + 1, 1, none⟩ (.slice a1 I c1)).setCell ⟨w.heap.size + 1, 2, none⟩ (.slice a2 KL.length c2)).cell? ⟨q1, 2, none⟩ = some (.slice a2 KL.length c2) ∧ (((wc.setCell ⟨w.heap.size + 1, 0, none⟩ (.bool lf)).setCell ⟨w.heap.size + 1, 1, none⟩ (.slice a1 I c1)).setCell ⟨w.heap.size + 1, 2, none⟩ (.slice a2 KL.length c2)).cell? ⟨q2, 0, none⟩ = some (.bool lf) ∧ (((wc.setCell ⟨w.heap.size + 1, 0, none⟩ (.bool lf)).setCell ⟨w.heap.size + 1, 1, none⟩ (.slice a1 I c1)).setCell ⟨w.heap.size + 1, 2, none⟩ (.slice a2 KL.length c2)).cell? ⟨q2, 1, none⟩ = some (.slice a3 M c3) ∧ (((wc.setCell ⟨w.heap.size + 1, 0, none⟩ (.bool lf)).setCell ⟨w.heap.size + 1, 1, none⟩ (.slice a1 I c1)).setCell ⟨w.heap.size + 1, 2, none⟩ (.slice a2 KL.length c2)).cell? ⟨q2, 2, none⟩ = some (.slice a4 KR.length c4) ∧ (((wc.setCell ⟨w.heap.size + 1, 0, none⟩ (.bool lf)).setCell ⟨w.heap.size + 1, 1, none⟩ (.slice a1 I c1)).setCell ⟨w.heap.size + 1, 2, none⟩ (.slice a2 KL.length c2)).cell? ⟨b, o + I * 4, none⟩ = some (.string key)) := HSS.out _ ((turn3 wc (w.heap.size + 1) _ _ _).block _ (lt_of_heap hH9.nd) (by simp)) ((turn3 wc (w.heap.size + 1) _ _ _).block _ (lt_of_heap hQ19) (by simp; omega)) ((turn3 wc (w.heap.size + 1) _ _ _).block _ (lt_of_heap hQ29) (by simp; omega)) ((turn3 wc (w.heap.size + 1) _ _ _).block _ (by omega) (by simp; omega))
            have hS2 : (((((((wc.setCell ⟨w.heap.size + 1, 0, none⟩ (.bool lf)).setCell ⟨w.heap.size + 1, 1, none⟩ (.slice a1 I c1)).setCell ⟨w.heap.size + 1, 2, none⟩ (.slice a2 KL.length c2)).setCell ⟨w.heap.size + 2, 0, none⟩ (.bool lf)).setCell ⟨w.heap.size + 2, 1, none⟩ (.slice a3 M c3)).setCell ⟨w.heap.size + 2, 2, none⟩ (.slice a4 KR.length c4)).cell? ⟨w.heap.size, 0, none⟩ = some (.bool lf) ∧ ((((((wc.setCell ⟨w.heap.size + 1, 0, none⟩ (.bool lf)).setCell ⟨w.heap.size + 1, 1, none⟩ (.slice a1 I c1)).setCell ⟨w.heap.size + 1, 2, none⟩ (.slice a2 KL.length c2)).setCell ⟨w.heap.size + 2, 0, none⟩ (.bool lf)).setCell ⟨w.heap.size + 2, 1, none⟩ (.slice a3 M c3)).setCell ⟨w.heap.size + 2, 2, none⟩ (.slice a4 KR.length c4)).cell? ⟨w.heap.size, 1, none⟩ = some (.slice (some ⟨b, o, none⟩) n.items.length c) ∧ ((((((wc.setCell ⟨w.heap.size + 1, 0, none⟩ (.bool lf)).setCell ⟨w.heap.size + 1, 1, none⟩ (.slice a1 I c1)).setCell ⟨w.heap.size + 1, 2, none⟩ (.slice a2 KL.length c2)).setCell ⟨w.heap.size + 2, 0, none⟩ (.bool lf)).setCell ⟨w.heap.size + 2, 1, none⟩ (.slice a3 M c3)).setCell ⟨w.heap.size + 2, 2, none⟩ (.slice a4 KR.length c4)).cell? ⟨w.heap.size, 2, none⟩ = some (.slice kd n.kids.length d) ∧ ((((((wc.setCell ⟨w.heap.size + 1, 0, none⟩ (.bool lf)).setCell ⟨w.heap.size + 1, 1, none⟩ (.slice a1 I c1)).setCell ⟨w.heap.size + 1, 2, none⟩ (.slice a2 KL.length c2)).setCell ⟨w.heap.size + 2, 0, none⟩ (.bool lf)).setCell ⟨w.heap.size + 2, 1, none⟩ (.slice a3 M c3)).setCell ⟨w.heap.size + 2, 2, none⟩ (.slice a4 KR.length c4)).cell? ⟨q1, 0, none⟩ = some (.bool lf) ∧ ((((((wc.setCell ⟨w.heap.size + 1, 0, none⟩ (.bool lf)).setCell ⟨w.heap.size + 1, 1, none⟩ (.slice a1 I c1)).setCell ⟨w.heap.size + 1, 2, none⟩ (.slice a2 KL.length c2)).setCell ⟨w.heap.size + 2, 0, none⟩ (.bool lf)).setCell ⟨w.heap.size + 2, 1, none⟩ (.slice a3 M c3)).setCell ⟨w.heap.size + 2, 2, none⟩ (.slice a4 KR.length c4)).cell? ⟨q1, 1, none⟩ = some (.slice a1 I c1) ∧ ((((((wc.setCell ⟨w.heap.size + 1, 0, none⟩ (.bool lf)).setCell ⟨w.heap.size + 1, 1, none⟩ (.slice a1 I c1)).setCell ⟨w.heap.size + 1, 2, none⟩ (.slice a2 KL.length c2)).setCell ⟨w.heap.size + 2, 0, none⟩ (.bool lf)).setCell ⟨w.heap.size + 2, 1, none⟩ (.slice a3 M c3)).setCell ⟨w.heap.size + 2, 2, none⟩ (.slice a4 KR.length c4)).cell? ⟨q1, 2, none⟩ = some (.slice a2 KL.length c2) ∧ ((((((wc.setCell ⟨w.heap.size + 1, 0, none⟩ (.bool lf)).setCell ⟨w.heap.size + 1, 1, none⟩ (.slice a1 I c1)).setCell ⟨w.heap.size + 1, 2, none⟩ (.slice a2 KL.length c2)).setCell ⟨w.heap.size + 2, 0, none⟩ (.bool lf)).setCell ⟨w.heap.size + 2, 1, none⟩ (.slice a3 M c3)).setCell ⟨w.heap.size + 2, 2, none⟩ (.slice a4 KR.length c4)).cell? ⟨q2, 0, none⟩ = some (.bool lf) ∧ ((((((wc.setCell ⟨w.heap.size + 1, 0, none⟩ (.bool lf)).setCell ⟨w.heap.size + 1, 1, none⟩ (.slice a1 I c1)).setCell ⟨w.heap.size + 1, 2, none⟩ (.slice a2 KL.length c2)).setCell ⟨w.heap.size + 2, 0, none⟩ (.bool lf)).setCell ⟨w.heap.size + 2, 1, none⟩ (.slice a3 M c3)).setCell ⟨w.heap.size + 2, 2, none⟩ (.slice a4 KR.length c4)).cell? ⟨q2, 1, none⟩ = some (.slice a3 M c3) ∧ ((((((wc.setCell ⟨w.heap.size + 1, 0, none⟩ (.bool lf)).setCell ⟨w.heap.size + 1, 1, none⟩ (.slice a1 I c1)).setCell ⟨w.heap.size + 1, 2, none⟩ (.slice a2 KL.length c2)).setCell ⟨w.heap.size + 2, 0, none⟩ (.bool lf)).setCell ⟨w.heap.size + 2, 1, none⟩ (.slice a3 M c3)).setCell ⟨w.heap.size + 2, 2, none⟩ (.slice a4 KR.length c4)).cell? ⟨q2, 2, none⟩ = some (.slice a4 KR.length c4) ∧ ((((((wc.setCell ⟨w.heap.size + 1, 0, none⟩ (.bool lf)).setCell ⟨w.heap.size + 1, 1, none⟩ (.slice a1 I c1)).setCell ⟨w.heap.size + 1, 2, none⟩ (.slice a2 KL.length c2)).setCell ⟨w.heap.size + 2, 0, none⟩ (.bool lf)).setCell ⟨w.heap.size + 2, 1, none⟩ (.slice a3 M c3)).setCell ⟨w.heap.size + 2, 2, none⟩ (.slice a4 KR.length c4)).cell? ⟨b, o + I * 4, none⟩ = some (.string key)) := HSS.out _ (((turn3 _ (w.heap.size + 2) _ _ _).block _ (by simp [World.setCell]; omega) (by simp)).trans ((turn3 wc (w.heap.size + 1) _ _ _).block _ (by omega) (by simp))) (((turn3 _ (w.heap.size + 2) _ _ _).block _ (by simp [World.setCell]; exact lt_of_heap hQ19) (by simp; omega)).trans ((turn3 wc (w.heap.size + 1) _ _ _).block _ (lt_of_heap hQ19) (by simp; omega))) (((turn3 _ (w.heap.size + 2) _ _ _).block _ (by simp [World.setCell]; exact lt_of_heap hQ29) (by simp; omega)).trans ((turn3 wc (w.heap.size + 1) _ _ _).block _ (lt_of_heap hQ29) (by simp; omega))) (((turn3 _ (w.heap.size + 2) _ _ _).block _ (by simp [World.setCell]; omega) (by simp; omega)).trans ((turn3 wc (w.heap.size + 1) _ _ _).block _ (by omega) (by simp; omega)))
            obtain ⟨p0, p1, p2⟩ := cells3_of hH9.ra
            have pf := fun j => frozen_of_row wc (w.heap.size + 1) j _ _ hH9.ra
            have HRB : Hid _ := hrb1
            have HA : Hid _ := hA
            have HBB : Hid _ := hBB
            have HS1 : Hid _ := hS1
            have HS2 : Hid _ := hS2
            have HS0 : Hid _ := hS0
            clear hfin hkey hrb1 hA hBB hS1 hS2 hS0 hH9 hQ19 hQ29 hO19 hO29 hK19 hK29 HSS hbl hbe hnl hB hl hk h2 h2' hup hs1 hs2 hq1 hq2 hq12 hwJ hJl hI1
            go_wp2_with fail
            refine wp_region_held_drew (S := fun W : World => (W.cell? ⟨w.heap.size, 0, none⟩ = some (.bool lf) ∧ W.cell? ⟨w.heap.size, 1, none⟩ = some (.slice (some ⟨b, o, none⟩) n.items.length c) ∧ W.cell? ⟨w.heap.size, 2, none⟩ = some (.slice kd n.kids.length d) ∧ W.cell? ⟨q1, 0, none⟩ = some (.bool lf) ∧ W.cell? ⟨q1, 1, none⟩ = some (.slice a1 I c1) ∧ W.cell? ⟨q1, 2, none⟩ = some (.slice a2 KL.length c2) ∧ W.cell? ⟨q2, 0, none⟩ = some (.bool lf) ∧ W.cell? ⟨q2, 1, none⟩ = some (.slice a3 M c3) ∧ W.cell? ⟨q2, 2, none⟩ = some (.slice a4 KR.length c4) ∧ W.cell? ⟨b, o + I * 4, none⟩ = some (.string key))) (by kernel_rfl) HS0.out (fun hHeld => ?_)
            refine wpAnyH_take (i := 0) (v := ?_) rfl (by kernel_rfl) (by kernel_rfl) (by kernel_rfl) (fun _ _ _ h => h) (Or.inl ⟨(by simp [Region.wanted]), ?_⟩) (hHeld) ?_
            rotate_left
            · (intro w hSw; (try dsimp only at hSw); ((go_simp) <;> (with_reducible rfl)))
            try simp only [Act.put, List.setIfInBounds_toArray]
            refine wpAnyH_take (i := 1) (v := ?_) rfl (by kernel_rfl) (by kernel_rfl) (by kernel_rfl) (fun _ _ _ h => h) (Or.inl ⟨(by simp [Region.wanted]), ?_⟩) (hHeld) ?_
            rotate_left
            · (intro w hSw; (try dsimp only at hSw); ((go_simp) <;> (with_reducible rfl)))
            try simp only [Act.put]
            refine wpAnyH_take (i := 2) (v := ?_) rfl (by kernel_rfl) (by kernel_rfl) (by kernel_rfl) (fun _ _ _ h => h) (Or.inl ⟨(by simp [Region.wanted]), ?_⟩) (hHeld) ?_
            rotate_left
            · (intro w hSw; (try dsimp only at hSw); ((go_simp) <;> (with_reducible rfl)))
            try simp only [Act.put]
            refine wpAnyH_take (i := 3) (v := ?_) rfl (by kernel_rfl) (by kernel_rfl) (by kernel_rfl) (fun _ _ _ h => h) (Or.inl ⟨(by simp [Region.wanted]), ?_⟩) (hHeld) ?_
            rotate_left
            · (intro w hSw; (try dsimp only at hSw); ((go_simp) <;> (with_reducible rfl)))
            try simp only [Act.put]
            refine wpAnyH_take (i := 4) (v := ?_) rfl (by kernel_rfl) (by kernel_rfl) (by kernel_rfl) (fun _ _ _ h => h) (Or.inl ⟨(by simp [Region.wanted]), ?_⟩) (hHeld) ?_
            rotate_left
            · (intro w hSw; (try dsimp only at hSw); ((go_simp) <;> (with_reducible rfl)))
            try simp only [Act.put]
            refine wpAnyH_take (i := 5) (v := ?_) rfl (by kernel_rfl) (by kernel_rfl) (by kernel_rfl) (fun _ _ _ h => h) (Or.inl ⟨(by simp [Region.wanted]), ?_⟩) (hHeld) ?_
            rotate_left
            · (intro w hSw; (try dsimp only at hSw); ((go_simp) <;> (with_reducible rfl)))
            try simp only [Act.put]
            refine wpAnyH_take (i := 6) (v := ?_) rfl (by kernel_rfl) (by kernel_rfl) (by kernel_rfl) (fun _ _ _ h => h) (Or.inl ⟨(by simp [Region.wanted]), ?_⟩) (hHeld) ?_
            rotate_left
            · (intro w hSw; (try dsimp only at hSw); ((go_simp) <;> (with_reducible rfl)))
            try simp only [Act.put]
            refine wpAnyH_take (i := 7) (v := ?_) rfl (by kernel_rfl) (by kernel_rfl) (by kernel_rfl) (fun _ _ _ h => h) (Or.inl ⟨(by simp [Region.wanted]), ?_⟩) (hHeld) ?_
            rotate_left
            · (intro w hSw; (try dsimp only at hSw); ((go_simp) <;> (with_reducible rfl)))
            try simp only [Act.put]
            refine wpAnyH_ready (rs := [8]) (by kernel_rfl) (by simp) ?_
            refine AllReadyH.cons rfl (fun K hK => ?_) AllReadyH.nil
            go_simp
            refine hK.out _ _ HS1.out (fun hHeld => ?_)
            clear hK K
            try simp only [Act.put, List.setIfInBounds_toArray, List.set_cons_zero, List.set_cons_succ]
            generalize ((wc.setCell ⟨w.heap.size + 1, 0, none⟩ (.bool lf)).setCell ⟨w.heap.size + 1, 1, none⟩ (.slice a1 I c1)).setCell ⟨w.heap.size + 1, 2, none⟩ (.slice a2 KL.length c2) = X1 at *
            clear p0 p1 p2 pf
            refine wpAnyH_ready (rs := [9]) (by kernel_rfl) (by simp) ?_
            refine AllReadyH.cons rfl (fun K hK => ?_) AllReadyH.nil
            go_simp
            refine hK.out _ _ HS1.out (fun hHeld => ?_)
            clear hK K
            try simp only [Act.put, List.setIfInBounds_toArray, List.set_cons_zero, List.set_cons_succ]
            obtain ⟨r0, r1, r2⟩ := cells3_of HRB.out
            have rf := fun j => frozen_of_row _ (w.heap.size + 2) j _ _ HRB.out
            refine wpAnyH_ready (rs := [10]) (by kernel_rfl) (by simp) ?_
            refine AllReadyH.cons rfl (fun K hK => ?_) AllReadyH.nil
            go_simp
            refine hK.out _ _ HS2.out (fun hHeld => ?_)
            clear hK K
            try simp only [Act.put, List.setIfInBounds_toArray, List.set_cons_zero, List.set_cons_succ]
            refine wpAnyH_ready (rs := [11]) (by kernel_rfl) (by simp) ?_
            refine AllReadyH.cons rfl (fun K hK => ?_) AllReadyH.nil
            go_simp
            refine hK.out _ _ HS2.out (fun hHeld => ?_)
            clear hK K
            try simp only [Act.put, List.setIfInBounds_toArray, List.set_cons_zero, List.set_cons_succ]
            refine wpAnyH_done (by kernel_rfl) ?_ _
            go_wp2
            generalize ((X1.setCell ⟨w.heap.size + 2, 0, none⟩ (.bool lf)).setCell ⟨w.heap.size + 2, 1, none⟩ (.slice a3 M c3)).setCell ⟨w.heap.size + 2, 2, none⟩ (.slice a4 KR.length c4) = X2 at *
            obtain ⟨y0, y1, y2⟩ := cells3_of HA.out
            obtain ⟨t0, t1, t2⟩ := cells3_of HBB.out
            have HBf2 : Hid (Below w.heap.size w X2.drew) := ⟨HBf.out.os, HBf.out.tape, HBf.out.output, HBf.out.size, HBf.out.block⟩
            clear r0 r1 r2 rf
            simp only [bodyPost, results, Try.results10]
            simp [go_sem, y0, y1, y2, t0, t1, t2]
            exact ⟨HF.out, HBf2.out⟩
    · have h2' : (n.items.length : Int) < 2 + (Cm.up lf : Int) := by omega
      have HN : Hid (Cm.half n = .none) := Cm.half_none (by unfold Cm.places; rw [Hlf.out]; unfold Cm.up at h2; cases lf <;> simp at h2 ⊢ <;> omega)
      obtain ⟨p0, p1, p2⟩ := cells3_of hH2.ra
      obtain ⟨r0, r1, r2⟩ := cells3_of hH2.rb
      have pf := fun j => frozen_of_row w2 (w.heap.size + 1) j _ _ hH2.ra
      have rf := fun j => frozen_of_row w2 (w.heap.size + 2) j _ _ hH2.rb
      have hup := Hup.out
      go_wp2
      simp only [bodyPost, results, Try.results10]
      simp [go_sem, p0, p1, p2, r0, r1, r2]
      exact ⟨.inr (.inl ⟨Hr.out, HN.out, rfl⟩), six hH2.be _ _ _ _ _ _⟩
  · rw [decide_eq_false hr]
    have Hr : Hid (¬ Cm.Right n) := hr
    clear hr
    go_wp2
    simp only [bodyPost, results, Try.results10]
    simp [go_sem, p0, p1, p2, r0, r1, r2]
    exact ⟨.inl ⟨Hr.out, rfl⟩, six hH1.be _ _ _ _ _ _⟩

end Go.Proofs.Ytplfcpbjlhobeaa
