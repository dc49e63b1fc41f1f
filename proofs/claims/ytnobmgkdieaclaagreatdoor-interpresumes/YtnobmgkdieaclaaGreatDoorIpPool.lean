/-
  SEVERAL RUNS SIDE BY SIDE: each goes on, is told, is copied, and the others stay.
-/
import Derived.Test.YtnobmgkdieaclaaGreatDoorIpAskJ
import Derived.Test.YtnobmgkdieaclaaGreatDoorIpAns
import Derived.Test.YtnobmgkdieaclaaGreatDoorIpLive
namespace Go.Proofs.YtnobmgkdieaclaaGreatDoor
open Go.RowKit

namespace Ip.St
variable {f : B → Option B} {R : Rn} {s : St}
/-- it comes to R in the end -/
structure Well (f : B → Option B) (R : Rn) (s : St) : Prop where
  inv : s.Inv
  comes : (done f s.step).rn = R
theorem Well.step (h : Well f R s) : Well f R s.step := ⟨(step_inv h.inv).1, by rw [step_step h.inv]; exact h.comes⟩
theorem Well.tell (h : Well f R s) (h1 : s.ev.kind = 1) : Well f R (s.answer (f s.ev.path)) := ⟨(answer_inv h.inv h1 _).1, by
  have e := step_end (s := s) (by omega)
  have h2 := h.comes
  rw [e] at h2
  show (done f (s.next f)).rn = R
  rw [done_next h.inv h1]
  exact h2⟩
theorem Well.over (h : Well f R s) (h0 : s.ev.kind ≠ 0) (h1 : s.ev.kind ≠ 1) : s.rn = R := by
  have h2 := h.comes
  rw [step_end h0, done_end h1] at h2
  exact h2
theorem Inv.asks (h : s.Inv) (h1 : s.ev.kind = 1) : 1 ≤ s.needs.length := List.length_pos_of_mem (h.need h1).2.2.1
end Ip.St

/-- n runs, their own blocks apart from one another -/
structure Pool (w : World) (O : List Nat) (n : Nat) (X : Nat → RP × Ip.St) : Prop where
  each : ∀ i, i < n → RunS w O (X i).1 (X i).2
  apart : ∀ i j, i < n → j < n → i ≠ j → ∀ b ∈ (X i).1.own, b ∉ (X j).1.own
def putX (X : Nat → RP × Ip.St) (i : Nat) (a : RP × Ip.St) : Nat → RP × Ip.St := fun k => if k = i then a else X k
theorem putX_at (X : Nat → RP × Ip.St) (i : Nat) (a : RP × Ip.St) : putX X i a i = a := if_pos rfl
theorem putX_ne {X : Nat → RP × Ip.St} {i k : Nat} {a : RP × Ip.St} (h : k ≠ i) : putX X i a k = X k := if_neg h
variable {w w' : World} {O O' : List Nat} {n : Nat} {X : Nat → RP × Ip.St}
theorem Pool.below (h : Pool w O n X) (hb : Below w.heap.size w w') : Pool w' O n X := ⟨fun i hi => (h.each i hi).below hb, h.apart⟩
theorem Pool.few {m : Nat} (h : Pool w O n X) (hm : m ≤ n) : Pool w O m X := ⟨fun i hi => h.each i (by omega), fun i j hi hj => h.apart i j (by omega) (by omega)⟩
/-- another's blocks turn -/
theorem Pool.turn {T : List Nat} (h : Pool w O n X) (hT : Turn T w w') (h1 : ∀ b ∈ T, b < w.heap.size → b ∈ O ∧ ∀ i, i < n → b ∉ (X i).1.own) (h3 : ∀ b ∈ O', b < w.heap.size → b ∈ O) (h4 : ∀ b ∈ O, b ∈ O') (h5 : ∀ b ∈ O', b < w'.heap.size) : Pool w' O' n X :=
  ⟨fun i hi => (h.each i hi).aside hT (fun b hb hl => (h1 b hb hl).1) (fun b hb hT' => (h1 b hT' ((h.each i hi).lt b hb)).2 i hi hb) h3 (fun b hb => h4 b ((h.each i hi).sub b hb)) h5, h.apart⟩
/-- one of them goes on -/
theorem Pool.went (h : Pool w O n X) {i : Nat} (hi : i < n) {s' : Ip.St} (hw : Went w O (X i).1 s' w') : ∃ x', x'.p = (X i).1.p ∧ Pool w' (x'.own ++ O) n (putX X i (x', s')) ∧ (∀ b ∈ x'.own, b ∈ (X i).1.own ∨ w.heap.size ≤ b) ∧ Turn (X i).1.own w w' := by
  obtain ⟨x', e, h1, h2, h3⟩ := hw
  refine ⟨x', e, ⟨fun k hk => ?_, fun k j hk hj hkj => ?_⟩, h2, h3⟩
  · by_cases e1 : k = i
    · rw [e1, putX_at]
      exact h1
    · rw [putX_ne e1]
      refine (h.each k hk).aside h3 (fun b hb _ => (h.each i hi).sub b hb) (fun b hb hx => h.apart k i hk hi e1 b hb hx) (fun b hb hl => ?_) (fun b hb => List.mem_append_right _ ((h.each k hk).sub b hb)) h1.lim
      rcases List.mem_append.1 hb with hb | hb
      · rcases h2 b hb with hb | hb
        · exact (h.each i hi).sub b hb
        · omega
      · exact hb
  · by_cases e1 : k = i
    · have e2 : j ≠ i := fun e => hkj (e1.trans e.symm)
      rw [e1, putX_at, putX_ne e2]
      intro b hb hx
      rcases h2 b hb with hb | hb
      · exact h.apart i j hi hj (fun e => e2 e.symm) b hb hx
      · have := (h.each j hj).lt b hx
        omega
    · rw [putX_ne e1]
      by_cases e2 : j = i
      · rw [e2, putX_at]
        intro b hb hx
        rcases h2 b hx with hx | hx
        · exact h.apart k i hk hi e1 b hb hx
        · have := (h.each k hk).lt b hb
          omega
      · rw [putX_ne e2]
        exact h.apart k j hk hj hkj
/-- one more: the new one stands last but one, or last -/
theorem Pool.more (h : Pool w O n X) {x : RP} {s : Ip.St} (hb : Below w.heap.size w w') (hx : RunS w' (x.own ++ O) x s) (hn : ∀ b ∈ x.own, w.heap.size ≤ b) : Pool w' (x.own ++ O) (n + 1) (putX X n (x, s)) := by
  refine ⟨fun k hk => ?_, fun k j hk hj hkj => ?_⟩
  · by_cases e1 : k = n
    · rw [e1, putX_at]; exact hx
    · rw [putX_ne e1]
      refine (h.each k (by omega)).aside (Turn.of_below hb) (by simp) (by simp) (fun b hb hl => ?_) (fun b hb => List.mem_append_right _ ((h.each k (by omega)).sub b hb)) hx.lim
      rcases List.mem_append.1 hb with hb | hb
      · have := hn b hb; omega
      · exact hb
  · by_cases e1 : k = n
    · have e2 : j ≠ n := fun e => hkj (e1.trans e.symm)
      rw [e1, putX_at, putX_ne e2]
      intro b hb hx
      have := (h.each j (by omega)).lt b hx
      have := hn b hb
      omega
    · rw [putX_ne e1]
      by_cases e2 : j = n
      · rw [e2, putX_at]
        intro b hb hx
        have := (h.each k (by omega)).lt b hb
        have := hn b hx
        omega
      · rw [putX_ne e2]
        exact h.apart k j (by omega) (by omega) hkj
/-- two of them change their places -/
def swapX (X : Nat → RP × Ip.St) (i j : Nat) : Nat → RP × Ip.St := fun k => if k = i then X j else if k = j then X i else X k
theorem swapX_lt {X : Nat → RP × Ip.St} {i j k : Nat} (h1 : k ≠ i) (h2 : k ≠ j) : swapX X i j k = X k := by unfold swapX; rw [if_neg h1, if_neg h2]
theorem swapX_1 (X : Nat → RP × Ip.St) (i j : Nat) : swapX X i j i = X j := if_pos rfl
theorem swapX_2 (X : Nat → RP × Ip.St) {i j : Nat} (h : j ≠ i) : swapX X i j j = X i := by unfold swapX; rw [if_neg h, if_pos rfl]
theorem Pool.swap (h : Pool w O n X) {i j : Nat} (hi : i < n) (hj : j < n) : Pool w O n (swapX X i j) := by
  have key : ∀ k, k < n → ∃ q, q < n ∧ swapX X i j k = X q ∧ ((k ≠ i ∧ k ≠ j ∧ q = k) ∨ (k = i ∧ q = j) ∨ (k ≠ i ∧ k = j ∧ q = i)) := fun k hk => by
    unfold swapX
    by_cases e1 : k = i
    · rw [if_pos e1]; exact ⟨j, hj, rfl, .inr (.inl ⟨e1, rfl⟩)⟩
    · rw [if_neg e1]
      by_cases e2 : k = j
      · rw [if_pos e2]; exact ⟨i, hi, rfl, .inr (.inr ⟨e1, e2, rfl⟩)⟩
      · rw [if_neg e2]; exact ⟨k, hk, rfl, .inl ⟨e1, e2, rfl⟩⟩
  refine ⟨fun k hk => ?_, fun k l hk hl hkl => ?_⟩
  · obtain ⟨q, hq, e, -⟩ := key k hk
    rw [e]; exact h.each q hq
  · obtain ⟨q, hq, e1, c1⟩ := key k hk
    obtain ⟨r, hr, e2, c2⟩ := key l hl
    rw [e1, e2]
    exact h.apart q r hq hr (by omega)

/-- rows of runs -/
def PtR : Rc Nat where
  e := 28
  st := 67
  k := 1
  bytes := 8
  z := .pointer none
  enc p := [.pointer (some ⟨p, 0, none⟩)]
  pos := by decide
  len _ := rfl
  one f u hu := by
    simp only [List.mem_cons, List.not_mem_nil, or_false] at hu
    rcases hu with rfl
    rfl
  info := by kernel_rfl
  under := Tryz.underlying67
  zk := rfl
  small := by decide
theorem PtR.at {w : World} {B : Nat} {v : Value} {l : List Nat} (h : PtR.Sl w B v l) {k : Nat} (hk : k < l.length) :
    ∃ g o c, v = .slice (some ⟨g, o, none⟩) l.length c ∧ g < B ∧ w.cell? ⟨g, o + k, none⟩ = some (.pointer (some ⟨l[k], 0, none⟩)) := by
  obtain ⟨g, o, c, e1, hg, hc⟩ := h.cells k hk
  exact ⟨g, o, c, e1, hg, (by have c0 := hc 0 _ (by decide) rfl; rw [show o + (k * PtR.k + 0) = o + k by show o + (k * 1 + 0) = _; omega] at c0; exact c0)⟩

/-- a row of runs, and runs besides: n in the row, m in all; C: the world in which they began, O0: what was somebody's own there -/
structure LeftS (f : Ip.B → Option Ip.B) (R : Rn) (C : World) (O0 : List Nat) (V : World) (n m : Nat) (O : List Nat) (X : Nat → RP × Ip.St) (v : Value) : Prop where
  pool : Pool V O m X
  fine : ∀ i, i < m → Ip.St.Well f R (X i).2
  row : PtR.Own V 7 v ((List.range n).map fun i => (X i).1.p)
  mine : ∀ g, v.ownBlock = some g → g ∈ O ∧ ∀ i, i < m → g ∉ (X i).1.own
  lim : ∀ b ∈ O, b < V.heap.size
  old : ∀ b ∈ O, b < C.heap.size → b ∈ O0
  turn : Turn O0 C V
  le : n ≤ m
section
variable {f : Ip.B → Option Ip.B} {R : Rn} {C V V' : World} {O0 O : List Nat} {n m : Nat} {X : Nat → RP × Ip.St} {v : Value}
theorem LeftS.below (h : LeftS f R C O0 V n m O X v) (hb : Below V.heap.size V V') : LeftS f R C O0 V' n m O X v :=
  ⟨h.pool.below hb, h.fine, h.row.below hb (Nat.le_refl _), h.mine, fun b hx => Nat.lt_of_lt_of_le (h.lim b hx) hb.size, h.old, h.turn.belowTrans hb, h.le⟩
theorem LeftS.went (h : LeftS f R C O0 V n m O X v) {i : Nat} (hi : i < m) {s' : Ip.St} (hw : Went V O (X i).1 s' V') (hf : Ip.St.Well f R s') :
    ∃ x' O', x'.p = (X i).1.p ∧ LeftS f R C O0 V' n m O' (putX X i (x', s')) v ∧ (∀ b ∈ O', b ∈ O ∨ V.heap.size ≤ b) ∧ Turn (X i).1.own V V' := by
  obtain ⟨x', e, hp, hn, hT⟩ := h.pool.went hi hw
  have hO : ∀ b ∈ x'.own ++ O, b ∈ O ∨ V.heap.size ≤ b := fun b hb => by
    rcases List.mem_append.1 hb with hb | hb
    · exact (hn b hb).imp ((h.pool.each i hi).sub b) id
    · exact .inl hb
  refine ⟨x', x'.own ++ O, e, ⟨hp, fun k hk => ?_, ?_, fun g hg => ⟨List.mem_append_right _ (h.mine g hg).1, fun k hk => ?_⟩, (hp.each i hi).lim, fun b hb hlt => ?_, h.turn.trans hT (fun b hb hlt => h.old b ((h.pool.each i hi).sub b hb) hlt), h.le⟩, hO, hT⟩
  · by_cases ek : k = i
    · rw [ek, putX_at]; exact hf
    · rw [putX_ne ek]; exact h.fine k hk
  · have el : ((List.range n).map fun k => (putX X i (x', s') k).1.p) = (List.range n).map fun k => (X k).1.p := List.map_congr_left fun k _ => by
      by_cases ek : k = i
      · rw [ek, putX_at]; exact e
      · rw [putX_ne ek]
    rw [el]
    exact h.row.turnP hT (fun g hg hx => (h.mine g hg).2 i hi hx)
  · by_cases ek : k = i
    · rw [ek, putX_at]
      intro hx
      rcases hn g hx with hx | hx
      · exact (h.mine g hg).2 i hi hx
      · have := h.lim g (h.mine g hg).1
        omega
    · rw [putX_ne ek]; exact (h.mine g hg).2 k hk
  · rcases hO b hb with hb | hb
    · exact h.old b hb hlt
    · have := h.turn.size
      omega
theorem LeftS.more (h : LeftS f R C O0 V n m O X v) {x : RP} {s : Ip.St} (hb : Below V.heap.size V V') (hx : RunS V' (x.own ++ O) x s) (hn : ∀ b ∈ x.own, V.heap.size ≤ b) (hf : Ip.St.Well f R s) : LeftS f R C O0 V' n (m + 1) (x.own ++ O) (putX X m (x, s)) v := by
  refine ⟨h.pool.more hb hx hn, fun k hk => ?_, ?_, fun g hg => ⟨List.mem_append_right _ (h.mine g hg).1, fun k hk => ?_⟩, hx.lim, fun b hb' hlt => ?_, h.turn.belowTrans hb, Nat.le_succ_of_le h.le⟩
  · by_cases ek : k = m
    · rw [ek, putX_at]; exact hf
    · rw [putX_ne ek]; exact h.fine k (by omega)
  · have el : ((List.range n).map fun k => (putX X m (x, s) k).1.p) = (List.range n).map fun k => (X k).1.p := List.map_congr_left fun k hk => by
      have hk' := List.mem_range.1 hk
      have := h.le
      rw [putX_ne (by omega)]
    rw [el]
    exact h.row.below hb (Nat.le_refl _)
  · by_cases ek : k = m
    · rw [ek, putX_at]
      intro hx'
      have := hn g hx'
      have := h.lim g (h.mine g hg).1
      omega
    · rw [putX_ne ek]; exact (h.mine g hg).2 k (by omega)
  · rcases List.mem_append.1 hb' with hb' | hb'
    · have := hn b hb'
      have := h.turn.size
      omega
    · exact h.old b hb' hlt
theorem LeftS.swap (h : LeftS f R C O0 V n m O X v) {i j : Nat} (hi : i < m) (hj : j < m) (hni : n ≤ i) (hnj : n ≤ j) : LeftS f R C O0 V n m O (swapX X i j) v := by
  have key : ∀ k, k < m → ∃ q, q < m ∧ swapX X i j k = X q := fun k hk => by
    unfold swapX
    split
    · exact ⟨j, hj, rfl⟩
    · split
      · exact ⟨i, hi, rfl⟩
      · exact ⟨k, hk, rfl⟩
  refine ⟨h.pool.swap hi hj, fun k hk => ?_, ?_, fun g hg => ⟨(h.mine g hg).1, fun k hk => ?_⟩, h.lim, h.old, h.turn, h.le⟩
  · obtain ⟨q, hq, e⟩ := key k hk
    rw [e]; exact h.fine q hq
  · have el : ((List.range n).map fun k => (swapX X i j k).1.p) = (List.range n).map fun k => (X k).1.p := List.map_congr_left fun k hk => by
      have hk' := List.mem_range.1 hk
      rw [swapX_lt (by omega) (by omega)]
    rw [el]
    exact h.row
  · obtain ⟨q, hq, e⟩ := key k hk
    rw [e]; exact (h.mine g hg).2 q hq
/-- the next one goes into the row -/
theorem LeftS.push (h : LeftS f R C O0 V n m O X v) (hn : n < m) {g c : Nat} (hO : PtR.Own V' 7 (.slice (some ⟨g, 0, none⟩) (n + 1) c) (((List.range n).map fun i => (X i).1.p) ++ [(X n).1.p])) (hg : V.grownBy V' v.ownBlock) (hl : v.ownBlock = some g ∨ V.heap.size ≤ g) (hlt : g < V'.heap.size) : LeftS f R C O0 V' (n + 1) m (g :: O) X (.slice (some ⟨g, 0, none⟩) (n + 1) c) := by
  have hT : Turn v.ownBlock.toList V V' := Turn.of_grown hg
  have hTO : ∀ b ∈ v.ownBlock.toList, b ∈ O ∧ ∀ i, i < m → b ∉ (X i).1.own := fun b hb => h.mine b (by simpa using hb)
  have hgm : ∀ i, i < m → g ∉ (X i).1.own := fun i hi hx => by
    rcases hl with hl | hl
    · exact (h.mine g hl).2 i hi hx
    · have := (h.pool.each i hi).lt g hx
      omega
  have hgO : g < V.heap.size → g ∈ O := fun hx => by
    rcases hl with hl | hl
    · exact (h.mine g hl).1
    · omega
  have hlim : ∀ b ∈ g :: O, b < V'.heap.size := fun b hb => by
    rcases List.mem_cons.1 hb with rfl | hb
    · exact hlt
    · have := h.lim b hb
      have := hT.size
      omega
  have hold : ∀ b ∈ g :: O, b < V.heap.size → b ∈ O := fun b hb hx => by
    rcases List.mem_cons.1 hb with rfl | hb
    · exact hgO hx
    · exact hb
  refine ⟨h.pool.turn hT (fun b hb _ => hTO b hb) hold (fun b hb => List.mem_cons_of_mem _ hb) hlim, h.fine, ?_, fun g' hg' => ?_, hlim, fun b hb hx => ?_, h.turn.trans hT (fun b hb hx => h.old b (hTO b hb).1 hx), hn⟩
  · rw [List.range_succ, List.map_append]
    exact hO
  · have e : g = g' := Option.some.inj (show some g = some g' from hg')
    subst e
    exact ⟨List.mem_cons_self .., hgm⟩
  · have := h.turn.size
    exact h.old b (hold b hb (by omega)) hx
end
/-- rows of Booleans -/
def BlR : Rc Bool where
  e := 4
  st := 66
  k := 1
  bytes := 1
  z := .bool false
  enc p := [.bool p]
  pos := by decide
  len _ := rfl
  one f u hu := by
    simp only [List.mem_cons, List.not_mem_nil, or_false] at hu
    rcases hu with rfl
    rfl
  info := by kernel_rfl
  under := Tryz.underlying66
  zk := rfl
  small := by decide
theorem BlR.at {w : World} {B : Nat} {v : Value} {l : List Bool} (h : BlR.Sl w B v l) {k : Nat} (hk : k < l.length) :
    ∃ g o c, v = .slice (some ⟨g, o, none⟩) l.length c ∧ g < B ∧ w.cell? ⟨g, o + k, none⟩ = some (.bool l[k]) := by
  obtain ⟨g, o, c, e1, hg, hc⟩ := h.cells k hk
  exact ⟨g, o, c, e1, hg, (by have c0 := hc 0 _ (by decide) rfl; rw [show o + (k * BlR.k + 0) = o + k by show o + (k * 1 + 0) = _; omega] at c0; exact c0)⟩
end Go.Proofs.YtnobmgkdieaclaaGreatDoor

namespace Go.Proofs.YtnobmgkdieaclaaGreatDoor
open Go.RowKit

/-- an event's four cells, in letters -/
def evL (e : Ip.Ev) (K : Int) (P : ByteArray) (Z : Int) (T : ByteArray) : Prop := (e.kind : Int) = K ∧ str e.path = P ∧ (e.why : Int) = Z ∧ str e.text = T
section
variable {f : Ip.B → Option Ip.B} {R : Rn} {C V V' : World} {O0 O : List Nat} {n m : Nat} {X : Nat → RP × Ip.St} {v : Value}
theorem LeftS.cell {g cap q : Nat} (h : LeftS f R C O0 V n m O X (.slice (some ⟨g, 0, none⟩) n cap)) (hq : q < n) : V.cell? ⟨g, q, none⟩ = some (.pointer (some ⟨(X q).1.p, 0, none⟩)) := by
  have hl : q < ((List.range n).map fun i => (X i).1.p).length := by simpa using hq
  obtain ⟨g', o, c, e1, -, hc⟩ := PtR.at h.row.sl hl
  simp only [Value.slice.injEq, Option.some.injEq, Addr.mk.injEq] at e1
  obtain ⟨⟨rfl, rfl, -⟩, -, -⟩ := e1
  rw [Nat.zero_add] at hc
  rw [hc]
  simp
theorem LeftS.went2 (h : LeftS f R C O0 V n m O X v) {i : Nat} (hi : i < m) {s' : Ip.St} (hw : Went V O (X i).1 s' V') (hf : Ip.St.Well f R s') :
    ∃ x' O', x'.p = (X i).1.p ∧ LeftS f R C O0 V' n m O' (putX X i (x', s')) v ∧ (∀ b ∈ O', b ∈ O ∨ V.heap.size ≤ b) ∧ Turn (X i).1.own V V' ∧ (∀ b ∈ x'.own, b ∈ (X i).1.own ∨ V.heap.size ≤ b) ∧ ∀ b ∈ O, b ∈ O' := by
  obtain ⟨x1, e1, h1, h2, h3⟩ := hw
  obtain ⟨x', e, hp, hn, hT⟩ := h.pool.went hi ⟨x1, e1, h1, h2, h3⟩
  have hO : ∀ b ∈ x'.own ++ O, b ∈ O ∨ V.heap.size ≤ b := fun b hb => by
    rcases List.mem_append.1 hb with hb | hb
    · exact (hn b hb).imp ((h.pool.each i hi).sub b) id
    · exact .inl hb
  refine ⟨x', x'.own ++ O, e, ⟨hp, fun k hk => ?_, ?_, fun g hg => ⟨List.mem_append_right _ (h.mine g hg).1, fun k hk => ?_⟩, (hp.each i hi).lim, fun b hb hlt => ?_, h.turn.trans hT (fun b hb hlt => h.old b ((h.pool.each i hi).sub b hb) hlt), h.le⟩, hO, hT, hn, fun b hb => List.mem_append_right _ hb⟩
  · by_cases ek : k = i
    · rw [ek, putX_at]; exact hf
    · rw [putX_ne ek]; exact h.fine k hk
  · have el : ((List.range n).map fun k => (putX X i (x', s') k).1.p) = (List.range n).map fun k => (X k).1.p := List.map_congr_left fun k _ => by
      by_cases ek : k = i
      · rw [ek, putX_at]; exact e
      · rw [putX_ne ek]
    rw [el]
    exact h.row.turnP hT (fun g hg hx => (h.mine g hg).2 i hi hx)
  · by_cases ek : k = i
    · rw [ek, putX_at]
      intro hx
      rcases hn g hx with hx | hx
      · exact (h.mine g hg).2 i hi hx
      · have := h.lim g (h.mine g hg).1
        omega
    · rw [putX_ne ek]; exact (h.mine g hg).2 k hk
  · rcases hO b hb with hb | hb
    · exact h.old b hb hlt
    · have := h.turn.size
      omega
/-- a row of runs, one of which is looked at, its event in a box -/
structure InB (f : Ip.B → Option Ip.B) (R : Rn) (C : World) (O0 : List Nat) (V : World) (n q gb : Nat) (O : List Nat) (X : Nat → RP × Ip.St) (v : Value) (pq : Nat) (cs : Array Value) : Prop where
  left : LeftS f R C O0 V n n O X v
  lt : q < n
  at_ : (X q).1.p = pq
  mem : gb ∈ O
  out : ∀ i, i < n → gb ∉ (X i).1.own
  ne : v.ownBlock ≠ some gb
  late : C.heap.size ≤ gb
  box : Rw V gb cs 33
variable {q gb pq : Nat} {cs : Array Value}
theorem InB.of (h : LeftS f R C O0 V n n O X v) (hq : q < n) (hp : (X q).1.p = pq) (cs : Array Value) : InB f R C O0 (V.alloc (.cells cs 33)) n q V.heap.size (V.heap.size :: O) X v pq cs := by
  have hT : Turn [] V (V.alloc (.cells cs 33)) := Turn.of_below ((Below.refl _ V).alloc (Nat.le_refl _) _)
  have hlim : ∀ b ∈ V.heap.size :: O, b < (V.alloc (.cells cs 33)).heap.size := fun b hb => by
    rw [size_alloc]
    rcases List.mem_cons.1 hb with rfl | hb
    · omega
    · have := h.lim b hb; omega
  have hold : ∀ b ∈ V.heap.size :: O, b < V.heap.size → b ∈ O := fun b hb hx => by
    rcases List.mem_cons.1 hb with rfl | hb
    · omega
    · exact hb
  have hCV := h.turn.size
  refine ⟨⟨h.pool.turn hT (by simp) hold (fun b hb => List.mem_cons_of_mem _ hb) hlim, h.fine, h.row.alloc _, fun g hg => ⟨List.mem_cons_of_mem _ (h.mine g hg).1, (h.mine g hg).2⟩, hlim, fun b hb hx => h.old b (hold b hb (by omega)) hx, h.turn.trans hT (by simp), h.le⟩, hq, hp, List.mem_cons_self .., fun i hi hx => ?_, fun hg => ?_, hCV, Rw.new _ _ _⟩
  · have := (h.pool.each i hi).lt _ hx; omega
  · have := h.lim _ (h.mine _ hg).1; omega
theorem InB.below (h : InB f R C O0 V n q gb O X v pq cs) (hb : Below V.heap.size V V') : InB f R C O0 V' n q gb O X v pq cs :=
  ⟨h.left.below hb, h.lt, h.at_, h.mem, h.out, h.ne, h.late, h.box.below hb h.box.lt⟩
theorem InB.went (h : InB f R C O0 V n q gb O X v pq cs) {s' : Ip.St} (hw : Went V O (X q).1 s' V') (hf : Ip.St.Well f R s') : ∃ O' X', InB f R C O0 V' n q gb O' X' v pq cs ∧ (X' q).2 = s' := by
  obtain ⟨x', O', g1, g2, g3, g4, g5, g6⟩ := h.left.went2 h.lt hw hf
  have hbl := h.box.lt
  refine ⟨O', _, ⟨g2, h.lt, by rw [putX_at]; exact g1.trans h.at_, g6 _ h.mem, fun i hi => ?_, h.ne, h.late, h.box.turn g4 (h.out q h.lt)⟩, by rw [putX_at]⟩
  by_cases ei : i = q
  · rw [ei, putX_at]
    intro hx
    rcases g5 _ hx with hx | hx
    · exact h.out q h.lt hx
    · omega
  · rw [putX_ne ei]
    exact h.out i hi
theorem InB.poke (h : InB f R C O0 V n q gb O X v pq cs) (hT : Turn [gb] V V') {cs' : Array Value} (hr : Rw V' gb cs' 33) : InB f R C O0 V' n q gb O X v pq cs' := by
  have hx : ∀ b ∈ [gb], b = gb := fun b hb => List.mem_singleton.1 hb
  refine ⟨⟨h.left.pool.turn hT (fun b hb _ => by rw [hx b hb]; exact ⟨h.mem, h.out⟩) (fun b hb _ => hb) (fun b hb => hb) (fun b hb => Nat.lt_of_lt_of_le (h.left.lim b hb) hT.size), h.left.fine, h.left.row.turnP hT (fun g hg hb => by rw [hx g hb] at hg; exact h.ne hg), h.left.mine, fun b hb => Nat.lt_of_lt_of_le (h.left.lim b hb) hT.size, h.left.old, h.left.turn.trans hT (fun b hb hlt => by rw [hx b hb] at hlt; have := h.late; omega), h.left.le⟩, h.lt, h.at_, h.mem, h.out, h.ne, h.late, hr⟩
/-- what a call of tell leaves -/
theorem InB.told (h : InB f R C O0 V n q gb O X v pq cs) {s' : Ip.St} (k1 : RunS V' O (X q).1 s') (k2 : Turn [(X q).1.p, (X q).1.mt] V V') (hf : Ip.St.Well f R s') : ∃ O' X', InB f R C O0 V' n q gb O' X' v pq cs ∧ (X' q).2 = s' :=
  h.went (Went.same (w := V) (O := O) k1 (k2.mono (S' := (X q).1.own) (fun b hb _ => by
    simp only [List.mem_cons, List.not_mem_nil, or_false] at hb
    rcases hb with rfl | rfl
    · exact RP.p_own _
    · exact RP.mt_own _))) hf
end
end Go.Proofs.YtnobmgkdieaclaaGreatDoor
