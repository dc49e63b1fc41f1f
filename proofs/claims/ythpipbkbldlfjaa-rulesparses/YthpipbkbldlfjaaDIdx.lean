/-
  WHAT THE PROGRAM's indented DOES: slices.IndexFunc of lines.
-/
import Derived.Test.YthpipbkbldlfjaaRName
import Derived.Shelf.Abstract
import Derived.Test.YthpipbkbldlfjaaDRead
import Derived.Test.YthpipbkbldlfjaaZLines
import Derived.Test.YthpipbkbldlfjaaZPlace
namespace Go.Proofs.Ythpipbkbldlfjaa
open Go.RowKit

/-- how many lines are indented, ahead of the first one that is not -/
def inds (l : List RawL) : Nat := l.findIdx fun x => !x.ind
theorem inds_le (l : List RawL) : inds l ≤ l.length := List.findIdx_le_length
theorem inds_cons (x : RawL) (l : List RawL) : inds (x :: l) = if x.ind = true then inds l + 1 else 0 := by
  unfold inds
  rw [List.findIdx_cons]
  cases x.ind <;> rfl
theorem inds_drop {l : List RawL} {k : Nat} (h : k < l.length) : inds (l.drop k) = if l[k].ind = true then inds (l.drop (k + 1)) + 1 else 0 := by
  rw [List.drop_eq_getElem_cons h, inds_cons]
/-- all those are indented; the next one is not -/
theorem inds_all : ∀ (l : List RawL), ∀ x ∈ l.take (inds l), x.ind = true
  | [], x, h => by simp at h
  | y :: l, x, h => by
    rw [inds_cons] at h
    cases hy : y.ind with
    | false => rw [hy] at h; simp at h
    | true =>
      rw [hy] at h
      simp only [if_true, List.take_succ_cons, List.mem_cons] at h
      rcases h with rfl | h
      · exact hy
      · exact inds_all l x h
theorem inds_next : ∀ (l : List RawL) (x : RawL), (l.drop (inds l)).head? = some x → x.ind = false
  | [], x, h => by simp at h
  | y :: l, x, h => by
    rw [inds_cons] at h
    cases hy : y.ind with
    | false =>
      rw [hy] at h
      simp at h
      rw [← h]; exact hy
    | true =>
      rw [hy] at h
      simp only [if_true, List.drop_succ_cons] at h
      exact inds_next l x h

set_option maxRecDepth 100000 in
theorem indented1_any (x : RawL) (w : World) : Calls Try.prog 57 #[.agg #[.int .i64 x.num, .bool x.ind, .slice x.ad x.n x.c]] w fun e w' => e = .returned (.bool (!x.ind)) ∧ Below w.heap.size w w' := by
  have hB : ∀ o, Below w.heap.size w (w.alloc o) := below_box w
  go_enter Try.func57, Try.ntmps57
  go_wp2
  go_ret
  exact ⟨rfl, hB _⟩
theorem LnR.at {w : World} {B : Nat} {v : Value} {l : List RawL} (h : LnR.Sl w B v l) (j : Nat) (hj : j < l.length) :
    ∃ b o c, v = .slice (some ⟨b, o, none⟩) l.length c ∧ b < B ∧ w.cell? ⟨b, o + j * 3, none⟩ = some (.int .i64 l[j].num) ∧ w.cell? ⟨b, o + j * 3 + 1, none⟩ = some (.bool l[j].ind) ∧ w.cell? ⟨b, o + j * 3 + 2, none⟩ = some (.slice l[j].ad l[j].n l[j].c) := by
  obtain ⟨b, o, c, rfl, hb, hc⟩ := h.cells j hj
  exact ⟨b, o, c, rfl, hb, hc 0 _ (by decide) rfl, hc 1 _ (by decide) rfl, hc 2 _ (by decide) rfl⟩

set_option maxRecDepth 100000 in
set_option maxHeartbeats 1000000 in
theorem IndexFunc_any (v : Value) (l : List RawL) (w : World) (B : Nat) (h : LnR.Sl w B v l) (hBw : B ≤ w.heap.size) (hl : l.length ≤ 1099511627) :
    Calls Try.prog 56 #[v, .func (.func 57) #[] #[]] w fun e w' => e = .returned (.int .i64 (if inds l < l.length then (inds l : Int) else -1)) ∧ Below w.heap.size w w' := by
  have eg : ∀ args w, (callFunc 57 args).run Try.prog w = .ok (.enter 57 args) w := enters_of Try.func57 (by kernel_rfl) rfl
  obtain ⟨ad, c, rfl, hle⟩ := h.shape
  have HM : Hid (inds l = 0 + inds (l.drop 0)) := by show _ = _; rw [Nat.zero_add]; rfl
  generalize hK : inds l = K at *
  clear hK
  have HZ1 : Hid (K < l.length → (if K < l.length then (K : Int) else -1) = (K : Int)) := fun h => if_pos h
  have HZ2 : Hid (¬ K < l.length → (if K < l.length then (K : Int) else -1) = -1) := fun h => if_neg h
  generalize (if K < l.length then (K : Int) else -1) = Z at *
  go_enter Try.func56, Try.ntmps56
  go_wp2
  go_loopw [8] (fun k wr => ∃ i : Nat, i ≤ l.length ∧ k = .int .i64 (i : Int) ∧ Hid (K = i + inds (l.drop i)) ∧ Below w.heap.size w wr) (fun k _ => l.length - (intOf k).toNat)
  case atStart => exact ⟨0, Nat.zero_le _, rfl, HM, Below.refl _ _⟩
  case round =>
    obtain ⟨i, hi, rfl, HA, hD⟩ := hrel
    by_cases hlt : i < l.length
    · have i1 : (i : Int) < (l.length : Int) := by omega
      obtain ⟨b2, o2, cc2, e, -, r0, r1, r2⟩ := LnR.at (h.below hD hBw) i hlt
      simp only [Value.slice.injEq] at e
      obtain ⟨rfl, -, rfl⟩ := e
      have HD : Hid _ := inds_drop hlt
      generalize l[i] = x at *
      have hc := indented1_any x wr
      cases hx : x.ind with
      | false =>
        rw [hx] at hc r1
        have HE : Hid (K = i) := by
          show _ = _
          rw [HA.out, HD.out, hx]
          simp
        clear hx HA HD
        go_wp2_with fail
        refine hc.mono ?_
        rintro e w2 ⟨rfl, hB2⟩
        go_wp2
        go_ret
        rw [HZ1.out (by rw [HE.out]; exact hlt), HE.out]
        exact ⟨rfl, hD.trans (hB2.mono hD.size)⟩
      | true =>
        rw [hx] at hc r1
        have HE : Hid (K = i + 1 + inds (l.drop (i + 1))) := by
          show _ = _
          rw [HA.out, HD.out, hx]
          simp
          omega
        clear hx HA HD
        go_wp2_with fail
        refine hc.mono ?_
        rintro e w2 ⟨rfl, hB2⟩
        go_wp2
        exact ⟨⟨i + 1, by omega, by go_num, HE, hD.trans (hB2.mono hD.size)⟩, by simp [intOf]; omega⟩
    · obtain rfl : i = l.length := by omega
      have i1 : ¬ (l.length : Int) < (l.length : Int) := by omega
      have HE : Hid (K = l.length) := by
        show _ = _
        rw [HA.out, List.drop_length]
        rfl
      go_wp2
      go_ret
      rw [HZ2.out (by rw [HE.out]; omega)]
      exact ⟨rfl, hD⟩

set_option maxRecDepth 100000 in
theorem indented_any (v : Value) (l : List RawL) (w : World) (B : Nat) (h : LnR.Sl w B v l) (hBw : B ≤ w.heap.size) (hl : l.length ≤ 1099511627) :
    Calls Try.prog 29 #[v] w fun e w' => e = .returned (.int .i64 (inds l : Int)) ∧ Below w.heap.size w w' := by
  have hc := IndexFunc_any v l w B h hBw hl
  have hle := inds_le l
  obtain ⟨ad, c, rfl, -⟩ := h.shape
  generalize inds l = K at *
  go_enter Try.func29, Try.ntmps29
  by_cases hlt : K < l.length
  · rw [if_pos hlt] at hc
    have i1 : ¬ (K : Int) < 0 := by omega
    clear hlt hle
    go_wp2_with fail
    refine hc.mono ?_
    rintro e w1 ⟨rfl, hB⟩
    go_wp2
    go_ret
    exact ⟨rfl, hB⟩
  · rw [if_neg hlt] at hc
    obtain rfl : K = l.length := by omega
    clear hlt hle
    go_wp2_with fail
    refine hc.mono ?_
    rintro e w1 ⟨rfl, hB⟩
    go_wp2
    go_ret
    exact ⟨rfl, hB⟩

end Go.Proofs.Ythpipbkbldlfjaa

namespace Go.Proofs.Ythpipbkbldlfjaa
open Go.RowKit

/-- an item whose targets and words lie in blocks from M on, the words of its code below M -/
structure ItOwn (w : World) (base M : Nat) (r : RawI) (x : Rl.It) : Prop where
  kind : r.kind = x.kind
  line : r.line = x.line
  name : r.name = x.name
  targets : WdR.Own w M r.targets x.targets
  words : WdR.Own w M r.words x.words
  code : ∃ ps : List (RawL × Lx.L), LnR.Own w M r.code (ps.map Prod.fst) ∧ x.code = ps.map Prod.snd ∧ ∀ p ∈ ps, LineOf w base p.1 p.2 ∧ ∀ g, p.1.words.ownBlock = some g → g < M
/-- an item's targets or words lie in this block -/
def InBlk (r : RawI) (g : Nat) : Prop := r.targets.ownBlock = some g ∨ r.words.ownBlock = some g
/-- the rows of one lie ahead of those of the other -/
def Rise (p q : RawI × Rl.It) : Prop := ∀ g g', InBlk p.1 g → InBlk q.1 g' → g < g'
/-- v is a row of items that are the call's own -/
def ItsOwn (w : World) (base M : Nat) (v : Value) (A : List Rl.It) : Prop :=
  ∃ ps : List (RawI × Rl.It), ItR.Own w M v (ps.map Prod.fst) ∧ A = ps.map Prod.snd ∧ (∀ p ∈ ps, ItOwn w base M p.1 p.2) ∧ ps.Pairwise Rise

theorem ItOwn.below {w w' : World} {base M B : Nat} {r : RawI} {x : Rl.It} (h : ItOwn w base M r x) (hb : Below B w w') (hB : w.heap.size ≤ B) : ItOwn w' base M r x := by
  obtain ⟨ps, h1, h2, h3⟩ := h.code
  exact ⟨h.kind, h.line, h.name, h.targets.below hb hB, h.words.below hb hB, ps, h1.below hb hB, h2, fun p hp => ⟨(h3 p hp).1.below hb hB, (h3 p hp).2⟩⟩
theorem LineOf.grownI {w w' : World} {base M : Nat} {r : RawL} {x : Lx.L} {v : Value} {rl : List RawI} (h : LineOf w base r x) (hv : ItR.Own w M v rl) (hg : w.grownBy w' v.ownBlock) : LineOf w' base r x :=
  ⟨h.1, h.2.1, World.ownsRow.kept h.2.2 hg (own_apart h.2.2 hv (by decide))⟩
theorem ItOwn.grown {w w' : World} {base M : Nat} {r : RawI} {x : Rl.It} {v : Value} {rl : List RawI} (h : ItOwn w base M r x) (hv : ItR.Own w M v rl) (hg : w.grownBy w' v.ownBlock) : ItOwn w' base M r x := by
  obtain ⟨ps, h1, h2, h3⟩ := h.code
  exact ⟨h.kind, h.line, h.name, World.ownsRow.kept h.targets hg (own_apart h.targets hv (by decide)), World.ownsRow.kept h.words hg (own_apart h.words hv (by decide)), ps, World.ownsRow.kept h1 hg (own_apart h1 hv (by decide)), h2, fun p hp => ⟨(h3 p hp).1.grownI hv hg, (h3 p hp).2⟩⟩
theorem Rc.Own.turn1 {α : Type} {R : Rc α} {w w' : World} {base s : Nat} {v : Value} {l : List α} (h : R.Own w base v l) (ht : Turn [s] w w') (hs : s < base) : R.Own w' base v l :=
  Row.turn h ht fun g hg => by
    have := (World.ownsRow.lt h g hg).1
    simp only [List.mem_singleton]
    omega
theorem ItOwn.turn1 {w w' : World} {base M s : Nat} {r : RawI} {x : Rl.It} (h : ItOwn w base M r x) (ht : Turn [s] w w') (hs : s < base) (hM : base ≤ M) : ItOwn w' base M r x := by
  obtain ⟨ps, h1, h2, h3⟩ := h.code
  exact ⟨h.kind, h.line, h.name, h.targets.turn1 ht (by omega), h.words.turn1 ht (by omega), ps, h1.turn1 ht (by omega), h2, fun p hp => ⟨⟨(h3 p hp).1.1, (h3 p hp).1.2.1, (h3 p hp).1.2.2.turn1 ht hs⟩, (h3 p hp).2⟩⟩
theorem ItOwn.of {w : World} {base M : Nat} {r : RawI} {x : Rl.It} (h : ItOwn w base M r x) : ItOf w w.heap.size r x := by
  obtain ⟨ps, h1, h2, h3⟩ := h.code
  exact ⟨h.kind, h.line, h.name, h.targets.sl, h.words.sl, ps, h1.sl, h2, fun p hp => ⟨(h3 p hp).1.1, (h3 p hp).1.2.1, (h3 p hp).1.2.2.sl⟩⟩
theorem ItsOwn.s {w : World} {base M : Nat} {v : Value} {A : List Rl.It} (h : ItsOwn w base M v A) : ItsS w w.heap.size v A := by
  obtain ⟨ps, h1, h2, h3, -⟩ := h
  exact ⟨ps, h1.sl, h2, fun p hp => (h3 p hp).of⟩
/-- an item that was read, its code laid down -/
theorem ItNew.own {w : World} {base M B : Nat} {r : RawI} {x : Rl.It} (h : ItNew w B r x) (hM : M ≤ B) {ca : Option Addr} {cn cc : Nat} {ps : List (RawL × Lx.L)} (h1 : LnR.Own w M (.slice ca cn cc) (ps.map Prod.fst)) (h3 : ∀ p ∈ ps, LineOf w base p.1 p.2 ∧ ∀ g, p.1.words.ownBlock = some g → g < M) :
    ItOwn w base M ⟨r.kind, r.line, r.name, r.ta, r.tn, r.tc, r.wa, r.wn, r.wc, ca, cn, cc⟩ { x with code := x.code ++ ps.map Prod.snd } := by
  refine ⟨h.kind, h.line, h.name, h.targets.low hM, h.words.low hM, ps, h1, ?_, h3⟩
  show x.code ++ _ = _
  rw [h.code.2.2.2, List.nil_append]
theorem ItNew.below {w w' : World} {B B' : Nat} {r : RawI} {x : Rl.It} (h : ItNew w B r x) (hb : Below B' w w') (hB : w.heap.size ≤ B') : ItNew w' B r x :=
  ⟨h.kind, h.line, h.name, h.targets.below hb hB, h.words.below hb hB, h.code⟩
theorem ItNew.blk {w : World} {B : Nat} {r : RawI} {x : Rl.It} (h : ItNew w B r x) {g : Nat} (hg : InBlk r g) : B ≤ g ∧ g < w.heap.size := by
  rcases hg with hg | hg
  · exact h.targets.lt g hg
  · exact h.words.lt g hg
theorem ItOwn.blk {w : World} {base M : Nat} {r : RawI} {x : Rl.It} (h : ItOwn w base M r x) {g : Nat} (hg : InBlk r g) : M ≤ g ∧ g < w.heap.size := by
  rcases hg with hg | hg
  · exact h.targets.lt g hg
  · exact h.words.lt g hg
/-- one item more -/
theorem ItsOwn.push {w w' : World} {base M : Nat} {v v' : Value} {ps : List (RawI × Rl.It)} {r : RawI} {x : Rl.It} (hO : ItR.Own w M v (ps.map Prod.fst)) (h3 : ∀ p ∈ ps, ItOwn w base M p.1 p.2) (hpw : ps.Pairwise Rise) (hx : ItOwn w base M r x) (hO' : ItR.Own w' M v' (ps.map Prod.fst ++ [r])) (hg : w.grownBy w' v.ownBlock) (hr : ∀ p ∈ ps, Rise p (r, x)) :
    ItR.Own w' M v' ((ps ++ [(r, x)]).map Prod.fst) ∧ (∀ p ∈ ps ++ [(r, x)], ItOwn w' base M p.1 p.2) ∧ (ps ++ [(r, x)]).Pairwise Rise := by
  refine ⟨by rw [List.map_append]; exact hO', fun p hp => ?_, List.pairwise_append.2 ⟨hpw, List.pairwise_singleton _ _, fun p hp q hq => by rw [List.mem_singleton.1 hq]; exact hr p hp⟩⟩
  rcases List.mem_append.1 hp with h | h
  · exact (h3 p h).grown hO hg
  · rw [List.mem_singleton] at h
    rw [h]; exact hx.grown hO hg

end Go.Proofs.Ythpipbkbldlfjaa

namespace Go.Proofs.Ythpipbkbldlfjaa
open Go.RowKit

set_option maxRecDepth 100000 in
set_option maxHeartbeats 1000000 in
theorem Place_wide (s : ByteArray) (m : Nat) (w : World) (hm : m ≤ s.size) (hs : s.size ≤ 140737488351232) : Calls Try.prog 26 #[.string s, .int .i64 (m : Int)] w fun e w' => e = .returned (.tuple #[.int .i64 ((Lx.place (bs s) m).1 : Int), .int .i64 ((Lx.place (bs s) m).2 : Int)]) ∧ w' = w := by
  have hpp : placeI (bs s) (m : Int) = Lx.place (bs s) m := by unfold placeI; rw [Int.toNat_natCast]
  rw [← hpp]
  clear hpp
  have hn : 0 ≤ (m : Int) := by omega
  have hn2 : (m : Int) ≤ (s.size : Int) := by omega
  have HPP : placeI (bs s) (m : Int) = Lx.place (bs s) m := by unfold placeI; rw [Int.toNat_natCast]
  have i2 : ¬ (m : Int) < 0 := by omega
  have i3 : ¬ (s.size : Int) < (m : Int) := by omega
  obtain ⟨ht, q1, q2, q3, q4, q5⟩ := place_last s (s.extract 0 m) m hm (by rw [bs_extract, List.drop_zero, Nat.sub_zero])
  have HT : Hid _ := ht
  have HP : Hid (placeI (bs s) (m : Int) = Lx.place (bs s) m) := HPP
  have Q1 : Hid _ := q1
  have Q5 : Hid _ := q5
  have hsz : ((s.extract 0 m)).size < 4611686018427387904 := by omega
  have qi : ((((s.extract 0 m)).size : Nat) : Int) = ((m : Nat) : Int) := by rw [ht]
  rw [HP.out]
  clear ht q1 q5
  obtain ⟨L, hL⟩ : ∃ L, Lib.lastIndexByte (s.extract 0 m) 10 = L := ⟨_, rfl⟩
  rw [hL] at q3 q4 Q5
  obtain ⟨C, hC⟩ : ∃ C, (bs (s.extract 0 m)).count 10 = C := ⟨_, rfl⟩
  rw [hC] at q2 Q1
  have hLI := LastIndexByte_any (s.extract 0 m) 10 hsz w
  have hCO := Count_one (s.extract 0 m) 10 w
  rw [hL] at hLI
  rw [hC] at hCO
  clear hL hC
  go_enter Try.func26, Try.ntmps26
  go_wp2_with fail
  refine hLI.mono ?_
  rintro e w1 ⟨rfl, rfl⟩
  go_wp2_with fail
  refine hCO.mono ?_
  rintro e w1 ⟨rfl, rfl⟩
  go_wp2
  go_ret2
  refine ⟨?_, rfl⟩
  rw [Q5.out, Q1.out, show ((C + 1 : Nat) : Int) = (C : Int) + 1 by omega]
  first | rfl | (rw [← show (-(L + 1) : Int) = ((0 : Nat) : Int) - (L + 1) by omega]; rfl)


set_option maxRecDepth 100000 in
theorem Lines_long (s : ByteArray) (w : World) (hs : 32768 < s.size) :
    Calls Try.prog 25 #[.string s] w fun e w' => e = .returned (.tuple #[.slice none 0 0, .agg #[.int .i64 3, .int .i64 32768]]) ∧ Below w.heap.size w w' := by
  have hmf : ∀ (fn : Fn) (first cap : Array Value) (w : World), (Instr.makeFunc fn first cap).run Try.prog w = .ok (.func fn first cap) w := fun _ _ _ _ => rfl
  have i0 : (32768 : Int) < (s.size : Int) := by omega
  go_enter_defers Try.func25, Try.ntmps25
  have hV : LV ((w.alloc (.cells #[.slice none 0 0] 31)).alloc (.cells #[.int .i64 0, .int .i64 0] 42)) w.heap.size (.slice none 0 0) := by
    have : LV (w.alloc (.cells #[.slice none 0 0] 31)) w.heap.size (.slice none 0 0) := heap_alloc_new w _
    exact this.turn ((Turn.refl [] _).alloc _) (by simp)
  have hS : SV ((w.alloc (.cells #[.slice none 0 0] 31)).alloc (.cells #[.int .i64 0, .int .i64 0] 42)) (w.heap.size + 1) 0 0 := by
    have := heap_alloc_new (w.alloc (.cells #[.slice none 0 0] 31)) (.cells #[.int .i64 0, .int .i64 0] 42)
    rw [show (w.alloc (.cells #[.slice none 0 0] 31)).heap.size = w.heap.size + 1 from Array.size_push ..] at this
    exact this
  have hT := ((Turn.refl [] w).alloc (.cells #[.slice none 0 0] 31)).alloc (.cells #[.int .i64 0, .int .i64 0] 42)
  go_wp2
  refine leaves_cons (f := 48) (args := #[.pointer (some ⟨w.heap.size, 0, none⟩), .pointer (some ⟨w.heap.size + 1, 0, none⟩)]) (by simp) (by simp [go_sem]) ?_
  refine (catch_thrown w.heap.size (w.heap.size + 1) _ _ _ _ _ _ [] hV hS (by omega)).mono ?_
  rintro e u' w2 ⟨rfl, rfl, hV2, hS2, hT5⟩
  refine ⟨_, results_lines rfl rfl hV2 hS2, rfl, ?_⟩
  exact (hT.trans hT5 (by simp only [List.mem_cons, List.not_mem_nil, or_false]; omega)).below (by simp)

end Go.Proofs.Ythpipbkbldlfjaa
