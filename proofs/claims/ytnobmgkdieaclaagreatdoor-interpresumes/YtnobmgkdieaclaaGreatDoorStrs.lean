/-
  ROWS OF TEXTS: read, of the call's own, one more, whatever more.
-/
import Derived.Test.YtnobmgkdieaclaaGreatDoorRec
import Derived.Laws.AppendOwnNone
import Derived.RangeFuncNested
import Derived.RangeFuncBound
import Derived.RangeFuncCalls
import Derived.RangeFuncLeaves
import Derived.Shelf.Abstract
import Derived.Shelf.RegionOpen
import Derived.OwnWalkIn
import Derived.TacticsInMore
import Derived.LoopNIn
import Derived.LoopIn
import Derived.Test.YtnobmgkdieaclaaGreatDoorAcLaid
import Derived.RangeFuncFrom
import Derived.RangeFuncBox
import Derived.Test.YtnobmgkdieaclaaGreatDoorSRep
import Derived.Test.YtnobmgkdieaclaaGreatDoorStR
namespace Go.Proofs.YtnobmgkdieaclaaGreatDoor
open Go.RowKit

theorem info9s : (Tryz.prog.info? 9).map (fun i => (i.zero, i.size, i.bytes)) = some (some (.string .empty), 1, 16) := by kernel_rfl
/-- v is a slice whose elements, in w, are the texts l; they lie below block B -/
def Strs (w : World) (B : Nat) (v : Value) (l : List ByteArray) : Prop :=
  ∃ ad c, v = .slice ad l.length c ∧ l.length ≤ c ∧ (ad = none → c = 0) ∧ (l ≠ [] → ∃ b o, ad = some ⟨b, o, none⟩ ∧ b < B ∧ ∀ j, j < l.length → w.cell? ⟨b, o + j, none⟩ = some (.string (l.getD j .empty)))
theorem Strs.below {w w' : World} {B B' : Nat} {v : Value} {l : List ByteArray} (h : Strs w B v l) (hb : Below B' w w') (hB : B ≤ B') : Strs w' B v l := by
  obtain ⟨ad, c, hv, hle, hn, h⟩ := h
  refine ⟨ad, c, hv, hle, hn, fun hne => ?_⟩
  obtain ⟨b, o, ha, hlt, hc⟩ := h hne
  exact ⟨b, o, ha, hlt, fun j hj => (hb.cell (p := ⟨b, o + j, none⟩) (Nat.lt_of_lt_of_le hlt hB)).trans (hc j hj)⟩
theorem Strs.mono {w : World} {B B' : Nat} {v : Value} {l : List ByteArray} (h : Strs w B v l) (hB : B ≤ B') : Strs w B' v l := by
  obtain ⟨ad, c, hv, hle, hn, h⟩ := h
  refine ⟨ad, c, hv, hle, hn, fun hne => ?_⟩
  obtain ⟨b, o, ha, hlt, hc⟩ := h hne
  exact ⟨b, o, ha, Nat.lt_of_lt_of_le hlt hB, hc⟩
theorem Strs.nil (w : World) (B : Nat) : Strs w B (.slice none 0 0) [] := ⟨none, 0, rfl, Nat.le_refl _, fun _ => rfl, fun h => absurd rfl h⟩

/-- texts as cells -/
def sV (l : List ByteArray) : List Value := l.map Value.string
theorem sV_one (l : List ByteArray) : ∀ u ∈ sV l, u.oneCell' = true := by
  intro u hu
  simp only [sV, List.mem_map] at hu
  obtain ⟨x, _, rfl⟩ := hu
  rfl
/-- w's row v, among the blocks from base on, holds just the texts l -/
def OwnS (w : World) (base : Nat) (v : Value) (l : List ByteArray) : Prop := w.ownsRow base 9 1 v l.length (sV l)
theorem OwnS.alloc {w : World} {base : Nat} {v : Value} {l : List ByteArray} (h : OwnS w base v l) (o : Obj) : OwnS (w.alloc o) base v l := World.ownsRow.alloc h o
theorem OwnS.nil (w : World) (base : Nat) : OwnS w base (.slice none 0 0) [] := World.ownsRow_nil w base 9 1
theorem OwnS.below {w w' : World} {base B : Nat} {v : Value} {l : List ByteArray} (h : OwnS w base v l) (hb : Below B w w') (hB : w.heap.size ≤ B) : OwnS w' base v l :=
  World.ownsRow.kept h (row := none) ⟨hb.os, hb.tape, hb.output, hb.size, fun k hk _ => hb.block k (by omega)⟩ (by cases hv : v.ownBlock <;> simp)
theorem OwnS.low {w : World} {B B' : Nat} {v : Value} {l : List ByteArray} (h : OwnS w B v l) (hB : B' ≤ B) : OwnS w B' v l := by
  refine ⟨h.1, ?_⟩
  rcases h.2 with h' | ⟨g, cap, cur, hv, hb, rest⟩
  · exact .inl h'
  · exact .inr ⟨g, cap, cur, hv, Nat.le_trans hB hb, rest⟩
/-- a row of the call's own, read -/
theorem OwnS.strs {w : World} {base : Nat} {v : Value} {l : List ByteArray} (h : OwnS w base v l) : Strs w w.heap.size v l := by
  have hlt := World.ownsRow.lt h
  have hcs := fun g hg => World.ownsRow.cells (g := g) h hg
  rcases h.2 with ⟨rfl, h0⟩ | ⟨g, cap, cur, rfl, _, _, hle, _⟩
  · refine ⟨none, 0, by rw [h0], by omega, fun _ => rfl, fun hne => ?_⟩
    exact absurd (List.eq_nil_of_length_eq_zero h0) hne
  · refine ⟨_, _, rfl, hle, (fun h => by cases h), fun _ => ⟨g, 0, rfl, (hlt g rfl).2, fun j hj => ?_⟩⟩
    have := hcs g rfl j (.string (l.getD j .empty)) (by simp [sV, List.getD, List.getElem?_eq_getElem hj])
    rwa [addr_add] at this
theorem strs_news {w : World} {b o : Nat} {l : List ByteArray} (h : ∀ j, j < l.length → w.cell? ⟨b, o + j, none⟩ = some (.string (l.getD j .empty))) :
    ∀ j u, (sV l)[j]? = some u → w.cell? ((⟨b, o, none⟩ : Addr).add j) = some u := by
  intro j u hu
  have hj : j < l.length := by
    rcases Nat.lt_or_ge j l.length with h | h
    · exact h
    · rw [List.getElem?_eq_none (by simpa [sV] using h)] at hu; cases hu
  rw [addr_add, h j hj]
  simp only [sV, List.getElem?_map, List.getElem?_eq_getElem hj, Option.map_some, Option.some.injEq] at hu
  rw [← hu]
  simp [List.getD, List.getElem?_eq_getElem hj]
/-- 'append(out, l...)' on a row of the call's own, l whatever texts -/
theorem wpList_append_strs {ops : Array Oper} {rest : List Oper} {o : Oper} {a : Act} {Q : Exit → Act → World → Prop} {w : World} (hgd : o.guard = none) (s x : Operand)
    (ho : o.op = .call { callee := .builtin .append, args := #[s, x], argTypes := #[23, 23] }) (base B : Nat) (v vx : Value) (l m : List ByteArray)
    (hs : a.eval s = v) (hown : OwnS w base v l) (hx : a.eval x = vx) (hb : Strs w B vx m) (hlen : Hid (l.length + m.length ≤ 1099511627)) (hbase : base ≤ w.heap.size)
    (h : ∀ v' w', OwnS w' base v' (l ++ m) → w.grownBy w' v.ownBlock → wpList Tryz.prog ops Q rest (a.put o.dst v') w') :
    wpList Tryz.prog ops Q (o :: rest) a w := by
  obtain ⟨i0, hi, hz0, hz1, hz2⟩ := info_parts info9s
  have hl := hlen.out
  obtain ⟨ad, c, rfl, hle, hn, hcells⟩ := hb
  cases ad with
  | none =>
    have hc0 := hn rfl
    subst hc0
    have hm : m = [] := List.eq_nil_of_length_eq_zero (by omega)
    subst hm
    refine wpList_append_own_none hgd s x 23 ho base 9 i0 1 Tryz.underlying23 hi v l.length (sV l) hs hown hx ?_
    refine h v w ?_ ⟨rfl, rfl, rfl, Nat.le_refl _, fun _ _ _ => rfl⟩
    rw [List.append_nil]; exact hown
  | some ad =>
    refine wpList_append_own _ hgd s x 23 ho base 9 i0 _ 1 16 Tryz.underlying23 hi hz0 hz1 hz2 rfl (by decide) v l.length (sV l) hs hown ad m.length c (sV m) hx (by simp [sV]) ?_ (sV_one m) ?_ ?_ hbase ?_
    · by_cases hne : m = []
      · subst hne; intro j u hu; simp [sV] at hu
      · obtain ⟨b, o', e, _, hcell⟩ := hcells hne
        simp only [Option.some.injEq] at e
        subst e
        exact strs_news hcell
    · unfold maxLen; omega
    · omega
    · intro v' w' h1 h2 _
      refine h v' w' ?_ h2
      unfold OwnS sV; rw [List.map_append, List.length_append]; exact h1
/-- a literal of one text -/
theorem strs_lit (w : World) (t : ByteArray) : Strs (w.alloc (.cells #[.string t] 9)) (w.heap.size + 1) (.slice (some ⟨w.heap.size, 0, none⟩) 1 1) [t] := by
  refine ⟨_, 1, rfl, Nat.le_refl _, (fun h => by cases h), fun _ => ⟨w.heap.size, 0, rfl, by omega, fun j hj => ?_⟩⟩
  obtain rfl : j = 0 := by simp at hj; omega
  have := heap_alloc_new w (.cells #[.string t] 9)
  simp only [World.cell?, this]
  rfl

end Go.Proofs.YtnobmgkdieaclaaGreatDoor

namespace Go.Proofs.YtnobmgkdieaclaaGreatDoor
open Go.RowKit Go.Shelf

/-- the blocks of D stay -/
def KeepD (D : List Nat) (W W' : World) : Prop := ∀ b ∈ D, W'.heap[b]? = W.heap[b]?

theorem KeepD.trans {D : List Nat} {A B C : World} (h : KeepD D A B) (k : KeepD D B C) : KeepD D A C := fun b hb => (k b hb).trans (h b hb)
theorem KeepD.put {D : List Nat} {n : Nat} (hD : ∀ b ∈ D, b < n) (W : World) (l : Nat) (o o' : Obj) (hl : W.heap[l]? = some o) (hn : n ≤ l) : KeepD D W (W.putObj l o') := fun b hb => by
  have h1 := (Array.getElem?_eq_some_iff.1 hl).1
  have h2 := hD b hb
  exact (grownBy_putObj' W l o').block b (by omega) (fun e => by cases e; omega)
theorem KeepD.set {D : List Nat} (W : World) (p : Addr) (v : Value) (hp : p.block ∉ D) : KeepD D W (W.setCell p v) := fun b hb => Below.heap_setCell W p v b (fun e => hp (by rw [← e]; exact hb))
theorem KeepD.below {D : List Nat} {n : Nat} {W W' : World} (hD : ∀ b ∈ D, b < n) (h : Below n W W') : KeepD D W W' := fun b hb => h.block b (hD b hb)

/-- the closure gf, with what it has taken along, goes over the texts L, one behind the other: whatever is done meanwhile to other blocks than D's -/
def SeqOf (w : World) (gf : Nat) (lb : Array Value) (L : List ByteArray) (D : List Nat) : Prop :=
  ∀ W0 : World, w.heap.size ≤ W0.heap.size → KeepD D w W0 → ∀ n, 1 ≤ n →
    SeqStopsK Fence.wide n Tryz.prog gf lb (fun x : ByteArray => #[.string x]) (KeepD D) (fun xs => xs = L) (fun pre => pre <+: L) L.length W0

end Go.Proofs.YtnobmgkdieaclaaGreatDoor

namespace Go.Proofs.YtnobmgkdieaclaaGreatDoor
open Go.RowKit Go.Shelf

theorem boxed_below {W W' : World} {B b : Nat} {t : TypeId} {v : Value} (h : Boxed W b t v) (hb : Below B W W') (hB : b < B) : Boxed W' b t v := (hb.block b hB).trans h
theorem boxed_turn {W W' : World} {S : List Nat} {b : Nat} {t : TypeId} {v : Value} (h : Boxed W b t v) (hT : Turn S W W') (hb : b ∉ S) : Boxed W' b t v := (hT.block b h.lt hb).trans h

namespace Rc
variable {α : Type} {R : Rc α}

theorem appendIn {F : Fence} {n : Nat} {ops : Array Oper} {rest : List Oper} {o : Oper} {a : Act} {Q : Exit → Act → World → Prop} {w : World} (R : Rc α) (hgd : o.guard = none) (s x : Operand)
    (ho : o.op = .call { callee := .builtin .append, args := #[s, x], argTypes := #[R.st, R.st] }) (base B : Nat) (v vx : Value) (l m : List α)
    (hs : a.eval s = v) (hown : R.Own w base v l) (hx : a.eval x = vx) (hb : R.Sl w B vx m) (hm : m ≠ []) (hlen : Hid (l.length + m.length ≤ 1099511627)) (hbase : base ≤ w.heap.size)
    (h : ∀ v' w', R.Own w' base v' (l ++ m) → w.grownBy w' v.ownBlock → wpListIn F n Tryz.prog ops Q rest (a.put o.dst v') w') :
    wpListIn F n Tryz.prog ops Q (o :: rest) a w := by
  obtain ⟨i0, hi, hz0, hz1, hz2⟩ := info_parts R.info
  have hl := hlen.out
  obtain ⟨ad, c, rfl, hle, hn, hcells⟩ := hb
  obtain ⟨b, o', rfl, _, hcell⟩ := hcells hm
  refine wpListIn_append_own _ hgd s x R.st ho base R.e i0 _ R.k R.bytes R.under hi hz0 hz1 hz2 R.zk R.pos v l.length (R.vals l) hs hown ⟨b, o', none⟩ m.length c (R.vals m) hx (R.vals_length m) ?_ (R.vals_one m) ?_ ?_ hbase ?_
  · intro j u hu
    rw [addr_at]
    exact hcell j u hu
  · unfold maxLen; omega
  · have h1 : (l.length + m.length) * R.bytes ≤ 1099511627 * 1024 := Nat.mul_le_mul hl R.small
    omega
  · intro v' w' h1 h2 _
    refine h v' w' ?_ h2
    unfold Own; rw [R.vals_append, List.length_append]; exact h1

/-- 'out = append(out, x)', out in a box: what lies behind it -/
theorem boxAppended {W w1 : World} {n0 ob : Nat} {t : TypeId} {v v' : Value} {l m : List α} {tmp : Obj} (hv : Boxed W ob t v) (hte : t ≠ R.e) (hrow : R.Own W n0 v l) (hown : R.Own w1 n0 v' m) (hg : (W.alloc tmp).grownBy w1 v.ownBlock) :
    Boxed w1 ob t v ∧ Boxed (w1.setCell ⟨ob, 0, none⟩ v') ob t v' ∧ R.Own (w1.setCell ⟨ob, 0, none⟩ v') n0 v' m ∧ KeepsOthers W (w1.setCell ⟨ob, 0, none⟩ v') := by
  obtain ⟨h1, h2, h3, h4, -⟩ := Boxed.appended (n₀ := 0) hv hte (Own.low hrow (Nat.zero_le _)) (Nat.zero_le _) (Nat.zero_le _) (Own.low hown (Nat.zero_le _)) hg
  refine ⟨h1, h2, ?_, h4⟩
  exact Row.turn hown ((Turn.refl [ob] w1).set (fun _ => by simp) v') (fun k e hm => by
    simp only [List.mem_singleton] at hm
    subst hm
    exact Boxed.not_row h1 hte hown e.symm)
end Rc
end Go.Proofs.YtnobmgkdieaclaaGreatDoor

namespace Go.Proofs.YtnobmgkdieaclaaGreatDoor
open Go.RowKit Go.Shelf
attribute [local go_sem] Oper.semAt_some

theorem StR.at {w : World} {B : Nat} {v : Value} {l : List ByteArray} (h : StR.Sl w B v l) (j : Nat) (hj : j < l.length) : ∃ b o c, v = .slice (some ⟨b, o, none⟩) l.length c ∧ b < B ∧ w.cell? ⟨b, o + j, none⟩ = some (.string (l.getD j .empty)) := by
  obtain ⟨b, o, c, e, hb, hc⟩ := h.cells j hj
  refine ⟨b, o, c, e, hb, ?_⟩
  have := hc 0 (.string l[j]) (by decide) rfl
  rw [show o + (j * StR.k + 0) = o + j by show o + (j * 1 + 0) = o + j; omega] at this
  rw [this]
  simp [List.getD, hj]
set_option maxRecDepth 100000 in
set_option maxHeartbeats 2000000 in
theorem values1 (w : World) (Bp : Nat) (v : Value) (L : List ByteArray) (hlen : L.length ≤ 100000000) (hbox : w.heap[Bp]? = some (.cells #[v] 138 (0, 0))) (hO : StR.Own w 0 v L) :
    SeqOf w 149 #[.pointer (some ⟨Bp, 0, none⟩)] L (Bp :: v.ownBlock.toList) := fun W0 hz0 hD n hn l J Jx W hW hJ hJx hY h0 => by
  refine callsIn_of_wp Tryz.func149 rfl trivial ?_ rfl
  simp only [Tryz.ntmps149, List.size_toArray, List.length_cons, List.length_nil, Nat.reduceAdd, Nat.reduceSub, Array.replicate_succ, Array.replicate_zero, List.push_toArray, List.append_toArray, List.nil_append, List.cons_append]
  have hBp : Bp < w.heap.size := (Array.getElem?_eq_some_iff.1 hbox).1
  have hlt := hO.lt
  have hKW : KeepD (Bp :: v.ownBlock.toList) w W := hD.trans (KeepD.below (fun b hb => by
    simp only [List.mem_cons, Option.mem_toList] at hb
    rcases hb with rfl | h
    · omega
    · have := (hlt b h).2; omega) hW)
  have hb1 : W.heap[Bp]? = some (.cells #[v] 138 (0, 0)) := (hKW Bp (by simp)).trans hbox
  have hc := (cell_of_row W Bp 0 _ 138 (0, 0) hb1).trans rfl
  have hsl := hO.sl
  have HR : Hid (L ≠ [] → ∃ b o, v.ownBlock = some b ∧ (∃ c, v = .slice (some ⟨b, o, none⟩) L.length c) ∧ ∀ j, j < L.length → W.cell? ⟨b, o + j, none⟩ = some (.string (L.getD j .empty))) := fun hne => by
    have h0 : 0 < L.length := List.length_pos_iff.2 hne
    obtain ⟨b, o, c, e, -, -⟩ := StR.at hsl 0 h0
    subst e
    refine ⟨b, o, rfl, ⟨c, rfl⟩, fun j hj => ?_⟩
    obtain ⟨b', o', c', e, hb', p⟩ := StR.at hsl j hj
    simp only [Value.slice.injEq, Option.some.injEq, Addr.mk.injEq] at e
    obtain ⟨⟨rfl, rfl, -⟩, -, -⟩ := e
    exact (World.cell?_of_block (a := ⟨b, o + j, none⟩) (hKW b (by simp [Value.ownBlock]))).trans p
  obtain ⟨ad, c, rfl, hle⟩ := hsl.shape
  have HY : Hid _ := hY
  clear hY hO hb1 hbox hlt
  gi_wp2
  gi_loopw [4, 7] (fun x i wr => ∃ k : Nat, k ≤ L.length ∧ i = .int .i64 (k : Int) ∧ J (L.take k) wr ∧ KeepD (Bp :: (Value.slice ad L.length c).ownBlock.toList) W wr) (fun _ i _ => L.length - (intOf i).toNat)
  case atStart => exact ⟨0, Nat.zero_le _, rfl, h0, fun _ _ => rfl⟩
  case round =>
    obtain ⟨k, hk, rfl, hJk, hKk⟩ := hrel
    by_cases hlt : k < L.length
    · obtain ⟨b, o, hob, ⟨c', e⟩, hcs⟩ := HR.out (by rintro rfl; simp at hlt)
      simp only [Value.slice.injEq] at e
      obtain ⟨rfl, -, rfl⟩ := e
      have ck := (World.cell?_of_block (w := W) (w' := wr) (a := ⟨b, o + k, none⟩) (hKk b (by simp [Value.ownBlock]))).trans (hcs k hlt)
      have HCS : Hid _ := hcs
      have ht : L.take (k + 1) = L.take k ++ [L.getD k .empty] := by
        rw [List.take_succ_eq_append_getElem hlt, List.getD_eq_getElem?_getD, List.getElem?_eq_getElem hlt]; rfl
      generalize L.getD k .empty = x at *
      clear hcs
      have i1 : (k : Int) < (L.length : Int) := by omega
      obtain ⟨fn, tmps, assign, body, hy, hR⟩ := HY.out (L.take k) x wr hJk (by rw [List.length_take]; omega)
      gi_wp2
      refine hR.mono ?_
      rw [← ht]
      rintro e W3 (⟨rfl, hJ3, hk3⟩ | ⟨rfl, hJx3⟩)
      · gi_wp2
        go_roundw
        case rel => exact ⟨k + 1, by omega, by go_num, hJ3, hKk.trans hk3⟩
        case measure => simp [intOf]; omega
      · gi_wp2
        refine bodyPost_ret (results_none rfl _ _ _) rfl ?_
        exact ⟨⟨_, rfl⟩, .inr ⟨L.take (k + 1), List.take_prefix _ _, hJx3⟩⟩
    · obtain rfl : k = L.length := by omega
      have i1 : ¬ (L.length : Int) < (L.length : Int) := by omega
      gi_wp2
      go_end0
      exact ⟨⟨_, rfl⟩, .inl (by rw [List.take_length] at hJk; exact hJk)⟩

/-- a box with a row of its own, laid since W1; nothing else has turned -/
theorem own_boxrow (W1 : World) (ob : Nat) (t : TypeId) (hob : ob < W1.heap.size) : OwnFrom W1.heap.size (fun (pre : List ByteArray) W => (∃ v, Boxed W ob t v ∧ StR.Own W W1.heap.size v pre) ∧ Turn [ob] W1 W) := by
  intro s A B row ⟨⟨v, h1, h2⟩, h3⟩ hg hr
  refine ⟨⟨v, h1.kept hg (fun e => by have := (hr ob e.symm).1; omega), World.ownsRow.kept h2 hg ?_⟩, h3.grow hg (fun x e hx => by have := (hr x e).1; omega)⟩
  rcases h2.2 with ⟨rfl, -⟩ | ⟨g, cap, cur, rfl, -, hgb, -⟩
  · exact .inl rfl
  · right
    intro e
    obtain ⟨-, o, ho, hc⟩ := hr g e.symm
    rw [hgb] at ho
    cases ho
    cases hc


set_option maxRecDepth 100000 in
set_option maxHeartbeats 4000000 in
theorem AppendSeq_any (L : List ByteArray) (gf : Nat) (lb : Array Value) (D : List Nat) (w : World) (hll : L.length ≤ 1000000) (hent : ∀ args W, (callFunc gf args).run Tryz.prog W = .ok (.enter gf args) W) (hseq : SeqOf w gf lb L D) (hD : ∀ b ∈ D, b < w.heap.size) :
    Calls Tryz.prog 156 #[.slice none 0 0, .func (.func gf) #[] lb] w fun e w' => ∃ v, e = .returned v ∧ StR.Own w' w.heap.size v L ∧ Below w.heap.size w w' := by
  refine (callsIn_wide (n := 9)).1 ?_
  refine callsIn_of_wp_marks Tryz.func156 rfl trivial ?_ rfl
  simp only [Tryz.ntmps156, List.size_toArray, List.length_cons, List.length_nil, Nat.reduceAdd, Nat.reduceSub, Array.replicate_succ, Array.replicate_zero, List.push_toArray, List.append_toArray, List.nil_append, List.cons_append]
  obtain ⟨w1, hW1⟩ : ∃ w1, w.alloc (.cells #[.slice none 0 0] 23) = w1 := ⟨_, rfl⟩
  have hz1 : w1.heap.size = w.heap.size + 1 := by rw [← hW1]; simp
  have hB1 : Below w.heap.size w w1 := by rw [← hW1]; exact (Below.refl _ _).alloc (Nat.le_refl _) _
  have bC : Boxed w1 w.heap.size 23 (.slice none 0 0) := by rw [← hW1]; exact Boxed.new w 23 (.slice none 0 0)
  gi_wp2_with fail
  clear hW1
  refine wpIn_rangeFunc_ownF rfl (by decide) (gf := gf) (lb := lb) rfl trivial hent (hseq w1 hB1.size (KeepD.below hD hB1) 8 (by decide)) (fun h k => h.trans k) (fun W l o o' h0 h1 _ _ => KeepD.put hD W l o o' h1 (by omega)) (Below.refl _ _) (fun _ => rfl)
    (fun pre W => (∃ v, Boxed W w.heap.size 23 v ∧ StR.Own W w1.heap.size v pre) ∧ Turn [w.heap.size] w1 W)
    (fun _ _ _ => False)
    (own_boxrow w1 w.heap.size 23 (by omega))
    (fun _ _ _ _ _ h _ _ => h)
    ⟨⟨_, bC, Rc.Own.nil _ _⟩, Turn.refl _ _⟩
    ?_ ?_ ?_ ?_ ?_
  case refine_2 =>
    intro l x W K hK
    gi_wp2
    exact hK
  case refine_3 =>
    rintro l pre x W ⟨⟨v, hv, hO⟩, hT⟩ hlt
    have cV := hv.cell
    have fV := hv.frozen
    have hL4 := StR.lit W x #[.string x] rfl
    have hO4 := hO.alloc (.cells #[.string x] 9)
    have HLn : Hid (pre.length + [x].length ≤ 1099511627) := by show _ ≤ _; simp; omega
    obtain ⟨ad, n, c, rfl⟩ := hO.isSl
    have hTz := hT.size
    have HZ1 : Hid (w1.heap.size = w.heap.size + 1) := hz1
    clear hz1
    gi_wp2_with (gi_at_builtin; go_must (refine StR.appendIn rfl _ _ rfl w1.heap.size (W.heap.size + 1) _ _ pre [x] rfl hO4 rfl hL4 (by simp) HLn (by rw [World.size_alloc]; omega) ?_))
    intro v5 w5 hO5 hg5
    have hz1 := HZ1.out
    obtain ⟨hv1, hv2, hO6, hk6⟩ := Rc.boxAppended hv (by decide) hO hO5 hg5
    have hT6 : Turn [w.heap.size] w1 (w5.setCell ⟨w.heap.size, 0, none⟩ v5) := ((hT.alloc (.cells #[.string x] 9)).grow hg5 (fun k e hl => by have := (hO.lt k e).1; omega)).set (fun _ => by simp) _
    have hKD : KeepD D W (w5.setCell ⟨w.heap.size, 0, none⟩ v5) := fun b hb => by
      have hbl := hD b hb
      rw [Below.heap_setCell w5 ⟨w.heap.size, 0, none⟩ v5 b (by show b ≠ w.heap.size; omega)]
      rw [hg5.block b (by rw [World.size_alloc]; omega) (fun e => by have := (hO.lt b e.symm).1; omega)]
      exact Below.heap_alloc W _ b (by omega)
    have c5 := hv1.cell
    have f5 := hv1.frozen
    obtain ⟨a7, c7, hv5, -⟩ := hO5.sl.shape
    rw [List.length_append] at hv5
    subst hv5
    clear hO4 hL4 HLn hO hO5 hg5 cV fV hz1
    gi_wp2
    exact ⟨hk6, hKD, ⟨_, hv2, hO6⟩, hT6⟩
  case refine_4 =>
    rintro Dq xs W hDq hxs ⟨⟨v, hv, hO⟩, hT⟩ hK
    obtain rfl : L = xs := hxs.symm
    clear hxs
    have cV := hv.cell
    obtain ⟨ad, c, rfl, hle⟩ := hO.sl.shape
    gi_wp2
    have hBW : Below w.heap.size w W := hB1.trans ((hT.mono (S' := [w.heap.size]) (by simp)).below' (by omega) (by simp))
    refine ⟨by simp, .inl ⟨_, _, rfl, run_takeDeferred hK, ?_⟩⟩
    have hg := grownBy_putObj' W Dq (.deferred none)
    have hO4 : StR.Own (W.putObj Dq (.deferred none)) w1.heap.size (.slice ad L.length c) L := World.ownsRow.kept hO hg (by
      rcases hO.2 with ⟨e, -⟩ | ⟨g, cap, cur, e, -, hgb, -⟩
      · rw [e]; exact .inl rfl
      · right
        rw [e]
        intro e2
        simp only [Value.ownBlock, Option.some.injEq] at e2
        subst e2
        rw [hgb] at hK
        cases hK)
    exact ⟨_, results_tmp rfl _ _ _, _, rfl, hO4.low (by omega), hBW.trans (belowK_b (w := w) (Nat.le_refl _) W Dq _ _ (by omega) hK rfl rfl)⟩
  case refine_5 =>
    rintro _ _ _ _ _ _ hno _
    exact hno.elim

set_option maxRecDepth 100000 in
theorem Sorted_any (L : List ByteArray) (gf : Nat) (lb : Array Value) (D : List Nat) (w : World) (hll : L.length ≤ 1000000) (hent : ∀ args W, (callFunc gf args).run Tryz.prog W = .ok (.enter gf args) W) (hseq : SeqOf w gf lb L D) (hD : ∀ b ∈ D, b < w.heap.size) :
    Calls Tryz.prog 135 #[.func (.func gf) #[] lb] w fun e w' => ∃ v, e = .returned v ∧ StR.Own w' w.heap.size v (Ks.sortT L) ∧ Below w.heap.size w w' := by
  have hA := AppendSeq_any L gf lb D w hll hent hseq hD
  have hC : Calls Tryz.prog 147 #[.func (.func gf) #[] lb] w fun e w' => ∃ v, e = .returned v ∧ StR.Own w' w.heap.size v L ∧ Below w.heap.size w w' := by
    go_enter Tryz.func147, Tryz.ntmps147
    go_wp2_with (first | (go_at_call 156; refine hA.mono ?_; rintro e w1 ⟨v, rfl, h1, h2⟩) | fail)
    go_ret
    exact ⟨v, rfl, h1, h2⟩
  clear hA
  go_enter Tryz.func135, Tryz.ntmps135
  go_wp2_with (first | (go_at_call 147; refine hC.mono ?_; rintro e w1 ⟨v, rfl, h1, h2⟩) | (go_at_call 148; refine (Sort_any h1 (by omega)).mono ?_; rintro e w2 ⟨rfl, h3, h4⟩) | fail)
  go_ret
  exact ⟨v, rfl, h3, h2.grown h4 h2.size (fun k hk => (h1.lt k hk).1)⟩
set_option maxRecDepth 100000 in
theorem Values_any {w : World} {base : Nat} {v : Value} {L : List ByteArray} (hO : StR.Own w base v L) (hl : L.length ≤ 1000000) :
    Calls Tryz.prog 136 #[v] w fun e w' => ∃ gf lb D, e = .returned (.func (.func gf) #[] lb) ∧ (∀ args W, (callFunc gf args).run Tryz.prog W = .ok (.enter gf args) W) ∧ SeqOf w' gf lb L D ∧ (∀ b ∈ D, b < w'.heap.size) ∧ Below w.heap.size w w' := by
  have hlt := hO.lt
  have hbx := heap_alloc_new w (.cells #[v] 138)
  have hO1 : StR.Own (w.alloc (.cells #[v] 138)) 0 v L := (hO.alloc _).low (Nat.zero_le _)
  obtain ⟨ad, n, c, rfl⟩ := hO.isSl
  go_enter Tryz.func136, Tryz.ntmps136
  go_wp2
  go_ret
  refine ⟨_, _, _, rfl, enters_of Tryz.func149 (by kernel_rfl) rfl, values1 _ w.heap.size _ _ (by omega) hbx hO1, ?_, (Below.refl _ w).alloc (Nat.le_refl _) _⟩
  intro b hb
  simp only [List.mem_cons, Option.mem_toList] at hb
  rcases hb with rfl | hb
  · simp
  · have := hlt b hb
    simp; omega

end Go.Proofs.YtnobmgkdieaclaaGreatDoor
