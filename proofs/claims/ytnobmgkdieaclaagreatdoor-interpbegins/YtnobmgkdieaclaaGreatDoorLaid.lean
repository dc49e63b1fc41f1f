/-
  DERIVED: THE SHELF's CONTRACTS AT THIS DUMP, IN PLAIN WORDS (tools/lay-plain.mjs out of 'YtnobmgkdieaclaaGreatDoorLaid.lean', which tools/lay-shelf.mjs wrote): THE SAME DECLARATIONS UNDER THE SAME NAMES: 'import', 'namespace', 'open', 'def', 'theorem' AND NOTHING ELSE: no command of the shelf's: FOR A HAND-IN. Each laying: the table of numbers ('.._ren') and one theorem, a field a fact of the dump's own or the kernel's comparison; each contract: ONE APPLICATION.
-/
import Derived.Shelf.SortM.Plain
import Derived.Shelf.SortM.SortNone
import Derived.Shelf.SlMaps.Clone
import Derived.Shelf.SlicesG.CompactS
import Derived.Test.YtnobmgkdieaclaaGreatDoorProg
import Derived.Test.YtnobmgkdieaclaaGreatDoorIpSplit
import Derived.Sort.OwnSorted
import Derived.Lib.RowBridge
import Derived.Test.YtnobmgkdieaclaaGreatDoorASizeDeep
import Derived.RangeFuncNested
import Derived.RangeFuncBound
import Derived.RangeFuncCalls
import Derived.RangeFuncLeaves
import Derived.Shelf.Abstract
import Derived.Shelf.RegionOpen
import Derived.OwnWalkIn
import Derived.TacticsInMore
import Derived.LoopNIn
import Derived.LoopIn
import Derived.Test.YtnobmgkdieaclaaGreatDoorKit
import Derived.Test.YtnobmgkdieaclaaGreatDoorAcLaid
import Derived.RangeFuncFrom
import Derived.RangeFuncBox
namespace Go.Proofs
open Go.Shelf
def Tryz.sortA_ren : Go.Shelf.Ren := ⟨fun | 6 => 148 | 8 => 158 | 9 => 157 | 19 => 169 | 20 => 170 | 21 => 160 | 22 => 161 | 23 => 162 | 24 => 163 | 25 => 164 | 26 => 165 | 27 => 166 | 28 => 167 | 29 => 168 | 36 => 175 | 31 => 176 | 32 => 177 | 37 => 178 | 38 => 179 | 39 => 180 | 41 => 185 | n => n, fun | 27 => 23 | 29 => 9 | 3 => 3 | 32 => 142 | 26 => 23 | 0 => 0 | 44 => 149 | 46 => 168 | 4 => 4 | 36 => 189 | 35 => 188 | 41 => 194 | 5 => 5 | 9 => 9 | 53 => 202 | 57 => 104 | 63 => 210 | 64 => 211 | n => n, fun | n => n⟩
theorem Tryz.sortA : Go.Proofs.SlLaysM.n6 Tryz.prog Tryz.sortA_ren := {
  mixed := by kernel_rfl
  f6 := ⟨Tryz.f148.name, by decide, Tryz.func148.trans (congrArg some (by kernel_rfl))⟩
  f8 := Tryz.func158.trans (congrArg some (by kernel_rfl))
  f9 := ⟨Tryz.f157.name, by decide, Tryz.func157.trans (congrArg some (by kernel_rfl))⟩
  f19 := Tryz.func169.trans (congrArg some (by kernel_rfl))
  f20 := Tryz.func170.trans (congrArg some (by kernel_rfl))
  f21 := ⟨Tryz.f160.name, by decide, Tryz.func160.trans (congrArg some (by kernel_rfl))⟩
  f22 := ⟨Tryz.f161.name, by decide, Tryz.func161.trans (congrArg some (by kernel_rfl))⟩
  f23 := ⟨Tryz.f162.name, by decide, Tryz.func162.trans (congrArg some (by kernel_rfl))⟩
  f24 := ⟨Tryz.f163.name, by decide, Tryz.func163.trans (congrArg some (by kernel_rfl))⟩
  f25 := ⟨Tryz.f164.name, by decide, Tryz.func164.trans (congrArg some (by kernel_rfl))⟩
  f26 := ⟨Tryz.f165.name, by decide, Tryz.func165.trans (congrArg some (by kernel_rfl))⟩
  f27 := ⟨Tryz.f166.name, by decide, Tryz.func166.trans (congrArg some (by kernel_rfl))⟩
  f28 := ⟨Tryz.f167.name, by decide, Tryz.func167.trans (congrArg some (by kernel_rfl))⟩
  f29 := ⟨Tryz.f168.name, by decide, Tryz.func168.trans (congrArg some (by kernel_rfl))⟩
  f31 := Tryz.func176.trans (congrArg some (by kernel_rfl))
  f32 := Tryz.func177.trans (congrArg some (by kernel_rfl))
  f36 := ⟨Tryz.f175.name, by decide, Tryz.func175.trans (congrArg some (by kernel_rfl))⟩
  f37 := ⟨Tryz.f178.name, by decide, Tryz.func178.trans (congrArg some (by kernel_rfl))⟩
  f38 := ⟨Tryz.f179.name, by decide, Tryz.func179.trans (congrArg some (by kernel_rfl))⟩
  f39 := ⟨Tryz.f180.name, by decide, Tryz.func180.trans (congrArg some (by kernel_rfl))⟩
  f41 := ⟨Tryz.f185.name, by decide, Tryz.func185.trans (congrArg some (by kernel_rfl))⟩
  t0 := Tryz.underlying0
  a0 := Tryz.isAgg0
  z0 := Tryz.sizeOf0
  v0 := Tryz.zeroValue0
  t3 := Tryz.underlying3
  a3 := Tryz.isAgg3
  z3 := Tryz.sizeOf3
  v3 := Tryz.zeroValue3
  t4 := Tryz.underlying4
  a4 := Tryz.isAgg4
  z4 := Tryz.sizeOf4
  v4 := Tryz.zeroValue4
  t5 := Tryz.underlying5
  a5 := Tryz.isAgg5
  z5 := Tryz.sizeOf5
  v5 := Tryz.zeroValue5
  t9 := Tryz.underlying9
  a9 := Tryz.isAgg9
  z9 := Tryz.sizeOf9
  v9 := Tryz.zeroValue9
  t26 := Tryz.underlying23
  a26 := Tryz.isAgg23
  z26 := Tryz.sizeOf23
  v26 := Tryz.zeroValue23
  t27 := Tryz.underlying23
  a27 := Tryz.isAgg23
  z27 := Tryz.sizeOf23
  v27 := Tryz.zeroValue23
  t29 := Tryz.underlying9
  a29 := Tryz.isAgg9
  z29 := Tryz.sizeOf9
  v29 := Tryz.zeroValue9
  t32 := Tryz.underlying142
  a32 := Tryz.isAgg142
  z32 := Tryz.sizeOf142
  v32 := Tryz.zeroValue142
  t35 := Tryz.underlying188
  a35 := Tryz.isAgg188
  z35 := Tryz.sizeOf188
  v35 := Tryz.zeroValue188
  t36 := Tryz.underlying189
  a36 := Tryz.isAgg189
  z36 := Tryz.sizeOf189
  v36 := Tryz.zeroValue189
  t41 := Tryz.underlying194
  a41 := Tryz.isAgg194
  z41 := Tryz.sizeOf194
  v41 := Tryz.zeroValue194
  t44 := Tryz.underlying149
  a44 := Tryz.isAgg149
  z44 := Tryz.sizeOf149
  v44 := Tryz.zeroValue149
  t46 := Tryz.underlying168
  a46 := Tryz.isAgg168
  z46 := Tryz.sizeOf168
  v46 := Tryz.zeroValue168
  t53 := Tryz.underlying202
  a53 := Tryz.isAgg202
  z53 := Tryz.sizeOf202
  v53 := Tryz.zeroValue202
  t57 := Tryz.underlying104
  a57 := Tryz.isAgg104
  z57 := Tryz.sizeOf104
  v57 := Tryz.zeroValue104
  t63 := Tryz.underlying210
  a63 := Tryz.isAgg210
  z63 := Tryz.sizeOf210
  v63 := Tryz.zeroValue210
  t64 := Tryz.underlying211
  a64 := Tryz.isAgg211
  z64 := Tryz.sizeOf211
  v64 := Tryz.zeroValue211 }
def Tryz.compA_ren : Go.Shelf.Ren := ⟨fun | 44 => 137 | n => n, fun | 25 => 138 | 26 => 9 | 3 => 3 | 4 => 4 | 0 => 0 | n => n, fun | n => n⟩
theorem Tryz.compA : Go.Proofs.SlLaysN.n44 Tryz.prog Tryz.compA_ren := {
  mixed := by kernel_rfl
  f44 := ⟨Tryz.f137.name, by decide, Tryz.func137.trans (congrArg some (by kernel_rfl))⟩
  t0 := Tryz.underlying0
  a0 := Tryz.isAgg0
  z0 := Tryz.sizeOf0
  v0 := Tryz.zeroValue0
  t3 := Tryz.underlying3
  a3 := Tryz.isAgg3
  z3 := Tryz.sizeOf3
  v3 := Tryz.zeroValue3
  t4 := Tryz.underlying4
  a4 := Tryz.isAgg4
  z4 := Tryz.sizeOf4
  v4 := Tryz.zeroValue4
  t25 := Tryz.underlying138
  a25 := Tryz.isAgg138
  z25 := Tryz.sizeOf138
  v25 := Tryz.zeroValue138
  t26 := Tryz.underlying9
  a26 := Tryz.isAgg9
  z26 := Tryz.sizeOf9
  v26 := Tryz.zeroValue9
  i26 := by kernel_rfl }
def Tryz.cloneA_ren : Go.Shelf.Ren := ⟨fun | 5 => 59 | 7 => 84 | n => n, fun | 23 => 60 | 25 => 9 | 3 => 89 | 4 => 4 | 20 => 20 | n => n, fun | n => n⟩
theorem Tryz.cloneA : Go.Proofs.SlLaysW.n5 Tryz.prog Tryz.cloneA_ren := {
  mixed := by kernel_rfl
  f5 := ⟨Tryz.f59.name, by decide, Tryz.func59.trans (congrArg some (by kernel_rfl))⟩
  f7 := Tryz.func84.trans (congrArg some (by kernel_rfl))
  t4 := Tryz.underlying4
  a4 := Tryz.isAgg4
  z4 := Tryz.sizeOf4
  v4 := Tryz.zeroValue4
  t20 := Tryz.underlying20
  a20 := Tryz.isAgg20
  z20 := Tryz.sizeOf20
  v20 := Tryz.zeroValue20
  t23 := Tryz.underlying60
  a23 := Tryz.isAgg60
  z23 := Tryz.sizeOf60
  v23 := Tryz.zeroValue60 }
end Go.Proofs

namespace Go.Proofs.YtnobmgkdieaclaaGreatDoor
open Go.RowKit Go.Sort

theorem vals_enc (L : List ByteArray) : StR.vals L = (L.map bs).map encStr := by
  induction L with
  | nil => rfl
  | cons x r ih =>
    show Value.string x :: StR.vals r = _
    rw [ih]
    simp only [List.map_cons, encStr, bs, Array.toArray_toList]
theorem vals_ba (l : List (List UInt8)) : StR.vals (l.map Ks.ba) = l.map encStr := by
  rw [vals_enc, List.map_map, List.map_map]
  exact List.map_congr_left fun x _ => congrArg encStr (Ks.bs_ba x)
theorem sortT_nil : Ks.sortT [] = [] := by simp [Ks.sortT]
theorem compT_nil : Ks.compT [] = [] := by simp [Ks.compT, Lib.compact, Lib.compactUpTo]
/-- a row's head -/
theorem row_head {w : World} {base g cap n m : Nat} {e : TypeId} {xs : List Value} (h : w.ownsRow base e 1 (.slice (some ⟨g, 0, none⟩) n cap) n xs) (hm : m ≤ n) : w.ownsRow base e 1 (.slice (some ⟨g, 0, none⟩) m cap) m (xs.take m) := by
  obtain ⟨h1, h⟩ := h
  rw [Nat.mul_one] at h1
  rcases h with ⟨h, -⟩ | ⟨g', cap', cur, e1, h2, h3, h4, h5, h6, h7⟩
  · cases h
  · simp only [Value.slice.injEq, Option.some.injEq, Addr.mk.injEq] at e1
    obtain ⟨⟨rfl, -, -⟩, -, rfl⟩ := e1
    refine ⟨by simp; omega, .inr ⟨g, cap, cur, rfl, h2, h3, by omega, h5, h6, ?_⟩⟩
    rw [Nat.mul_one] at h7 ⊢
    rw [← h7, List.take_take, Nat.min_eq_left hm]

theorem Sort_any {w : World} {base : Nat} {v : Value} {L : List ByteArray} (h : StR.Own w base v L) (hl : L.length ≤ 1099511627) :
    Calls Tryz.prog 148 #[v] w fun e w' => e = .returned (.tuple #[]) ∧ StR.Own w' base v (Ks.sortT L) ∧ w.grownBy w' v.ownBlock := by
  rcases h.2 with ⟨rfl, h0⟩ | ⟨g, cap, cur, rfl, hbase, hb, h1, h2, h3, h4⟩
  · have hL : L = [] := List.eq_nil_of_length_eq_zero h0
    subst hL
    refine (AnyM.slices_Sort_string_none Tryz.sortA none 0 w).mono ?_
    rintro e w' ⟨rfl, rfl⟩
    exact ⟨rfl, by rw [sortT_nil]; exact h, ⟨rfl, rfl, rfl, Nat.le_refl _, fun _ _ _ => rfl⟩⟩
  · have hh : Holds encStr w g 0 (L.map bs).toArray := holds_of_block hb (by
      rw [List.length_map, ← vals_enc]
      have := h4
      rwa [show StR.k = 1 from rfl, Nat.mul_one] at this)
    have hc := AnyM.slices_Sort_string Tryz.sortA g 0 cap (L.map bs) w hh (Array.getElem?_eq_some_iff.1 hb).1 (by rw [List.length_map]; omega)
    rw [List.length_map] at hc
    refine hc.mono ?_
    rintro e w' ⟨rfl, n, os, rfl⟩
    refine ⟨rfl, ?_, grownBy_sorted _⟩
    have hs := ownsRow_sorted (base := base) (n := n) (os := os) (ss := L.map bs) (ts := (L.map bs).mergeSort fun x y => decide (x ≤ y)) (by simp) hbase hb (by rw [List.length_map]; exact h1) h2 h3
    rw [List.length_map] at hs
    unfold Rc.Own
    rw [Ks.sortT_length]
    unfold Ks.sortT
    rw [vals_ba]
    exact hs

theorem Compact_any {w : World} {base : Nat} {v : Value} {L : List ByteArray} (h : StR.Own w base v L) (hl : L.length ≤ 1099511627) :
    Calls Tryz.prog 137 #[v] w fun e w' => ∃ v', e = .returned v' ∧ StR.Own w' base v' (Ks.compT L) ∧ v'.ownBlock = v.ownBlock ∧ w.grownBy w' v.ownBlock := by
  rcases h.2 with ⟨rfl, h0⟩ | ⟨g, cap, cur, rfl, hbase, hb, h1, h2, h3, h4⟩
  · have hL : L = [] := List.eq_nil_of_length_eq_zero h0
    subst hL
    refine (AnyG.slices_Compact_string_empty Tryz.compA none 0 w).mono ?_
    rintro e w' ⟨rfl, rfl⟩
    exact ⟨_, rfl, by rw [compT_nil]; exact h, rfl, ⟨rfl, rfl, rfl, Nat.le_refl _, fun _ _ _ => rfl⟩⟩
  · have hh : Holds encStr w g 0 (L.map bs).toArray := holds_of_block hb (by
      rw [List.length_map, ← vals_enc]
      have := h4
      rwa [show StR.k = 1 from rfl, Nat.mul_one] at this)
    have hc := AnyG.slices_Compact_string Tryz.compA g 0 cap (L.map bs) w hh (by rw [List.length_map]; omega) (by rw [List.length_map]; exact h1)
    rw [List.length_map] at hc
    refine hc.mono ?_
    rintro e w' ⟨rfl, q, rfl⟩
    have hle := Lib.compact_length_le (L.map bs)
    rw [List.length_map] at hle
    refine ⟨_, rfl, ?_, rfl, ?_⟩
    · have hs := ownsRow_sorted (base := base) (n := q) (os := #[]) (ss := L.map bs) (ts := Lib.compact (L.map bs) ++ List.replicate (L.length - (Lib.compact (L.map bs)).length) []) (by simp; omega) hbase hb (by rw [List.length_map]; exact h1) h2 h3
      rw [List.length_map, grow_empty] at hs
      have hd := row_head hs hle
      rw [← List.map_take, List.take_left] at hd
      unfold Rc.Own Ks.compT
      rw [vals_ba, List.length_map]
      exact hd
    · have := grownBy_sorted (w := w) (g := g) (n := q) (os := #[]) (Lib.compact (L.map bs) ++ List.replicate (L.length - (Lib.compact (L.map bs)).length) []).toArray
      rwa [grow_empty] at this

end Go.Proofs.YtnobmgkdieaclaaGreatDoor

namespace Go.Proofs.YtnobmgkdieaclaaGreatDoor
open Go.RowKit Go.Shelf

/-- the blocks of D stay -/
def KeepD (D : List Nat) (W W' : World) : Prop := ∀ b ∈ D, W'.heap[b]? = W.heap[b]?

theorem KeepD.trans {D : List Nat} {A B C : World} (h : KeepD D A B) (k : KeepD D B C) : KeepD D A C := fun b hb => (k b hb).trans (h b hb)
theorem KeepD.put {D : List Nat} {n : Nat} (hD : ∀ b ∈ D, b < n) (W : World) (l : Nat) (o o' : Obj) (hl : W.heap[l]? = some o) (hn : n ≤ l) : KeepD D W (W.putObj l o') := fun b hb => by
  have h1 := (Array.getElem?_eq_some_iff.1 hl).1
  have h2 := hD b hb
  exact (grownBy_putObj' W l o').block b (by omega) (fun e => by cases e; omega)
theorem KeepD.set {D : List Nat} (W : World) (p : Addr) (v : Value) (hp : p.block ∉ D) : KeepD D W (W.setCell p v) := fun b hb => Below.heap_setCell W p v b (fun e => hp (by rw [← e]; exact hb))
theorem KeepD.below {D : List Nat} {n : Nat} {W W' : World} (hD : ∀ b ∈ D, b < n) (h : Below n W W') : KeepD D W W' := fun b hb => h.block b (hD b hb)

/-- the closure gf, with what it has taken along, goes over the texts L, one behind the other: whatever is done meanwhile to other blocks than D's -/
def SeqOf (w : World) (gf : Nat) (lb : Array Value) (L : List ByteArray) (D : List Nat) : Prop :=
  ∀ W0 : World, w.heap.size ≤ W0.heap.size → KeepD D w W0 → ∀ n, 1 ≤ n →
    SeqStopsK Fence.wide n Tryz.prog gf lb (fun x : ByteArray => #[.string x]) (KeepD D) (fun xs => xs = L) (fun pre => pre <+: L) L.length W0

end Go.Proofs.YtnobmgkdieaclaaGreatDoor

namespace Go.Proofs.YtnobmgkdieaclaaGreatDoor
open Go.RowKit Go.Shelf

theorem boxed_below {W W' : World} {B b : Nat} {t : TypeId} {v : Value} (h : Boxed W b t v) (hb : Below B W W') (hB : b < B) : Boxed W' b t v := (hb.block b hB).trans h
theorem boxed_turn {W W' : World} {S : List Nat} {b : Nat} {t : TypeId} {v : Value} (h : Boxed W b t v) (hT : Turn S W W') (hb : b ∉ S) : Boxed W' b t v := (hT.block b h.lt hb).trans h

namespace Rc
variable {α : Type} {R : Rc α}

theorem appendIn {F : Fence} {n : Nat} {ops : Array Oper} {rest : List Oper} {o : Oper} {a : Act} {Q : Exit → Act → World → Prop} {w : World} (R : Rc α) (hgd : o.guard = none) (s x : Operand)
    (ho : o.op = .call { callee := .builtin .append, args := #[s, x], argTypes := #[R.st, R.st] }) (base B : Nat) (v vx : Value) (l m : List α)
    (hs : a.eval s = v) (hown : R.Own w base v l) (hx : a.eval x = vx) (hb : R.Sl w B vx m) (hm : m ≠ []) (hlen : Hid (l.length + m.length ≤ 1099511627)) (hbase : base ≤ w.heap.size)
    (h : ∀ v' w', R.Own w' base v' (l ++ m) → w.grownBy w' v.ownBlock → wpListIn F n Tryz.prog ops Q rest (a.put o.dst v') w') :
    wpListIn F n Tryz.prog ops Q (o :: rest) a w := by
  obtain ⟨i0, hi, hz0, hz1, hz2⟩ := info_parts R.info
  have hl := hlen.out
  obtain ⟨ad, c, rfl, hle, hn, hcells⟩ := hb
  obtain ⟨b, o', rfl, _, hcell⟩ := hcells hm
  refine wpListIn_append_own _ hgd s x R.st ho base R.e i0 _ R.k R.bytes R.under hi hz0 hz1 hz2 R.zk R.pos v l.length (R.vals l) hs hown ⟨b, o', none⟩ m.length c (R.vals m) hx (R.vals_length m) ?_ (R.vals_one m) ?_ ?_ hbase ?_
  · intro j u hu
    rw [addr_at]
    exact hcell j u hu
  · unfold maxLen; omega
  · have h1 : (l.length + m.length) * R.bytes ≤ 1099511627 * 1024 := Nat.mul_le_mul hl R.small
    omega
  · intro v' w' h1 h2 _
    refine h v' w' ?_ h2
    unfold Own; rw [R.vals_append, List.length_append]; exact h1

/-- 'out = append(out, x)', out in a box: what lies behind it -/
theorem boxAppended {W w1 : World} {n0 ob : Nat} {t : TypeId} {v v' : Value} {l m : List α} {tmp : Obj} (hv : Boxed W ob t v) (hte : t ≠ R.e) (hrow : R.Own W n0 v l) (hown : R.Own w1 n0 v' m) (hg : (W.alloc tmp).grownBy w1 v.ownBlock) :
    Boxed w1 ob t v ∧ Boxed (w1.setCell ⟨ob, 0, none⟩ v') ob t v' ∧ R.Own (w1.setCell ⟨ob, 0, none⟩ v') n0 v' m ∧ KeepsOthers W (w1.setCell ⟨ob, 0, none⟩ v') := by
  obtain ⟨h1, h2, h3, h4, -⟩ := Boxed.appended (n₀ := 0) hv hte (Own.low hrow (Nat.zero_le _)) (Nat.zero_le _) (Nat.zero_le _) (Own.low hown (Nat.zero_le _)) hg
  refine ⟨h1, h2, ?_, h4⟩
  exact Row.turn hown ((Turn.refl [ob] w1).set (fun _ => by simp) v') (fun k e hm => by
    simp only [List.mem_singleton] at hm
    subst hm
    exact Boxed.not_row h1 hte hown e.symm)
end Rc
end Go.Proofs.YtnobmgkdieaclaaGreatDoor

namespace Go.Proofs.YtnobmgkdieaclaaGreatDoor
open Go.RowKit Go.Shelf
attribute [local go_sem] Oper.semAt_some

theorem StR.at {w : World} {B : Nat} {v : Value} {l : List ByteArray} (h : StR.Sl w B v l) (j : Nat) (hj : j < l.length) : ∃ b o c, v = .slice (some ⟨b, o, none⟩) l.length c ∧ b < B ∧ w.cell? ⟨b, o + j, none⟩ = some (.string (l.getD j .empty)) := by
  obtain ⟨b, o, c, e, hb, hc⟩ := h.cells j hj
  refine ⟨b, o, c, e, hb, ?_⟩
  have := hc 0 (.string l[j]) (by decide) rfl
  rw [show o + (j * StR.k + 0) = o + j by show o + (j * 1 + 0) = o + j; omega] at this
  rw [this]
  simp [List.getD, hj]
set_option maxRecDepth 100000 in
set_option maxHeartbeats 2000000 in
theorem values1 (w : World) (Bp : Nat) (v : Value) (L : List ByteArray) (hlen : L.length ≤ 100000000) (hbox : w.heap[Bp]? = some (.cells #[v] 138 (0, 0))) (hO : StR.Own w 0 v L) :
    SeqOf w 149 #[.pointer (some ⟨Bp, 0, none⟩)] L (Bp :: v.ownBlock.toList) := fun W0 hz0 hD n hn l J Jx W hW hJ hJx hY h0 => by
  refine callsIn_of_wp Tryz.func149 rfl trivial ?_ rfl
  simp only [Tryz.ntmps149, List.size_toArray, List.length_cons, List.length_nil, Nat.reduceAdd, Nat.reduceSub, Array.replicate_succ, Array.replicate_zero, List.push_toArray, List.append_toArray, List.nil_append, List.cons_append]
  have hBp : Bp < w.heap.size := (Array.getElem?_eq_some_iff.1 hbox).1
  have hlt := hO.lt
  have hKW : KeepD (Bp :: v.ownBlock.toList) w W := hD.trans (KeepD.below (fun b hb => by
    simp only [List.mem_cons, Option.mem_toList] at hb
    rcases hb with rfl | h
    · omega
    · have := (hlt b h).2; omega) hW)
  have hb1 : W.heap[Bp]? = some (.cells #[v] 138 (0, 0)) := (hKW Bp (by simp)).trans hbox
  have hc := (cell_of_row W Bp 0 _ 138 (0, 0) hb1).trans rfl
  have hsl := hO.sl
  have HR : Hid (L ≠ [] → ∃ b o, v.ownBlock = some b ∧ (∃ c, v = .slice (some ⟨b, o, none⟩) L.length c) ∧ ∀ j, j < L.length → W.cell? ⟨b, o + j, none⟩ = some (.string (L.getD j .empty))) := fun hne => by
    have h0 : 0 < L.length := List.length_pos_iff.2 hne
    obtain ⟨b, o, c, e, -, -⟩ := StR.at hsl 0 h0
    subst e
    refine ⟨b, o, rfl, ⟨c, rfl⟩, fun j hj => ?_⟩
    obtain ⟨b', o', c', e, hb', p⟩ := StR.at hsl j hj
    simp only [Value.slice.injEq, Option.some.injEq, Addr.mk.injEq] at e
    obtain ⟨⟨rfl, rfl, -⟩, -, -⟩ := e
    exact (World.cell?_of_block (a := ⟨b, o + j, none⟩) (hKW b (by simp [Value.ownBlock]))).trans p
  obtain ⟨ad, c, rfl, hle⟩ := hsl.shape
  have HY : Hid _ := hY
  clear hY hO hb1 hbox hlt
  gi_wp2
  gi_loopw [4, 7] (fun x i wr => ∃ k : Nat, k ≤ L.length ∧ i = .int .i64 (k : Int) ∧ J (L.take k) wr ∧ KeepD (Bp :: (Value.slice ad L.length c).ownBlock.toList) W wr) (fun _ i _ => L.length - (intOf i).toNat)
  case atStart => exact ⟨0, Nat.zero_le _, rfl, h0, fun _ _ => rfl⟩
  case round =>
    obtain ⟨k, hk, rfl, hJk, hKk⟩ := hrel
    by_cases hlt : k < L.length
    · obtain ⟨b, o, hob, ⟨c', e⟩, hcs⟩ := HR.out (by rintro rfl; simp at hlt)
      simp only [Value.slice.injEq] at e
      obtain ⟨rfl, -, rfl⟩ := e
      have ck := (World.cell?_of_block (w := W) (w' := wr) (a := ⟨b, o + k, none⟩) (hKk b (by simp [Value.ownBlock]))).trans (hcs k hlt)
      have HCS : Hid _ := hcs
      have ht : L.take (k + 1) = L.take k ++ [L.getD k .empty] := by
        rw [List.take_succ_eq_append_getElem hlt, List.getD_eq_getElem?_getD, List.getElem?_eq_getElem hlt]; rfl
      generalize L.getD k .empty = x at *
      clear hcs
      have i1 : (k : Int) < (L.length : Int) := by omega
      obtain ⟨fn, tmps, assign, body, hy, hR⟩ := HY.out (L.take k) x wr hJk (by rw [List.length_take]; omega)
      gi_wp2
      refine hR.mono ?_
      rw [← ht]
      rintro e W3 (⟨rfl, hJ3, hk3⟩ | ⟨rfl, hJx3⟩)
      · gi_wp2
        go_roundw
        case rel => exact ⟨k + 1, by omega, by go_num, hJ3, hKk.trans hk3⟩
        case measure => simp [intOf]; omega
      · gi_wp2
        refine bodyPost_ret (results_none rfl _ _ _) rfl ?_
        exact ⟨⟨_, rfl⟩, .inr ⟨L.take (k + 1), List.take_prefix _ _, hJx3⟩⟩
    · obtain rfl : k = L.length := by omega
      have i1 : ¬ (L.length : Int) < (L.length : Int) := by omega
      gi_wp2
      go_end0
      exact ⟨⟨_, rfl⟩, .inl (by rw [List.take_length] at hJk; exact hJk)⟩

/-- a box with a row of its own, laid since W1; nothing else has turned -/
theorem own_boxrow (W1 : World) (ob : Nat) (t : TypeId) (hob : ob < W1.heap.size) : OwnFrom W1.heap.size (fun (pre : List ByteArray) W => (∃ v, Boxed W ob t v ∧ StR.Own W W1.heap.size v pre) ∧ Turn [ob] W1 W) := by
  intro s A B row ⟨⟨v, h1, h2⟩, h3⟩ hg hr
  refine ⟨⟨v, h1.kept hg (fun e => by have := (hr ob e.symm).1; omega), World.ownsRow.kept h2 hg ?_⟩, h3.grow hg (fun x e hx => by have := (hr x e).1; omega)⟩
  rcases h2.2 with ⟨rfl, -⟩ | ⟨g, cap, cur, rfl, -, hgb, -⟩
  · exact .inl rfl
  · right
    intro e
    obtain ⟨-, o, ho, hc⟩ := hr g e.symm
    rw [hgb] at ho
    cases ho
    cases hc


set_option maxRecDepth 100000 in
set_option maxHeartbeats 4000000 in
theorem AppendSeq_any (L : List ByteArray) (gf : Nat) (lb : Array Value) (D : List Nat) (w : World) (hll : L.length ≤ 1000000) (hent : ∀ args W, (callFunc gf args).run Tryz.prog W = .ok (.enter gf args) W) (hseq : SeqOf w gf lb L D) (hD : ∀ b ∈ D, b < w.heap.size) :
    Calls Tryz.prog 156 #[.slice none 0 0, .func (.func gf) #[] lb] w fun e w' => ∃ v, e = .returned v ∧ StR.Own w' w.heap.size v L ∧ Below w.heap.size w w' := by
  refine (callsIn_wide (n := 9)).1 ?_
  refine callsIn_of_wp_marks Tryz.func156 rfl trivial ?_ rfl
  simp only [Tryz.ntmps156, List.size_toArray, List.length_cons, List.length_nil, Nat.reduceAdd, Nat.reduceSub, Array.replicate_succ, Array.replicate_zero, List.push_toArray, List.append_toArray, List.nil_append, List.cons_append]
  obtain ⟨w1, hW1⟩ : ∃ w1, w.alloc (.cells #[.slice none 0 0] 23) = w1 := ⟨_, rfl⟩
  have hz1 : w1.heap.size = w.heap.size + 1 := by rw [← hW1]; simp
  have hB1 : Below w.heap.size w w1 := by rw [← hW1]; exact (Below.refl _ _).alloc (Nat.le_refl _) _
  have bC : Boxed w1 w.heap.size 23 (.slice none 0 0) := by rw [← hW1]; exact Boxed.new w 23 (.slice none 0 0)
  gi_wp2_with fail
  clear hW1
  refine wpIn_rangeFunc_ownF rfl (by decide) (gf := gf) (lb := lb) rfl trivial hent (hseq w1 hB1.size (KeepD.below hD hB1) 8 (by decide)) (fun h k => h.trans k) (fun W l o o' h0 h1 _ _ => KeepD.put hD W l o o' h1 (by omega)) (Below.refl _ _) (fun _ => rfl)
    (fun pre W => (∃ v, Boxed W w.heap.size 23 v ∧ StR.Own W w1.heap.size v pre) ∧ Turn [w.heap.size] w1 W)
    (fun _ _ _ => False)
    (own_boxrow w1 w.heap.size 23 (by omega))
    (fun _ _ _ _ _ h _ _ => h)
    ⟨⟨_, bC, Rc.Own.nil _ _⟩, Turn.refl _ _⟩
    ?_ ?_ ?_ ?_ ?_
  case refine_2 =>
    intro l x W K hK
    gi_wp2
    exact hK
  case refine_3 =>
    rintro l pre x W ⟨⟨v, hv, hO⟩, hT⟩ hlt
    have cV := hv.cell
    have fV := hv.frozen
    have hL4 := StR.lit W x #[.string x] rfl
    have hO4 := hO.alloc (.cells #[.string x] 9)
    have HLn : Hid (pre.length + [x].length ≤ 1099511627) := by show _ ≤ _; simp; omega
    obtain ⟨ad, n, c, rfl⟩ := hO.isSl
    have hTz := hT.size
    have HZ1 : Hid (w1.heap.size = w.heap.size + 1) := hz1
    clear hz1
    gi_wp2_with (gi_at_builtin; go_must (refine StR.appendIn rfl _ _ rfl w1.heap.size (W.heap.size + 1) _ _ pre [x] rfl hO4 rfl hL4 (by simp) HLn (by rw [World.size_alloc]; omega) ?_))
    intro v5 w5 hO5 hg5
    have hz1 := HZ1.out
    obtain ⟨hv1, hv2, hO6, hk6⟩ := Rc.boxAppended hv (by decide) hO hO5 hg5
    have hT6 : Turn [w.heap.size] w1 (w5.setCell ⟨w.heap.size, 0, none⟩ v5) := ((hT.alloc (.cells #[.string x] 9)).grow hg5 (fun k e hl => by have := (hO.lt k e).1; omega)).set (fun _ => by simp) _
    have hKD : KeepD D W (w5.setCell ⟨w.heap.size, 0, none⟩ v5) := fun b hb => by
      have hbl := hD b hb
      rw [Below.heap_setCell w5 ⟨w.heap.size, 0, none⟩ v5 b (by show b ≠ w.heap.size; omega)]
      rw [hg5.block b (by rw [World.size_alloc]; omega) (fun e => by have := (hO.lt b e.symm).1; omega)]
      exact Below.heap_alloc W _ b (by omega)
    have c5 := hv1.cell
    have f5 := hv1.frozen
    obtain ⟨a7, c7, hv5, -⟩ := hO5.sl.shape
    rw [List.length_append] at hv5
    subst hv5
    clear hO4 hL4 HLn hO hO5 hg5 cV fV hz1
    gi_wp2
    exact ⟨hk6, hKD, ⟨_, hv2, hO6⟩, hT6⟩
  case refine_4 =>
    rintro Dq xs W hDq hxs ⟨⟨v, hv, hO⟩, hT⟩ hK
    obtain rfl : L = xs := hxs.symm
    clear hxs
    have cV := hv.cell
    obtain ⟨ad, c, rfl, hle⟩ := hO.sl.shape
    gi_wp2
    have hBW : Below w.heap.size w W := hB1.trans ((hT.mono (S' := [w.heap.size]) (by simp)).below' (by omega) (by simp))
    refine ⟨by simp, .inl ⟨_, _, rfl, run_takeDeferred hK, ?_⟩⟩
    have hg := grownBy_putObj' W Dq (.deferred none)
    have hO4 : StR.Own (W.putObj Dq (.deferred none)) w1.heap.size (.slice ad L.length c) L := World.ownsRow.kept hO hg (by
      rcases hO.2 with ⟨e, -⟩ | ⟨g, cap, cur, e, -, hgb, -⟩
      · rw [e]; exact .inl rfl
      · right
        rw [e]
        intro e2
        simp only [Value.ownBlock, Option.some.injEq] at e2
        subst e2
        rw [hgb] at hK
        cases hK)
    exact ⟨_, results_tmp rfl _ _ _, _, rfl, hO4.low (by omega), hBW.trans (belowK_b (w := w) (Nat.le_refl _) W Dq _ _ (by omega) hK rfl rfl)⟩
  case refine_5 =>
    rintro _ _ _ _ _ _ hno _
    exact hno.elim

set_option maxRecDepth 100000 in
theorem Sorted_any (L : List ByteArray) (gf : Nat) (lb : Array Value) (D : List Nat) (w : World) (hll : L.length ≤ 1000000) (hent : ∀ args W, (callFunc gf args).run Tryz.prog W = .ok (.enter gf args) W) (hseq : SeqOf w gf lb L D) (hD : ∀ b ∈ D, b < w.heap.size) :
    Calls Tryz.prog 135 #[.func (.func gf) #[] lb] w fun e w' => ∃ v, e = .returned v ∧ StR.Own w' w.heap.size v (Ks.sortT L) ∧ Below w.heap.size w w' := by
  have hA := AppendSeq_any L gf lb D w hll hent hseq hD
  have hC : Calls Tryz.prog 147 #[.func (.func gf) #[] lb] w fun e w' => ∃ v, e = .returned v ∧ StR.Own w' w.heap.size v L ∧ Below w.heap.size w w' := by
    go_enter Tryz.func147, Tryz.ntmps147
    go_wp2_with (first | (go_at_call 156; refine hA.mono ?_; rintro e w1 ⟨v, rfl, h1, h2⟩) | fail)
    go_ret
    exact ⟨v, rfl, h1, h2⟩
  clear hA
  go_enter Tryz.func135, Tryz.ntmps135
  go_wp2_with (first | (go_at_call 147; refine hC.mono ?_; rintro e w1 ⟨v, rfl, h1, h2⟩) | (go_at_call 148; refine (Sort_any h1 (by omega)).mono ?_; rintro e w2 ⟨rfl, h3, h4⟩) | fail)
  go_ret
  exact ⟨v, rfl, h3, h2.grown h4 h2.size (fun k hk => (h1.lt k hk).1)⟩
set_option maxRecDepth 100000 in
theorem Values_any {w : World} {base : Nat} {v : Value} {L : List ByteArray} (hO : StR.Own w base v L) (hl : L.length ≤ 1000000) :
    Calls Tryz.prog 136 #[v] w fun e w' => ∃ gf lb D, e = .returned (.func (.func gf) #[] lb) ∧ (∀ args W, (callFunc gf args).run Tryz.prog W = .ok (.enter gf args) W) ∧ SeqOf w' gf lb L D ∧ (∀ b ∈ D, b < w'.heap.size) ∧ Below w.heap.size w w' := by
  have hlt := hO.lt
  have hbx := heap_alloc_new w (.cells #[v] 138)
  have hO1 : StR.Own (w.alloc (.cells #[v] 138)) 0 v L := (hO.alloc _).low (Nat.zero_le _)
  obtain ⟨ad, n, c, rfl⟩ := hO.isSl
  go_enter Tryz.func136, Tryz.ntmps136
  go_wp2
  go_ret
  refine ⟨_, _, _, rfl, enters_of Tryz.func149 (by kernel_rfl) rfl, values1 _ w.heap.size _ _ (by omega) hbx hO1, ?_, (Below.refl _ w).alloc (Nat.le_refl _) _⟩
  intro b hb
  simp only [List.mem_cons, Option.mem_toList] at hb
  rcases hb with rfl | hb
  · simp
  · have := hlt b hb
    simp; omega

end Go.Proofs.YtnobmgkdieaclaaGreatDoor
