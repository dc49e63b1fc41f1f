/-
  WORDS AND CLOSED FACTS FOR THE WALKS OF LAYER 1 (wire).
-/
import Derived.Test.YtplfcpbjlhobeaaBytes
import Derived.Test.YtplfcpbjlhobeaaWMath
import Derived.Laws.AppendOwnNone
namespace Go.Proofs.Ytplfcpbjlhobeaa
open Go.RowKit

theorem info9 : (Try.prog.info? 9).map (fun i => (i.zero, i.size, i.bytes)) = some (some (.string .empty), 1, 16) := by kernel_rfl

theorem digit_more (m : Nat) (hm : m < 18446744073709551616) : bits .or .u64 (bits .and .u64 (m : Int) 127) 128 % 256 = ((m % 128 + 128 : Nat) : Int) := by
  have h1 : bits .and .u64 (m : Int) 127 = ((m % 128 : Nat) : Int) := by
    have := u64_and_nat m 127 hm (by decide)
    rw [nat_mask7] at this
    exact this
  have h2 : bits .or .u64 ((m % 128 : Nat) : Int) 128 = ((m % 128 + 128 : Nat) : Int) := by
    have := u64_or_nat (m % 128) 128 (by omega) (by decide)
    rw [Nat.or_comm, nat_join 7 128 (m % 128) (by decide) (by omega)] at this
    rw [Nat.add_comm]
    exact this
  rw [h1, h2]
  omega

/-- v is a slice whose elements, in w, are the texts l; they lie below block B -/
def Strs (w : World) (B : Nat) (v : Value) (l : List ByteArray) : Prop :=
  ∃ ad c, v = .slice ad l.length c ∧ l.length ≤ c ∧ (ad = none → c = 0) ∧ (l ≠ [] → ∃ b o, ad = some ⟨b, o, none⟩ ∧ b < B ∧ ∀ j, j < l.length → w.cell? ⟨b, o + j, none⟩ = some (.string (l.getD j .empty)))

theorem Strs.below {w w' : World} {B B' : Nat} {v : Value} {l : List ByteArray} (h : Strs w B v l) (hb : Below B' w w') (hB : B ≤ B') : Strs w' B v l := by
  obtain ⟨ad, c, hv, hle, hn, h⟩ := h
  refine ⟨ad, c, hv, hle, hn, fun hne => ?_⟩
  obtain ⟨b, o, ha, hlt, hc⟩ := h hne
  exact ⟨b, o, ha, hlt, fun j hj => (hb.cell (p := ⟨b, o + j, none⟩) (Nat.lt_of_lt_of_le hlt hB)).trans (hc j hj)⟩
theorem Strs.mono {w : World} {B B' : Nat} {v : Value} {l : List ByteArray} (h : Strs w B v l) (hB : B ≤ B') : Strs w B' v l := by
  obtain ⟨ad, c, hv, hle, hn, h⟩ := h
  refine ⟨ad, c, hv, hle, hn, fun hne => ?_⟩
  obtain ⟨b, o, ha, hlt, hc⟩ := h hne
  exact ⟨b, o, ha, Nat.lt_of_lt_of_le hlt hB, hc⟩
/-- the texts as lists of bytes -/
def toL (l : List ByteArray) : List (List UInt8) := l.map fun s => s.data.toList

theorem toL_length (l : List ByteArray) : (toL l).length = l.length := by simp [toL]
theorem toL_take_succ (l : List ByteArray) (k : Nat) (h : k < l.length) : toL (l.take (k + 1)) = toL (l.take k) ++ [(l.getD k .empty).data.toList] := by
  unfold toL
  rw [List.take_succ_eq_append_getElem h, List.map_append]
  simp only [List.map_cons, List.map_nil, List.getD, List.getElem?_eq_getElem h, Option.getD_some]
theorem putTs_take_le (l : List ByteArray) (k : Nat) : (Wm.putTs (toL (l.take k))).length ≤ (Wm.putTs (toL l)).length := by
  conv => rhs; rw [← List.take_append_drop k l]
  unfold toL
  rw [List.map_append]
  generalize (l.take k).map (fun s => s.data.toList) = a
  generalize (l.drop k).map (fun s => s.data.toList) = b
  induction a with
  | nil => simp [Wm.putTs]
  | cons x r ih => simp only [List.cons_append, Wm.putTs, List.length_append]; omega
theorem size_le_put (l : List ByteArray) (k : Nat) (h : k < l.length) : (l.getD k .empty).size ≤ (Wm.putTs (toL l)).length := by
  have h1 := putTs_take_le l (k + 1)
  rw [toL_take_succ l k h, Wm.putTs_snoc, List.length_append] at h1
  unfold Wm.putT at h1
  rw [List.length_append] at h1
  have : (l.getD k .empty).data.toList.length = (l.getD k .empty).size := by rw [Array.length_toList]; rfl
  omega
theorem length_le_put (l : List ByteArray) : l.length ≤ (Wm.putTs (toL l)).length := by
  induction l with
  | nil => simp
  | cons x r ih =>
    have h1 : toL (x :: r) = x.data.toList :: toL r := rfl
    rw [h1]
    simp only [Wm.putTs, Wm.putT, List.length_append, List.length_cons]
    have := (Wm.putU_length x.data.toList.length).1
    omega

end Go.Proofs.Ytplfcpbjlhobeaa

namespace Go.Proofs.Ytplfcpbjlhobeaa
open Go.RowKit

/-- block p is a cursor over the slice v at the place a -/
def HasCur (w : World) (p : Nat) (v : Value) (a : Nat) : Prop := w.heap[p]? = some (.cells #[v, .int .i64 (a : Int)] 99 (0, 0))

theorem HasCur.cell0 {w : World} {p : Nat} {v : Value} {a : Nat} (h : HasCur w p v a) : w.cell? ⟨p, 0, none⟩ = some v := by
  rw [cell_of_row w p 0 _ 99 (0, 0) h]; rfl
theorem HasCur.cell1 {w : World} {p : Nat} {v : Value} {a : Nat} (h : HasCur w p v a) : w.cell? ⟨p, 1, none⟩ = some (.int .i64 (a : Int)) := by
  rw [cell_of_row w p 1 _ 99 (0, 0) h]; rfl
theorem HasCur.free {w : World} {p : Nat} {v : Value} {a : Nat} (h : HasCur w p v a) (j : Nat) : w.frozen? ⟨p, j, none⟩ = false := frozen_of_row w p j _ 99 h
theorem HasCur.lt {w : World} {p : Nat} {v : Value} {a : Nat} (h : HasCur w p v a) : p < w.heap.size := (Array.getElem?_eq_some_iff.1 h).1
theorem HasCur.set {w : World} {p : Nat} {v : Value} {a : Nat} (h : HasCur w p v a) (a' : Nat) : HasCur (w.setCell ⟨p, 1, none⟩ (.int .i64 (a' : Int))) p v a' := by
  unfold HasCur
  rw [heap_setCell_same w p 1 _ 99 _ h]
  rfl
theorem HasCur.kept {w w' : World} {p : Nat} {v : Value} {a : Nat} {row : Option Nat} (h : HasCur w p v a) (hg : w.grownBy w' row) (hne : some p ≠ row) : HasCur w' p v a :=
  (hg.block p h.lt hne).trans h
theorem HasCur.below {w w' : World} {B p : Nat} {v : Value} {a : Nat} (h : HasCur w p v a) (hb : Below B w w') (hp : p < B) : HasCur w' p v a :=
  (hb.block p hp).trans h
theorem HasCur.drewN {w : World} {p : Nat} {v : Value} {a : Nat} (h : HasCur w p v a) (q : Nat) : HasCur (w.drewN q) p v a := by
  unfold HasCur at *
  simpa using h

theorem grownBy_refl (w : World) (row : Option Nat) : w.grownBy w row := ⟨rfl, rfl, rfl, Nat.le_refl _, fun _ _ _ => rfl⟩
theorem grownBy_trans {a b c : World} {row : Option Nat} (h : a.grownBy b row) (k : b.grownBy c row) : a.grownBy c row :=
  ⟨k.os.trans h.os, k.tape.trans h.tape, k.output.trans h.output, Nat.le_trans h.size k.size, fun i hi hne => (k.block i (Nat.lt_of_lt_of_le hi h.size) hne).trans (h.block i hi hne)⟩
theorem grownBy_set (w : World) (p j : Nat) (u : Value) : w.grownBy (w.setCell ⟨p, j, none⟩ u) (some p) :=
  ⟨rfl, rfl, rfl, by simp [World.setCell], fun k _ hk => Below.heap_setCell _ _ _ _ (fun e => hk (by simp [e]))⟩
theorem grownBy_drewN (w : World) (row : Option Nat) (q : Nat) : w.grownBy (w.drewN q) row :=
  ⟨rfl, rfl, rfl, Nat.le_refl _, fun _ _ _ => rfl⟩

theorem grow_alloc {w w1 : World} {row : Option Nat} (h : w.grownBy w1 row) (o : Obj) : w.grownBy (w1.alloc o) row := grownBy_trans h (World.grownBy_alloc w1 o row)
theorem grow_set {w w1 : World} {p : Nat} (h : w.grownBy w1 (some p)) (j : Nat) (u : Value) : w.grownBy (w1.setCell ⟨p, j, none⟩ u) (some p) := grownBy_trans h (grownBy_set _ _ _ _)
theorem grow_set_new {w w1 : World} {row : Option Nat} (h : w.grownBy w1 row) {q : Nat} (hq : w.heap.size ≤ q) (j : Nat) (u : Value) : w.grownBy (w1.setCell ⟨q, j, none⟩ u) row :=
  ⟨h.os, h.tape, h.output, by have := h.size; simp [World.setCell]; exact this, fun k hk hne => by rw [Below.heap_setCell _ _ _ _ (by show k ≠ q; omega)]; exact h.block k hk hne⟩
theorem grow_drewN {w w1 : World} {row : Option Nat} (h : w.grownBy w1 row) (q : Nat) : w.grownBy (w1.drewN q) row := grownBy_trans h (grownBy_drewN _ _ q)
theorem grow_drew {w w1 : World} {row : Option Nat} (h : w.grownBy w1 row) : w.grownBy w1.drew row := grow_drewN h 1
theorem grow_mono {w w1 w' : World} {row : Option Nat} (h : w.grownBy w1 row) (k : w1.grownBy w' none) : w.grownBy w' row :=
  ⟨k.os.trans h.os, k.tape.trans h.tape, k.output.trans h.output, Nat.le_trans h.size k.size, fun i hi hne => (k.block i (Nat.lt_of_lt_of_le hi h.size) (by simp)).trans (h.block i hi hne)⟩

/-- block q is a variable of one cell that holds x -/
def Box (w : World) (q : Nat) (x : Value) (t : TypeId) : Prop := w.heap[q]? = some (.cells #[x] t (0, 0))
theorem Box.cell {w : World} {q : Nat} {x : Value} {t : TypeId} (h : Box w q x t) : w.cell? ⟨q, 0, none⟩ = some x := by
  rw [cell_of_row w q 0 _ t (0, 0) h]; rfl
theorem Box.free {w : World} {q : Nat} {x : Value} {t : TypeId} (h : Box w q x t) : w.frozen? ⟨q, 0, none⟩ = false := frozen_of_row w q 0 _ t h
theorem Box.lt {w : World} {q : Nat} {x : Value} {t : TypeId} (h : Box w q x t) : q < w.heap.size := (Array.getElem?_eq_some_iff.1 h).1
theorem Box.kept {w w' : World} {q : Nat} {x : Value} {t : TypeId} {row : Option Nat} (h : Box w q x t) (hg : w.grownBy w' row) (hne : some q ≠ row) : Box w' q x t := (hg.block q h.lt hne).trans h
theorem Box.set {w : World} {q : Nat} {x : Value} {t : TypeId} (h : Box w q x t) (y : Value) : Box (w.setCell ⟨q, 0, none⟩ y) q y t := by
  unfold Box
  rw [heap_setCell_same w q 0 _ t _ h]
  rfl
theorem Box.set_other {w : World} {q r j : Nat} {x : Value} {t : TypeId} (h : Box w q x t) (hne : q ≠ r) (y : Value) : Box (w.setCell ⟨r, j, none⟩ y) q x t := by
  unfold Box
  rw [Below.heap_setCell _ _ _ _ hne]
  exact h
theorem Box.alloc {w : World} {q : Nat} {x : Value} {t : TypeId} (h : Box w q x t) (o : Obj) : Box (w.alloc o) q x t := h.kept (World.grownBy_alloc w o none) (by simp)
theorem Box.new (w : World) (x : Value) (t : TypeId) : Box (w.alloc (.cells #[x] t)) w.heap.size x t := heap_alloc_new w _
theorem HasCur.set_other {w : World} {p r j : Nat} {v : Value} {a : Nat} (h : HasCur w p v a) (hne : p ≠ r) (y : Value) : HasCur (w.setCell ⟨r, j, none⟩ y) p v a := by
  unfold HasCur
  rw [Below.heap_setCell _ _ _ _ hne]
  exact h
theorem HasCur.alloc {w : World} {p : Nat} {v : Value} {a : Nat} (h : HasCur w p v a) (o : Obj) : HasCur (w.alloc o) p v a := h.kept (World.grownBy_alloc w o none) (by simp)

/-- the bytes that a cursor reads: a row that is not the cursor itself -/
theorem Own.ne_cur {w : World} {base p : Nat} {v : Value} {l : List UInt8} {a : Nat} (h : Own w base v l) (hc : HasCur w p v a) : v.ownBlock ≠ some p := by
  intro e
  rcases h.2 with ⟨rfl, _⟩ | ⟨g, cap, cur, rfl, _, hg, _⟩
  · simp [Value.ownBlock] at e
  · simp only [Value.ownBlock, Option.some.injEq] at e
    subst e
    unfold HasCur at hc
    rw [hg] at hc
    simp at hc
theorem Own.kept {w w' : World} {base p : Nat} {v : Value} {l : List UInt8} {a : Nat} (h : Own w base v l) (hc : HasCur w p v a) (hg : w.grownBy w' (some p)) : Own w' base v l :=
  World.ownsRow.kept h hg (.inr (h.ne_cur hc))

end Go.Proofs.Ytplfcpbjlhobeaa

namespace Go.Proofs.Ytplfcpbjlhobeaa
open Go.RowKit

set_option maxRecDepth 100000 in
set_option maxHeartbeats 400000 in
theorem appendUint_any (n : Nat) (hn : n < 18446744073709551616) (base : Nat) (v : Value) (xs : List UInt8) (w : World) (hown : Own w base v xs) (hx : xs.length ≤ 1099511627776) (hbase : base ≤ w.heap.size) :
    Calls Try.prog 87 #[v, .int .u64 (n : Int)] w fun e w' => ∃ v', e = .returned v' ∧ Own w' base v' (xs ++ Wm.putU n) ∧ Below base w w' := by
  obtain ⟨i0, hi, hz0, hz1, hz2⟩ := info_parts info5
  have Hn : Hid (n < 18446744073709551616) := hn
  have Hx : Hid (xs.length ≤ 1099511627776) := hx
  clear hn hx
  go_enter Try.func87, Try.ntmps87
  go_wp2
  go_loopw [0, 1] (fun v' nn wr => ∃ (f m : Nat) (ys : List UInt8), nn = .int .u64 (m : Int) ∧ Own wr base v' (xs ++ ys) ∧ ys ++ Wm.putF f m = Wm.putU n ∧ ys.length + f = 9 ∧ m < 128 ^ f * 2 ∧ Below base w wr)
    (fun _ nn _ => (intOf nn).toNat)
  case atStart => exact ⟨9, n, [], rfl, by simpa using hown, rfl, rfl, by rw [Wm.pow9]; exact Hn.out, Below.refl _ _⟩
  case round =>
    obtain ⟨f, m, ys, rfl, ho, hys, hf, hm, hb⟩ := hrel
    have Hys : Hid (ys ++ Wm.putF f m = Wm.putU n) := hys
    have Hm : Hid (m < 128 ^ f * 2) := hm
    have Hf : Hid (ys.length + f = 9) := hf
    clear hys hm hf
    have Hl : Hid ((xs ++ ys).length ≤ 1099511627800) := by have := Hx.out; have := Hf.out; show (xs ++ ys).length ≤ _; rw [List.length_append]; omega
    have hbs : base ≤ wr.heap.size := Nat.le_trans hbase hb.size
    by_cases h : m < 128
    · go_wp2_with (at_builtin; refine wpList_append_byte wr rfl (.tmp 16) (.tmp 19) rfl base _ (xs ++ ys) _ (UInt8.ofNat m) ?hc rfl ho rfl Hl hbs ?_)
      case hc => rw [Wm.ofNat_toNat (by omega)]
      intro v' w' h1 h2
      go_wp2
      go_ret
      refine ⟨v', rfl, ?_, hb.trans h2⟩
      have e : Wm.putU n = ys ++ [UInt8.ofNat m] := by
        rw [← Hys.out]; cases f <;> simp [Wm.putF, h]
      rw [e]; simpa using h1
    · have Hd : Hid (bits .or .u64 (bits .and .u64 (m : Int) 127) 128 % 256 = ((m % 128 + 128 : Nat) : Int)) := digit_more m (Wm.pow_le (f := f) (by have := Hf.out; omega) Hm.out)
      go_wp2_with (at_builtin; refine wpList_append_byte wr rfl (.tmp 7) (.tmp 12) rfl base _ (xs ++ ys) _ (UInt8.ofNat (m % 128 + 128)) ?hc rfl ho rfl Hl hbs ?_)
      case hc => rw [Hd.out, Wm.ofNat_toNat (by omega)]
      intro v' w' h1 h2
      go_wp2
      obtain ⟨g, hg, hp, hlt⟩ := Wm.putF_step h Hm.out
      refine ⟨⟨g, m / 128, ys ++ [UInt8.ofNat (m % 128 + 128)], by go_num, by simpa using h1, ?_, ?_, hlt, hb.trans h2⟩, by simp [intOf]; omega⟩
      · rw [← Hys.out, hp]; simp
      · have := Hf.out; simp; omega

theorem strCells_bV (s : ByteArray) : Lib.strCells s = bV s.data.toList := rfl
theorem size_toList (s : ByteArray) : s.data.toList.length = s.size := by rw [Array.length_toList]; rfl

set_option maxRecDepth 100000 in
set_option maxHeartbeats 400000 in
theorem appendText_any (s : ByteArray) (hs : s.size ≤ 1099511627776) (base : Nat) (v : Value) (xs : List UInt8) (w : World) (hown : Own w base v xs) (hx : xs.length ≤ 1099511627776) (hbase : base ≤ w.heap.size) :
    Calls Try.prog 86 #[v, .string s] w fun e w' => ∃ v', e = .returned v' ∧ Own w' base v' (xs ++ Wm.putT s.data.toList) ∧ Below base w w' := by
  obtain ⟨i0, hi, hz0, hz1, hz2⟩ := info_parts info5
  go_enter Try.func86, Try.ntmps86
  go_wp2_with fail
  refine (appendUint_any s.size (by omega) base v xs _ hown hx hbase).mono ?_
  rintro e w1 ⟨v1, rfl, ho, hb⟩
  have hbs : base ≤ w1.heap.size := Nat.le_trans hbase hb.size
  have hl : (xs ++ Wm.putU s.size).length ≤ 1099511627800 := by have := (Wm.putU_length s.size).2; rw [List.length_append]; omega
  have Hl : Hid ((xs ++ Wm.putU s.size).length ≤ 1099511627800) := hl
  clear hl
  go_wp2_with (at_builtin; refine Lib.wpList_append_own_string _ rfl (.tmp 9) (.tmp 10) 32 9 rfl base 5 i0 Try.underlying32 Try.underlying9 hi hz0 hz1 hz2 _ _ _ rfl ho s rfl ?c1 ?c2 hbs ?_)
  case c1 => have := Hl.out; unfold maxLen; omega
  case c2 => have := Hl.out; omega
  intro v' w' h1 h2 _
  go_wp2
  go_ret
  refine ⟨v', rfl, ?_, hb.grown h2 hbs fun k hk => (World.ownsRow.lt ho k hk).1⟩
  unfold Own Wm.putT
  rw [size_toList, ← List.append_assoc, bV_append, List.length_append, List.length_append, size_toList]
  exact h1

set_option maxRecDepth 100000 in
theorem PutUint_any (n : Nat) (hn : n < 18446744073709551616) (w : World) :
    Calls Try.prog 76 #[.int .u64 (n : Int)] w fun e w' => ∃ v', e = .returned v' ∧ Own w' w.heap.size v' (Wm.putU n) ∧ Below w.heap.size w w' := by
  have Hn : Hid (n < 18446744073709551616) := hn
  clear hn
  go_enter Try.func76, Try.ntmps76
  go_wp2_with fail
  refine (appendUint_any n Hn.out w.heap.size _ [] _ (Own.nil _ _) (by simp) (Nat.le_refl _)).mono ?_
  rintro e w1 ⟨v1, rfl, ho, hb⟩
  go_wp2
  go_ret
  exact ⟨v1, rfl, ho, hb⟩

set_option maxRecDepth 100000 in
theorem PutText_any (s : ByteArray) (hs : s.size ≤ 1099511627776) (w : World) :
    Calls Try.prog 75 #[.string s] w fun e w' => ∃ v', e = .returned v' ∧ Own w' w.heap.size v' (Wm.putT s.data.toList) ∧ Below w.heap.size w w' := by
  go_enter Try.func75, Try.ntmps75
  go_wp2_with fail
  refine (appendText_any s hs w.heap.size _ [] _ (Own.nil _ _) (by simp) (Nat.le_refl _)).mono ?_
  rintro e w1 ⟨v1, rfl, ho, hb⟩
  go_wp2
  go_ret
  exact ⟨v1, rfl, ho, hb⟩

end Go.Proofs.Ytplfcpbjlhobeaa

namespace Go.Proofs.Ytplfcpbjlhobeaa
open Go.RowKit

set_option maxRecDepth 100000 in
theorem New_any (v : Value) (bs : List UInt8) (B : Nat) (w : World) (hb : Byts w B v bs) (hbs : bs.length ≤ 1099511627776) :
    Calls Try.prog 48 #[v] w fun e w' => ∃ p v', e = .returned (.pointer (some ⟨p, 0, none⟩)) ∧ w.heap.size ≤ p ∧ HasCur w' p v' 0 ∧ Own w' w.heap.size v' bs ∧ Below w.heap.size w w' := by
  have Hl : Hid (([] : List UInt8).length + bs.length ≤ 1099511627800) := by show _ ≤ _; simp; omega
  clear hbs
  go_enter Try.func48, Try.ntmps48
  go_wp2_with (at_builtin; go_must (refine wpList_append_byts rfl (.const (.slice none 0 0)) (.tmp 3) rfl w.heap.size B _ _ [] bs rfl (Own.nil _ _) rfl hb Hl (Nat.le_refl _) ?_))
  intro v' w1 ho hg
  have hs := hg.size
  obtain ⟨ad, c, hv, _⟩ := ho.byts
  subst hv
  go_wp2
  go_ret
  refine ⟨w1.heap.size, _, rfl, hs, heap_alloc_new w1 _, ho.alloc _, ?_⟩
  exact ((Below.refl _ w).grown hg (Nat.le_refl _) (by intro k hk; simp [Value.ownBlock] at hk)).alloc hs _

end Go.Proofs.Ytplfcpbjlhobeaa

namespace Go.Proofs.Ytplfcpbjlhobeaa
open Go.RowKit

def comb (acc k : Nat) : Option (Nat × Nat) → Option (Nat × Nat)
  | none => none
  | some (v, c) => some (acc + 128 ^ k * v, c + k)

theorem Byts.open {w : World} {B : Nat} {ad : Option Addr} {n c : Nat} {l : List UInt8} (h : Byts w B (.slice ad n c) l) (hne : l ≠ []) :
    ∃ b o, ad = some ⟨b, o, none⟩ ∧ b < B ∧ ∀ j, j < l.length → w.cell? ⟨b, o + j, none⟩ = some (.int .u8 ((l.getD j 0).toNat : Int)) := by
  obtain ⟨ad', c', hv, _, _, h⟩ := h
  simp only [Value.slice.injEq] at hv
  obtain ⟨rfl, _, rfl⟩ := hv
  exact h hne

theorem curStep {wr : World} {p : Nat} {v : Value} {a k : Nat} (h : HasCur wr p v (a + k)) (q : Nat) : HasCur ((wr.drewN q).setCell ⟨p, 1, none⟩ (.int .i64 ((a : Int) + (k : Int) + 1))) p v (a + (k + 1)) := by
  have := (h.drewN q).set (a + (k + 1))
  have e : ((a + (k + 1) : Nat) : Int) = (a : Int) + (k : Int) + 1 := by omega
  rwa [e] at this
theorem growStep {w wr : World} {p : Nat} (h : w.grownBy wr (some p)) (q j : Nat) (u : Value) : w.grownBy ((wr.drewN q).setCell ⟨p, j, none⟩ u) (some p) :=
  grownBy_trans (grownBy_trans h (grownBy_drewN _ _ q)) (grownBy_set _ _ _ _)

theorem u64_wrap_small (n : Nat) (h : n < 18446744073709551616) : IntKind.u64.wrap (n : Int) = (n : Int) := by
  have e : IntKind.u64.wrap (n : Int) = (n : Int) % 18446744073709551616 := by simp [IntKind.wrap, IntKind.bits, IntKind.signed]
  rw [e]; omega

theorem and127 (b : UInt8) : bits .and .u8 (b.toNat : Int) 127 = ((b.toNat % 128 : Nat) : Int) := by
  have := u8_and_nat b.toNat 127 b.toNat_lt (by decide)
  rw [nat_mask7] at this
  exact this
theorem and128 (b : UInt8) : bits .and .u8 (b.toNat : Int) 128 = ((b.toNat / 128 * 128 : Nat) : Int) := by
  have := u8_and_nat b.toNat 128 b.toNat_lt (by decide)
  have h2 := nat_bit 7 b.toNat
  have h3 := b.toNat_lt
  have e : b.toNat / 2 ^ 7 % 2 * 2 ^ 7 = b.toNat / 128 * 128 := by omega
  rw [e] at h2
  rw [← h2]
  exact this
theorem and128_lo {b : UInt8} (h : b.toNat < 128) : (bits BinOp.and IntKind.u8 (b.toNat : Int) 128 == 0) = true := by
  rw [and128, beq_iff_eq]; omega
theorem and128_hi {b : UInt8} (h : ¬ b.toNat < 128) : (bits BinOp.and IntKind.u8 (b.toNat : Int) 128 == 0) = false := by
  rw [and128, beq_eq_false_iff_ne]; have := b.toNat_lt; omega

theorem pow_split (k : Nat) : 2 ^ (7 * k) = 128 ^ k := by rw [Nat.pow_mul]
theorem shl_small {k d : Nat} (hk : k ≤ 9) (h9 : k = 9 → d ≤ 1) (hd : d < 128) : 128 ^ k * d + 128 ^ k ≤ 18446744073709551616 := by
  by_cases h : k = 9
  · have := h9 h; subst h
    have h2 : 128 ^ 9 * d ≤ 128 ^ 9 * 1 := Nat.mul_le_mul_left _ this
    have h3 := Wm.pow9
    omega
  · have h1 : 128 ^ k ≤ 128 ^ 8 := Nat.pow_le_pow_right (by decide) (by omega)
    have h2 : 128 ^ k * d + 128 ^ k = 128 ^ k * (d + 1) := by rw [Nat.mul_add, Nat.mul_one]
    rw [h2]
    have h3 : 128 ^ k * (d + 1) ≤ 128 ^ 8 * 128 := Nat.mul_le_mul h1 (by omega)
    have h4 : 128 ^ 8 * 128 = 9223372036854775808 := by decide
    omega

theorem orShift (acc k : Nat) (b : UInt8) (hk : k ≤ 9) (hacc : acc < 128 ^ k) (h9 : k = 9 → b.toNat ≤ 1) :
    bits .or .u64 (acc : Int) (IntKind.u64.wrap (IntKind.u64.wrap (bits .and .u8 (b.toNat : Int) 127) * 2 ^ (7 * k))) = ((acc + 128 ^ k * (b.toNat % 128) : Nat) : Int) := by
  have hs := shl_small (k := k) (d := b.toNat % 128) hk (fun h => by have := h9 h; omega) (by omega)
  rw [and127, u64_wrap_small _ (by omega)]
  have e : ((b.toNat % 128 : Nat) : Int) * 2 ^ (7 * k) = ((128 ^ k * (b.toNat % 128) : Nat) : Int) := by
    rw [← pow_split]; push_cast; exact Int.mul_comm _ _
  rw [e]
  generalize hd : 128 ^ k * (b.toNat % 128) = x at *
  rw [u64_wrap_small _ (by have : 0 < 128 ^ k := Nat.pow_pos (by decide); omega), u64_or_nat acc x (by omega) (by have : 0 < 128 ^ k := Nat.pow_pos (by decide); omega), Nat.or_comm]
  rw [nat_join (7 * k) x acc (by rw [pow_split, ← hd]; exact Nat.mul_mod_right _ _) (by rw [pow_split]; exact hacc), Nat.add_comm]

theorem ret_u64 {a b : Int} {x : Value} (h : a = b) : Ending.returned (.tuple #[.int .u64 a, x]) = .returned (.tuple #[.int .u64 b, x]) := by rw [h]

theorem drop_at (bs : List UInt8) (j : Nat) (h : j < bs.length) : bs.drop j = bs.getD j 0 :: bs.drop (j + 1) := by
  rw [List.drop_eq_getElem_cons h]; simp [List.getD, List.getElem?_eq_getElem h]

theorem comb_more (acc k : Nat) (b : UInt8) (r : List UInt8) (hk : k ≤ 8) (h : ¬ b.toNat < 128) : comb acc k (Wm.getU k (b :: r)) = comb (acc + 128 ^ k * (b.toNat % 128)) (k + 1) (Wm.getU (k + 1) r) := by
  have hb := b.toNat_lt
  simp only [Wm.getU]
  rw [if_neg (by omega), if_neg (by omega), if_neg h]
  cases Wm.getU (k + 1) r with
  | none => rfl
  | some q =>
    obtain ⟨v, c⟩ := q
    simp only [comb, Option.some.injEq, Prod.mk.injEq]
    refine ⟨?_, by omega⟩
    have e : b.toNat - 128 = b.toNat % 128 := by omega
    rw [e, Nat.pow_succ, Nat.mul_add, Nat.mul_assoc, Nat.add_assoc]
theorem comb_last (acc k : Nat) (b : UInt8) (r : List UInt8) (h : b.toNat < 128) (h9 : k = 9 → b.toNat ≤ 1) (h0 : b.toNat = 0 → k = 0) : comb acc k (Wm.getU k (b :: r)) = some (acc + 128 ^ k * (b.toNat % 128), 1 + k) := by
  simp only [Wm.getU]
  rw [if_neg (by omega), if_neg (by omega), if_pos h]
  have e : b.toNat % 128 = b.toNat := by omega
  simp only [comb, e]
theorem comb_bad (acc k : Nat) (b : UInt8) (r : List UInt8) (h : (k = 9 ∧ 1 < b.toNat) ∨ (b.toNat = 0 ∧ 0 < k)) : comb acc k (Wm.getU k (b :: r)) = none := by
  simp only [Wm.getU]
  by_cases h1 : k = 9 ∧ 1 < b.toNat
  · rw [if_pos h1]; rfl
  · rw [if_neg h1, if_pos (by omega)]; rfl

set_option maxRecDepth 100000 in
set_option maxHeartbeats 1000000 in
theorem number_any (p : Nat) (v : Value) (a base : Nat) (bs : List UInt8) (w : World) (hc : HasCur w p v a) (hown : Own w base v bs) (ha : a ≤ bs.length) (hbs : bs.length ≤ 1099511627776) :
    Calls Try.prog 82 #[.pointer (some ⟨p, 0, none⟩)] w fun e w' => ∃ n c : Nat, ((e = .returned (.tuple #[.int .u64 (n : Int), .int .i64 0]) ∧ Wm.getU 0 (bs.drop a) = some (n, c)) ∨ (e = .returned (.tuple #[.int .u64 0, .int .i64 7]) ∧ Wm.getU 0 (bs.drop a) = none)) ∧
      HasCur w' p v (a + c) ∧ a + c ≤ bs.length ∧ w.grownBy w' (some p) := by
  obtain ⟨ad, cp, rfl, _, _, hby⟩ := hown.byts
  go_enter Try.func82, Try.ntmps82
  go_wp2
  go_step3
  go_wp2
  go_step3
  go_wp2
  go_loopw [4, 5] (fun nn sh wr => ∃ k acc : Nat, nn = .int .u64 (acc : Int) ∧ sh = .int .i64 (7 * (k : Int)) ∧ k ≤ 9 ∧ a + k ≤ bs.length ∧ acc < 128 ^ k ∧
      Wm.getU 0 (bs.drop a) = comb acc k (Wm.getU k (bs.drop (a + k))) ∧ HasCur wr p (.slice ad bs.length cp) (a + k) ∧ w.grownBy wr (some p))
    (fun _ sh _ => 70 - (intOf sh).toNat)
  case atStart =>
    refine ⟨0, 0, rfl, rfl, by omega, by omega, by simp, ?_, hc, grownBy_refl _ _⟩
    cases Wm.getU 0 (bs.drop a) with
    | none => rfl
    | some q => simp [comb]
  case round =>
    obtain ⟨k, acc, rfl, rfl, hk, hak, hacc, hget, hcr, hgr⟩ := hrel
    have Hacc : Hid (acc < 128 ^ k) := hacc
    have Hget : Hid (Wm.getU 0 (bs.drop a) = comb acc k (Wm.getU k (bs.drop (a + k)))) := hget
    have Hcr : Hid (HasCur wr p (.slice ad bs.length cp) (a + k)) := hcr
    have c0 := hcr.cell0
    have c1 := hcr.cell1
    have f1 := hcr.free 1
    have Hor : Hid (Own wr base (.slice ad bs.length cp) bs) := hown.kept hc hgr
    clear hacc hget hc hcr hown
    by_cases hlt : a + k < bs.length
    · obtain ⟨g, o, rfl, hgl, hcell⟩ := Hor.out.byts.open (by intro h; subst h; simp at hlt)
      have hck := hcell (a + k) hlt
      have hdr := drop_at bs (a + k) hlt
      clear hby hcell
      obtain ⟨b, hb⟩ : ∃ b, b = bs.getD (a + k) 0 := ⟨_, rfl⟩
      rw [← hb] at hck hdr
      have Hg : Hid (Wm.getU 0 (bs.drop a) = comb acc k (Wm.getU k (b :: bs.drop (a + k + 1)))) := by rw [← hdr]; exact Hget.out
      clear hb hdr Hget
      have hb256 : (b.toNat : Int) ≤ 255 := by have := b.toNat_lt; omega
      have i1 : (0 : Int) ≤ (a : Int) + (k : Int) := by omega
      have i2 : (a : Int) + (k : Int) < (bs.length : Int) := by omega
      by_cases hbad : (k = 9 ∧ 1 < b.toNat) ∨ (b.toNat = 0 ∧ 0 < k)
      · have Hres : Hid (Wm.getU 0 (bs.drop a) = none) := by
          show _ = _
          rw [Hg.out]; exact comb_bad acc k b _ hbad
        clear Hg
        rcases hbad with ⟨h1, h2⟩ | ⟨h1, h2⟩
        · have h1' : (7 * (k : Int) == 63) = true := by rw [beq_iff_eq]; omega
          have h2' : (1 : Int) < (b.toNat : Int) := by omega
          clear h1 h2
          go_wp2
          go_quiet (fail)
          go_wp2
          go_quiet (fail)
          go_wp2
          rw [Exit.noGoto_ret]
          go_ret2
          exact ⟨0, k + 1, .inr ⟨rfl, Hres.out⟩, curStep Hcr.out _, by omega, growStep hgr _ _ _⟩
        · have h1' : ((b.toNat : Int) == 0) = true := by rw [beq_iff_eq]; omega
          have h2' : (0 : Int) < 7 * (k : Int) := by omega
          have h3' : (b.toNat : Int) ≤ 1 := by omega
          clear h1 h2
          go_wp2
          go_quiet (fail)
          go_wp2
          go_quiet (fail)
          go_wp2
          all_goals rw [Exit.noGoto_ret]
          all_goals go_ret2
          all_goals exact ⟨0, k + 1, .inr ⟨rfl, Hres.out⟩, curStep Hcr.out _, by omega, growStep hgr _ _ _⟩
      · by_cases h128 : b.toNat < 128
        · have hand := and128_lo h128
          have Hres : Hid (Wm.getU 0 (bs.drop a) = some (acc + 128 ^ k * (b.toNat % 128), k + 1)) := by
            show _ = _
            rw [Hg.out, comb_last acc k b _ h128 (by omega) (by omega), Nat.add_comm 1 k]
          clear Hg
          by_cases h9 : k = 9
          · have hb1 : (b.toNat : Int) ≤ 1 := by omega
            have h0' : ((b.toNat : Int) == 0) = false := by rw [beq_eq_false_iff_ne]; omega
            have h63' : (7 * (k : Int) == 63) = true := by rw [beq_iff_eq]; omega
            have Hval : Hid _ := orShift acc k b hk Hacc.out (by omega)
            clear h9 hbad
            go_wp2
            go_quiet (fail)
            go_wp2
            go_quiet (fail)
            go_wp2
            rw [Exit.noGoto_ret]
            go_ret2
            exact ⟨acc + 128 ^ k * (b.toNat % 128), k + 1, .inl ⟨ret_u64 Hval.out, Hres.out⟩, curStep Hcr.out _, by omega, growStep hgr _ _ _⟩
          · have h63' : (7 * (k : Int) == 63) = false := by rw [beq_eq_false_iff_ne]; omega
            by_cases h0 : b.toNat = 0
            · have hk0 : 7 * (k : Int) ≤ 0 := by omega
              have h0' : ((b.toNat : Int) == 0) = true := by rw [beq_iff_eq]; omega
              have Hval : Hid _ := orShift acc k b hk Hacc.out (by omega)
              clear h0 hbad
              go_wp2
              go_quiet (fail)
              go_wp2
              go_quiet (fail)
              go_wp2
              rw [Exit.noGoto_ret]
              go_ret2
              exact ⟨acc + 128 ^ k * (b.toNat % 128), k + 1, .inl ⟨ret_u64 Hval.out, Hres.out⟩, curStep Hcr.out _, by omega, growStep hgr _ _ _⟩
            · have h0' : ((b.toNat : Int) == 0) = false := by rw [beq_eq_false_iff_ne]; omega
              have Hval : Hid _ := orShift acc k b hk Hacc.out (by omega)
              clear h0 hbad
              go_wp2
              go_quiet (fail)
              go_wp2
              go_quiet (fail)
              go_wp2
              rw [Exit.noGoto_ret]
              go_ret2
              exact ⟨acc + 128 ^ k * (b.toNat % 128), k + 1, .inl ⟨ret_u64 Hval.out, Hres.out⟩, curStep Hcr.out _, by omega, growStep hgr _ _ _⟩
        · have h128' : (128 : Int) ≤ (b.toNat : Int) := by omega
          have h9' : (k : Int) ≤ 8 := by omega
          have h0' : ((b.toNat : Int) == 0) = false := by rw [beq_eq_false_iff_ne]; omega
          have h63' : (7 * (k : Int) == 63) = false := by rw [beq_eq_false_iff_ne]; omega
          have hand := and128_hi h128
          have Hval : Hid _ := orShift acc k b hk Hacc.out (by omega)
          go_wp2
          go_quiet (fail)
          go_wp2
          go_quiet (fail)
          go_wp2
          refine ⟨⟨k + 1, acc + 128 ^ k * (b.toNat % 128), by rw [Hval.out], by go_num, by omega, by omega, ?_, ?_, curStep Hcr.out _, growStep hgr _ _ _⟩, by simp [intOf]; omega⟩
          · have := Hacc.out
            have h5 : 128 ^ k * (b.toNat % 128) ≤ 128 ^ k * 127 := Nat.mul_le_mul_left _ (by omega)
            rw [Nat.pow_succ]; omega
          · rw [Hg.out, comb_more acc k b _ (by omega) h128]; rfl
    · have Hres : Hid (Wm.getU 0 (bs.drop a) = none) := by
        show _ = _
        rw [Hget.out, List.drop_eq_nil_of_le (by omega)]; simp [Wm.getU, comb]
      have i2 : (bs.length : Int) ≤ (a : Int) + (k : Int) := by omega
      clear Hget
      go_wp2
      go_quiet (fail)
      go_wp2
      rw [Exit.noGoto_ret]
      go_ret2
      exact ⟨0, k, .inr ⟨rfl, Hres.out⟩, Hcr.out.drewN _, by omega, grownBy_trans hgr (grownBy_drewN _ _ _)⟩
end Go.Proofs.Ytplfcpbjlhobeaa

namespace Go.Proofs.Ytplfcpbjlhobeaa
open Go.RowKit

set_option maxRecDepth 100000 in
set_option maxHeartbeats 1000000 in
theorem refUint_any (n : Nat) (hn : n < 18446744073709551616) (w : World) :
    Calls Try.prog 64 #[.int .u64 (n : Int)] w fun e w' => ∃ v', e = .returned v' ∧ Own w' w.heap.size v' (Wm.putU n) ∧ Below w.heap.size w w' := by
  have Hn : Hid (n < 18446744073709551616) := hn
  clear hn
  go_enter Try.func64, Try.ntmps64
  go_wp2
  go_loopw [0, 3] (fun nn v' wr => ∃ (f m : Nat) (ys : List UInt8), nn = .int .u64 (m : Int) ∧ Own wr w.heap.size v' ys ∧ ys ++ Wm.putF f m = Wm.putU n ∧ ys.length + f = 9 ∧ m < 128 ^ f * 2 ∧ Below w.heap.size w wr)
    (fun nn _ _ => (intOf nn).toNat)
  case atStart => exact ⟨9, n, [], rfl, Own.nil _ _, rfl, rfl, by rw [Wm.pow9]; exact Hn.out, Below.refl _ _⟩
  case round =>
    obtain ⟨f, m, ys, rfl, ho, hys, hf, hm, hb⟩ := hrel
    have Hys : Hid (ys ++ Wm.putF f m = Wm.putU n) := hys
    have Hm : Hid (m < 128 ^ f * 2) := hm
    have Hf : Hid (ys.length + f = 9) := hf
    clear hys hm hf
    have Hl : Hid (ys.length ≤ 1099511627800) := by have := Hf.out; show _ ≤ _; omega
    have hbs : w.heap.size ≤ wr.heap.size := hb.size
    by_cases h : m < 128
    · go_wp2_with (at_builtin; go_must (refine wpList_append_byte wr rfl (.tmp 15) (.tmp 18) rfl w.heap.size _ ys _ (UInt8.ofNat m) ?hc rfl ho rfl Hl hbs ?_))
      case hc => rw [Wm.ofNat_toNat (by omega)]
      intro v' w' h1 h2
      go_wp2
      go_ret
      refine ⟨v', rfl, ?_, hb.trans h2⟩
      have e : Wm.putU n = ys ++ [UInt8.ofNat m] := by
        rw [← Hys.out]; cases f <;> simp [Wm.putF, h]
      rw [e]; exact h1
    · have h' : (128 : Int) ≤ (m : Int) := by omega
      have hw : IntKind.u64.wrap ((m : Int) / 128) = (m : Int) / 128 := by
        have := Wm.pow_le (f := f) (by have := Hf.out; omega) Hm.out
        exact u64_wrap_small (m / 128) (by omega)
      go_wp2_with (at_builtin; go_must (refine wpList_append_byte wr rfl (.tmp 6) (.tmp 11) rfl w.heap.size _ ys _ (UInt8.ofNat (m % 128 + 128)) ?hc rfl ho rfl Hl hbs ?_))
      case hc => rw [Wm.ofNat_toNat (by omega)]; omega
      intro v' w' h1 h2
      go_wp2
      obtain ⟨g, hg, hp, hlt⟩ := Wm.putF_step h Hm.out
      refine ⟨⟨g, m / 128, ys ++ [UInt8.ofNat (m % 128 + 128)], by go_num, by simpa using h1, ?_, ?_, hlt, hb.trans h2⟩, by simp [intOf]; omega⟩
      · rw [← Hys.out, hp]; simp
      · have := Hf.out; simp; omega

set_option maxRecDepth 100000 in
set_option maxHeartbeats 1000000 in
theorem refText_any (s : ByteArray) (hs : s.size ≤ 1099511627776) (w : World) :
    Calls Try.prog 66 #[.string s] w fun e w' => ∃ v', e = .returned v' ∧ Own w' w.heap.size v' (Wm.putT s.data.toList) ∧ Below w.heap.size w w' := by
  go_enter Try.func66, Try.ntmps66
  go_wp2_with fail
  refine (refUint_any s.size (by omega) _).mono ?_
  rintro e w1 ⟨v1, rfl, ho, hb⟩
  go_wp2
  go_loopw [3, 4] (fun v' i wr => ∃ k : Nat, k ≤ s.size ∧ i = .int .i64 (k : Int) ∧ Own wr w.heap.size v' (Wm.putU s.size ++ s.data.toList.take k) ∧ Below w.heap.size w wr)
    (fun _ i _ => s.size - (intOf i).toNat)
  case atStart => exact ⟨0, Nat.zero_le _, rfl, by simpa using ho, hb⟩
  case round =>
    obtain ⟨k, hk, rfl, hor, hbr⟩ := hrel
    have hbs : w.heap.size ≤ wr.heap.size := hbr.size
    by_cases hlt : k < s.size
    · have Hl : Hid ((Wm.putU s.size ++ s.data.toList.take k).length ≤ 1099511627800) := by
        have h2 := (Wm.putU_length s.size).2
        show (Wm.putU s.size ++ s.data.toList.take k).length ≤ _
        rw [List.length_append, List.length_take]; omega
      have HS : Hid (s.data.toList.take (k + 1) = s.data.toList.take k ++ [s[k]]) := by
        show _ = _
        rw [List.take_succ_eq_append_getElem (by rw [size_toList]; exact hlt)]; rfl
      go_wp2_with (at_builtin; go_must (refine wpList_append_byte wr rfl (.tmp 15) (.tmp 19) rfl w.heap.size _ _ _ s[k] ?hc rfl hor rfl Hl hbs ?_))
      case hc => rfl
      intro v' w' h1 h2
      go_wp2
      refine ⟨⟨k + 1, by omega, by go_num, ?_, hbr.trans h2⟩, by simp [intOf]; omega⟩
      rw [HS.out]
      simpa using h1
    · go_wp2
      go_ret
      refine ⟨_, rfl, ?_, hbr⟩
      unfold Wm.putT
      rw [size_toList]
      rwa [List.take_of_length_le (by rw [size_toList]; omega)] at hor

end Go.Proofs.Ytplfcpbjlhobeaa

namespace Go.Proofs.Ytplfcpbjlhobeaa
open Go.RowKit

theorem closeU_ok (A0 A1 A2 p : Nat) (s : Int) (u : FrameMode) (w : World) (h0 : w.cell? ⟨A0, 0, none⟩ = some (.pointer (some ⟨p, 0, none⟩))) (h1 : w.cell? ⟨A1, 0, none⟩ = some (.int .i64 s)) (h2 : w.cell? ⟨A2, 0, none⟩ = some (.int .i64 0)) :
    CallsD Try.prog 80 #[.pointer (some ⟨A0, 0, none⟩), .pointer (some ⟨A1, 0, none⟩), .pointer (some ⟨A2, 0, none⟩)] u w fun e u' w' => u' = u ∧ (e = .returned (.tuple #[]) ∧ w' = w) := by
  go_enter_d Try.func80, Try.ntmps80
  go_wp2
  go_end0
  go_wp2
  go_end0
  exact ⟨rfl, rfl⟩
theorem closeU_back (A0 A1 A2 p : Nat) (s x er : Int) (u : FrameMode) (w : World) (h0 : w.cell? ⟨A0, 0, none⟩ = some (.pointer (some ⟨p, 0, none⟩))) (h1 : w.cell? ⟨A1, 0, none⟩ = some (.int .i64 s)) (h2 : w.cell? ⟨A2, 0, none⟩ = some (.int .i64 er)) (he : (er != 0) = true)
    (c1 : w.cell? ⟨p, 1, none⟩ = some (.int .i64 x)) (f1 : w.frozen? ⟨p, 1, none⟩ = false) :
    CallsD Try.prog 80 #[.pointer (some ⟨A0, 0, none⟩), .pointer (some ⟨A1, 0, none⟩), .pointer (some ⟨A2, 0, none⟩)] u w fun e u' w' => u' = u ∧ (e = .returned (.tuple #[]) ∧ w' = w.setCell ⟨p, 1, none⟩ (.int .i64 s)) := by
  go_enter_d Try.func80, Try.ntmps80
  go_wp2
  go_end0
  go_wp2
  go_end0
  exact ⟨rfl, rfl⟩

theorem closeT_ok (A0 A1 A2 p : Nat) (s : Int) (u : FrameMode) (w : World) (h0 : w.cell? ⟨A0, 0, none⟩ = some (.pointer (some ⟨p, 0, none⟩))) (h1 : w.cell? ⟨A1, 0, none⟩ = some (.int .i64 s)) (h2 : w.cell? ⟨A2, 0, none⟩ = some (.int .i64 0)) :
    CallsD Try.prog 84 #[.pointer (some ⟨A0, 0, none⟩), .pointer (some ⟨A1, 0, none⟩), .pointer (some ⟨A2, 0, none⟩)] u w fun e u' w' => u' = u ∧ (e = .returned (.tuple #[]) ∧ w' = w) := by
  go_enter_d Try.func84, Try.ntmps84
  go_wp2
  go_end0
  go_wp2
  go_end0
  exact ⟨rfl, rfl⟩
theorem closeT_back (A0 A1 A2 p : Nat) (s x er : Int) (u : FrameMode) (w : World) (h0 : w.cell? ⟨A0, 0, none⟩ = some (.pointer (some ⟨p, 0, none⟩))) (h1 : w.cell? ⟨A1, 0, none⟩ = some (.int .i64 s)) (h2 : w.cell? ⟨A2, 0, none⟩ = some (.int .i64 er)) (he : (er != 0) = true)
    (c1 : w.cell? ⟨p, 1, none⟩ = some (.int .i64 x)) (f1 : w.frozen? ⟨p, 1, none⟩ = false) :
    CallsD Try.prog 84 #[.pointer (some ⟨A0, 0, none⟩), .pointer (some ⟨A1, 0, none⟩), .pointer (some ⟨A2, 0, none⟩)] u w fun e u' w' => u' = u ∧ (e = .returned (.tuple #[]) ∧ w' = w.setCell ⟨p, 1, none⟩ (.int .i64 s)) := by
  go_enter_d Try.func84, Try.ntmps84
  go_wp2
  go_end0
  go_wp2
  go_end0
  exact ⟨rfl, rfl⟩

end Go.Proofs.Ytplfcpbjlhobeaa

namespace Go.Proofs.Ytplfcpbjlhobeaa
open Go.RowKit

theorem At_any (p : Nat) (v : Value) (a : Nat) (w : World) (hc : HasCur w p v a) :
    Calls Try.prog 72 #[.pointer (some ⟨p, 0, none⟩)] w fun e w' => e = .returned (.int .i64 (a : Int)) ∧ w' = w := by
  have c1 := hc.cell1
  go_enter Try.func72, Try.ntmps72
  go_wp2
  go_ret
  exact ⟨rfl, rfl⟩
theorem At_nil (w : World) : Calls Try.prog 72 #[.pointer none] w fun e w' => e = .returned (.int .i64 0) ∧ w' = w := by
  go_enter Try.func72, Try.ntmps72
  go_wp2
  go_ret
  exact ⟨rfl, rfl⟩
theorem Left_any (p : Nat) (ad : Option Addr) (n cp : Nat) (a : Nat) (w : World) (hc : HasCur w p (.slice ad n cp) a) (ha : a ≤ n) (hn : n ≤ 1099511627776) :
    Calls Try.prog 83 #[.pointer (some ⟨p, 0, none⟩)] w fun e w' => e = .returned (.int .i64 ((n - a : Nat) : Int)) ∧ ∃ q, w' = w.drewN q := by
  have c0 := hc.cell0
  have c1 := hc.cell1
  go_enter Try.func83, Try.ntmps83
  go_wp2
  go_quiet (fail)
  go_wp2
  go_ret
  refine ⟨?_, _, rfl⟩
  have e : ((n - a : Nat) : Int) = (n : Int) - (a : Int) := by omega
  rw [e]; rfl
theorem Left_nil (w : World) : Calls Try.prog 83 #[.pointer none] w fun e w' => e = .returned (.int .i64 0) ∧ w' = w := by
  go_enter Try.func83, Try.ntmps83
  go_wp2
  go_ret
  exact ⟨rfl, rfl⟩

/-- P1.3: the number, the error, how many bytes are gone over -/
def askU (bs : List UInt8) (a most : Nat) : Nat × Nat × Nat :=
  match Wm.getU 0 (bs.drop a) with
  | none => (0, 7, 0)
  | some (n, c) => if n ≤ most then (n, 0, c) else (0, 3, 0)

set_option maxRecDepth 100000 in
set_option maxHeartbeats 1000000 in
theorem Uint_any (p : Nat) (v : Value) (a base : Nat) (bs : List UInt8) (most : Nat) (w : World) (hc : HasCur w p v a) (hown : Own w base v bs) (ha : a ≤ bs.length) (hbs : bs.length ≤ 1099511627776) :
    Calls Try.prog 69 #[.pointer (some ⟨p, 0, none⟩), .int .u64 (most : Int)] w fun e w' => e = .returned (.tuple #[.int .u64 ((askU bs a most).1 : Int), .int .i64 ((askU bs a most).2.1 : Int)]) ∧
      HasCur w' p v (a + (askU bs a most).2.2) ∧ w.grownBy w' (some p) := by
  have hmf : ∀ (fn : Fn) (first cap : Array Value) (w : World), (Instr.makeFunc fn first cap).run Try.prog w = .ok (.func fn first cap) w := fun _ _ _ _ => rfl
  have hp := hc.lt
  have c1 := hc.cell1
  go_enter_defers Try.func69, Try.ntmps69
  go_wp2_with fail
  have b0 := ((Box.new w (.pointer (some ⟨p, 0, none⟩)) 76).alloc (.cells #[.int .i64 0] 29)).alloc (.cells #[.int .i64 (a : Int)] 3)
  have b1 := (Box.new (w.alloc (.cells #[.pointer (some ⟨p, 0, none⟩)] 76)) (.int .i64 0) 29).alloc (.cells #[.int .i64 (a : Int)] 3)
  have b2 := Box.new ((w.alloc (.cells #[.pointer (some ⟨p, 0, none⟩)] 76)).alloc (.cells #[.int .i64 0] 29)) (.int .i64 (a : Int)) 3
  simp only [World.size_alloc] at b1 b2
  have hc3 := ((hc.alloc (.cells #[.pointer (some ⟨p, 0, none⟩)] 76)).alloc (.cells #[.int .i64 0] 29)).alloc (.cells #[.int .i64 (a : Int)] 3)
  have ho3 := ((hown.alloc (.cells #[.pointer (some ⟨p, 0, none⟩)] 76)).alloc (.cells #[.int .i64 0] 29)).alloc (.cells #[.int .i64 (a : Int)] 3)
  have hg3 := grow_alloc (grow_alloc (grow_alloc (grownBy_refl w (some p)) (.cells #[.pointer (some ⟨p, 0, none⟩)] 76)) (.cells #[.int .i64 0] 29)) (.cells #[.int .i64 (a : Int)] 3)
  refine (number_any p v a base bs _ hc3 ho3 ha hbs).mono ?_
  rintro e w1 ⟨n, c, hr, hc1, hac, hg1⟩
  replace b0 := b0.kept hg1 (by simp; omega)
  replace b1 := b1.kept hg1 (by simp; omega)
  replace b2 := b2.kept hg1 (by simp; omega)
  replace hg1 := grownBy_trans hg3 hg1
  clear hg3 hc3 ho3 c1
  generalize hH : w.heap.size = H at *
  have HH : Hid (w.heap.size = H) := hH
  clear hH
  have d0 := b0.cell
  have d1 := b1.cell
  have d2 := b2.cell
  have f1 := b1.free
  have hpH : p < H := hp
  clear hc
  rcases hr with ⟨rfl, hr⟩ | ⟨rfl, hr⟩
  · by_cases hm : n ≤ most
    · have Hask : Hid (askU bs a most = (n, 0, c)) := by show _ = _; simp [askU, hr, hm]
      have hm' : ¬ (most : Int) < (n : Int) := by omega
      clear hr hm
      go_wp2
      go_region
      all_goals try go_wp2
      refine leaves_cons (f := 80) (args := #[.pointer (some ⟨H, 0, none⟩), .pointer (some ⟨H + 1 + 1, 0, none⟩), .pointer (some ⟨H + 1, 0, none⟩)]) (by simp) (by simp [go_sem]) ?_
      refine (closeU_ok H (H + 1 + 1) (H + 1) p (a : Int) .returning _ ?_ ?_ ?_).mono ?_
      · exact ((b0.set_other (by omega) _).set_other (by omega) _).cell
      · exact ((b2.set_other (by omega) _).set_other (by omega) _).cell
      · exact ((b1.set _).set _).cell
      rintro e u' w'' ⟨rfl, rfl, rfl⟩
      have fin := ((b1.set (.int .i64 0)).set (.int .i64 0)).cell
      simp only [Leaves, settle, results, Try.results69]
      simp [go_sem, fin]
      rw [Hask.out]
      exact ⟨⟨rfl, rfl⟩, (hc1.set_other (by omega) _).set_other (by omega) _, grow_drew (grow_set_new (grow_set_new hg1 (by rw [HH.out]; omega) _ _) (by rw [HH.out]; omega) _ _)⟩
    · have Hask : Hid (askU bs a most = (0, 3, 0)) := by show _ = _; simp [askU, hr, hm]
      have hm' : (most : Int) < (n : Int) := by omega
      clear hr hm
      go_wp2
      refine leaves_cons (f := 80) (args := #[.pointer (some ⟨H, 0, none⟩), .pointer (some ⟨H + 1 + 1, 0, none⟩), .pointer (some ⟨H + 1, 0, none⟩)]) (by simp) (by simp [go_sem]) ?_
      refine (closeU_back H (H + 1 + 1) (H + 1) p (a : Int) ((a + c : Nat) : Int) 3 .returning _ ?_ ?_ ?_ (by decide) ?_ ?_).mono ?_
      · exact ((b0.set_other (by omega) _).set_other (by omega) _).cell
      · exact ((b2.set_other (by omega) _).set_other (by omega) _).cell
      · exact ((b1.set _).set _).cell
      · exact ((hc1.set_other (by omega) _).set_other (by omega) _).cell1
      · exact ((hc1.set_other (by omega) _).set_other (by omega) _).free 1
      rintro e u' w'' ⟨rfl, rfl, rfl⟩
      have fin := (((b1.set (.int .i64 0)).set (.int .i64 3)).set_other (by omega : H + 1 ≠ p) (j := 1) (.int .i64 (a : Int))).cell
      simp only [Leaves, settle, results, Try.results69]
      simp [go_sem, fin]
      rw [Hask.out]
      exact ⟨⟨rfl, rfl⟩, ((hc1.set_other (by omega) _).set_other (by omega) _).set a, grow_set (grow_set_new (grow_set_new hg1 (by rw [HH.out]; omega) _ _) (by rw [HH.out]; omega) _ _) _ _⟩
  · have Hask : Hid (askU bs a most = (0, 7, 0)) := by show _ = _; simp [askU, hr]
    clear hr
    go_wp2
    go_region
    all_goals try go_wp2
    refine leaves_cons (f := 80) (args := #[.pointer (some ⟨H, 0, none⟩), .pointer (some ⟨H + 1 + 1, 0, none⟩), .pointer (some ⟨H + 1, 0, none⟩)]) (by simp) (by simp [go_sem]) ?_
    refine (closeU_back H (H + 1 + 1) (H + 1) p (a : Int) ((a + c : Nat) : Int) 7 .returning _ ?_ ?_ ?_ (by decide) ?_ ?_).mono ?_
    · exact ((b0.set_other (by omega) _).set_other (by omega) _).cell
    · exact ((b2.set_other (by omega) _).set_other (by omega) _).cell
    · exact ((b1.set _).set _).cell
    · exact ((hc1.set_other (by omega) _).set_other (by omega) _).cell1
    · exact ((hc1.set_other (by omega) _).set_other (by omega) _).free 1
    rintro e u' w'' ⟨rfl, rfl, rfl⟩
    have fin := (((b1.set (.int .i64 7)).set (.int .i64 7)).set_other (by omega : H + 1 ≠ p) (j := 1) (.int .i64 (a : Int))).cell
    simp only [Leaves, settle, results, Try.results69]
    simp [go_sem, fin]
    rw [Hask.out]
    exact ⟨⟨rfl, rfl⟩, ((hc1.set_other (by omega) _).set_other (by omega) _).set a, grow_drew (grow_set (grow_set_new (grow_set_new hg1 (by rw [HH.out]; omega) _ _) (by rw [HH.out]; omega) _ _) _ _)⟩

theorem Uint_nil (most : Int) (w : World) :
    Calls Try.prog 69 #[.pointer none, .int .u64 most] w fun e w' => e = .returned (.tuple #[.int .u64 0, .int .i64 1]) ∧ Below w.heap.size w w' := by
  go_enter_defers Try.func69, Try.ntmps69
  go_wp2
  simp only [bodyPostD, Leaves, results, Try.results69]
  simp [go_sem]
  exact ((Below.refl _ w).alloc (Nat.le_refl _) _).alloc (by simp) _
end Go.Proofs.Ytplfcpbjlhobeaa

namespace Go.Proofs.Ytplfcpbjlhobeaa
open Go.RowKit

/-- how many bytes or texts are said to follow: the number, the error, how many bytes the number has -/
def askN (bs : List UInt8) (a : Nat) (most : Int) : Nat × Nat × Nat :=
  match Wm.getU 0 (bs.drop a) with
  | none => (0, 7, 0)
  | some (n, c) => if most < 0 ∨ most < (n : Int) then (0, 3, 0) else if bs.length - (a + c) < n then (0, 7, 0) else (n, 0, c)

set_option maxRecDepth 100000 in
set_option maxHeartbeats 1000000 in
theorem count_any (p : Nat) (v : Value) (a base : Nat) (bs : List UInt8) (most : Int) (w : World) (hc : HasCur w p v a) (hown : Own w base v bs) (ha : a ≤ bs.length) (hbs : bs.length ≤ 1099511627776) (hmost : most ≤ 9223372036854775807) :
    Calls Try.prog 85 #[.pointer (some ⟨p, 0, none⟩), .int .i64 most] w fun e w' => e = .returned (.tuple #[.int .i64 ((askN bs a most).1 : Int), .int .i64 ((askN bs a most).2.1 : Int)]) ∧
      (∃ x, HasCur w' p v x ∧ x ≤ bs.length ∧ ((askN bs a most).2.1 = 0 → x = a + (askN bs a most).2.2)) ∧ w.grownBy w' (some p) := by
  obtain ⟨ad, cp, rfl, _, _, _⟩ := hown.byts
  have Hmost : Hid (most ≤ 9223372036854775807) := hmost
  clear hmost
  go_enter Try.func85, Try.ntmps85
  go_wp2_with fail
  refine (number_any p _ a base bs _ hc hown ha hbs).mono ?_
  rintro e w1 ⟨n, c, hr, hc1, hac, hg1⟩
  rcases hr with ⟨rfl, hr⟩ | ⟨rfl, hr⟩
  · by_cases hneg : most < 0
    · have Hask : Hid (askN bs a most = (0, 3, 0)) := by show _ = _; simp [askN, hr, hneg]
      clear hr
      go_wp2
      go_ret2
      rw [Hask.out]
      exact ⟨rfl, ⟨a + c, hc1, hac, by simp⟩, hg1⟩
    · by_cases hlong : most < (n : Int)
      · have Hask : Hid (askN bs a most = (0, 3, 0)) := by show _ = _; simp [askN, hr, hlong]
        have hw : IntKind.u64.wrap most = most := by
          obtain ⟨m, rfl⟩ := Int.eq_ofNat_of_zero_le (show 0 ≤ most by omega)
          exact u64_wrap_small m (by have := Hmost.out; omega)
        clear hr
        go_wp2
        go_ret2
        rw [Hask.out]
        exact ⟨rfl, ⟨a + c, hc1, hac, by simp⟩, hg1⟩
      · have hw : IntKind.u64.wrap most = most := by
          obtain ⟨m, rfl⟩ := Int.eq_ofNat_of_zero_le (show 0 ≤ most by omega)
          exact u64_wrap_small m (by have := Hmost.out; omega)
        by_cases hleft : bs.length - (a + c) < n
        · have Hask : Hid (askN bs a most = (0, 7, 0)) := by show _ = _; simp [askN, hr, hneg, hlong, hleft]
          clear hr
          have hleft' : ((bs.length - (a + c) : Nat) : Int) < (n : Int) := by omega
          have hl2 : bs.length - (a + c) ≤ 1099511627776 := by omega
          generalize hL : bs.length - (a + c) = L at hleft' hl2
          have HL : Hid (bs.length - (a + c) = L) := hL
          clear hL hleft
          go_wp2_with (go_at_call 83; refine (Left_any p ad bs.length cp (a + c) _ hc1 hac hbs).mono ?_; rintro e w2 ⟨rfl, q, rfl⟩; rw [HL.out])
          go_ret2
          rw [Hask.out]
          exact ⟨rfl, ⟨a + c, hc1.drewN _, hac, by simp⟩, grow_drewN hg1 _⟩
        · have Hask : Hid (askN bs a most = (n, 0, c)) := by show _ = _; simp [askN, hr, hneg, hlong, hleft]
          clear hr
          have hleft' : ¬ ((bs.length - (a + c) : Nat) : Int) < (n : Int) := by omega
          have hl2 : bs.length - (a + c) ≤ 1099511627776 := by omega
          have hn : (n : Int) ≤ 1099511627776 := by omega
          generalize hL : bs.length - (a + c) = L at hleft' hl2
          have HL : Hid (bs.length - (a + c) = L) := hL
          clear hL hleft
          go_wp2_with (go_at_call 83; refine (Left_any p ad bs.length cp (a + c) _ hc1 hac hbs).mono ?_; rintro e w2 ⟨rfl, q, rfl⟩; rw [HL.out])
          go_ret2
          rw [Hask.out]
          exact ⟨rfl, ⟨a + c, hc1.drewN _, hac, fun _ => rfl⟩, grow_drewN hg1 _⟩
  · have Hask : Hid (askN bs a most = (0, 7, 0)) := by show _ = _; simp [askN, hr]
    clear hr
    go_wp2
    go_ret2
    rw [Hask.out]
    exact ⟨rfl, ⟨a + c, hc1, hac, by simp⟩, hg1⟩

/-- P1.3: the text, the error, how many bytes are gone over -/
def askT (bs : List UInt8) (a : Nat) (most : Int) : List UInt8 × Nat × Nat :=
  if (askN bs a most).2.1 = 0 then ((bs.drop (a + (askN bs a most).2.2)).take (askN bs a most).1, 0, (askN bs a most).2.2 + (askN bs a most).1) else ([], (askN bs a most).2.1, 0)

theorem askN_ok {bs : List UInt8} {a : Nat} {most : Int} (h : (askN bs a most).2.1 = 0) : a + (askN bs a most).2.2 + (askN bs a most).1 ≤ bs.length ∧ a < bs.length := by
  unfold askN at *
  cases hg : Wm.getU 0 (bs.drop a) with
  | none => rw [hg] at h; simp at h
  | some q =>
    obtain ⟨n, c⟩ := q
    rw [hg] at h
    simp only at h ⊢
    by_cases h1 : most < 0 ∨ most < (n : Int)
    · rw [if_pos h1] at h; simp at h
    rw [if_neg h1] at h ⊢
    by_cases h2 : bs.length - (a + c) < n
    · rw [if_pos h2] at h; simp at h
    rw [if_neg h2]
    have := (Wm.put_get hg).2.1
    have h3 := (Wm.put_get hg).2.2.1
    simp only [List.length_drop] at this
    exact ⟨by simp only; omega, by omega⟩

set_option maxRecDepth 100000 in
set_option maxHeartbeats 1000000 in
theorem Text_any (p : Nat) (v : Value) (a base : Nat) (bs : List UInt8) (most : Int) (w : World) (hc : HasCur w p v a) (hown : Own w base v bs) (ha : a ≤ bs.length) (hbs : bs.length ≤ 1099511627776) (hmost : most ≤ 9223372036854775807) :
    Calls Try.prog 71 #[.pointer (some ⟨p, 0, none⟩), .int .i64 most] w fun e w' => e = .returned (.tuple #[.string (str (askT bs a most).1), .int .i64 ((askT bs a most).2.1 : Int)]) ∧
      HasCur w' p v (a + (askT bs a most).2.2) ∧ w.grownBy w' (some p) := by
  have hmf : ∀ (fn : Fn) (first cap : Array Value) (w : World), (Instr.makeFunc fn first cap).run Try.prog w = .ok (.func fn first cap) w := fun _ _ _ _ => rfl
  have hp := hc.lt
  have c1 := hc.cell1
  have Hmost : Hid (most ≤ 9223372036854775807) := hmost
  clear hmost
  go_enter_defers Try.func71, Try.ntmps71
  go_wp2_with fail
  have b0 := ((Box.new w (.pointer (some ⟨p, 0, none⟩)) 76).alloc (.cells #[.int .i64 0] 29)).alloc (.cells #[.int .i64 (a : Int)] 3)
  have b1 := (Box.new (w.alloc (.cells #[.pointer (some ⟨p, 0, none⟩)] 76)) (.int .i64 0) 29).alloc (.cells #[.int .i64 (a : Int)] 3)
  have b2 := Box.new ((w.alloc (.cells #[.pointer (some ⟨p, 0, none⟩)] 76)).alloc (.cells #[.int .i64 0] 29)) (.int .i64 (a : Int)) 3
  simp only [World.size_alloc] at b1 b2
  have hc3 := ((hc.alloc (.cells #[.pointer (some ⟨p, 0, none⟩)] 76)).alloc (.cells #[.int .i64 0] 29)).alloc (.cells #[.int .i64 (a : Int)] 3)
  have ho3 := ((hown.alloc (.cells #[.pointer (some ⟨p, 0, none⟩)] 76)).alloc (.cells #[.int .i64 0] 29)).alloc (.cells #[.int .i64 (a : Int)] 3)
  have hg3 := grow_alloc (grow_alloc (grow_alloc (grownBy_refl w (some p)) (.cells #[.pointer (some ⟨p, 0, none⟩)] 76)) (.cells #[.int .i64 0] 29)) (.cells #[.int .i64 (a : Int)] 3)
  refine (count_any p v a base bs most _ hc3 ho3 ha hbs Hmost.out).mono ?_
  rintro e w1 ⟨rfl, ⟨x, hc1, hx, hxa⟩, hg1⟩
  have ho1 := ho3.kept hc3 hg1
  replace b0 := b0.kept hg1 (by simp; omega)
  replace b1 := b1.kept hg1 (by simp; omega)
  replace b2 := b2.kept hg1 (by simp; omega)
  replace hg1 := grownBy_trans hg3 hg1
  clear hg3 hc3 ho3 c1
  generalize hH : w.heap.size = H at *
  have HH : Hid (w.heap.size = H) := hH
  clear hH
  have d0 := b0.cell
  have d1 := b1.cell
  have d2 := b2.cell
  have f1 := b1.free
  have hpH : p < H := hp
  clear hc
  by_cases her : (askN bs a most).2.1 = 0
  · have hok := askN_ok her
    have Hask : Hid (askT bs a most = ((bs.drop (a + (askN bs a most).2.2)).take (askN bs a most).1, 0, (askN bs a most).2.2 + (askN bs a most).1)) := by show _ = _; rw [askT, if_pos her]
    have hxe := hxa her
    rw [her]
    generalize (askN bs a most).1 = n at *
    generalize (askN bs a most).2.2 = c at *
    subst hxe
    clear her hxa
    rcases ho1.2 with ⟨hv0, h0⟩ | ⟨g, cap, cur, hv, hgb, hgg, hle, hcm, hcs, htk⟩
    · omega
    have hgp : ¬ g = p := fun e => ho1.ne_cur hc1 (by rw [hv, ← e]; rfl)
    have hgH : ¬ g = H + 1 := by
      intro e; subst e; unfold Box at b1; rw [hgg] at b1; simp at b1
    subst hv
    have e0 := hc1.cell0
    have e1 := hc1.cell1
    have g1 := hc1.free 1
    have hby : Byts w1 w1.heap.size (.slice (some ⟨g, 0, none⟩) bs.length cap) bs := ho1.byts
    clear htk hcs hgg
    obtain ⟨l, hl⟩ : ∃ l, l = a + c := ⟨_, rfl⟩
    rw [← hl] at e1 hc1
    have i1 : (0 : Int) ≤ (l : Int) := by omega
    have i2 : (l : Int) ≤ (l : Int) + (n : Int) := by omega
    have i3 : (l : Int) + (n : Int) ≤ (cap : Int) := by omega
    have HL : Hid (l = a + c) := hl
    have hln : l + n ≤ bs.length := by omega
    have hcap : cap ≤ 9223372036854775807 := hcm
    have hcv := conv_byts ((((hby.kept (grownBy_set w1 (H + 1) 0 (.int .i64 0)) (Nat.le_refl _) (by simpa using hgH)).kept (grownBy_set _ p 1 (.int .i64 ((l : Int) + (n : Int)))) (by simp [World.setCell]) (by simpa using hgp)).kept (grow_drew (grownBy_refl _ (some p))) (by simp [World.setCell]) (by simpa using hgp)).sub (cap := cap) l n hln (by omega))
    rw [Nat.add_sub_cancel_left] at hcv
    have HT : Hid (str (askT bs a most).1 = str ((bs.drop l).take n)) := by rw [Hask.out, HL.out]; rfl
    clear hl hok
    generalize ht : (bs.drop l).take n = t at hcv HT
    clear ht
    rcases Nat.eq_or_lt_of_le (show l ≤ cap by omega) with hcl | hcl
    · subst hcl
      have es : (Value.slice (some ⟨g, 0, none⟩) n (l - l)) = .slice (some ⟨g, 0, none⟩) 0 0 := by rw [show n = 0 by omega, Nat.sub_self]
      rw [if_pos rfl, es] at hcv
      clear es
      go_wp2
      go_region
      all_goals try go_wp2
      refine leaves_cons (f := 84) (args := #[.pointer (some ⟨H, 0, none⟩), .pointer (some ⟨H + 1 + 1, 0, none⟩), .pointer (some ⟨H + 1, 0, none⟩)]) (by simp) (by simp [go_sem]) ?_
      refine (closeT_ok H (H + 1 + 1) (H + 1) p (a : Int) .returning _ ?_ ?_ ?_).mono ?_
      · exact (((b0.set_other (by omega) _).set_other (by omega) _).set_other (by omega) _).cell
      · exact (((b2.set_other (by omega) _).set_other (by omega) _).set_other (by omega) _).cell
      · exact (((b1.set _).set_other (by omega) _).set _).cell
      rintro e u' w'' ⟨rfl, rfl, rfl⟩
      have fin := (((b1.set (.int .i64 0)).set_other (by omega : H + 1 ≠ p) (j := 1) (.int .i64 ((l : Int) + (n : Int)))).set (.int .i64 0)).cell
      simp only [Leaves, settle, results, Try.results71]
      simp [go_sem, fin]
      rw [HT.out, Hask.out]
      refine ⟨⟨rfl, rfl⟩, ?_, grow_drew (grow_set_new (grow_set (grow_set_new hg1 (by rw [HH.out]; omega) _ _) _ _) (by rw [HH.out]; omega) _ _)⟩
      have h5 := ((hc1.set_other (by omega : p ≠ H + 1) (j := 0) (.int .i64 0)).set (l + n)).set_other (by omega : p ≠ H + 1) (j := 0) (.int .i64 0)
      have e5 : a + (c + n) = l + n := by rw [HL.out]; omega
      have e6 : ((l + n : Nat) : Int) = (l : Int) + (n : Int) := by omega
      rw [e6] at h5
      rw [e5]
      exact h5
    · have hne : ¬ cap = l := by omega
      rw [if_neg hne] at hcv
      go_wp2
      go_region
      all_goals try go_wp2
      refine leaves_cons (f := 84) (args := #[.pointer (some ⟨H, 0, none⟩), .pointer (some ⟨H + 1 + 1, 0, none⟩), .pointer (some ⟨H + 1, 0, none⟩)]) (by simp) (by simp [go_sem]) ?_
      refine (closeT_ok H (H + 1 + 1) (H + 1) p (a : Int) .returning _ ?_ ?_ ?_).mono ?_
      · exact (((b0.set_other (by omega) _).set_other (by omega) _).set_other (by omega) _).cell
      · exact (((b2.set_other (by omega) _).set_other (by omega) _).set_other (by omega) _).cell
      · exact (((b1.set _).set_other (by omega) _).set _).cell
      rintro e u' w'' ⟨rfl, rfl, rfl⟩
      have fin := (((b1.set (.int .i64 0)).set_other (by omega : H + 1 ≠ p) (j := 1) (.int .i64 ((l : Int) + (n : Int)))).set (.int .i64 0)).cell
      simp only [Leaves, settle, results, Try.results71]
      simp [go_sem, fin]
      rw [HT.out, Hask.out]
      refine ⟨⟨rfl, rfl⟩, ?_, grow_drew (grow_set_new (grow_set (grow_set_new hg1 (by rw [HH.out]; omega) _ _) _ _) (by rw [HH.out]; omega) _ _)⟩
      have h5 := ((hc1.set_other (by omega : p ≠ H + 1) (j := 0) (.int .i64 0)).set (l + n)).set_other (by omega : p ≠ H + 1) (j := 0) (.int .i64 0)
      have e5 : a + (c + n) = l + n := by rw [HL.out]; omega
      have e6 : ((l + n : Nat) : Int) = (l : Int) + (n : Int) := by omega
      rw [e6] at h5
      rw [e5]
      exact h5
  · have Hask : Hid (askT bs a most = ([], (askN bs a most).2.1, 0)) := by show _ = _; rw [askT, if_neg her]
    generalize hE : (askN bs a most).2.1 = er at *
    generalize (askN bs a most).1 = n at *
    clear hE hxa
    have her' : ((er : Int) != 0) = true := by rw [bne_iff_ne]; omega
    go_wp2
    go_region
    all_goals try go_wp2
    refine leaves_cons (f := 84) (args := #[.pointer (some ⟨H, 0, none⟩), .pointer (some ⟨H + 1 + 1, 0, none⟩), .pointer (some ⟨H + 1, 0, none⟩)]) (by simp) (by simp [go_sem]) ?_
    refine (closeT_back H (H + 1 + 1) (H + 1) p (a : Int) (x : Int) er .returning _ ?_ ?_ ?_ her' ?_ ?_).mono ?_
    · exact ((b0.set_other (by omega) _).set_other (by omega) _).cell
    · exact ((b2.set_other (by omega) _).set_other (by omega) _).cell
    · exact ((b1.set _).set _).cell
    · exact ((hc1.set_other (by omega) _).set_other (by omega) _).cell1
    · exact ((hc1.set_other (by omega) _).set_other (by omega) _).free 1
    rintro e u' w'' ⟨rfl, rfl, rfl⟩
    have fin := (((b1.set (.int .i64 (er : Int))).set (.int .i64 (er : Int))).set_other (by omega : H + 1 ≠ p) (j := 1) (.int .i64 (a : Int))).cell
    simp only [Leaves, settle, results, Try.results71]
    simp [go_sem, fin]
    rw [Hask.out]
    exact ⟨⟨rfl, rfl⟩, ((hc1.set_other (by omega) _).set_other (by omega) _).set a, grow_drew (grow_set (grow_set_new (grow_set_new hg1 (by rw [HH.out]; omega) _ _) (by rw [HH.out]; omega) _ _) _ _)⟩
end Go.Proofs.Ytplfcpbjlhobeaa
