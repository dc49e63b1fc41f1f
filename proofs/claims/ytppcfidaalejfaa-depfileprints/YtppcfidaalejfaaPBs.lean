/-
  TEXTS AND THEIR BYTES; segments by their bytes; a text behind a row of bytes.
-/
import Derived.Test.YtppcfidaalejfaaBytesL
import Derived.Test.YtppcfidaalejfaaPStem
import Derived.Test.YtppcfidaalejfaaRec
import Derived.Test.YtppcfidaalejfaaKit
namespace Go.Proofs.Ytppcfidaalejfaa
open Go.RowKit

/-- a text's bytes -/
abbrev bs (s : ByteArray) : List UInt8 := s.data.toList
theorem bs_length (s : ByteArray) : (bs s).length = s.size := by rw [Array.length_toList]; rfl

theorem okB_iff (c : UInt8) : Pm.okB c = decide ((97 ≤ c.toNat ∧ c.toNat ≤ 122) ∨ (48 ≤ c.toNat ∧ c.toNat ≤ 57) ∨ c.toNat = 95 ∨ c.toNat = 46 ∨ c.toNat = 45) := by
  have h : ∀ n : Fin 256, Pm.okB (UInt8.ofNat n.1) = decide ((97 ≤ n.1 ∧ n.1 ≤ 122) ∨ (48 ≤ n.1 ∧ n.1 ≤ 57) ∨ n.1 = 95 ∨ n.1 = 46 ∨ n.1 = 45) := by decide +kernel
  have := h ⟨c.toNat, c.toNat_lt⟩
  simpa using this
theorem seg_no {s : List UInt8} (h : s.length < 1 ∨ 32 < s.length ∨ s = [46] ∨ s = [46, 46]) : Pm.seg s = false := by
  unfold Pm.seg
  rcases h with h | h | rfl | rfl
  · rw [show decide (1 ≤ s.length) = false from decide_eq_false (by omega)]; rfl
  · rw [show decide (s.length ≤ 32) = false from decide_eq_false (by omega)]; simp
  · rfl
  · rfl
theorem seg_all {s : List UInt8} (h1 : ¬ s.length < 1) (h2 : ¬ 32 < s.length) (h3 : s ≠ [46]) (h4 : s ≠ [46, 46]) : Pm.seg s = s.all Pm.okB := by
  unfold Pm.seg
  rw [show decide (1 ≤ s.length) = true from decide_eq_true (by omega), show decide (s.length ≤ 32) = true from decide_eq_true (by omega), show decide (s = [46]) = false from decide_eq_false h3, show decide (s = [46, 46]) = false from decide_eq_false h4]
  rfl
theorem bs_extract (s : ByteArray) (a b : Nat) : bs (s.extract a b) = ((bs s).drop a).take (b - a) := by
  simp [bs, ByteArray.data_extract, Array.toList_extract, List.extract_eq_take_drop]
theorem bs_inj {s t : ByteArray} (h : bs s = bs t) : s = t := ByteArray.ext (Array.toList_inj.1 h)
/-- a text's size -/
def szOf : Value → Nat
  | .string s => s.size
  | _ => 0
theorem bs_bV (s : ByteArray) : Lib.strCells s = bV (bs s) := rfl
/-- 'append(out, x...)' on a row of the call's own, x a text -/
theorem wpList_append_text {ops : Array Oper} {rest : List Oper} {o : Oper} {a : Act} {Q : Exit → Act → World → Prop} {w : World} (hgd : o.guard = none) (s x : Operand)
    (ho : o.op = .call { callee := .builtin .append, args := #[s, x], argTypes := #[54, 9] }) (base : Nat) (v : Value) (l : List UInt8) (t : ByteArray)
    (hs : a.eval s = v) (hown : Own w base v l) (hx : a.eval x = .string t) (hlen : Hid (l.length + t.size ≤ 1099511627800)) (hbase : base ≤ w.heap.size)
    (h : ∀ v' w', Own w' base v' (l ++ bs t) → Below base w w' → wpList Try.prog ops Q rest (a.put o.dst v') w') :
    wpList Try.prog ops Q (o :: rest) a w := by
  obtain ⟨i0, hi, hz0, hz1, hz2⟩ := info_parts info5
  have hl := hlen.out
  refine Lib.wpList_append_own_string _ hgd s x 54 9 ho base 5 i0 Try.underlying54 Try.underlying9 hi hz0 hz1 hz2 v _ _ hs hown t hx ?_ ?_ hbase ?_
  · unfold maxLen; omega
  · omega
  · intro v' w' h1 h2 _
    refine h v' w' ?_ ((Below.refl base w).grown h2 hbase fun k hk => (World.ownsRow.lt hown k hk).1)
    unfold Own
    rw [bV_append, List.length_append, bs_length]
    exact h1
theorem beq_lit (x n : UInt8) : ((x.toNat : Int) == (n.toNat : Int)) = decide (x = n) := by
  by_cases h : x = n
  · subst h; simp
  · rw [decide_eq_false h, beq_eq_false_iff_ne]
    intro e
    exact h (UInt8.toNat_inj.1 (by omega))

end Go.Proofs.Ytppcfidaalejfaa

namespace Go.Proofs.Ytppcfidaalejfaa
open Go.RowKit

theorem bs_str (l : List UInt8) : bs (str l) = l := by simp [bs, str]
/-- rows of texts, by their bytes -/
def BR : Rc (List UInt8) where
  e := 9
  st := 30
  k := 1
  bytes := 16
  z := .string .empty
  enc s := [.string (str s)]
  pos := by decide
  len _ := rfl
  one f u hu := by
    simp only [List.mem_cons, List.not_mem_nil, or_false] at hu
    subst hu; rfl
  info := by kernel_rfl
  under := Try.underlying30
  zk := rfl
  small := by decide
theorem BR.ix {w : World} {B : Nat} {v : Value} {l : List (List UInt8)} (h : BR.Sl w B v l) {j : Nat} (hj : j < l.length) :
    ∃ b o c, v = .slice (some ⟨b, o, none⟩) l.length c ∧ b < B ∧ w.cell? ⟨b, o + j, none⟩ = some (.string (str l[j])) := by
  obtain ⟨b, o, c, rfl, hb, hc⟩ := h.cells j hj
  refine ⟨b, o, c, rfl, hb, ?_⟩
  have := hc 0 _ (by decide) rfl
  rwa [Nat.add_zero, show j * BR.k = j from Nat.mul_one j] at this
theorem BR.at {w : World} {B : Nat} {v : Value} {l : List (List UInt8)} (h : BR.Sl w B v l) (j : Nat) (hj : j < l.length) :
    ∃ b o c, v = .slice (some ⟨b, o, none⟩) l.length c ∧ b < B ∧ w.cell? ⟨b, o + j, none⟩ = some (.string (str (l.getD j []))) := by
  have e : l.getD j [] = l[j] := by simp [List.getD, List.getElem?_eq_getElem hj]
  rw [e]
  exact BR.ix h hj

end Go.Proofs.Ytppcfidaalejfaa

namespace Go.Proofs.Ytppcfidaalejfaa
open Go.RowKit

/-- w' is w, but for the blocks of S and what is new -/
structure Turn (S : List Nat) (w w' : World) : Prop where
  os : w'.os = w.os
  tape : w'.tape = w.tape
  output : w'.output = w.output
  size : w.heap.size ≤ w'.heap.size
  block : ∀ k, k < w.heap.size → k ∉ S → w'.heap[k]? = w.heap[k]?

theorem Turn.refl (S : List Nat) (w : World) : Turn S w w := ⟨rfl, rfl, rfl, Nat.le_refl _, fun _ _ _ => rfl⟩
theorem Turn.trans {S S' : List Nat} {a b c : World} (h : Turn S a b) (k : Turn S' b c) (hs : ∀ x, x ∈ S' → x < a.heap.size → x ∈ S) : Turn S a c :=
  ⟨k.os.trans h.os, k.tape.trans h.tape, k.output.trans h.output, Nat.le_trans h.size k.size, fun i hi hn => (k.block i (Nat.lt_of_lt_of_le hi h.size) (fun hx => hn (hs i hx hi))).trans (h.block i hi hn)⟩
theorem Turn.mono {S S' : List Nat} {a b : World} (h : Turn S a b) (hs : ∀ x, x ∈ S → x < a.heap.size → x ∈ S') : Turn S' a b :=
  ⟨h.os, h.tape, h.output, h.size, fun i hi hn => h.block i hi (fun hx => hn (hs i hx hi))⟩
theorem Turn.of_below {a b : World} (h : Below a.heap.size a b) : Turn [] a b := ⟨h.os, h.tape, h.output, h.size, fun i hi _ => h.block i hi⟩
theorem Turn.of_grown {a b : World} {row : Option Nat} (h : a.grownBy b row) : Turn row.toList a b := ⟨h.os, h.tape, h.output, h.size, fun i hi hn => h.block i hi (fun e => hn (by subst e; simp))⟩
theorem Turn.below {S : List Nat} {a b : World} (h : Turn S a b) (hs : ∀ x, x ∈ S → a.heap.size ≤ x) : Below a.heap.size a b :=
  ⟨h.os, h.tape, h.output, h.size, fun i hi => h.block i hi (fun hx => by have := hs i hx; omega)⟩
theorem Turn.alloc {S : List Nat} {a b : World} (h : Turn S a b) (o : Obj) : Turn S a (b.alloc o) :=
  h.trans (Turn.of_below ((Below.refl _ b).alloc (Nat.le_refl _) o)) (by simp)
theorem Turn.drew {S : List Nat} {a b : World} (h : Turn S a b) : Turn S a b.drew := ⟨h.os, h.tape, h.output, h.size, h.block⟩
theorem Turn.set {S : List Nat} {a b : World} (h : Turn S a b) {p : Addr} (hp : p.block < a.heap.size → p.block ∈ S) (v : Value) : Turn S a (b.setCell p v) :=
  ⟨h.os, h.tape, h.output, by have := h.size; simpa [World.setCell] using this, fun i hi hn => (Below.heap_setCell b p v i (fun e => hn (by subst e; exact hp hi))).trans (h.block i hi hn)⟩
theorem Turn.belowTrans {S : List Nat} {a b c : World} (h : Turn S a b) (k : Below b.heap.size b c) : Turn S a c := h.trans (Turn.of_below k) (by simp)
theorem Turn.grow {S : List Nat} {a b c : World} {row : Option Nat} (h : Turn S a b) (k : b.grownBy c row) (hs : ∀ x, row = some x → x < a.heap.size → x ∈ S) : Turn S a c :=
  h.trans (Turn.of_grown k) (fun x hx hl => hs x (by simpa using hx) hl)

theorem Turn.drewN {S : List Nat} {a b : World} (h : Turn S a b) (q : Nat) : Turn S a (b.drewN q) := ⟨h.os, h.tape, h.output, h.size, h.block⟩
/-- a row whose block is not among those that are turned -/
theorem Row.turn {w w' : World} {base : Nat} {e : TypeId} {size : Nat} {v : Value} {n : Nat} {xs : List Value} {S : List Nat} (h : w.ownsRow base e size v n xs) (ht : Turn S w w') (hs : ∀ g, v.ownBlock = some g → g ∉ S) : w'.ownsRow base e size v n xs := by
  refine ⟨h.1, ?_⟩
  have hlt := World.ownsRow.lt h
  rcases h.2 with h | ⟨g, cap, cur, rfl, h2, h3, h4⟩
  · exact .inl h
  · exact .inr ⟨g, cap, cur, rfl, h2, (ht.block g (hlt g rfl).2 (hs g rfl)).trans h3, h4⟩
/-- a row's block has the row's type -/
theorem Row.ne {w : World} {base : Nat} {e : TypeId} {size : Nat} {v : Value} {n : Nat} {xs : List Value} {p : Nat} {cs : Array Value} {t : TypeId} {f : Nat × Nat} (h : w.ownsRow base e size v n xs) (hp : w.heap[p]? = some (.cells cs t f)) (ht : t ≠ e) {g : Nat} (hg : v.ownBlock = some g) : g ≠ p := by
  rintro rfl
  rcases h.2 with ⟨rfl, _⟩ | ⟨k, cap, cur, rfl, _, hgg, _⟩
  · simp [Value.ownBlock] at hg
  · simp only [Value.ownBlock, Option.some.injEq] at hg
    subst hg
    rw [hgg] at hp
    simp only [Option.some.injEq, Obj.cells.injEq] at hp
    exact ht hp.2.1.symm
theorem Turn.cell {S : List Nat} {w w' : World} (h : Turn S w w') {p : Addr} (hp : p.block < w.heap.size) (hs : p.block ∉ S) : w'.cell? p = w.cell? p := World.cell?_of_block (h.block p.block hp hs)
theorem Turn.below' {S : List Nat} {B : Nat} {W W' : World} (h : Turn S W W') (hB : B ≤ W.heap.size) (hs : ∀ x ∈ S, B ≤ x) : Below B W W' :=
  ⟨h.os, h.tape, h.output, h.size, fun k hk => h.block k (by omega) (fun hx => by have := hs k hx; omega)⟩

end Go.Proofs.Ytppcfidaalejfaa
