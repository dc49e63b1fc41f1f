/-
  DERIVED: THE SHELF's CONTRACTS AT THIS DUMP, IN PLAIN WORDS (tools/lay-plain.mjs out of 'YtnobmgkdieaclaaGreatDoorAcLaid.lean', which tools/lay-shelf.mjs wrote): THE SAME DECLARATIONS UNDER THE SAME NAMES: 'import', 'namespace', 'open', 'def', 'theorem' AND NOTHING ELSE: no command of the shelf's: FOR A HAND-IN. Each laying: the table of numbers ('.._ren') and one theorem, a field a fact of the dump's own or the kernel's comparison; each contract: ONE APPLICATION.
-/
import Derived.Shelf.Strconv.Itoa4
import Derived.Test.YtnobmgkdieaclaaGreatDoorProg
import Derived.Test.YtnobmgkdieaclaaGreatDoorKit
import Derived.Test.YtnobmgkdieaclaaGreatDoorPBs
import Derived.Test.YtnobmgkdieaclaaGreatDoorAcMore
import Derived.Deep.RegionHeld3
namespace Go.Proofs
open Go.Shelf
def Tryz.itoaA_ren : Go.Shelf.Ren := ⟨fun | 171 => 139 | 243 => 150 | 246 => 159 | 283 => 171 | 284 => 172 | 285 => 173 | 286 => 174 | 129 => 170 | 317 => 181 | 318 => 182 | 319 => 183 | 320 => 184 | 337 => 186 | 338 => 187 | n => n, fun | 3 => 3 | 9 => 9 | 2 => 2 | 4 => 4 | 171 => 198 | 0 => 0 | 53 => 168 | 37 => 78 | 5 => 5 | 173 => 200 | 212 => 208 | 51 => 149 | 20 => 20 | 213 => 209 | 46 => 142 | 232 => 213 | 233 => 214 | n => n, fun | 17 => 4 | 18 => 5 | 19 => 6 | n => n⟩
theorem Tryz.itoaA : Go.Proofs.LaysM.n171 Tryz.prog Tryz.itoaA_ren := {
  mixed := by kernel_rfl
  f129 := Tryz.func170.trans (congrArg some (by kernel_rfl))
  f171 := Tryz.func139.trans (congrArg some (by kernel_rfl))
  f243 := Tryz.func150.trans (congrArg some (by kernel_rfl))
  f246 := Tryz.func159.trans (congrArg some (by kernel_rfl))
  f283 := Tryz.func171.trans (congrArg some (by kernel_rfl))
  f284 := Tryz.func172.trans (congrArg some (by kernel_rfl))
  f285 := Tryz.func173.trans (congrArg some (by kernel_rfl))
  f286 := Tryz.func174.trans (congrArg some (by kernel_rfl))
  f317 := Tryz.func181.trans (congrArg some (by kernel_rfl))
  f318 := Tryz.func182.trans (congrArg some (by kernel_rfl))
  f319 := Tryz.func183.trans (congrArg some (by kernel_rfl))
  f320 := Tryz.func184.trans (congrArg some (by kernel_rfl))
  f337 := Tryz.func186.trans (congrArg some (by kernel_rfl))
  f338 := Tryz.func187.trans (congrArg some (by kernel_rfl))
  t0 := Tryz.underlying0
  a0 := Tryz.isAgg0
  z0 := Tryz.sizeOf0
  v0 := Tryz.zeroValue0
  t2 := Tryz.underlying2
  a2 := Tryz.isAgg2
  z2 := Tryz.sizeOf2
  v2 := Tryz.zeroValue2
  t3 := Tryz.underlying3
  a3 := Tryz.isAgg3
  z3 := Tryz.sizeOf3
  v3 := Tryz.zeroValue3
  t4 := Tryz.underlying4
  a4 := Tryz.isAgg4
  z4 := Tryz.sizeOf4
  v4 := Tryz.zeroValue4
  t5 := Tryz.underlying5
  a5 := Tryz.isAgg5
  z5 := Tryz.sizeOf5
  v5 := Tryz.zeroValue5
  t9 := Tryz.underlying9
  a9 := Tryz.isAgg9
  z9 := Tryz.sizeOf9
  v9 := Tryz.zeroValue9
  t20 := Tryz.underlying20
  a20 := Tryz.isAgg20
  z20 := Tryz.sizeOf20
  v20 := Tryz.zeroValue20
  t37 := Tryz.underlying78
  a37 := Tryz.isAgg78
  z37 := Tryz.sizeOf78
  v37 := Tryz.zeroValue78
  t46 := Tryz.underlying142
  a46 := Tryz.isAgg142
  z46 := Tryz.sizeOf142
  v46 := Tryz.zeroValue142
  t51 := Tryz.underlying149
  a51 := Tryz.isAgg149
  z51 := Tryz.sizeOf149
  v51 := Tryz.zeroValue149
  t53 := Tryz.underlying168
  a53 := Tryz.isAgg168
  z53 := Tryz.sizeOf168
  v53 := Tryz.zeroValue168
  t171 := Tryz.underlying198
  a171 := Tryz.isAgg198
  z171 := Tryz.sizeOf198
  v171 := Tryz.zeroValue198
  t173 := Tryz.underlying200
  a173 := Tryz.isAgg200
  z173 := Tryz.sizeOf200
  v173 := Tryz.zeroValue200
  t212 := Tryz.underlying208
  a212 := Tryz.isAgg208
  z212 := Tryz.sizeOf208
  v212 := Tryz.zeroValue208
  t213 := Tryz.underlying209
  a213 := Tryz.isAgg209
  z213 := Tryz.sizeOf209
  t232 := Tryz.underlying213
  a232 := Tryz.isAgg213
  z232 := Tryz.sizeOf213
  v232 := Tryz.zeroValue213
  t233 := Tryz.underlying214
  a233 := Tryz.isAgg214
  z233 := Tryz.sizeOf214
  v233 := Tryz.zeroValue214
  g17 := by kernel_rfl
  g18 := by kernel_rfl
  g19 := by kernel_rfl
  i0 := by kernel_rfl
  i2 := by kernel_rfl
  i3 := by kernel_rfl
  i4 := by kernel_rfl
  i5 := by kernel_rfl
  i9 := by kernel_rfl
  i20 := by kernel_rfl
  i37 := by kernel_rfl
  i46 := by kernel_rfl
  i51 := by kernel_rfl
  i53 := by kernel_rfl
  i171 := by kernel_rfl
  i173 := by kernel_rfl
  i212 := by kernel_rfl
  i232 := by kernel_rfl
  i233 := by kernel_rfl
  m17 := by kernel_rfl
  m18 := by kernel_rfl
  m19 := by kernel_rfl }
end Go.Proofs

namespace Go.Proofs.YtnobmgkdieaclaaGreatDoor
open Go.RowKit

/-- w' is w, but for the blocks of S and what is new -/
structure Turn (S : List Nat) (w w' : World) : Prop where
  os : w'.os = w.os
  tape : w'.tape = w.tape
  output : w'.output = w.output
  size : w.heap.size ≤ w'.heap.size
  block : ∀ k, k < w.heap.size → k ∉ S → w'.heap[k]? = w.heap[k]?

theorem Turn.refl (S : List Nat) (w : World) : Turn S w w := ⟨rfl, rfl, rfl, Nat.le_refl _, fun _ _ _ => rfl⟩
theorem Turn.trans {S S' : List Nat} {a b c : World} (h : Turn S a b) (k : Turn S' b c) (hs : ∀ x, x ∈ S' → x < a.heap.size → x ∈ S) : Turn S a c :=
  ⟨k.os.trans h.os, k.tape.trans h.tape, k.output.trans h.output, Nat.le_trans h.size k.size, fun i hi hn => (k.block i (Nat.lt_of_lt_of_le hi h.size) (fun hx => hn (hs i hx hi))).trans (h.block i hi hn)⟩
theorem Turn.mono {S S' : List Nat} {a b : World} (h : Turn S a b) (hs : ∀ x, x ∈ S → x < a.heap.size → x ∈ S') : Turn S' a b :=
  ⟨h.os, h.tape, h.output, h.size, fun i hi hn => h.block i hi (fun hx => hn (hs i hx hi))⟩
theorem Turn.of_below {a b : World} (h : Below a.heap.size a b) : Turn [] a b := ⟨h.os, h.tape, h.output, h.size, fun i hi _ => h.block i hi⟩
theorem Turn.of_grown {a b : World} {row : Option Nat} (h : a.grownBy b row) : Turn row.toList a b := ⟨h.os, h.tape, h.output, h.size, fun i hi hn => h.block i hi (fun e => hn (by subst e; simp))⟩
theorem Turn.below {S : List Nat} {a b : World} (h : Turn S a b) (hs : ∀ x, x ∈ S → a.heap.size ≤ x) : Below a.heap.size a b :=
  ⟨h.os, h.tape, h.output, h.size, fun i hi => h.block i hi (fun hx => by have := hs i hx; omega)⟩
theorem Turn.alloc {S : List Nat} {a b : World} (h : Turn S a b) (o : Obj) : Turn S a (b.alloc o) :=
  h.trans (Turn.of_below ((Below.refl _ b).alloc (Nat.le_refl _) o)) (by simp)
theorem Turn.drew {S : List Nat} {a b : World} (h : Turn S a b) : Turn S a b.drew := ⟨h.os, h.tape, h.output, h.size, h.block⟩
theorem Turn.set {S : List Nat} {a b : World} (h : Turn S a b) {p : Addr} (hp : p.block < a.heap.size → p.block ∈ S) (v : Value) : Turn S a (b.setCell p v) :=
  ⟨h.os, h.tape, h.output, by have := h.size; simpa [World.setCell] using this, fun i hi hn => (Below.heap_setCell b p v i (fun e => hn (by subst e; exact hp hi))).trans (h.block i hi hn)⟩
theorem Turn.belowTrans {S : List Nat} {a b c : World} (h : Turn S a b) (k : Below b.heap.size b c) : Turn S a c := h.trans (Turn.of_below k) (by simp)
theorem Turn.grow {S : List Nat} {a b c : World} {row : Option Nat} (h : Turn S a b) (k : b.grownBy c row) (hs : ∀ x, row = some x → x < a.heap.size → x ∈ S) : Turn S a c :=
  h.trans (Turn.of_grown k) (fun x hx hl => hs x (by simpa using hx) hl)

theorem Turn.drewN {S : List Nat} {a b : World} (h : Turn S a b) (q : Nat) : Turn S a (b.drewN q) := ⟨h.os, h.tape, h.output, h.size, h.block⟩
/-- a row whose block is not among those that are turned -/
theorem Row.turn {w w' : World} {base : Nat} {e : TypeId} {size : Nat} {v : Value} {n : Nat} {xs : List Value} {S : List Nat} (h : w.ownsRow base e size v n xs) (ht : Turn S w w') (hs : ∀ g, v.ownBlock = some g → g ∉ S) : w'.ownsRow base e size v n xs := by
  refine ⟨h.1, ?_⟩
  have hlt := World.ownsRow.lt h
  rcases h.2 with h | ⟨g, cap, cur, rfl, h2, h3, h4⟩
  · exact .inl h
  · exact .inr ⟨g, cap, cur, rfl, h2, (ht.block g (hlt g rfl).2 (hs g rfl)).trans h3, h4⟩
/-- a row's block has the row's type -/
theorem Row.ne {w : World} {base : Nat} {e : TypeId} {size : Nat} {v : Value} {n : Nat} {xs : List Value} {p : Nat} {cs : Array Value} {t : TypeId} {f : Nat × Nat} (h : w.ownsRow base e size v n xs) (hp : w.heap[p]? = some (.cells cs t f)) (ht : t ≠ e) {g : Nat} (hg : v.ownBlock = some g) : g ≠ p := by
  rintro rfl
  rcases h.2 with ⟨rfl, _⟩ | ⟨k, cap, cur, rfl, _, hgg, _⟩
  · simp [Value.ownBlock] at hg
  · simp only [Value.ownBlock, Option.some.injEq] at hg
    subst hg
    rw [hgg] at hp
    simp only [Option.some.injEq, Obj.cells.injEq] at hp
    exact ht hp.2.1.symm
theorem Turn.cell {S : List Nat} {w w' : World} (h : Turn S w w') {p : Addr} (hp : p.block < w.heap.size) (hs : p.block ∉ S) : w'.cell? p = w.cell? p := World.cell?_of_block (h.block p.block hp hs)
theorem Turn.below' {S : List Nat} {B : Nat} {W W' : World} (h : Turn S W W') (hB : B ≤ W.heap.size) (hs : ∀ x ∈ S, B ≤ x) : Below B W W' :=
  ⟨h.os, h.tape, h.output, h.size, fun k hk => h.block k (by omega) (fun hx => by have := hs k hx; omega)⟩

end Go.Proofs.YtnobmgkdieaclaaGreatDoor

namespace Go.Proofs.YtnobmgkdieaclaaGreatDoor
open Go.RowKit

namespace Ac
/-- the rows of the table of kinds: first word, least, most, number, body -/
def kw (i : Nat) : List UInt8 := if i = 0 then sEnd else word (i : Int)
def kl (i : Nat) : Int := if i = 1 ∨ i = 2 ∨ i = 8 ∨ i = 11 then 1 else if i = 12 then 2 else 0
def km (i : Nat) : Int := if i = 3 ∨ i = 9 then 9223372036854775807 else kl i
def kn (i : Nat) : Bool := decide (i = 10)
def kb (i : Nat) : Bool := decide (i = 10 ∨ i = 11 ∨ i = 12)
/-- the table's cells -/
def kRow (i : Nat) : List Value := [.string ⟨(kw i).toArray⟩, .int .i64 (kl i), .int .i64 (km i), .bool (kn i), .bool (kb i)]
def kCells : List Value := kRow 0 ++ kRow 1 ++ kRow 2 ++ kRow 3 ++ kRow 4 ++ kRow 5 ++ kRow 6 ++ kRow 7 ++ kRow 8 ++ kRow 9 ++ kRow 10 ++ kRow 11 ++ kRow 12
theorem kCells_length : kCells.length = 65 := rfl
theorem kCells_at : ∀ i : Nat, i < 13 → ∀ f : Nat, f < 5 → kCells[i * 5 + f]? = (kRow i)[f]? := by
  intro i hi f hf
  match i, hi with
  | 0, _ | 1, _ | 2, _ | 3, _ | 4, _ | 5, _ | 6, _ | 7, _ | 8, _ | 9, _ | 10, _ | 11, _ | 12, _ =>
    match f, hf with
    | 0, _ | 1, _ | 2, _ | 3, _ | 4, _ => rfl
theorem digits_dec : ∀ n : Nat, n ≤ 9999 → Lib.decDigits n = digits n := by
  intro n
  induction n using Nat.strongRecOn with
  | ind n ih =>
    intro h
    rw [Lib.decDigits]
    by_cases h1 : n < 10
    · rw [dif_pos h1, digits, if_pos h1]; rfl
    · rw [dif_neg h1, ih (n / 10) (by omega) (by omega), digits_more (by omega) h]; rfl
theorem itoa_digits {n : Nat} (h : n ≤ 9999) : Lib.itoa (n : Int) = digits n := by
  unfold Lib.itoa
  rw [if_neg (by omega), Int.toNat_natCast, digits_dec n h]
/-- a repeat's number, 0 where there is none -/
def numZ (s : List UInt8) : Int := ((number s).getD 0 : Nat)
end Ac

/-- what lies in the program's tables -/
structure Laid (w : World) : Prop where
  kinds : ∀ j u, Ac.kCells[j]? = some u → w.cell? ⟨0, j, none⟩ = some u
  pow : Lib.TabIs Tryz.prog w "internal/strconv.uint64pow10" .u64 Lib.pow10Tab
  size : 7 ≤ w.heap.size
theorem tabIs_block {w w' : World} (h : w'.heap[4]? = w.heap[4]?) (hp : Lib.TabIs Tryz.prog w "internal/strconv.uint64pow10" .u64 Lib.pow10Tab) : Lib.TabIs Tryz.prog w' "internal/strconv.uint64pow10" .u64 Lib.pow10Tab := by
  have hg : Tryz.prog.globalNamed "internal/strconv.uint64pow10" = some 4 := by kernel_rfl
  unfold Lib.TabIs World.var? at *
  rw [hg] at hp ⊢
  simp only [Option.bind_some] at hp ⊢
  rw [h]
  exact hp
theorem Laid.blocks {w w' : World} (h : Laid w) (hs : w.heap.size ≤ w'.heap.size) (hb : ∀ k, k < 7 → w'.heap[k]? = w.heap[k]?) : Laid w' := by
  have hc : ∀ (b o : Nat), b < 7 → w'.cell? ⟨b, o, none⟩ = w.cell? ⟨b, o, none⟩ := fun b o hlt => World.cell?_of_block (hb b hlt)
  refine ⟨fun j u hu => (hc _ j (by decide)).trans (h.kinds j u hu), tabIs_block (hb _ (by decide)) h.pow, Nat.le_trans h.size hs⟩
theorem Laid.below {w w' : World} {B : Nat} (h : Laid w) (hb : Below B w w') (hB : 7 ≤ B) : Laid w' := h.blocks hb.size fun k hk => hb.block k (by omega)
theorem Laid.turn {w w' : World} {S : List Nat} (h : Laid w) (ht : Turn S w w') (hS : ∀ x ∈ S, 7 ≤ x) : Laid w' :=
  h.blocks ht.size fun k hk => ht.block k (by have := h.size; omega) fun hx => by have := hS k hx; omega
theorem Laid.alloc {w : World} (h : Laid w) (o : Obj) : Laid (w.alloc o) := h.below ((Below.refl w.heap.size w).alloc (Nat.le_refl _) o) h.size
theorem Laid.drewN {w : World} (h : Laid w) (n : Nat) : Laid (w.drewN n) := ⟨h.kinds, h.pow, h.size⟩

theorem below_growS {w : World} (k : Nat) (os : Array Obj) : Below w.heap.size w (Sort.grow (w.drewN k) os) := by
  refine ⟨rfl, rfl, rfl, ?_, fun i hi => ?_⟩
  · show w.heap.size ≤ (w.heap ++ os).size
    rw [Array.size_append]; omega
  · show (w.heap ++ os)[i]? = _
    rw [Array.getElem?_append_left hi]
set_option maxRecDepth 100000 in
theorem mayNumber_any (n : Int) (w : World) : Calls Tryz.prog 96 #[.int .i64 n] w fun e w' => e = .returned (.bool (decide (0 ≤ n ∧ n ≤ 1000))) ∧ w' = w := by
  by_cases h0 : 0 ≤ n
  · by_cases h1 : n ≤ 1000
    · rw [decide_eq_true (And.intro h0 h1)]
      go_enter Tryz.func96, Tryz.ntmps96
      go_wp2
      go_ret
      exact ⟨rfl, rfl⟩
    · rw [decide_eq_false (fun h => h1 h.2)]
      go_enter Tryz.func96, Tryz.ntmps96
      go_wp2
      go_ret
      exact ⟨rfl, rfl⟩
  · rw [decide_eq_false (fun h => h0 h.1)]
    go_enter Tryz.func96, Tryz.ntmps96
    go_wp2
    go_ret
    exact ⟨rfl, rfl⟩

theorem Itoa_any (n : Nat) (w : World) (hl : Laid w) (hn : n ≤ 1000) :
    Calls Tryz.prog 139 #[.int .i64 (n : Int)] w fun e w' => e = .returned (.string (str (Ac.digits n))) ∧ Below w.heap.size w w' := by
  refine (Any.strconv_Itoa Tryz.itoaA (n : Int) (by omega) (by omega) w hl.pow).mono ?_
  rintro e w' ⟨rfl, k, os, rfl⟩
  rw [Ac.itoa_digits (by omega)]
  exact ⟨rfl, below_growS k os⟩

end Go.Proofs.YtnobmgkdieaclaaGreatDoor

namespace Go.Proofs.YtnobmgkdieaclaaGreatDoor
open Go.RowKit

/-- a line as it lies in a row -/
structure RawT where
  a : Option Addr
  n : Nat
  c : Nat
def RawT.val (r : RawT) : Value := .slice r.a r.n r.c
/-- rows of lines that lie here read as these -/
def LiRow (w : World) (B : Nat) : List (List (List UInt8)) → List RawT → Prop
  | [], rs => rs = []
  | a :: t, rs => ∃ r rs', rs = r :: rs' ∧ TxR.Sl w B r.val a ∧ LiRow w B t rs'
theorem LiRow.below {w w' : World} {B B' : Nat} (hb : Below B' w w') (hB : B ≤ B') : ∀ {l : List (List (List UInt8))} {rs : List RawT}, LiRow w B l rs → LiRow w' B l rs
  | [], _, h => h
  | _ :: _, _, ⟨r, rs', h1, h2, h3⟩ => ⟨r, rs', h1, h2.below hb hB, LiRow.below hb hB h3⟩
theorem LiRow.mono {w : World} {B B' : Nat} (hB : B ≤ B') : ∀ {l : List (List (List UInt8))} {rs : List RawT}, LiRow w B l rs → LiRow w B' l rs
  | [], _, h => h
  | _ :: _, _, ⟨r, rs', h1, h2, h3⟩ => ⟨r, rs', h1, h2.mono hB, LiRow.mono hB h3⟩
theorem LiRow.len {w : World} {B : Nat} : ∀ {l : List (List (List UInt8))} {rs : List RawT}, LiRow w B l rs → rs.length = l.length
  | [], _, h => by rw [h]; rfl
  | _ :: _, _, ⟨r, rs', h1, _, h3⟩ => by rw [h1, List.length_cons, LiRow.len h3]; rfl
theorem LiRow.at {w : World} {B : Nat} : ∀ {l : List (List (List UInt8))} {rs : List RawT} (_ : LiRow w B l rs) {k : Nat} (hl : k < l.length) (hk : k < rs.length), TxR.Sl w B rs[k].val l[k]
  | [], _, _, k, hl, _ => absurd hl (Nat.not_lt_zero _)
  | _ :: _, _, ⟨r, rs', h1, h2, _⟩, 0, _, _ => by subst h1; exact h2
  | _ :: _, _, ⟨r, rs', h1, _, h3⟩, k + 1, hl, hk => by
    subst h1
    exact LiRow.at h3 (k := k) (by simpa using hl) (by simpa using hk)
theorem TxR.at {w : World} {B : Nat} {v : Value} {l : List (List UInt8)} (h : TxR.Sl w B v l) {k : Nat} (hk : k < l.length) :
    ∃ g o c, v = .slice (some ⟨g, o, none⟩) l.length c ∧ g < B ∧ w.cell? ⟨g, o + k, none⟩ = some (.string (str l[k])) := by
  obtain ⟨g, o, c, e1, hg, hc⟩ := h.cells k hk
  have c0 := hc 0 _ (by decide) rfl
  rw [show o + (k * TxR.k + 0) = o + k by show o + (k * 1 + 0) = _; omega] at c0
  exact ⟨g, o, c, e1, hg, c0⟩

end Go.Proofs.YtnobmgkdieaclaaGreatDoor

namespace Go.Proofs.YtnobmgkdieaclaaGreatDoor
open Go.RowKit

/-- block g holds just these cells and may be written -/
def Rw (W : World) (g : Nat) (cs : Array Value) (t : TypeId) : Prop := W.heap[g]? = some (.cells cs t (0, 0))
theorem Rw.lt {W : World} {g : Nat} {cs : Array Value} {t : TypeId} (h : Rw W g cs t) : g < W.heap.size := by
  rcases Nat.lt_or_ge g W.heap.size with h1 | h1
  · exact h1
  · unfold Rw at h
    rw [Array.getElem?_eq_none h1] at h
    cases h
theorem Rw.cell {W : World} {g : Nat} {cs : Array Value} {t : TypeId} (h : Rw W g cs t) (j : Nat) : W.cell? ⟨g, j, none⟩ = cs[j]? := cell_of_row W g j cs t (0, 0) h
theorem Rw.free {W : World} {g : Nat} {cs : Array Value} {t : TypeId} (h : Rw W g cs t) (j : Nat) : W.frozen? ⟨g, j, none⟩ = false := frozen_of_row W g j cs t h
theorem Rw.below {W W' : World} {B g : Nat} {cs : Array Value} {t : TypeId} (h : Rw W g cs t) (hb : Below B W W') (hB : g < B) : Rw W' g cs t := (hb.block g hB).trans h
theorem Rw.turn {W W' : World} {S : List Nat} {g : Nat} {cs : Array Value} {t : TypeId} (h : Rw W g cs t) (hT : Turn S W W') (hg : g ∉ S) : Rw W' g cs t := (hT.block g h.lt hg).trans h
theorem Rw.new (W : World) (cs : Array Value) (t : TypeId) : Rw (W.alloc (.cells cs t)) W.heap.size cs t := heap_alloc_new W (.cells cs t)
theorem Rw.alloc {W : World} {g : Nat} {cs : Array Value} {t : TypeId} (h : Rw W g cs t) (o : Obj) : Rw (W.alloc o) g cs t := h.below ((Below.refl W.heap.size W).alloc (Nat.le_refl _) o) h.lt
theorem Rw.drewN {W : World} {g : Nat} {cs : Array Value} {t : TypeId} (h : Rw W g cs t) (n : Nat) : Rw (W.drewN n) g cs t := h
theorem Rw.set {W : World} {g : Nat} {cs : Array Value} {t : TypeId} (h : Rw W g cs t) (j : Nat) (v : Value) (hj : j < cs.size) : Rw (W.setCell ⟨g, j, none⟩ v) g (cs.set j v) t := by
  unfold Rw World.setCell
  simp only [Array.getElem?_modify]
  unfold Rw at h
  simp [h, Array.setIfInBounds, hj]
theorem Rw.other {W : World} {g : Nat} {cs : Array Value} {t : TypeId} (h : Rw W g cs t) (p : Addr) (v : Value) (hp : p.block ≠ g) : Rw (W.setCell p v) g cs t := (Below.heap_setCell W p v g (fun e => hp e.symm)).trans h
theorem size_alloc (W : World) (o : Obj) : (W.alloc o).heap.size = W.heap.size + 1 := Array.size_push ..
theorem size_setCell (W : World) (p : Addr) (v : Value) : (W.setCell p v).heap.size = W.heap.size := by simp [World.setCell]
/-- a block of one type is not a row of another -/
theorem Rw.ne_row {w : World} {base : Nat} {e : TypeId} {size : Nat} {v : Value} {n : Nat} {xs : List Value} {p : Nat} {cs : Array Value} {t : TypeId} (hp : Rw w p cs t) (h : w.ownsRow base e size v n xs) (ht : t ≠ e) {g : Nat} (hg : v.ownBlock = some g) : g ≠ p := Row.ne h hp ht hg
theorem Rw.two (w : World) (c0 c1 : Array Value) (t0 t1 : TypeId) : Rw ((w.alloc (.cells c0 t0)).alloc (.cells c1 t1)) w.heap.size c0 t0 ∧ Rw ((w.alloc (.cells c0 t0)).alloc (.cells c1 t1)) (w.heap.size + 1) c1 t1 ∧ Below w.heap.size w ((w.alloc (.cells c0 t0)).alloc (.cells c1 t1)) ∧ ((w.alloc (.cells c0 t0)).alloc (.cells c1 t1)).heap.size = w.heap.size + 1 + 1 := by
  have z1 := size_alloc w (.cells c0 t0)
  refine ⟨(Rw.new w c0 t0).alloc _, ?_, (((Below.refl w.heap.size w).alloc (Nat.le_refl _) _).alloc (by omega) _), by rw [size_alloc, z1]⟩
  have := Rw.new (w.alloc (.cells c0 t0)) c1 t1
  rwa [z1] at this
theorem Rw.three (w : World) (c0 c1 c2 : Array Value) (t0 t1 t2 : TypeId) : Rw (((w.alloc (.cells c0 t0)).alloc (.cells c1 t1)).alloc (.cells c2 t2)) w.heap.size c0 t0 ∧ Rw (((w.alloc (.cells c0 t0)).alloc (.cells c1 t1)).alloc (.cells c2 t2)) (w.heap.size + 1) c1 t1 ∧ Rw (((w.alloc (.cells c0 t0)).alloc (.cells c1 t1)).alloc (.cells c2 t2)) (w.heap.size + 1 + 1) c2 t2 ∧
    Below w.heap.size w (((w.alloc (.cells c0 t0)).alloc (.cells c1 t1)).alloc (.cells c2 t2)) ∧ (((w.alloc (.cells c0 t0)).alloc (.cells c1 t1)).alloc (.cells c2 t2)).heap.size = w.heap.size + 1 + 1 + 1 := by
  obtain ⟨h1, h2, h3, h4⟩ := Rw.two w c0 c1 t0 t1
  refine ⟨h1.alloc _, h2.alloc _, ?_, h3.alloc (by omega) _, by rw [size_alloc, h4]⟩
  have := Rw.new ((w.alloc (.cells c0 t0)).alloc (.cells c1 t1)) c2 t2
  rwa [h4] at this
theorem Rw.put2 {W : World} {g : Nat} {t : TypeId} {x0 x1 : Value} (h : Rw W g #[x0, x1] t) (a0 a1 : Value) : Rw ((W.setCell ⟨g, 0, none⟩ a0).setCell ⟨g, 1, none⟩ a1) g #[a0, a1] t := (h.set 0 a0 (by simp)).set 1 a1 (by simp)
theorem Rw.put4 {W : World} {g : Nat} {t : TypeId} {x0 x1 x2 x3 : Value} (h : Rw W g #[x0, x1, x2, x3] t) (a0 a1 a2 a3 : Value) : Rw ((((W.setCell ⟨g, 0, none⟩ a0).setCell ⟨g, 1, none⟩ a1).setCell ⟨g, 2, none⟩ a2).setCell ⟨g, 3, none⟩ a3) g #[a0, a1, a2, a3] t :=
  (((h.set 0 a0 (by simp)).set 1 a1 (by simp)).set 2 a2 (by simp)).set 3 a3 (by simp)
theorem Turn.put2 (W : World) (g : Nat) (a0 a1 : Value) : Turn [g] W ((W.setCell ⟨g, 0, none⟩ a0).setCell ⟨g, 1, none⟩ a1) := ((Turn.refl [g] W).set (fun _ => by simp) a0).set (fun _ => by simp) a1
theorem Turn.put4 (W : World) (g : Nat) (a0 a1 a2 a3 : Value) : Turn [g] W ((((W.setCell ⟨g, 0, none⟩ a0).setCell ⟨g, 1, none⟩ a1).setCell ⟨g, 2, none⟩ a2).setCell ⟨g, 3, none⟩ a3) :=
  ((((Turn.refl [g] W).set (fun _ => by simp) a0).set (fun _ => by simp) a1).set (fun _ => by simp) a2).set (fun _ => by simp) a3
theorem Turn.put1 (W : World) (g j : Nat) (a : Value) : Turn [g] W (W.setCell ⟨g, j, none⟩ a) := (Turn.refl [g] W).set (fun _ => by simp) a
theorem Turn.bel {S : List Nat} {w W W' : World} (hT : Turn S W W') (h : Below w.heap.size w W) (hs : ∀ x ∈ S, w.heap.size ≤ x) : Below w.heap.size w W' := h.trans (hT.below' h.size hs)
/-- a result that lies in memory, and one in a slot -/
theorem results_row_slot {P : Program} {fn : Func} {p q : Tmp} {ty : TypeId} (h : fn.results = #[.cell p ty, .tmp q]) (tmps : Array Value) (w : World) (g1 : Nat) (t1 : TypeId) (cs : Array Value) (d1 : TypeDesc) (v : Value)
    (hp : tmps.getD p undef = .pointer (some ⟨g1, 0, none⟩)) (hq : tmps.getD q undef = v) (hg1 : Rw w g1 cs t1)
    (hu1 : P.underlying ty = some d1) (hd1 : (match d1 with | .struct _ | .array _ _ => true | _ => false) = true) (hi1 : (P.info? ty).map (·.size) = some cs.size) :
    (results fn tmps).run P w = .ok (.tuple #[.agg cs, v]) w := by
  have hp' : tmps[p]?.getD undef = .pointer (some ⟨g1, 0, none⟩) := by simpa using hp
  have hq' : tmps[q]?.getD undef = v := by simpa using hq
  simp [results, h, hp', hq', asAddr, run_loadVar_row w g1 t1 ty cs (0, 0) d1 hg1 hu1 hd1 hi1]
theorem results_slot_row {P : Program} {fn : Func} {p q : Tmp} {ty : TypeId} (h : fn.results = #[.tmp q, .cell p ty]) (tmps : Array Value) (w : World) (g1 : Nat) (t1 : TypeId) (cs : Array Value) (d1 : TypeDesc) (v : Value)
    (hp : tmps.getD p undef = .pointer (some ⟨g1, 0, none⟩)) (hq : tmps.getD q undef = v) (hg1 : Rw w g1 cs t1)
    (hu1 : P.underlying ty = some d1) (hd1 : (match d1 with | .struct _ | .array _ _ => true | _ => false) = true) (hi1 : (P.info? ty).map (·.size) = some cs.size) :
    (results fn tmps).run P w = .ok (.tuple #[v, .agg cs]) w := by
  have hp' : tmps[p]?.getD undef = .pointer (some ⟨g1, 0, none⟩) := by simpa using hp
  have hq' : tmps[q]?.getD undef = v := by simpa using hq
  simp [results, h, hp', hq', asAddr, run_loadVar_row w g1 t1 ty cs (0, 0) d1 hg1 hu1 hd1 hi1]

end Go.Proofs.YtnobmgkdieaclaaGreatDoor

namespace Go.Proofs.YtnobmgkdieaclaaGreatDoor
open Go.RowKit

theorem below_drewF {B : Nat} {a w : World} (h : Below B a w) (n : Nat) : Below B a (w.drewN n) := ⟨h.os, h.tape, h.output, h.size, h.block⟩
/-- a kind as it is handed on -/
def kAgg (W : ByteArray) (L M : Int) (N Bd : Bool) : Value := .agg #[.string W, .int .i64 L, .int .i64 M, .bool N, .bool Bd]

set_option maxRecDepth 100000 in
theorem takes_any (W : ByteArray) (L M : Int) (N Bd : Bool) (k : Nat) (w : World) : Calls Tryz.prog 95 #[.agg #[.string W, .int .i64 L, .int .i64 M, .bool N, .bool Bd], .int .i64 (k : Int)] w fun e w' => e = .returned (.bool (decide (L ≤ k ∧ (k : Int) ≤ M))) ∧ Below w.heap.size w w' := by
  have hbe := (Below.refl w.heap.size w).alloc (Nat.le_refl _) (.cells #[.string W, .int .i64 L, .int .i64 M, .bool N, .bool Bd] 120)
  by_cases h0 : L ≤ k
  · by_cases h1 : (k : Int) ≤ M
    · rw [decide_eq_true (And.intro h0 h1)]
      go_enter Tryz.func95, Tryz.ntmps95
      go_wp2
      go_ret
      exact ⟨rfl, hbe⟩
    · rw [decide_eq_false (fun h => h1 h.2)]
      go_enter Tryz.func95, Tryz.ntmps95
      go_wp2
      go_ret
      exact ⟨rfl, hbe⟩
  · rw [decide_eq_false (fun h => h0 h.1)]
    go_enter Tryz.func95, Tryz.ntmps95
    go_wp2
    go_ret
    exact ⟨rfl, hbe⟩

/-- a statement's result and whether it is one -/
theorem results_st {fn : Func} {p q : Tmp} (h : fn.results = #[.cell p 75, .tmp q]) (tmps : Array Value) (W : World) {g : Nat} {cs : Array Value} {v : Value} (hR : Rw W g cs 75) (hz : cs.size = 4) (hp : tmps.getD p undef = .pointer (some ⟨g, 0, none⟩)) (hq : tmps.getD q undef = v) :
    (results fn tmps).run Tryz.prog W = .ok (.tuple #[.agg cs, v]) W :=
  results_row_slot h tmps W g _ cs _ v hp hq hR Tryz.underlying75 rfl (by rw [hz]; kernel_rfl)
/-- what stands behind a first word, of a kind with these bounds -/
def Ac.fillP (L M : Int) (N : Bool) (l : List (List UInt8)) : Option (List (List UInt8) × Int) :=
  if N = true then match l with
    | [] => none
    | s :: r => (Ac.number s).bind fun (n : Nat) => if L ≤ r.length ∧ (r.length : Int) ≤ M then some (r, (n : Int)) else none
  else if L ≤ l.length ∧ (l.length : Int) ≤ M then some (l, 0) else none
/-- a statement without a body, or none -/
def StEnd (w : World) (base : Nat) (op : Int) : Option (List (List UInt8) × Int) → Value → Prop
  | none, v => v = .tuple #[.agg #[.int .i64 0, .slice none 0 0, .int .i64 0, .slice none 0 0], .bool false]
  | some (a, n), v => ∃ va, v = .tuple #[.agg #[.int .i64 op, va, .int .i64 n, .slice none 0 0], .bool true] ∧ TxR.Own w base va a

end Go.Proofs.YtnobmgkdieaclaaGreatDoor
