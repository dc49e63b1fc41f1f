/-
  DERIVED: THE SHELF's CONTRACTS AT THIS DUMP, IN PLAIN WORDS (tools/lay-plain.mjs out of 'YtnobmgkdieaclaaGreatDoorIpMul.lean', which tools/lay-shelf.mjs wrote): THE SAME DECLARATIONS UNDER THE SAME NAMES: 'import', 'namespace', 'open', 'def', 'theorem' AND NOTHING ELSE: no command of the shelf's: FOR A HAND-IN. Each laying: the table of numbers ('.._ren') and one theorem, a field a fact of the dump's own or the kernel's comparison; each contract: ONE APPLICATION.
-/
import Derived.Shelf.Bits.Mul64
import Derived.Test.YtnobmgkdieaclaaGreatDoorProg
import Derived.Test.YtnobmgkdieaclaaGreatDoorKit
import Derived.Test.YtnobmgkdieaclaaGreatDoorIpSplit
import Derived.Laws.Externs
import Derived.Deep.RegionHeld3
import Derived.Deep.MidRow
import Derived.Lib.ConvBytes
import Derived.Test.YtnobmgkdieaclaaGreatDoorIbMay
import Derived.Test.YtnobmgkdieaclaaGreatDoorAcLaid
import Derived.Deep.AppendLies
import Derived.Test.YtnobmgkdieaclaaGreatDoorIpPush
namespace Go.Proofs
open Go.Shelf
def Tryz.mulA_ren : Go.Shelf.Ren := ⟨fun | 212 => 123 | 263 => 141 | 264 => 142 | n => n, fun | 46 => 142 | 51 => 149 | 146 => 150 | 53 => 168 | 148 => 169 | n => n, fun | n => n⟩
theorem Tryz.mulA : Go.Proofs.Lays.n212 Tryz.prog Tryz.mulA_ren := {
  mixed := by kernel_rfl
  f212 := Tryz.func123.trans (congrArg some (by kernel_rfl))
  f263 := Tryz.func141.trans (congrArg some (by kernel_rfl))
  f264 := Tryz.func142.trans (congrArg some (by kernel_rfl))
  t46 := Tryz.underlying142
  a46 := Tryz.isAgg142
  z46 := Tryz.sizeOf142
  v46 := Tryz.zeroValue142
  t51 := Tryz.underlying149
  a51 := Tryz.isAgg149
  z51 := Tryz.sizeOf149
  v51 := Tryz.zeroValue149
  t53 := Tryz.underlying168
  a53 := Tryz.isAgg168
  z53 := Tryz.sizeOf168
  v53 := Tryz.zeroValue168
  t146 := Tryz.underlying150
  a146 := Tryz.isAgg150
  z146 := Tryz.sizeOf150
  v146 := Tryz.zeroValue150
  t148 := Tryz.underlying169
  a148 := Tryz.isAgg169
  z148 := Tryz.sizeOf169
  v148 := Tryz.zeroValue169 }
end Go.Proofs

namespace Go.Proofs.YtnobmgkdieaclaaGreatDoor
open Go.RowKit

theorem heap_setCells (g : Nat) (t : TypeId) (fr : Nat × Nat) : ∀ (vs : List Value) (o : Nat) (w : World) (cur : Array Value), w.heap[g]? = some (.cells cur t fr) →
    ∃ cur', (w.setCells g o vs).heap[g]? = some (.cells cur' t fr) ∧ cur'.size = cur.size ∧ ∀ j, cur'[j]? = if o ≤ j ∧ j < o + vs.length ∧ j < cur.size then vs[j - o]? else cur[j]?
  | [], o, w, cur, h => ⟨cur, h, rfl, fun j => by rw [if_neg (by simp; omega)]⟩
  | v :: r, o, w, cur, h => by
    have hlt := (Array.getElem?_eq_some_iff.1 h).1
    have h1 : w.heap[g] = .cells cur t fr := by rw [Array.getElem?_eq_getElem hlt] at h; exact Option.some.inj h
    have h2 : (w.setCell ⟨g, o, none⟩ v).heap[g]? = some (.cells (cur.setIfInBounds o v) t fr) := by
      simp [World.setCell, hlt]
      rw [Array.getElem_modify_self, h1]
    obtain ⟨cur', h3, h4, h5⟩ := heap_setCells g t fr r (o + 1) _ _ h2
    refine ⟨cur', by rw [World.setCells]; exact h3, by simpa using h4, fun j => ?_⟩
    rw [h5 j]
    simp only [Array.size_setIfInBounds, List.length_cons]
    by_cases hj : o = j
    · subst hj
      rw [if_neg (by omega)]
      by_cases hs : o < cur.size
      · rw [if_pos ⟨Nat.le_refl _, by omega, hs⟩]
        simp [hs]
      · rw [if_neg (by omega)]
        simp [hs]
    · by_cases hc : o + 1 ≤ j ∧ j < o + 1 + r.length ∧ j < cur.size
      · rw [if_pos hc, if_pos (by omega), show j - o = (j - (o + 1)) + 1 by omega]
        simp
      · rw [if_neg hc, if_neg (by omega), Array.getElem?_setIfInBounds_ne hj]
theorem heap_setCells_other (g : Nat) {k : Nat} (hk : k ≠ g) : ∀ (vs : List Value) (o : Nat) (w : World), (w.setCells g o vs).heap[k]? = w.heap[k]?
  | [], _, _ => rfl
  | v :: r, o, w => by rw [World.setCells, heap_setCells_other g hk r (o + 1)]; exact Below.heap_setCell w ⟨g, o, none⟩ v k hk
theorem setCells_size (g : Nat) : ∀ (vs : List Value) (o : Nat) (w : World), (w.setCells g o vs).heap.size = w.heap.size ∧ (w.setCells g o vs).os = w.os ∧ (w.setCells g o vs).tape = w.tape ∧ (w.setCells g o vs).output = w.output
  | [], _, _ => ⟨rfl, rfl, rfl, rfl⟩
  | v :: r, o, w => by
    obtain ⟨h1, h2, h3, h4⟩ := setCells_size g r (o + 1) (w.setCell ⟨g, o, none⟩ v)
    rw [World.setCells]
    exact ⟨h1.trans (by simp [World.setCell]), h2, h3, h4⟩
theorem grown_setCells (g o : Nat) (vs : List Value) (w : World) : w.grownBy (w.setCells g o vs) (some g) := by
  obtain ⟨h1, h2, h3, h4⟩ := setCells_size g vs o w
  exact ⟨h2, h3, h4, by omega, fun k _ hn => heap_setCells_other g (fun e => hn (by rw [e])) vs o w⟩

end Go.Proofs.YtnobmgkdieaclaaGreatDoor

namespace Go.Proofs.YtnobmgkdieaclaaGreatDoor
open Go.RowKit Go.Shelf

theorem Mul_one (n : Nat) (w : World) (hn : n ≤ 1000000) : Calls Tryz.prog 123 #[.int .u64 1, .int .u64 (n : Int)] w fun e w' => e = .returned (.tuple #[.int .u64 0, .int .u64 (n : Int)]) ∧ w' = w := by
  refine (Any.bits_Mul Tryz.mulA 1 n (by omega) (by omega) w).mono ?_
  rintro e w' ⟨rfl, rfl⟩
  refine ⟨?_, rfl⟩
  have h1 : 1 * n / 18446744073709551616 = 0 := by omega
  have h2 : 1 * n % 18446744073709551616 = n := by omega
  simp only [h1, h2]
  rfl

/-- the first k of the n cells of block q are u -/
def Pre (w : World) (q : Nat) (u : Value) (n k : Nat) : Prop := ∃ cur : Array Value, w.heap[q]? = some (.cells cur 9 (0, 0)) ∧ n = cur.size ∧ ∀ j, j < k → cur[j]? = some u
theorem Pre.cell {w : World} {q : Nat} {u : Value} {n k : Nat} (h : Pre w q u n k) {j : Nat} (hj : j < k) : w.cell? ⟨q, j, none⟩ = some u := by
  obtain ⟨cur, h1, h2, h3⟩ := h
  rw [cell_of_row w q j cur 9 (0, 0) h1, h3 j hj]
theorem Pre.ex {w : World} {q : Nat} {u : Value} {n k : Nat} (h : Pre w q u n k) {j : Nat} (hj : j < n) : (w.cell? ⟨q, j, none⟩).isSome = true ∧ w.frozen? ⟨q, j, none⟩ = false := by
  obtain ⟨cur, h1, h2, h3⟩ := h
  refine ⟨?_, by simp [World.frozen?, h1]⟩
  rw [cell_of_row w q j cur 9 (0, 0) h1]
  simp
  omega
theorem Pre.set {w : World} {q : Nat} {u : Value} {n k m : Nat} (h : Pre w q u n k) (hm : k + m ≤ n) : Pre (w.setCells q k (List.replicate m u)) q u n (k + m) := by
  obtain ⟨cur, h1, h2, h3⟩ := h
  obtain ⟨cur', h4, h5, h6⟩ := heap_setCells q 9 (0, 0) (List.replicate m u) k w cur h1
  refine ⟨cur', h4, by omega, fun j hj => ?_⟩
  rw [h6 j, List.length_replicate]
  by_cases hjk : j < k
  · rw [if_neg (by omega)]; exact h3 j hjk
  · rw [if_pos ⟨by omega, by omega, by omega⟩, List.getElem?_replicate, if_pos (by omega)]
theorem Pre.copy {w : World} {q : Nat} {ty' : TypeId} {u : Value} {n k m : Nat} (h : Pre w q u n k) (h1 : u.oneCell' = true) (hm : m ≤ k) (hk : k ≤ n) :
    (Builtin.copy_ #[23, 23] ty' #[.slice (some ⟨q, k, none⟩) (n - k) (n - k), .slice (some ⟨q, 0, none⟩) m n]).run Tryz.prog w = .ok (goInt (min m (n - k) : Nat)) (w.setCells q k (List.replicate (min m (n - k)) u)) := by
  have := run_copy_cells (P := Tryz.prog) w 23 23 ty' 9 q k (n - k) (n - k) ⟨q, 0, none⟩ m n (List.replicate (min m (n - k)) u) Tryz.underlying23 (by kernel_rfl) (by rw [List.length_replicate]) ?_ ?_ ?_ ?_
  · rw [List.length_replicate] at this; exact this
  · intro j v hv
    have hj := (List.getElem?_eq_some_iff.1 hv).1
    rw [List.length_replicate] at hj
    rw [List.getElem?_replicate, if_pos hj] at hv
    rw [addr_at, Nat.zero_add, h.cell (by omega)]
    exact hv
  · intro j hj
    rw [List.length_replicate] at hj
    exact (h.ex (by omega)).1
  · intro j hj
    rw [List.length_replicate] at hj
    exact (h.ex (by omega)).2
  · intro v hv
    rw [List.mem_replicate] at hv
    rw [hv.2]; exact h1
theorem slice_from (q n k : Nat) (hk : k < n) (W : World) : (Instr.slice 23 (.slice (some ⟨q, 0, none⟩) n n) (some (.int .i64 (k : Int))) none none).run Tryz.prog W = .ok (.slice (some ⟨q, k, none⟩) (n - k) (n - k)) W := by
  show (Instr.slice TxR.st _ _ _ _).run Tryz.prog W = _
  rw [run_slice_l W TxR.st _ n n (by rw [TxR.elem_st]; exact TxR.under) .i64 (k : Int) (by omega) (by omega), TxR.elem_st, TxR.size_e]
  have : k * TxR.k = k := by show k * 1 = k; omega
  simp [Result.andThen, sliced, addr_at, this]
  omega
theorem Pre.txB {w : World} {q n : Nat} {s : List UInt8} (h : Pre w q (.string (str s)) n n) : TxB w q (List.replicate n s) := by
  obtain ⟨cur, h1, h2, h3⟩ := h
  have : cur = ((List.replicate n s).map fun s => Value.string (str s)).toArray := by
    apply Array.ext
    · simp [h2]
    · intro j hj1 hj2
      have := h3 j (by omega)
      rw [Array.getElem?_eq_getElem hj1] at this
      simpa using this
  unfold TxB Rw
  rw [h1, this]

set_option maxRecDepth 100000 in
set_option maxHeartbeats 2000000 in
theorem Repeat_line (s : List UInt8) (v : Value) (n : Nat) (B : Nat) (w : World) (hv : TxR.Sl w B v [s]) (hB : B ≤ w.heap.size) (hn : n ≤ 1000) :
    Calls Tryz.prog 108 #[v, .int .i64 (n : Int)] w fun e w' => e = .returned (.slice (some ⟨w.heap.size, 0, none⟩) n n) ∧ TxR.Own w' w.heap.size (.slice (some ⟨w.heap.size, 0, none⟩) n n) (List.replicate n s) ∧ Below w.heap.size w w' := by
  obtain ⟨bb, o, cc, rfl, hbB, hc0⟩ := TxR.at hv (k := 0) (by simp)
  change w.cell? ⟨bb, o + 0, none⟩ = some (.string (str s)) at hc0
  have hM := make_texts (n : Int) n rfl (by omega) w
  have hB0 : Below w.heap.size w (w.alloc (.cells ((List.replicate n ([] : List UInt8)).map fun s => Value.string (str s)).toArray 9)) := (Below.refl _ w).alloc (Nat.le_refl _) _
  have hP0 : Pre (w.alloc (.cells ((List.replicate n ([] : List UInt8)).map fun s => Value.string (str s)).toArray 9)) w.heap.size (.string (str s)) n 0 := ⟨_, heap_alloc_new w _, by simp, fun j hj => by omega⟩
  generalize w.alloc (.cells ((List.replicate n ([] : List UInt8)).map fun s => Value.string (str s)).toArray 9) = W0 at *
  have nb : (n : Int) ≤ 1000 := by omega
  have w1 : IntKind.u64.wrap (n : Int) = (n : Int) := by simp [IntKind.wrap, IntKind.signed, IntKind.bits]; omega
  have hMul := Mul_one n w (by omega)
  have hcc : 1 ≤ cc := by
    obtain ⟨ad, c, e, hle⟩ := hv.shape
    simp only [Value.slice.injEq] at e
    rw [e.2.2]; simpa using hle
  by_cases h0 : n = 0
  · subst h0
    have hcp0 : (Builtin.copy_ #[23, 23] 3 #[.slice (some ⟨w.heap.size, 0, none⟩) 0 0, .slice (some ⟨bb, o, none⟩) 1 cc]).run Tryz.prog W0 = .ok (.int .i64 0) W0 := by
      have := run_copy_cells (P := Tryz.prog) W0 23 23 3 9 w.heap.size 0 0 0 ⟨bb, o, none⟩ 1 cc [] Tryz.underlying23 (by kernel_rfl) rfl (by simp) (by simp) (by simp) (by simp)
      exact this
    have hO := hP0.txB.own (Nat.le_refl w.heap.size) (by simp)
    have HE : Hid (TxR.Own W0 w.heap.size (.slice (some ⟨w.heap.size, 0, none⟩) 0 0) (List.replicate 0 s) ∧ Below w.heap.size w W0) := ⟨hO, hB0⟩
    clear hO hB0 hP0 hc0 hv hn
    change Calls _ _ #[_, .int .u64 0] _ fun e w' => e = .returned (.tuple #[.int .u64 0, .int .u64 0]) ∧ _ at hMul
    change (Instr.makeSlice _ (.int .i64 0) (.int .i64 0)).run Tryz.prog w = _ at hM
    show Calls _ _ #[_, .int .i64 0] _ _
    go_enter Tryz.func108, Tryz.ntmps108
    go_wp2_with (first | (go_at_call 123; refine hMul.mono ?_; rintro e w2 ⟨rfl, hw⟩; rw [hw]; clear hw) | fail)
    go_loopw [8] (fun bp wr => bp = .int .i64 0 ∧ wr = W0) (fun _ _ => 0)
    case atStart => exact ⟨rfl, rfl⟩
    case round =>
      obtain ⟨rfl, hw0⟩ := hrel
      rw [hw0]
      go_wp2
      go_ret
      exact ⟨rfl, HE.out⟩
  have n1 : 1 ≤ n := by omega
  have hcp0 : (Builtin.copy_ #[23, 23] 3 #[.slice (some ⟨w.heap.size, 0, none⟩) n n, .slice (some ⟨bb, o, none⟩) 1 cc]).run Tryz.prog W0 = .ok (.int .i64 1) (W0.setCells w.heap.size 0 (List.replicate 1 (.string (str s)))) := by
    have := run_copy_cells (P := Tryz.prog) W0 23 23 3 9 w.heap.size 0 n n ⟨bb, o, none⟩ 1 cc (List.replicate 1 (.string (str s))) Tryz.underlying23 (by kernel_rfl) (by rw [List.length_replicate]; exact (Nat.min_eq_left n1).symm) ?_ ?_ ?_ (by intro v hv; simp at hv; subst hv; rfl)
    · exact this
    · intro j u hu
      have hj : j = 0 := by have := (List.getElem?_eq_some_iff.1 hu).1; simpa using this
      subst hj
      simp at hu
      subst hu
      rw [addr_at, hB0.cell (p := ⟨bb, o + 0, none⟩) (by show bb < _; omega), hc0]
    · intro j hj
      exact (hP0.ex (j := 0 + j) (by simp at hj; omega)).1
    · intro j hj
      exact (hP0.ex (j := 0 + j) (by simp at hj; omega)).2
  have hP1 := hP0.set (m := 1) (by omega)
  have hg0 := grown_setCells w.heap.size 0 (List.replicate 1 (Value.string (str s))) W0
  have hb0 : Below w.heap.size w (W0.setCells w.heap.size 0 (List.replicate 1 (.string (str s)))) := hB0.grown hg0 hB0.size (fun k e => by cases e; exact Nat.le_refl _)
  generalize W0.setCells w.heap.size 0 (List.replicate 1 (.string (str s))) = W at *
  clear hg0 hP0 hc0 hB0 hv
  have HN : Hid (n ≤ 1000) := hn
  clear hn h0
  generalize hSS : str s = SS at *
  have HSS : Hid _ := hSS
  clear hSS
  go_enter Tryz.func108, Tryz.ntmps108
  go_wp2_with (first | (go_at_call 123; refine hMul.mono ?_; rintro e w2 ⟨rfl, hw⟩; rw [hw]; clear hw) | fail)
  go_loopw [8] (fun bp wr => ∃ k : Nat, 1 ≤ k ∧ k ≤ n ∧ bp = .int .i64 (k : Int) ∧ Pre wr w.heap.size (.string SS) n k ∧ Below w.heap.size w wr) (fun bp _ => n - (intOf bp).toNat)
  case atStart => exact ⟨1, by omega, by omega, rfl, hP1, hb0⟩
  case round =>
    obtain ⟨k, hk1, hk2, rfl, hP, hb⟩ := hrel
    by_cases hlt : k < n
    · have hsl := slice_from w.heap.size n k hlt
      have hsh := fun W => TxR.slice_head W (some ⟨w.heap.size, 0, none⟩) n n k (by omega)
      have hPd : Pre wr.drew w.heap.size (.string SS) n k := hP
      have hcp := hPd.copy (ty' := 3) (m := k) rfl (Nat.le_refl _) hk2
      have hP2 := hPd.set (m := min k (n - k)) (by omega)
      have hgr := grown_setCells w.heap.size k (List.replicate (min k (n - k)) (Value.string SS)) wr.drew
      have hb2 : Below w.heap.size w (wr.drew.setCells w.heap.size k (List.replicate (min k (n - k)) (.string SS))) := hb.drew.grown hgr hb.size (fun j e => by cases e; exact Nat.le_refl _)
      generalize hWr : wr.drew.setCells w.heap.size k (List.replicate (min k (n - k)) (.string SS)) = W3 at *
      obtain ⟨m, hm, hm1⟩ : ∃ m, m = min k (n - k) ∧ 1 ≤ m ∧ k + m ≤ n := ⟨_, rfl, by omega, by omega⟩
      rw [← hm] at hcp hP2
      have i1 : (k : Int) < (n : Int) := by omega
      have hk0 : (0 : Int) ≤ (k : Int) := by omega
      have hmn : min (k : Int) (n : Int) = (k : Int) := by omega
      have Hm : Hid (1 ≤ m ∧ k + m ≤ n) := hm1
      clear hWr hm hgr hm1
      go_wp2_with fail
      go_region_held3 (fun _ => True) (trivial) (fail)
      have hwr : IntKind.i64.wrap ((k : Int) + (m : Int)) = ((k + m : Nat) : Int) := by have := Hm.out; have := HN.out; rw [IntKind.wrap_i64]; omega
      rw [hwr]
      go_wp2
      go_roundw
      case rel => exact ⟨k + m, by omega, by have := Hm.out; omega, rfl, hP2, hb2⟩
      case measure => have := Hm.out; simp [intOf]; omega
    · obtain rfl : k = n := by omega
      have i1 : ¬ (k : Int) < (k : Int) := by omega
      go_wp2
      go_ret
      refine ⟨rfl, ?_, hb⟩
      rw [← HSS.out] at hP
      have := hP.txB.own (Nat.le_refl w.heap.size) (by rw [List.length_replicate]; have := HN.out; omega)
      rwa [List.length_replicate] at this

end Go.Proofs.YtnobmgkdieaclaaGreatDoor

namespace Go.Proofs.YtnobmgkdieaclaaGreatDoor
open Go.RowKit

theorem str_byts (W : World) (s : ByteArray) : ∃ c W', (convert 9 78 (.string s)).run Tryz.prog W = .ok (.slice (some ⟨W.heap.size, 0, none⟩) s.size c) W' ∧ Below W.heap.size W W' ∧ W'.heap.size = W.heap.size + 1 ∧
    ∀ j, j < s.size → W'.cell? ⟨W.heap.size, j, none⟩ = some (.int .u8 ((s.data.toList.getD j 0).toNat : Int)) :=
  ⟨_, _, Go.Lib.run_convert_string_bytes W 9 78 5 s Tryz.underlying9 Tryz.underlying78 Tryz.underlying5,
    ⟨rfl, rfl, rfl, by rw [Go.Lib.bytesWorld_size]; omega, fun k hk => Go.Lib.bytesWorld_at_old _ _ _ k hk⟩, Go.Lib.bytesWorld_size _ _ _, fun j hj => Go.Lib.bytesWorld_cell _ _ _ j hj⟩

end Go.Proofs.YtnobmgkdieaclaaGreatDoor

namespace Go.Proofs.YtnobmgkdieaclaaGreatDoor
open Go.RowKit

/-- the first cells of block g are these bytes, and may be written -/
def UpB (w : World) (g : Nat) (X : List UInt8) : Prop := ∃ cs fz, w.heap[g]? = some (.cells cs 5 fz) ∧ X.length ≤ cs.size ∧ cs.size ≤ fz.1 ∧ ∀ j, j < X.length → cs[j]? = some (.int .u8 ((X.getD j 0).toNat : Int))
theorem UpB.lt {w : World} {g : Nat} {X : List UInt8} (h : UpB w g X) : g < w.heap.size := by
  obtain ⟨cs, fz, h1, -⟩ := h
  exact (Array.getElem?_eq_some_iff.1 h1).1
theorem UpB.cell {w : World} {g : Nat} {X : List UInt8} (h : UpB w g X) (j : Nat) (hj : j < X.length) : w.cell? ⟨g, j, none⟩ = some (.int .u8 ((X.getD j 0).toNat : Int)) := by
  obtain ⟨cs, fz, h1, h2, h3, h4⟩ := h
  rw [cell_of_row w g j cs 5 fz h1]
  exact h4 j hj
theorem UpB.free {w : World} {g : Nat} {X : List UInt8} (h : UpB w g X) (j : Nat) (hj : j < X.length) : w.frozen? ⟨g, j, none⟩ = false := by
  obtain ⟨cs, fz, h1, h2, h3, h4⟩ := h
  simp [World.frozen?, h1]
  omega
theorem UpB.set {w : World} {g : Nat} {X : List UInt8} (h : UpB w g X) (j : Nat) (hj : j < X.length) (c : UInt8) : UpB (w.setCell ⟨g, j, none⟩ (.int .u8 (c.toNat : Int))) g (X.set j c) := by
  obtain ⟨cs, fz, h1, h2, h3, h4⟩ := h
  refine ⟨cs.set j (.int .u8 (c.toNat : Int)) (by omega), fz, ?_, by simpa using h2, by simpa using h3, fun k hk => ?_⟩
  · unfold World.setCell
    simp only [Array.getElem?_modify]
    simp [h1, Array.setIfInBounds, show j < cs.size by omega]
  · rw [List.length_set] at hk
    by_cases e : j = k
    · subst e
      simp [List.getD, hk]
    · rw [Array.getElem?_set_ne (by omega) e, h4 k hk]
      simp [List.getD, e]
theorem UpB.byts {w : World} {g : Nat} {X : List UInt8} (h : UpB w g X) (c : Nat) (hc : X.length ≤ c) : Byts w w.heap.size (.slice (some ⟨g, 0, none⟩) X.length c) X :=
  ⟨_, _, rfl, hc, (fun h => by cases h), fun _ => ⟨g, 0, rfl, h.lt, fun j hj => by rw [Nat.zero_add]; exact h.cell j hj⟩⟩
theorem UpB.made (W : World) (s : ByteArray) : ∃ c W', (convert 9 78 (.string s)).run Tryz.prog W = .ok (.slice (some ⟨W.heap.size, 0, none⟩) s.size c) W' ∧ Below W.heap.size W W' ∧ UpB W' W.heap.size (bs s) ∧ s.size ≤ c := by
  refine ⟨_, _, Go.Lib.run_convert_string_bytes W 9 78 5 s Tryz.underlying9 Tryz.underlying78 Tryz.underlying5, ⟨rfl, rfl, rfl, by rw [Go.Lib.bytesWorld_size]; omega, fun k hk => Go.Lib.bytesWorld_at_old _ _ _ k hk⟩, ?_, ?_⟩
  · refine ⟨_, _, Go.Lib.bytesWorld_at_new W 5 s, ?_, Nat.le_refl _, fun j hj => ?_⟩
    · rw [bs_length]; simp [Go.Lib.bytesCells]
    · have := Go.Lib.bytesWorld_cell W 5 s j (by rw [← bs_length]; exact hj)
      rw [cell_of_row _ _ _ _ _ _ (Go.Lib.bytesWorld_at_new W 5 s)] at this
      exact this
  · exact grownCap_ge _ _ _ _

theorem up1_no {c : UInt8} (h : ¬ (97 ≤ c.toNat ∧ c.toNat ≤ 122)) : Ip.up1 c = c := by
  unfold Ip.up1
  rw [if_neg (fun hh => h ⟨by simpa using UInt8.le_iff_toNat_le.1 hh.1, by simpa using UInt8.le_iff_toNat_le.1 hh.2⟩)]
theorem up1_yes {c : UInt8} (h1 : 97 ≤ c.toNat) (h2 : c.toNat ≤ 122) : ((Ip.up1 c).toNat : Int) = (c.toNat : Int) - 97 + 65 := by
  have h : ∀ n : Fin 256, 97 ≤ n.1 → n.1 ≤ 122 → ((Ip.up1 (UInt8.ofNat n.1)).toNat : Int) = (n.1 : Int) - 97 + 65 := by decide +kernel
  have := h ⟨c.toNat, c.toNat_lt⟩ h1 h2
  simpa using this

set_option maxRecDepth 100000 in
theorem upper_any (s : List UInt8) (w : World) (hs : s.length ≤ 1099511627) : Calls Tryz.prog 102 #[.string (str s)] w fun e w' => e = .returned (.string (str (Ip.upper s))) ∧ Below w.heap.size w w' := by
  have hz := str_size s
  obtain ⟨c, W, hcv, hb, hu, hc⟩ := UpB.made w (str s)
  rw [show bs (str s) = s by simp [bs, str]] at hu
  rw [hz] at hcv hc
  have HN : Hid (s.length ≤ 1099511627) := hs
  have nb : (s.length : Int) ≤ 1099511627 := by omega
  clear hs hz
  generalize str s = S at *
  go_enter Tryz.func102, Tryz.ntmps102
  go_wp2
  go_loopw [10] (fun i wr => ∃ k : Nat, k ≤ s.length ∧ i = .int .i64 (k : Int) ∧ Hid (UpB wr w.heap.size ((s.take k).map Ip.up1 ++ s.drop k)) ∧ Hid (Below w.heap.size w wr)) (fun i _ => s.length - (intOf i).toNat)
  case atStart => exact ⟨0, Nat.zero_le _, rfl, by show UpB _ _ _; simpa using hu, hb⟩
  case round =>
    obtain ⟨k, hk, rfl, HU, HB⟩ := hrel
    by_cases hlt : k < s.length
    · have i1 : (k : Int) < (s.length : Int) := by omega
      have hll : ((s.take k).map Ip.up1 ++ s.drop k).length = s.length := by simp; omega
      have hg : ((s.take k).map Ip.up1 ++ s.drop k).getD k 0 = s[k] := by
        rw [List.getD_eq_getElem?_getD, List.getElem?_append_right (by simp; omega)]
        simp [Nat.min_eq_left (Nat.le_of_lt hlt), hlt]
      have hcell := HU.out.cell k (by rw [hll]; exact hlt)
      have hfree := HU.out.free k (by rw [hll]; exact hlt)
      rw [hg] at hcell
      have hset := HU.out.set k (by rw [hll]; exact hlt) (Ip.up1 s[k])
      have e1 : ((s.take k).map Ip.up1 ++ s.drop k).set k (Ip.up1 s[k]) = (s.take (k + 1)).map Ip.up1 ++ s.drop (k + 1) := by
        rw [List.set_append_right _ _ (by simp; omega), List.length_map, List.length_take, Nat.min_eq_left hk, Nat.sub_self, List.drop_eq_getElem_cons hlt, List.set_cons_zero, List.take_succ_eq_append_getElem hlt]
        simp
        rw [List.take_succ_eq_append_getElem (by simpa using hlt)]
        simp
      rw [e1] at hset
      by_cases hin : 97 ≤ s[k].toNat ∧ s[k].toNat ≤ 122
      · have hy := up1_yes hin.1 hin.2
        rw [hy] at hset
        have HS : Hid _ := hset
        have HB2 : Hid (Below w.heap.size w (wr.setCell ⟨w.heap.size, k, none⟩ (.int .u8 ((s[k].toNat : Int) - 97 + 65)))) := (Turn.put1 wr w.heap.size k _).bel HB.out (by simp)
        obtain ⟨b1, b2⟩ := hin
        clear hset e1 hll hg hy HU
        generalize s[k].toNat = X at *
        have b3 : (97 : Int) ≤ (X : Int) := by omega
        have b4 : (X : Int) ≤ 122 := by omega
        go_wp2
        exact ⟨⟨k + 1, by omega, by go_num, HS.out, HB2.out⟩, by simp [intOf]; omega⟩
      · have hn := up1_no hin
        have HS : Hid (UpB wr w.heap.size ((s.take (k + 1)).map Ip.up1 ++ s.drop (k + 1))) := by
          show UpB _ _ _
          have e2 : (s.take (k + 1)).map Ip.up1 ++ s.drop (k + 1) = (s.take k).map Ip.up1 ++ s.drop k := by
            rw [← e1, hn]
            apply List.ext_getElem?
            intro i
            by_cases hi : k = i
            · subst hi
              rw [List.getElem?_set_self (by rw [hll]; exact hlt), List.getElem?_eq_getElem (by rw [hll]; exact hlt)]
              rw [List.getD_eq_getElem?_getD, List.getElem?_eq_getElem (by rw [hll]; exact hlt)] at hg
              simpa using hg.symm
            · rw [List.getElem?_set_ne hi]
          rw [e2]
          exact HU.out
        clear hset e1 hll hg hn HU
        by_cases b1 : 97 ≤ s[k].toNat
        · have b2 : ¬ (s[k].toNat ≤ 122) := fun h => hin ⟨b1, h⟩
          clear hin
          generalize s[k].toNat = X at *
          have b3 : (97 : Int) ≤ (X : Int) := by omega
          have b4 : ¬ (X : Int) ≤ 122 := by omega
          go_wp2
          exact ⟨⟨k + 1, by omega, by go_num, HS.out, HB.out⟩, by simp [intOf]; omega⟩
        · clear hin
          generalize s[k].toNat = X at *
          have b3 : ¬ (97 : Int) ≤ (X : Int) := by omega
          go_wp2
          exact ⟨⟨k + 1, by omega, by go_num, HS.out, HB.out⟩, by simp [intOf]; omega⟩
    · obtain rfl : k = s.length := by omega
      have i1 : ¬ (s.length : Int) < (s.length : Int) := by omega
      have hU := HU.out
      rw [List.take_length, List.drop_length, List.append_nil] at hU
      have hby := hU.byts c (by simpa using hc)
      rw [List.length_map] at hby
      have hcc := conv_byts hby
      clear HU hU hby
      go_wp2
      go_ret
      exact ⟨rfl, HB.out⟩

end Go.Proofs.YtnobmgkdieaclaaGreatDoor

namespace Go.Proofs.YtnobmgkdieaclaaGreatDoor
open Go.RowKit

theorem Rc.step_app {α : Type} {ops : Array Oper} {o : Oper} {a : Act} {K : Act → World → Prop} {Q : Exit → Act → World → Prop} {E : Prop} {w : World} (R : Rc α) (hgd : o.guard = none) (s x : Operand)
    (ho : o.op = .call { callee := .builtin .append, args := #[s, x], argTypes := #[R.st, R.st] }) (base B : Nat) (v vx : Value) (l m : List α)
    (hs : a.eval s = v) (hown : R.Own w base v l) (hx : a.eval x = vx) (hb : R.Sl w B vx m) (hm : m ≠ []) (hlen : Hid (l.length + m.length ≤ 1099511627)) (hbase : base ≤ w.heap.size)
    (h : ∀ g cap w', R.Own w' base (.slice (some ⟨g, 0, none⟩) (l.length + m.length) cap) (l ++ m) → w.grownBy w' v.ownBlock → K (a.put o.dst (.slice (some ⟨g, 0, none⟩) (l.length + m.length) cap)) w') :
    if Region.wanted o (yielded ops a.tmps) = true then Oper.wp Tryz.prog o a w K Q else E := by
  obtain ⟨i0, hi, hz0, hz1, hz2⟩ := info_parts R.info
  have hl := hlen.out
  obtain ⟨ad, c, rfl, hle, hn, hcells⟩ := hb
  obtain ⟨b, o', rfl, _, hcell⟩ := hcells hm
  have hm1 : 0 < m.length := List.length_pos_iff.2 hm
  refine step_append_lies _ hgd s x R.st ho base R.e i0 _ R.k R.bytes R.under hi hz0 hz1 hz2 R.zk R.pos v l.length (R.vals l) hs hown ⟨b, o', none⟩ m.length c (R.vals m) hx (R.vals_length m) ?_ (R.vals_one m) hm1 ?_ ?_ hbase w.heap.size rfl ?_
  · intro j u hu
    rw [addr_at]
    exact hcell j u hu
  · unfold maxLen; omega
  · have h1 : (l.length + m.length) * R.bytes ≤ 1099511627 * 1024 := Nat.mul_le_mul hl R.small
    omega
  · intro g cap w' h1 h2 _ _
    refine h g cap w' ?_ h2
    unfold Own; rw [R.vals_append, List.length_append]; exact h1

/-- and where the row then lies -/
theorem Rc.step_app_at {α : Type} {ops : Array Oper} {o : Oper} {a : Act} {K : Act → World → Prop} {Q : Exit → Act → World → Prop} {E : Prop} {w : World} (R : Rc α) (hgd : o.guard = none) (s x : Operand)
    (ho : o.op = .call { callee := .builtin .append, args := #[s, x], argTypes := #[R.st, R.st] }) (base B : Nat) (v vx : Value) (l m : List α)
    (hs : a.eval s = v) (hown : R.Own w base v l) (hx : a.eval x = vx) (hb : R.Sl w B vx m) (hm : m ≠ []) (hlen : Hid (l.length + m.length ≤ 1099511627)) (hbase : base ≤ w.heap.size)
    (h : ∀ g cap w', R.Own w' base (.slice (some ⟨g, 0, none⟩) (l.length + m.length) cap) (l ++ m) → w.grownBy w' v.ownBlock → (v.ownBlock = some g ∨ g = w.heap.size) → K (a.put o.dst (.slice (some ⟨g, 0, none⟩) (l.length + m.length) cap)) w') :
    if Region.wanted o (yielded ops a.tmps) = true then Oper.wp Tryz.prog o a w K Q else E := by
  obtain ⟨i0, hi, hz0, hz1, hz2⟩ := info_parts R.info
  have hl := hlen.out
  obtain ⟨ad, c, rfl, hle, hn, hcells⟩ := hb
  obtain ⟨b, o', rfl, _, hcell⟩ := hcells hm
  have hm1 : 0 < m.length := List.length_pos_iff.2 hm
  refine step_append_lies _ hgd s x R.st ho base R.e i0 _ R.k R.bytes R.under hi hz0 hz1 hz2 R.zk R.pos v l.length (R.vals l) hs hown ⟨b, o', none⟩ m.length c (R.vals m) hx (R.vals_length m) ?_ (R.vals_one m) hm1 ?_ ?_ hbase w.heap.size rfl ?_
  · intro j u hu
    rw [addr_at]
    exact hcell j u hu
  · unfold maxLen; omega
  · have h1 : (l.length + m.length) * R.bytes ≤ 1099511627 * 1024 := Nat.mul_le_mul hl R.small
    omega
  · intro g cap w' h1 h2 h3 _
    refine h g cap w' ?_ h2 h3
    unfold Own; rw [R.vals_append, List.length_append]; exact h1

/-- 'append(nil, x...)' -/
theorem Rc.step_nil {α : Type} {ops : Array Oper} {o : Oper} {a : Act} {K : Act → World → Prop} {Q : Exit → Act → World → Prop} {E : Prop} {w : World} (R : Rc α) (hgd : o.guard = none) (s x : Operand)
    (ho : o.op = .call { callee := .builtin .append, args := #[s, x], argTypes := #[R.st, R.st] }) (B : Nat) (vx : Value) (m : List α)
    (hs : a.eval s = .slice none 0 0) (hx : a.eval x = vx) (hb : R.Sl w B vx m) (hlen : Hid (m.length ≤ 1099511627))
    (h : ∀ va vn vc w', R.Own w' w.heap.size (.slice va vn vc) m → Below w.heap.size w w' → K (a.put o.dst (.slice va vn vc)) w') :
    if Region.wanted o (yielded ops a.tmps) = true then Oper.wp Tryz.prog o a w K Q else E := by
  by_cases hm : m = []
  · subst hm
    have hw : Region.wanted o (yielded ops a.tmps) = true := by simp [Region.wanted, hgd]
    rw [if_pos hw]
    obtain ⟨i, hi, hz0, hz1, hz2⟩ := info_parts R.info
    obtain ⟨ad, c, rfl, hle, hn, hv⟩ := hb
    rw [List.length_nil] at hx
    have hr : (Builtin.append_ #[R.st, R.st] o.type #[.slice none 0 0, .slice ad 0 c]).run Tryz.prog w = .ok (.slice none 0 0) w := by
      cases ad <;> simp [Builtin.append_, run_underlying R.under, sizeOf, typeInfo, hi, Builtin.lenOf, Builtin.firstCells, loadCells, loadCellsFrom]
    unfold Oper.wp execOp
    simp only [ho, resolve, invoke, builtin, Sem.run_bind, Sem.run_pure, Result.andThen_ok, List.map_toArray, List.map_cons, List.map_nil, hs, hx, hr]
    exact h none 0 0 w (Rc.Own.nil _ _) (Below.refl _ _)
  · refine Rc.step_app R hgd s x ho w.heap.size B (.slice none 0 0) vx [] m hs (Rc.Own.nil _ _) hx hb hm ?_ (Nat.le_refl _) ?_
    · show _ ≤ _
      rw [List.length_nil, Nat.zero_add]
      exact hlen.out
    · intro g cap w' h1 h2
      exact h _ _ _ w' h1 ⟨h2.os, h2.tape, h2.output, h2.size, fun k hk => h2.block k hk (by simp [Value.ownBlock])⟩

end Go.Proofs.YtnobmgkdieaclaaGreatDoor

namespace Go.Proofs.YtnobmgkdieaclaaGreatDoor
open Go.RowKit

/-- the bounds that a run keeps to -/
structure Ip.St.Fine (s : Ip.St) : Prop where
  used : s.used ≤ s.fuel
  fuel : s.fuel ≤ 65536
  buf : s.buffer.length ≤ 256
  told : ∀ p c, s.told p = some c → c.length ≤ 256
  needs : s.needs.length ≤ 8
  few : s.targets.length ≤ 4
  short : ∀ p ∈ s.targets, p.length ≤ 1000
  deep : s.stack.length ≤ 1000000
theorem Went.ofBelow {w w0 w' : World} {O : List Nat} {x : RP} {s' : Ip.St} (hB : Below w.heap.size w w0) (h : Went w0 O x s' w') : Went w O x s' w' := by
  obtain ⟨x', a1, a2, a3, a4⟩ := h
  refine ⟨x', a1, a2, fun b hb => ?_, ((Turn.of_below hB).mono (S' := x.own) (by simp)).trans a4 (fun _ hx _ => hx)⟩
  rcases a3 b hb with h | h
  · exact .inl h
  · exact .inr (Nat.le_trans hB.size h)
theorem Turn.toOwn {w w' : World} {x : RP} (h : Turn [x.p] w w') : Turn x.own w w' := h.mono (fun b hb _ => by simp at hb; rw [hb]; exact x.p_own)
theorem str_append (a b : List UInt8) : str (a ++ b) = str a ++ str b := by
  apply bs_inj
  rw [bs_str]
  have : bs (str a ++ str b) = bs (str a) ++ bs (str b) := by simp [bs]
  rw [this, bs_str, bs_str]
theorem has_len {s : Ip.St} (h : s.Fine) {line u c : Ip.B} (hc : s.has line u = some c) : c.length ≤ 256 := by
  unfold Ip.St.has at hc
  cases hp : Ip.St.pathOf line u with
  | none => rw [hp] at hc; cases hc
  | some p => rw [hp] at hc; exact h.told p c hc
theorem ask_has {s : Ip.St} {line u c : Ip.B} (hc : s.has line u = some c) : s.ask line u = s := by
  unfold Ip.St.has at hc
  unfold Ip.St.ask
  cases hp : Ip.St.pathOf line u with
  | none => rw [hp] at hc; cases hc
  | some p =>
    rw [hp] at hc
    change s.told p = some c at hc
    simp only [hc]

theorem Went.step {w w1 w2 : World} {O : List Nat} {x x1 : RP} {s2 : Ip.St} (e1 : x1.p = x.p) (o1 : ∀ b ∈ x1.own, b ∈ x.own ∨ w.heap.size ≤ b) (t1 : Turn x.own w w1) (k : Went w1 (x1.own ++ O) x1 s2 w2) : Went w O x s2 w2 := by
  obtain ⟨x2, e2, h2, o2, t2⟩ := k
  refine ⟨x2, e2.trans e1, h2.other (fun b hb _ => ?_) (fun b hb => List.mem_append_left _ hb) (fun b hb => h2.lim b ?_), fun b hb => ?_, t1.trans t2 (fun b hb hlt => ?_)⟩
  · rcases List.mem_append.1 hb with hb | hb
    · exact List.mem_append_left _ hb
    · exact List.mem_append_right _ (List.mem_append_right _ hb)
  · rcases List.mem_append.1 hb with hb | hb
    · exact List.mem_append_left _ hb
    · exact List.mem_append_right _ (List.mem_append_right _ hb)
  · rcases o2 b hb with hb | hb
    · exact o1 b hb
    · exact .inr (Nat.le_trans t1.size hb)
  · rcases o1 b hb with hb | hb
    · exact hb
    · omega
/-- what putting bytes behind the buffer comes to, in two steps -/
theorem put_buffer {s : Ip.St} {n : Nat} (hc : s.canPut n = true) : (s.mayPut n).buffer = s.buffer := by
  unfold Ip.St.canPut at hc
  rw [Bool.and_eq_true, decide_eq_true_eq] at hc
  unfold Ip.St.mayPut Ip.St.pay
  rw [if_pos hc.1, hc.2]
  rfl

end Go.Proofs.YtnobmgkdieaclaaGreatDoor

namespace Go.Proofs.YtnobmgkdieaclaaGreatDoor
open Go.RowKit

set_option maxRecDepth 100000 in
set_option maxHeartbeats 2000000 in
theorem do_1 (u : List UInt8) (n : Nat) (body : Ac.Fo) (line : List UInt8) (aa : Option Addr) (an ac : Nat) (ba : Option Addr) (bn bc : Nat) (w : World) (O : List Nat) (x : RP) (s : Ip.St) (h : RunS w O x s) (hf : s.Fine) (hL : Laid w)
    (ha : TxR.SlP w (fun b => b < w.heap.size ∧ b ∉ O) (.slice aa an ac) [u]) (hb : FoP w (fun b => b < w.heap.size ∧ b ∉ O) (.slice ba bn bc) body) (hj : (Ip.joinW [u]).length ≤ 4000) (hal : [u].length ≤ 4000) (hl : line.length ≤ 256) (hn : n ≤ 1000) (hbl : body.len ≤ 1000000) :
    Calls Tryz.prog 93 #[.pointer (some ⟨x.p, 0, none⟩), .agg #[.int .i64 1, .slice aa an ac, .int .i64 (n : Int), .slice ba bn bc], .string (str line)] w fun e w' => e = .returned (.tuple #[]) ∧ Went w O x (s.act 1 [u] n body line) w' := by
  obtain rfl : an = 1 := by
    obtain ⟨_, _, e, -⟩ := ha
    simp only [Value.slice.injEq] at e
    exact e.2.1
  have hUse := And.intro hal (And.intro hn (And.intro hbl (And.intro hj (And.intro hl (And.intro hf hL)))))
  clear hUse
  have hB0 : Below w.heap.size w (w.alloc (.cells #[.int .i64 1, .slice aa 1 ac, .int .i64 (n : Int), .slice ba bn bc] 75)) := (Below.refl _ w).alloc (Nat.le_refl _) _
  have hR0 := Rw.new w #[.int .i64 1, .slice aa 1 ac, .int .i64 (n : Int), .slice ba bn bc] 75
  have s0 := hR0.cell 0
  have s1 := hR0.cell 1
  have s2 := hR0.cell 2
  have s3 := hR0.cell 3
  have h0 := h.below hB0
  obtain ⟨W0, hW0⟩ : ∃ W0, w.alloc (.cells #[.int .i64 1, .slice aa 1 ac, .int .i64 (n : Int), .slice ba bn bc] 75) = W0 := ⟨_, rfl⟩
  rw [hW0] at hB0 s0 s1 s2 s3 h0
  have hk0 : ∀ b, b < w.heap.size ∧ b ∉ O → W0.heap[b]? = w.heap[b]? := fun b hb => hB0.block b hb.1
  have hP0 : ∀ b, b < w.heap.size ∧ b ∉ O → b < W0.heap.size ∧ b ∉ O := fun b hb => ⟨Nat.lt_of_lt_of_le hb.1 hB0.size, hb.2⟩
  have ha0 := ha.keep hk0 hP0
  have hb0 := hb.keep hk0 hP0
  have hL0 := hL.below hB0 hL.size
  change _ = some (Value.int .i64 1) at s0
  change _ = some (Value.slice aa 1 ac) at s1
  change _ = some (Value.int .i64 (n : Int)) at s2
  change _ = some (Value.slice ba bn bc) at s3
  clear ha hb hL hk0 hP0 hR0
  obtain ⟨ga0, oa0, ca0, ea0, hga0, cw0⟩ := TxR.at (ha0.sl (B := W0.heap.size) (fun b hb => hb.1)) (k := 0) (by simp)
  simp only [Value.slice.injEq] at ea0
  obtain ⟨rfl, -, rfl⟩ := ea0
  change W0.cell? ⟨ga0, oa0 + 0, none⟩ = some (.string (str u)) at cw0
  rw [Nat.add_zero] at cw0
  have hA := ask_any line u W0 O x s h0 hj hl hf.needs
  have HE : Hid (s.act 1 [u] n body line = s.ask line u) := rfl
  generalize s.act 1 [u] n body line = R at *
  clear hj hal hn hbl hf h ha0 hb0 hL0 h0
  generalize str ((s.has line u).getD []) = X1 at *
  generalize (s.has line u).isSome = X2 at *
  generalize str u = U at *
  generalize str line = L at *
  go_enter Tryz.func93, Tryz.ntmps93
  go_wp2_with (first | (go_at_call 98; refine hA.mono ?_; rintro e w1 ⟨rfl, h1⟩) | fail)
  go_end0
  rw [HE.out]
  exact ⟨rfl, h1.ofBelow hB0⟩

end Go.Proofs.YtnobmgkdieaclaaGreatDoor

namespace Go.Proofs.YtnobmgkdieaclaaGreatDoor
open Go.RowKit

set_option maxRecDepth 100000 in
set_option maxHeartbeats 2000000 in
theorem do_2 (u : List UInt8) (n : Nat) (body : Ac.Fo) (line : List UInt8) (aa : Option Addr) (an ac : Nat) (ba : Option Addr) (bn bc : Nat) (w : World) (O : List Nat) (x : RP) (s : Ip.St) (h : RunS w O x s) (hf : s.Fine) (hL : Laid w)
    (ha : TxR.SlP w (fun b => b < w.heap.size ∧ b ∉ O) (.slice aa an ac) [u]) (hb : FoP w (fun b => b < w.heap.size ∧ b ∉ O) (.slice ba bn bc) body) (hj : (Ip.joinW [u]).length ≤ 4000) (hal : [u].length ≤ 4000) (hl : line.length ≤ 256) (hn : n ≤ 1000) (hbl : body.len ≤ 1000000) :
    Calls Tryz.prog 93 #[.pointer (some ⟨x.p, 0, none⟩), .agg #[.int .i64 2, .slice aa an ac, .int .i64 (n : Int), .slice ba bn bc], .string (str line)] w fun e w' => e = .returned (.tuple #[]) ∧ Went w O x (s.act 2 [u] n body line) w' := by
  obtain rfl : an = 1 := by
    obtain ⟨_, _, e, -⟩ := ha
    simp only [Value.slice.injEq] at e
    exact e.2.1
  have hUse := And.intro hal (And.intro hn (And.intro hbl (And.intro hj (And.intro hl (And.intro hf hL)))))
  clear hUse
  have hB0 : Below w.heap.size w (w.alloc (.cells #[.int .i64 2, .slice aa 1 ac, .int .i64 (n : Int), .slice ba bn bc] 75)) := (Below.refl _ w).alloc (Nat.le_refl _) _
  have hR0 := Rw.new w #[.int .i64 2, .slice aa 1 ac, .int .i64 (n : Int), .slice ba bn bc] 75
  have s0 := hR0.cell 0
  have s1 := hR0.cell 1
  have s2 := hR0.cell 2
  have s3 := hR0.cell 3
  have h0 := h.below hB0
  obtain ⟨W0, hW0⟩ : ∃ W0, w.alloc (.cells #[.int .i64 2, .slice aa 1 ac, .int .i64 (n : Int), .slice ba bn bc] 75) = W0 := ⟨_, rfl⟩
  rw [hW0] at hB0 s0 s1 s2 s3 h0
  have hk0 : ∀ b, b < w.heap.size ∧ b ∉ O → W0.heap[b]? = w.heap[b]? := fun b hb => hB0.block b hb.1
  have hP0 : ∀ b, b < w.heap.size ∧ b ∉ O → b < W0.heap.size ∧ b ∉ O := fun b hb => ⟨Nat.lt_of_lt_of_le hb.1 hB0.size, hb.2⟩
  have ha0 := ha.keep hk0 hP0
  have hb0 := hb.keep hk0 hP0
  have hL0 := hL.below hB0 hL.size
  change _ = some (Value.int .i64 2) at s0
  change _ = some (Value.slice aa 1 ac) at s1
  change _ = some (Value.int .i64 (n : Int)) at s2
  change _ = some (Value.slice ba bn bc) at s3
  clear ha hb hL hk0 hP0 hR0
  obtain ⟨ga0, oa0, ca0, ea0, hga0, cw0⟩ := TxR.at (ha0.sl (B := W0.heap.size) (fun b hb => hb.1)) (k := 0) (by simp)
  simp only [Value.slice.injEq] at ea0
  obtain ⟨rfl, -, rfl⟩ := ea0
  change W0.cell? ⟨ga0, oa0 + 0, none⟩ = some (.string (str u)) at cw0
  rw [Nat.add_zero] at cw0
  have hA := ask_any line u W0 O x s h0 hj hl hf.needs
  have HE : Hid (s.act 2 [u] n body line = match s.has line u with | some c => s.put c | none => s.ask line u) := rfl
  generalize s.act 2 [u] n body line = R at *
  cases hh : s.has line u with
  | none =>
    rw [hh] at HE hA
    change Calls _ _ _ _ fun e w' => e = .returned (.tuple #[.string ⟨#[]⟩, .bool false]) ∧ _ at hA
    clear hj hal hn hbl hf h ha0 hb0 hL0 h0 hh
    generalize s.ask line u = R2 at *
    generalize str u = U at *
    generalize str line = L at *
    go_enter Tryz.func93, Tryz.ntmps93
    go_wp2_with (first | (go_at_call 98; refine hA.mono ?_; rintro e w1 ⟨rfl, h1⟩) | fail)
    go_end0
    rw [show R = R2 from HE.out]
    exact ⟨rfl, h1.ofBelow hB0⟩
  | some c =>
    have hcl := has_len hf hh
    rw [ask_has hh] at hA
    rw [hh] at HE hA
    change Calls _ _ _ _ fun e w' => e = .returned (.tuple #[.string (str c), .bool true]) ∧ _ at hA
    have hMP := fun W O' x' hW => mayPut_any c.length W O' x' s hW hf.used hf.fuel (by omega) hf.buf
    have hcz := str_size c
    have hsz : ¬ 9223372036854775807 < (str s.buffer).size + (str c).size := by rw [str_size, hcz]; have := hf.buf; omega
    rw [← hcz] at hMP
    have HA : Hid (str (s.buffer ++ c) = str s.buffer ++ str c) := str_append _ _
    have HC : Hid (s.put c = if s.canPut c.length then { s.mayPut c.length with buffer := s.buffer ++ c } else s.mayPut c.length) := rfl
    rw [hcz] at hMP
    have HR : Hid (R = s.put c) := HE.out
    clear hj hal hn hbl h ha0 hb0 hL0 h0 hh HE hcl hf
    generalize str u = U at *
    generalize str line = L at *
    have cz : ((str c).size : Int) = (c.length : Int) := by omega
    cases hcp : s.canPut c.length with
    | false =>
      rw [hcp] at HC
      have hMP2 : ∀ W O' x', RunS W O' x' s → x'.p = x.p → Calls Tryz.prog 99 #[.pointer (some ⟨x.p, 0, none⟩), .int .i64 ((str c).size : Int)] W fun e w' => e = .returned (.bool false) ∧ Went W O' x' (s.mayPut c.length) w' := by
        intro W O' x' hW hp
        have := hMP W O' x' hW
        rw [hcp, hp] at this
        rw [cz]
        refine this.mono ?_
        rintro e w' ⟨h1, h2, h3⟩
        rw [← hp] at h3
        exact ⟨h1, Went.same h2 h3.toOwn⟩
      clear hMP cz hcz hcp
      generalize str c = C at *
      go_enter Tryz.func93, Tryz.ntmps93
      go_wp2_with (first | (go_at_call 98; refine hA.mono ?_; rintro e w1 ⟨rfl, h1⟩) | (go_at_call 99; obtain ⟨x1, e1, r1, o1, t1⟩ := h1; refine (hMP2 _ _ x1 r1 e1).mono ?_; rintro e w2 ⟨rfl, h2⟩) | fail)
      go_end0
      rw [HR.out, HC.out]
      exact ⟨rfl, (Went.step e1 o1 t1 h2).ofBelow hB0⟩
    | true =>
      rw [hcp] at HC
      have hbu := put_buffer hcp
      have hMP2 : ∀ W O' x', RunS W O' x' s → x'.p = x.p → Calls Tryz.prog 99 #[.pointer (some ⟨x.p, 0, none⟩), .int .i64 ((str c).size : Int)] W fun e w' => e = .returned (.bool true) ∧ w'.cell? ⟨x.p, 5, none⟩ = some (.string (str s.buffer)) ∧ w'.frozen? ⟨x.p, 5, none⟩ = false ∧ Went W O' x' { s.mayPut c.length with buffer := s.buffer ++ c } (w'.setCell ⟨x.p, 5, none⟩ (.string (str s.buffer ++ str c))) := by
        intro W O' x' hW hp
        have := hMP W O' x' hW
        rw [hcp, hp] at this
        rw [cz]
        refine this.mono ?_
        rintro e w' ⟨h1, h2, h3⟩
        have q5 := h2.c5
        have qf := h2.free 5
        have hs := h2.setBuffer (s.buffer ++ c)
        rw [hbu] at q5
        rw [HA.out, hp] at hs
        rw [hp] at q5 qf
        rw [← hp] at h3
        refine ⟨h1, q5, qf, Went.same hs ?_⟩
        exact (h3.set (p := ⟨x.p, 5, none⟩) (fun _ => by simp [hp]) _).toOwn
      clear hMP cz hcz hcp hbu HA
      generalize str c = C at *
      generalize str s.buffer = SB at *
      go_enter Tryz.func93, Tryz.ntmps93
      go_wp2_with (first | (go_at_call 98; refine hA.mono ?_; rintro e w1 ⟨rfl, h1⟩) | (go_at_call 99; obtain ⟨x1, e1, r1, o1, t1⟩ := h1; refine (hMP2 _ _ x1 r1 e1).mono ?_; rintro e w2 ⟨rfl, q5, qf, h2⟩) | fail)
      go_end0
      rw [HR.out, HC.out]
      exact ⟨rfl, (Went.step e1 o1 t1 h2).ofBelow hB0⟩

end Go.Proofs.YtnobmgkdieaclaaGreatDoor
