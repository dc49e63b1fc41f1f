/-
  DERIVED: THE SHELF's CONTRACTS AT THIS DUMP, IN PLAIN WORDS (tools/lay-plain.mjs out of 'YtnobmgkdieaclaaGreatDoorIpMul.lean', which tools/lay-shelf.mjs wrote): THE SAME DECLARATIONS UNDER THE SAME NAMES: 'import', 'namespace', 'open', 'def', 'theorem' AND NOTHING ELSE: no command of the shelf's: FOR A HAND-IN. Each laying: the table of numbers ('.._ren') and one theorem, a field a fact of the dump's own or the kernel's comparison; each contract: ONE APPLICATION.
-/
import Derived.Shelf.Bits.Mul64
import Derived.Test.YtnobmgkdieaclaaGreatDoorProg
import Derived.Test.YtnobmgkdieaclaaGreatDoorKit
import Derived.Test.YtnobmgkdieaclaaGreatDoorSRep
import Derived.Laws.Externs
import Derived.Deep.RegionHeld3
import Derived.Deep.MidRow
import Derived.Lib.ConvBytes
import Derived.Test.YtnobmgkdieaclaaGreatDoorPBs
import Derived.Test.YtnobmgkdieaclaaGreatDoorAcLaid
namespace Go.Proofs
open Go.Shelf
def Tryz.mulA_ren : Go.Shelf.Ren := ⟨fun | 212 => 123 | 263 => 141 | 264 => 142 | n => n, fun | 46 => 142 | 51 => 149 | 146 => 150 | 53 => 168 | 148 => 169 | n => n, fun | n => n⟩
theorem Tryz.mulA : Go.Proofs.Lays.n212 Tryz.prog Tryz.mulA_ren := {
  mixed := by kernel_rfl
  f212 := Tryz.func123.trans (congrArg some (by kernel_rfl))
  f263 := Tryz.func141.trans (congrArg some (by kernel_rfl))
  f264 := Tryz.func142.trans (congrArg some (by kernel_rfl))
  t46 := Tryz.underlying142
  a46 := Tryz.isAgg142
  z46 := Tryz.sizeOf142
  v46 := Tryz.zeroValue142
  t51 := Tryz.underlying149
  a51 := Tryz.isAgg149
  z51 := Tryz.sizeOf149
  v51 := Tryz.zeroValue149
  t53 := Tryz.underlying168
  a53 := Tryz.isAgg168
  z53 := Tryz.sizeOf168
  v53 := Tryz.zeroValue168
  t146 := Tryz.underlying150
  a146 := Tryz.isAgg150
  z146 := Tryz.sizeOf150
  v146 := Tryz.zeroValue150
  t148 := Tryz.underlying169
  a148 := Tryz.isAgg169
  z148 := Tryz.sizeOf169
  v148 := Tryz.zeroValue169 }
end Go.Proofs

namespace Go.Proofs.YtnobmgkdieaclaaGreatDoor
open Go.RowKit

theorem heap_setCells (g : Nat) (t : TypeId) (fr : Nat × Nat) : ∀ (vs : List Value) (o : Nat) (w : World) (cur : Array Value), w.heap[g]? = some (.cells cur t fr) →
    ∃ cur', (w.setCells g o vs).heap[g]? = some (.cells cur' t fr) ∧ cur'.size = cur.size ∧ ∀ j, cur'[j]? = if o ≤ j ∧ j < o + vs.length ∧ j < cur.size then vs[j - o]? else cur[j]?
  | [], o, w, cur, h => ⟨cur, h, rfl, fun j => by rw [if_neg (by simp; omega)]⟩
  | v :: r, o, w, cur, h => by
    have hlt := (Array.getElem?_eq_some_iff.1 h).1
    have h1 : w.heap[g] = .cells cur t fr := by rw [Array.getElem?_eq_getElem hlt] at h; exact Option.some.inj h
    have h2 : (w.setCell ⟨g, o, none⟩ v).heap[g]? = some (.cells (cur.setIfInBounds o v) t fr) := by
      simp [World.setCell, hlt]
      rw [Array.getElem_modify_self, h1]
    obtain ⟨cur', h3, h4, h5⟩ := heap_setCells g t fr r (o + 1) _ _ h2
    refine ⟨cur', by rw [World.setCells]; exact h3, by simpa using h4, fun j => ?_⟩
    rw [h5 j]
    simp only [Array.size_setIfInBounds, List.length_cons]
    by_cases hj : o = j
    · subst hj
      rw [if_neg (by omega)]
      by_cases hs : o < cur.size
      · rw [if_pos ⟨Nat.le_refl _, by omega, hs⟩]
        simp [hs]
      · rw [if_neg (by omega)]
        simp [hs]
    · by_cases hc : o + 1 ≤ j ∧ j < o + 1 + r.length ∧ j < cur.size
      · rw [if_pos hc, if_pos (by omega), show j - o = (j - (o + 1)) + 1 by omega]
        simp
      · rw [if_neg hc, if_neg (by omega), Array.getElem?_setIfInBounds_ne hj]
theorem heap_setCells_other (g : Nat) {k : Nat} (hk : k ≠ g) : ∀ (vs : List Value) (o : Nat) (w : World), (w.setCells g o vs).heap[k]? = w.heap[k]?
  | [], _, _ => rfl
  | v :: r, o, w => by rw [World.setCells, heap_setCells_other g hk r (o + 1)]; exact Below.heap_setCell w ⟨g, o, none⟩ v k hk
theorem setCells_size (g : Nat) : ∀ (vs : List Value) (o : Nat) (w : World), (w.setCells g o vs).heap.size = w.heap.size ∧ (w.setCells g o vs).os = w.os ∧ (w.setCells g o vs).tape = w.tape ∧ (w.setCells g o vs).output = w.output
  | [], _, _ => ⟨rfl, rfl, rfl, rfl⟩
  | v :: r, o, w => by
    obtain ⟨h1, h2, h3, h4⟩ := setCells_size g r (o + 1) (w.setCell ⟨g, o, none⟩ v)
    rw [World.setCells]
    exact ⟨h1.trans (by simp [World.setCell]), h2, h3, h4⟩
theorem grown_setCells (g o : Nat) (vs : List Value) (w : World) : w.grownBy (w.setCells g o vs) (some g) := by
  obtain ⟨h1, h2, h3, h4⟩ := setCells_size g vs o w
  exact ⟨h2, h3, h4, by omega, fun k _ hn => heap_setCells_other g (fun e => hn (by rw [e])) vs o w⟩

end Go.Proofs.YtnobmgkdieaclaaGreatDoor

namespace Go.Proofs.YtnobmgkdieaclaaGreatDoor
open Go.RowKit Go.Shelf

theorem Mul_one (n : Nat) (w : World) (hn : n ≤ 1000000) : Calls Tryz.prog 123 #[.int .u64 1, .int .u64 (n : Int)] w fun e w' => e = .returned (.tuple #[.int .u64 0, .int .u64 (n : Int)]) ∧ w' = w := by
  refine (Any.bits_Mul Tryz.mulA 1 n (by omega) (by omega) w).mono ?_
  rintro e w' ⟨rfl, rfl⟩
  refine ⟨?_, rfl⟩
  have h1 : 1 * n / 18446744073709551616 = 0 := by omega
  have h2 : 1 * n % 18446744073709551616 = n := by omega
  simp only [h1, h2]
  rfl

/-- the first k of the n cells of block q are u -/
def Pre (w : World) (q : Nat) (u : Value) (n k : Nat) : Prop := ∃ cur : Array Value, w.heap[q]? = some (.cells cur 9 (0, 0)) ∧ n = cur.size ∧ ∀ j, j < k → cur[j]? = some u
theorem Pre.cell {w : World} {q : Nat} {u : Value} {n k : Nat} (h : Pre w q u n k) {j : Nat} (hj : j < k) : w.cell? ⟨q, j, none⟩ = some u := by
  obtain ⟨cur, h1, h2, h3⟩ := h
  rw [cell_of_row w q j cur 9 (0, 0) h1, h3 j hj]
theorem Pre.ex {w : World} {q : Nat} {u : Value} {n k : Nat} (h : Pre w q u n k) {j : Nat} (hj : j < n) : (w.cell? ⟨q, j, none⟩).isSome = true ∧ w.frozen? ⟨q, j, none⟩ = false := by
  obtain ⟨cur, h1, h2, h3⟩ := h
  refine ⟨?_, by simp [World.frozen?, h1]⟩
  rw [cell_of_row w q j cur 9 (0, 0) h1]
  simp
  omega
theorem Pre.set {w : World} {q : Nat} {u : Value} {n k m : Nat} (h : Pre w q u n k) (hm : k + m ≤ n) : Pre (w.setCells q k (List.replicate m u)) q u n (k + m) := by
  obtain ⟨cur, h1, h2, h3⟩ := h
  obtain ⟨cur', h4, h5, h6⟩ := heap_setCells q 9 (0, 0) (List.replicate m u) k w cur h1
  refine ⟨cur', h4, by omega, fun j hj => ?_⟩
  rw [h6 j, List.length_replicate]
  by_cases hjk : j < k
  · rw [if_neg (by omega)]; exact h3 j hjk
  · rw [if_pos ⟨by omega, by omega, by omega⟩, List.getElem?_replicate, if_pos (by omega)]
theorem Pre.copy {w : World} {q : Nat} {ty' : TypeId} {u : Value} {n k m : Nat} (h : Pre w q u n k) (h1 : u.oneCell' = true) (hm : m ≤ k) (hk : k ≤ n) :
    (Builtin.copy_ #[23, 23] ty' #[.slice (some ⟨q, k, none⟩) (n - k) (n - k), .slice (some ⟨q, 0, none⟩) m n]).run Tryz.prog w = .ok (goInt (min m (n - k) : Nat)) (w.setCells q k (List.replicate (min m (n - k)) u)) := by
  have := run_copy_cells (P := Tryz.prog) w 23 23 ty' 9 q k (n - k) (n - k) ⟨q, 0, none⟩ m n (List.replicate (min m (n - k)) u) Tryz.underlying23 (by kernel_rfl) (by rw [List.length_replicate]) ?_ ?_ ?_ ?_
  · rw [List.length_replicate] at this; exact this
  · intro j v hv
    have hj := (List.getElem?_eq_some_iff.1 hv).1
    rw [List.length_replicate] at hj
    rw [List.getElem?_replicate, if_pos hj] at hv
    rw [addr_at, Nat.zero_add, h.cell (by omega)]
    exact hv
  · intro j hj
    rw [List.length_replicate] at hj
    exact (h.ex (by omega)).1
  · intro j hj
    rw [List.length_replicate] at hj
    exact (h.ex (by omega)).2
  · intro v hv
    rw [List.mem_replicate] at hv
    rw [hv.2]; exact h1
theorem slice_from (q n k : Nat) (hk : k < n) (W : World) : (Instr.slice 23 (.slice (some ⟨q, 0, none⟩) n n) (some (.int .i64 (k : Int))) none none).run Tryz.prog W = .ok (.slice (some ⟨q, k, none⟩) (n - k) (n - k)) W := by
  show (Instr.slice TxR.st _ _ _ _).run Tryz.prog W = _
  rw [run_slice_l W TxR.st _ n n (by rw [TxR.elem_st]; exact TxR.under) .i64 (k : Int) (by omega) (by omega), TxR.elem_st, TxR.size_e]
  have : k * TxR.k = k := by show k * 1 = k; omega
  simp [Result.andThen, sliced, addr_at, this]
  omega
theorem Pre.txB {w : World} {q n : Nat} {s : List UInt8} (h : Pre w q (.string (str s)) n n) : TxB w q (List.replicate n s) := by
  obtain ⟨cur, h1, h2, h3⟩ := h
  have : cur = ((List.replicate n s).map fun s => Value.string (str s)).toArray := by
    apply Array.ext
    · simp [h2]
    · intro j hj1 hj2
      have := h3 j (by omega)
      rw [Array.getElem?_eq_getElem hj1] at this
      simpa using this
  unfold TxB Rw
  rw [h1, this]

set_option maxRecDepth 100000 in
set_option maxHeartbeats 2000000 in
theorem Repeat_line (s : List UInt8) (v : Value) (n : Nat) (B : Nat) (w : World) (hv : TxR.Sl w B v [s]) (hB : B ≤ w.heap.size) (hn : n ≤ 1000) :
    Calls Tryz.prog 108 #[v, .int .i64 (n : Int)] w fun e w' => e = .returned (.slice (some ⟨w.heap.size, 0, none⟩) n n) ∧ TxR.Own w' w.heap.size (.slice (some ⟨w.heap.size, 0, none⟩) n n) (List.replicate n s) ∧ Below w.heap.size w w' := by
  obtain ⟨bb, o, cc, rfl, hbB, hc0⟩ := TxR.at hv (k := 0) (by simp)
  change w.cell? ⟨bb, o + 0, none⟩ = some (.string (str s)) at hc0
  have hM := make_texts (n : Int) n rfl (by omega) w
  have hB0 : Below w.heap.size w (w.alloc (.cells ((List.replicate n ([] : List UInt8)).map fun s => Value.string (str s)).toArray 9)) := (Below.refl _ w).alloc (Nat.le_refl _) _
  have hP0 : Pre (w.alloc (.cells ((List.replicate n ([] : List UInt8)).map fun s => Value.string (str s)).toArray 9)) w.heap.size (.string (str s)) n 0 := ⟨_, heap_alloc_new w _, by simp, fun j hj => by omega⟩
  generalize w.alloc (.cells ((List.replicate n ([] : List UInt8)).map fun s => Value.string (str s)).toArray 9) = W0 at *
  have nb : (n : Int) ≤ 1000 := by omega
  have w1 : IntKind.u64.wrap (n : Int) = (n : Int) := by simp [IntKind.wrap, IntKind.signed, IntKind.bits]; omega
  have hMul := Mul_one n w (by omega)
  have hcc : 1 ≤ cc := by
    obtain ⟨ad, c, e, hle⟩ := hv.shape
    simp only [Value.slice.injEq] at e
    rw [e.2.2]; simpa using hle
  by_cases h0 : n = 0
  · subst h0
    have hcp0 : (Builtin.copy_ #[23, 23] 3 #[.slice (some ⟨w.heap.size, 0, none⟩) 0 0, .slice (some ⟨bb, o, none⟩) 1 cc]).run Tryz.prog W0 = .ok (.int .i64 0) W0 := by
      have := run_copy_cells (P := Tryz.prog) W0 23 23 3 9 w.heap.size 0 0 0 ⟨bb, o, none⟩ 1 cc [] Tryz.underlying23 (by kernel_rfl) rfl (by simp) (by simp) (by simp) (by simp)
      exact this
    have hO := hP0.txB.own (Nat.le_refl w.heap.size) (by simp)
    have HE : Hid (TxR.Own W0 w.heap.size (.slice (some ⟨w.heap.size, 0, none⟩) 0 0) (List.replicate 0 s) ∧ Below w.heap.size w W0) := ⟨hO, hB0⟩
    clear hO hB0 hP0 hc0 hv hn
    change Calls _ _ #[_, .int .u64 0] _ fun e w' => e = .returned (.tuple #[.int .u64 0, .int .u64 0]) ∧ _ at hMul
    change (Instr.makeSlice _ (.int .i64 0) (.int .i64 0)).run Tryz.prog w = _ at hM
    show Calls _ _ #[_, .int .i64 0] _ _
    go_enter Tryz.func108, Tryz.ntmps108
    go_wp2_with (first | (go_at_call 123; refine hMul.mono ?_; rintro e w2 ⟨rfl, hw⟩; rw [hw]; clear hw) | fail)
    go_loopw [8] (fun bp wr => bp = .int .i64 0 ∧ wr = W0) (fun _ _ => 0)
    case atStart => exact ⟨rfl, rfl⟩
    case round =>
      obtain ⟨rfl, hw0⟩ := hrel
      rw [hw0]
      go_wp2
      go_ret
      exact ⟨rfl, HE.out⟩
  have n1 : 1 ≤ n := by omega
  have hcp0 : (Builtin.copy_ #[23, 23] 3 #[.slice (some ⟨w.heap.size, 0, none⟩) n n, .slice (some ⟨bb, o, none⟩) 1 cc]).run Tryz.prog W0 = .ok (.int .i64 1) (W0.setCells w.heap.size 0 (List.replicate 1 (.string (str s)))) := by
    have := run_copy_cells (P := Tryz.prog) W0 23 23 3 9 w.heap.size 0 n n ⟨bb, o, none⟩ 1 cc (List.replicate 1 (.string (str s))) Tryz.underlying23 (by kernel_rfl) (by rw [List.length_replicate]; exact (Nat.min_eq_left n1).symm) ?_ ?_ ?_ (by intro v hv; simp at hv; subst hv; rfl)
    · exact this
    · intro j u hu
      have hj : j = 0 := by have := (List.getElem?_eq_some_iff.1 hu).1; simpa using this
      subst hj
      simp at hu
      subst hu
      rw [addr_at, hB0.cell (p := ⟨bb, o + 0, none⟩) (by show bb < _; omega), hc0]
    · intro j hj
      exact (hP0.ex (j := 0 + j) (by simp at hj; omega)).1
    · intro j hj
      exact (hP0.ex (j := 0 + j) (by simp at hj; omega)).2
  have hP1 := hP0.set (m := 1) (by omega)
  have hg0 := grown_setCells w.heap.size 0 (List.replicate 1 (Value.string (str s))) W0
  have hb0 : Below w.heap.size w (W0.setCells w.heap.size 0 (List.replicate 1 (.string (str s)))) := hB0.grown hg0 hB0.size (fun k e => by cases e; exact Nat.le_refl _)
  generalize W0.setCells w.heap.size 0 (List.replicate 1 (.string (str s))) = W at *
  clear hg0 hP0 hc0 hB0 hv
  have HN : Hid (n ≤ 1000) := hn
  clear hn h0
  generalize hSS : str s = SS at *
  have HSS : Hid _ := hSS
  clear hSS
  go_enter Tryz.func108, Tryz.ntmps108
  go_wp2_with (first | (go_at_call 123; refine hMul.mono ?_; rintro e w2 ⟨rfl, hw⟩; rw [hw]; clear hw) | fail)
  go_loopw [8] (fun bp wr => ∃ k : Nat, 1 ≤ k ∧ k ≤ n ∧ bp = .int .i64 (k : Int) ∧ Pre wr w.heap.size (.string SS) n k ∧ Below w.heap.size w wr) (fun bp _ => n - (intOf bp).toNat)
  case atStart => exact ⟨1, by omega, by omega, rfl, hP1, hb0⟩
  case round =>
    obtain ⟨k, hk1, hk2, rfl, hP, hb⟩ := hrel
    by_cases hlt : k < n
    · have hsl := slice_from w.heap.size n k hlt
      have hsh := fun W => TxR.slice_head W (some ⟨w.heap.size, 0, none⟩) n n k (by omega)
      have hPd : Pre wr.drew w.heap.size (.string SS) n k := hP
      have hcp := hPd.copy (ty' := 3) (m := k) rfl (Nat.le_refl _) hk2
      have hP2 := hPd.set (m := min k (n - k)) (by omega)
      have hgr := grown_setCells w.heap.size k (List.replicate (min k (n - k)) (Value.string SS)) wr.drew
      have hb2 : Below w.heap.size w (wr.drew.setCells w.heap.size k (List.replicate (min k (n - k)) (.string SS))) := hb.drew.grown hgr hb.size (fun j e => by cases e; exact Nat.le_refl _)
      generalize hWr : wr.drew.setCells w.heap.size k (List.replicate (min k (n - k)) (.string SS)) = W3 at *
      obtain ⟨m, hm, hm1⟩ : ∃ m, m = min k (n - k) ∧ 1 ≤ m ∧ k + m ≤ n := ⟨_, rfl, by omega, by omega⟩
      rw [← hm] at hcp hP2
      have i1 : (k : Int) < (n : Int) := by omega
      have hk0 : (0 : Int) ≤ (k : Int) := by omega
      have hmn : min (k : Int) (n : Int) = (k : Int) := by omega
      have Hm : Hid (1 ≤ m ∧ k + m ≤ n) := hm1
      clear hWr hm hgr hm1
      go_wp2_with fail
      go_region_held3 (fun _ => True) (trivial) (fail)
      have hwr : IntKind.i64.wrap ((k : Int) + (m : Int)) = ((k + m : Nat) : Int) := by have := Hm.out; have := HN.out; rw [IntKind.wrap_i64]; omega
      rw [hwr]
      go_wp2
      go_roundw
      case rel => exact ⟨k + m, by omega, by have := Hm.out; omega, rfl, hP2, hb2⟩
      case measure => have := Hm.out; simp [intOf]; omega
    · obtain rfl : k = n := by omega
      have i1 : ¬ (k : Int) < (k : Int) := by omega
      go_wp2
      go_ret
      refine ⟨rfl, ?_, hb⟩
      rw [← HSS.out] at hP
      have := hP.txB.own (Nat.le_refl w.heap.size) (by rw [List.length_replicate]; have := HN.out; omega)
      rwa [List.length_replicate] at this

end Go.Proofs.YtnobmgkdieaclaaGreatDoor

namespace Go.Proofs.YtnobmgkdieaclaaGreatDoor
open Go.RowKit

theorem str_byts (W : World) (s : ByteArray) : ∃ c W', (convert 9 78 (.string s)).run Tryz.prog W = .ok (.slice (some ⟨W.heap.size, 0, none⟩) s.size c) W' ∧ Below W.heap.size W W' ∧ W'.heap.size = W.heap.size + 1 ∧
    ∀ j, j < s.size → W'.cell? ⟨W.heap.size, j, none⟩ = some (.int .u8 ((s.data.toList.getD j 0).toNat : Int)) :=
  ⟨_, _, Go.Lib.run_convert_string_bytes W 9 78 5 s Tryz.underlying9 Tryz.underlying78 Tryz.underlying5,
    ⟨rfl, rfl, rfl, by rw [Go.Lib.bytesWorld_size]; omega, fun k hk => Go.Lib.bytesWorld_at_old _ _ _ k hk⟩, Go.Lib.bytesWorld_size _ _ _, fun j hj => Go.Lib.bytesWorld_cell _ _ _ j hj⟩

end Go.Proofs.YtnobmgkdieaclaaGreatDoor

namespace Go.Proofs.YtnobmgkdieaclaaGreatDoor
open Go.RowKit

/-- the first cells of block g are these bytes, and may be written -/
def UpB (w : World) (g : Nat) (X : List UInt8) : Prop := ∃ cs fz, w.heap[g]? = some (.cells cs 5 fz) ∧ X.length ≤ cs.size ∧ cs.size ≤ fz.1 ∧ ∀ j, j < X.length → cs[j]? = some (.int .u8 ((X.getD j 0).toNat : Int))
theorem UpB.lt {w : World} {g : Nat} {X : List UInt8} (h : UpB w g X) : g < w.heap.size := by
  obtain ⟨cs, fz, h1, -⟩ := h
  exact (Array.getElem?_eq_some_iff.1 h1).1
theorem UpB.cell {w : World} {g : Nat} {X : List UInt8} (h : UpB w g X) (j : Nat) (hj : j < X.length) : w.cell? ⟨g, j, none⟩ = some (.int .u8 ((X.getD j 0).toNat : Int)) := by
  obtain ⟨cs, fz, h1, h2, h3, h4⟩ := h
  rw [cell_of_row w g j cs 5 fz h1]
  exact h4 j hj
theorem UpB.free {w : World} {g : Nat} {X : List UInt8} (h : UpB w g X) (j : Nat) (hj : j < X.length) : w.frozen? ⟨g, j, none⟩ = false := by
  obtain ⟨cs, fz, h1, h2, h3, h4⟩ := h
  simp [World.frozen?, h1]
  omega
theorem UpB.set {w : World} {g : Nat} {X : List UInt8} (h : UpB w g X) (j : Nat) (hj : j < X.length) (c : UInt8) : UpB (w.setCell ⟨g, j, none⟩ (.int .u8 (c.toNat : Int))) g (X.set j c) := by
  obtain ⟨cs, fz, h1, h2, h3, h4⟩ := h
  refine ⟨cs.set j (.int .u8 (c.toNat : Int)) (by omega), fz, ?_, by simpa using h2, by simpa using h3, fun k hk => ?_⟩
  · unfold World.setCell
    simp only [Array.getElem?_modify]
    simp [h1, Array.setIfInBounds, show j < cs.size by omega]
  · rw [List.length_set] at hk
    by_cases e : j = k
    · subst e
      simp [List.getD, hk]
    · rw [Array.getElem?_set_ne (by omega) e, h4 k hk]
      simp [List.getD, e]
theorem UpB.byts {w : World} {g : Nat} {X : List UInt8} (h : UpB w g X) (c : Nat) (hc : X.length ≤ c) : Byts w w.heap.size (.slice (some ⟨g, 0, none⟩) X.length c) X :=
  ⟨_, _, rfl, hc, (fun h => by cases h), fun _ => ⟨g, 0, rfl, h.lt, fun j hj => by rw [Nat.zero_add]; exact h.cell j hj⟩⟩
theorem UpB.made (W : World) (s : ByteArray) : ∃ c W', (convert 9 78 (.string s)).run Tryz.prog W = .ok (.slice (some ⟨W.heap.size, 0, none⟩) s.size c) W' ∧ Below W.heap.size W W' ∧ UpB W' W.heap.size (bs s) ∧ s.size ≤ c := by
  refine ⟨_, _, Go.Lib.run_convert_string_bytes W 9 78 5 s Tryz.underlying9 Tryz.underlying78 Tryz.underlying5, ⟨rfl, rfl, rfl, by rw [Go.Lib.bytesWorld_size]; omega, fun k hk => Go.Lib.bytesWorld_at_old _ _ _ k hk⟩, ?_, ?_⟩
  · refine ⟨_, _, Go.Lib.bytesWorld_at_new W 5 s, ?_, Nat.le_refl _, fun j hj => ?_⟩
    · rw [bs_length]; simp [Go.Lib.bytesCells]
    · have := Go.Lib.bytesWorld_cell W 5 s j (by rw [← bs_length]; exact hj)
      rw [cell_of_row _ _ _ _ _ _ (Go.Lib.bytesWorld_at_new W 5 s)] at this
      exact this
  · exact grownCap_ge _ _ _ _

theorem up1_no {c : UInt8} (h : ¬ (97 ≤ c.toNat ∧ c.toNat ≤ 122)) : Ip.up1 c = c := by
  unfold Ip.up1
  rw [if_neg (fun hh => h ⟨by simpa using UInt8.le_iff_toNat_le.1 hh.1, by simpa using UInt8.le_iff_toNat_le.1 hh.2⟩)]
theorem up1_yes {c : UInt8} (h1 : 97 ≤ c.toNat) (h2 : c.toNat ≤ 122) : ((Ip.up1 c).toNat : Int) = (c.toNat : Int) - 97 + 65 := by
  have h : ∀ n : Fin 256, 97 ≤ n.1 → n.1 ≤ 122 → ((Ip.up1 (UInt8.ofNat n.1)).toNat : Int) = (n.1 : Int) - 97 + 65 := by decide +kernel
  have := h ⟨c.toNat, c.toNat_lt⟩ h1 h2
  simpa using this

set_option maxRecDepth 100000 in
theorem upper_any (s : List UInt8) (w : World) (hs : s.length ≤ 1099511627) : Calls Tryz.prog 102 #[.string (str s)] w fun e w' => e = .returned (.string (str (Ip.upper s))) ∧ Below w.heap.size w w' := by
  have hz := str_size s
  obtain ⟨c, W, hcv, hb, hu, hc⟩ := UpB.made w (str s)
  rw [show bs (str s) = s by simp [bs, str]] at hu
  rw [hz] at hcv hc
  have HN : Hid (s.length ≤ 1099511627) := hs
  have nb : (s.length : Int) ≤ 1099511627 := by omega
  clear hs hz
  generalize str s = S at *
  go_enter Tryz.func102, Tryz.ntmps102
  go_wp2
  go_loopw [10] (fun i wr => ∃ k : Nat, k ≤ s.length ∧ i = .int .i64 (k : Int) ∧ Hid (UpB wr w.heap.size ((s.take k).map Ip.up1 ++ s.drop k)) ∧ Hid (Below w.heap.size w wr)) (fun i _ => s.length - (intOf i).toNat)
  case atStart => exact ⟨0, Nat.zero_le _, rfl, by show UpB _ _ _; simpa using hu, hb⟩
  case round =>
    obtain ⟨k, hk, rfl, HU, HB⟩ := hrel
    by_cases hlt : k < s.length
    · have i1 : (k : Int) < (s.length : Int) := by omega
      have hll : ((s.take k).map Ip.up1 ++ s.drop k).length = s.length := by simp; omega
      have hg : ((s.take k).map Ip.up1 ++ s.drop k).getD k 0 = s[k] := by
        rw [List.getD_eq_getElem?_getD, List.getElem?_append_right (by simp; omega)]
        simp [Nat.min_eq_left (Nat.le_of_lt hlt), hlt]
      have hcell := HU.out.cell k (by rw [hll]; exact hlt)
      have hfree := HU.out.free k (by rw [hll]; exact hlt)
      rw [hg] at hcell
      have hset := HU.out.set k (by rw [hll]; exact hlt) (Ip.up1 s[k])
      have e1 : ((s.take k).map Ip.up1 ++ s.drop k).set k (Ip.up1 s[k]) = (s.take (k + 1)).map Ip.up1 ++ s.drop (k + 1) := by
        rw [List.set_append_right _ _ (by simp; omega), List.length_map, List.length_take, Nat.min_eq_left hk, Nat.sub_self, List.drop_eq_getElem_cons hlt, List.set_cons_zero, List.take_succ_eq_append_getElem hlt]
        simp
        rw [List.take_succ_eq_append_getElem (by simpa using hlt)]
        simp
      rw [e1] at hset
      by_cases hin : 97 ≤ s[k].toNat ∧ s[k].toNat ≤ 122
      · have hy := up1_yes hin.1 hin.2
        rw [hy] at hset
        have HS : Hid _ := hset
        have HB2 : Hid (Below w.heap.size w (wr.setCell ⟨w.heap.size, k, none⟩ (.int .u8 ((s[k].toNat : Int) - 97 + 65)))) := (Turn.put1 wr w.heap.size k _).bel HB.out (by simp)
        obtain ⟨b1, b2⟩ := hin
        clear hset e1 hll hg hy HU
        generalize s[k].toNat = X at *
        have b3 : (97 : Int) ≤ (X : Int) := by omega
        have b4 : (X : Int) ≤ 122 := by omega
        go_wp2
        exact ⟨⟨k + 1, by omega, by go_num, HS.out, HB2.out⟩, by simp [intOf]; omega⟩
      · have hn := up1_no hin
        have HS : Hid (UpB wr w.heap.size ((s.take (k + 1)).map Ip.up1 ++ s.drop (k + 1))) := by
          show UpB _ _ _
          have e2 : (s.take (k + 1)).map Ip.up1 ++ s.drop (k + 1) = (s.take k).map Ip.up1 ++ s.drop k := by
            rw [← e1, hn]
            apply List.ext_getElem?
            intro i
            by_cases hi : k = i
            · subst hi
              rw [List.getElem?_set_self (by rw [hll]; exact hlt), List.getElem?_eq_getElem (by rw [hll]; exact hlt)]
              rw [List.getD_eq_getElem?_getD, List.getElem?_eq_getElem (by rw [hll]; exact hlt)] at hg
              simpa using hg.symm
            · rw [List.getElem?_set_ne hi]
          rw [e2]
          exact HU.out
        clear hset e1 hll hg hn HU
        by_cases b1 : 97 ≤ s[k].toNat
        · have b2 : ¬ (s[k].toNat ≤ 122) := fun h => hin ⟨b1, h⟩
          clear hin
          generalize s[k].toNat = X at *
          have b3 : (97 : Int) ≤ (X : Int) := by omega
          have b4 : ¬ (X : Int) ≤ 122 := by omega
          go_wp2
          exact ⟨⟨k + 1, by omega, by go_num, HS.out, HB.out⟩, by simp [intOf]; omega⟩
        · clear hin
          generalize s[k].toNat = X at *
          have b3 : ¬ (97 : Int) ≤ (X : Int) := by omega
          go_wp2
          exact ⟨⟨k + 1, by omega, by go_num, HS.out, HB.out⟩, by simp [intOf]; omega⟩
    · obtain rfl : k = s.length := by omega
      have i1 : ¬ (s.length : Int) < (s.length : Int) := by omega
      have hU := HU.out
      rw [List.take_length, List.drop_length, List.append_nil] at hU
      have hby := hU.byts c (by simpa using hc)
      rw [List.length_map] at hby
      have hcc := conv_byts hby
      clear HU hU hby
      go_wp2
      go_ret
      exact ⟨rfl, HB.out⟩

end Go.Proofs.YtnobmgkdieaclaaGreatDoor
