/-
  WHAT THE LAWS SHARE: from 'it returns true and nothing old has turned' to the row; opening the arguments.
-/
import Derived.Test.YtppcfidaalejfaaRows
import Derived.Test.YtppcfidaalejfaaKit
import Derived.ProofKit
import Derived.OpenShut
import Derived.SliceStrings
import Derived.JoinedCond
import Derived.Carry
import Derived.Test.YtppcfidaalejfaaRec
import Derived.Deep.Slices
import Derived.Deep.Strs
import Derived.SizedLaws
namespace Go.Proofs.Ytppcfidaalejfaa
open Go.ChangeShapes Go.WideShapes Go.ChangeAt Go.RowKit

theorem own : ownKnob Try.prog.godebug = none := by kernel_rfl
theorem laidOut : laidOutB Try.prog = true := by kernel_rfl

section
variable {H : Type} {enc : TypeId × Value → H}

theorem trodAll_below {W W' : World} (hb : Below W.heap.size W W') : ∀ (ts : List TypeId) (vs : List Value) (ds : List (DataW H)) (p : List MemPlace), (∀ t ∈ ts, Try.prog.readableRec t = true ∧ t < Try.prog.types.size) →
    DataW.TrodAll enc Try.prog W 0 (fun _ => true) true ts vs ds p → DataW.TrodAll enc Try.prog W' 0 (fun b => decide (b < W.heap.size)) true ts vs ds p := by
  intro ts
  induction ts with
  | nil =>
    intro vs ds p _ h
    obtain ⟨rfl, rfl, rfl⟩ := trodAll_nil h
    exact trodAll_mk0
  | cons t ts ih =>
    intro vs ds p hr h
    obtain ⟨v, vs', d, ds', p1, q1, rfl, rfl, rfl, h1, h2⟩ := trodAll_cons h
    have ht := hr t (by simp)
    have hlt : ∀ x ∈ p1, x.block < W.heap.size := by obtain ⟨m, hm⟩ := h1; exact DataW.trod_lt m _ _ _ hm
    exact trodAll_cons_mk (Below.trod laidOut ht.1 ht.2 h1 hb hlt) (ih vs' ds' q1 (fun t' ht' => hr t' (by simp [ht'])) h2)

theorem law_post {f : Func} {s : ChangeSpec} {W W' : World} {args : Array Value} {ds gs : List (DataW H)} {before : List MemPlace} (hv : s.vars = []) (hrt : f.resultTypes = #[4])
    (hread : ∀ t ∈ f.params.toList, Try.prog.readableRec t = true ∧ t < Try.prog.types.size) (hspec : s.fn H (ds ++ gs) = { results := [.lit (.bool true)], args := ds })
    (hW : DataW.Whole enc Try.prog f.params.toList s.vars false W args.toList ds gs before) (hb : Below W.heap.size W W') : s.post enc Try.prog f false true false false W args (.bool true) W' := by
  have hW' := hW
  obtain ⟨p, q, hA, hV, rfl, hfz, hnd⟩ := hW
  refine ⟨ds, gs, _, [], p, [], hW', ?_, ?_, ?_, hb.frame _, fun h => by cases h⟩
  · rw [hspec, hrt]
    exact trodAll_mk1 (shut_bool Try.underlying4 _)
  · rw [hspec]
    exact trodAll_below hb _ _ _ _ hread hA
  · rw [hspec, hv]
    rfl

theorem spot_none {w : World} {x : Addr} {v : Value} (h : w.cell? (x.add 0) = some v) : x.spot = none := by
  simpa [Addr.add] using World.cell?_spot h

theorem wf_u8 {n : Int} (h : (Lit.int .u8 n).wf = true) : 0 ≤ n ∧ n < 256 := by
  have : 0 ≤ n ∧ n ≤ 255 := by simpa [Lit.wf, IntKind.min, IntKind.max, IntKind.signed, IntKind.bits] using h
  omega
theorem wf_u32 {n : Int} (h : (Lit.int .u32 n).wf = true) : ∃ m : Nat, n = (m : Int) ∧ m < 4294967296 := by
  have : 0 ≤ n ∧ n ≤ 4294967295 := by simpa [Lit.wf, IntKind.min, IntKind.max, IntKind.signed, IntKind.bits] using h
  exact ⟨n.toNat, by omega, by omega⟩

end
end Go.Proofs.Ytppcfidaalejfaa

namespace Go.Proofs.Ytppcfidaalejfaa
open Go.ChangeShapes Go.WideShapes Go.ChangeAt Go.RowKit

theorem weights_mem_all {H : Type} {P : Program} {e : TypeId} : ∀ {ds : List (DataW H)} {d : DataW H}, d ∈ ds → ∀ n ∈ d.weights P e, n ∈ DataW.weightsAll P e ds
  | d0 :: ds, d, hd, n, hn => by
    simp only [DataW.weightsAll, List.mem_append]
    rcases List.mem_cons.1 hd with rfl | hd
    · exact .inl hn
    · exact .inr (weights_mem_all hd n hn)
set_option maxRecDepth 100000 in
theorem Rc.openRows {α : Type} (R : Rc α) [Inhabited α] {H : Type} {enc : TypeId × Value → H} {W : World} {base : Nat} {v : Value} {d : DataW H} {p : List MemPlace} (hce : Try.prog.cellsOf R.e = R.k)
    (hok : Value.okWide Try.prog W .any base R.st v) (h : DataW.Trod enc Try.prog W 0 (fun _ => true) true R.st v d p) (Q : α → DataW H → Prop)
    (one : ∀ fuel cs x, cs.length = R.k → DataW.trod enc Try.prog W 0 (fun _ => true) true fuel R.e cs = some x → ∃ a, R.enc a = cs ∧ Q a x.1) :
    ∃ l : List α, R.Sl W W.heap.size v l ∧ (∀ a ∈ l, ∃ d', Q a d' ∧ ∀ n ∈ d'.weights Try.prog R.e, n ∈ d.weights Try.prog R.st) ∧ (l = [] ∨ ∃ n ∈ d.weights Try.prog R.st, l.length * Try.prog.bytesOf R.e ≤ n) := by
  obtain ⟨a0, len, cap, rfl⟩ := okWide_slice R.under hok
  obtain ⟨fuel, hf⟩ := h
  rcases Deep.open_slice R.under hf with ⟨hcs, _⟩ | ⟨x, l, c, m, n, D, Pl, hcs, _, hl, hm, hz, hx, hel⟩
  · simp [Value.cells] at hcs
    obtain ⟨rfl, rfl, rfl⟩ := hcs
    exact ⟨[], Rc.Sl.nil W _, by simp, .inl rfl⟩
  · simp [Value.cells] at hcs
    obtain ⟨rfl, rfl, rfl⟩ := hcs
    simp only [if_true] at hz
    subst hz
    simp only [Prod.mk.injEq] at hx
    obtain ⟨hxd, -⟩ := hx
    have each : ∀ i, i < m → ∃ t : α, (∀ s u, (R.enc t)[s]? = some u → W.cell? ((x.add (i * R.k)).add s) = some u) ∧ Q t (D i) := by
      intro i hi
      obtain ⟨cs', hcs', htr⟩ := hel i hi
      rw [hce] at hcs'
      obtain ⟨_, hlen, hcell⟩ := World.cells?_some hcs'
      obtain ⟨a, ha, hq⟩ := one _ cs' _ hlen htr
      refine ⟨a, fun s u hu => ?_, hq⟩
      rw [ha] at hu
      have hs : s < R.k := by rw [← hlen]; exact (List.getElem?_eq_some_iff.1 hu).1
      rw [hcell s hs]
      exact hu
    obtain ⟨f, hf'⟩ := Deep.choose_lt each
    have hql : ((List.range len).map f).length = len := by simp
    refine ⟨(List.range len).map f, ⟨some x, m, by rw [hql], by rw [hql]; omega, (fun h => by cases h), fun hne => ?_⟩, fun a ha => ?_, .inr ⟨(len + (m - len)) * Try.prog.bytesOf R.e, ?_, ?_⟩⟩
    · have hpos : 0 < len := by
        rcases Nat.eq_zero_or_pos len with h0 | h0
        · subst h0; exact absurd (by simp) hne
        · exact h0
      have hk0 : 0 < R.k := R.pos
      have hel0 : 0 < (R.enc (f 0)).length := by rw [R.len]; exact hk0
      have hz : (x.add (0 * R.k)).add 0 = x.add 0 := by
        rw [Nat.zero_mul]
        unfold Addr.add
        split <;> simp_all
      have h00 := (hf' 0 (by omega)).1 0 _ (List.getElem?_eq_getElem hel0)
      rw [hz] at h00
      have hs := spot_none (x := x) h00
      obtain ⟨b, o, sp⟩ := x
      simp only at hs
      subst hs
      refine ⟨b, o, rfl, World.block_lt_of_cell? W _ (by simpa [Addr.add] using h00), fun q u hu => ?_⟩
      have hqlt : q < len * R.k := by
        have := (List.getElem?_eq_some_iff.1 hu).1
        rw [R.vals_length, hql] at this
        exact this
      have hj : q / R.k < len := (Nat.div_lt_iff_lt_mul hk0).2 hqlt
      have hfm : q % R.k < R.k := Nat.mod_lt _ hk0
      have hq : q / R.k * R.k + q % R.k = q := by rw [Nat.mul_comm]; exact Nat.div_add_mod q R.k
      have hv := R.vals_get ((List.range len).map f) (q / R.k) (q % R.k) (by rw [hql]; exact hj) hfm
      rw [hq, hu] at hv
      have e : ((List.range len).map f)[q / R.k]'(by rw [hql]; exact hj) = f (q / R.k) := by simp
      rw [e] at hv
      have g0 := (hf' (q / R.k) (by omega)).1 _ _ hv.symm
      rw [addr_at, addr_at, Nat.add_assoc, hq] at g0
      exact g0
    · obtain ⟨j, hj, rfl⟩ := List.mem_map.1 ha
      rw [List.mem_range] at hj
      refine ⟨D j, (hf' j (by omega)).2, fun n hn => ?_⟩
      rw [hxd]
      simp only [DataW.weights, R.under, List.mem_cons, List.mem_append]
      exact .inr (.inl (weights_mem_all (List.mem_map.2 ⟨j, List.mem_range.2 hj, rfl⟩) n hn))
    · rw [hxd]
      simp only [DataW.weights, R.under, List.mem_cons, List.length_map, List.length_range]
      exact .inl (by simp)
    · rw [hql]
      exact Nat.mul_le_mul_right _ (by omega)

end Go.Proofs.Ytppcfidaalejfaa
