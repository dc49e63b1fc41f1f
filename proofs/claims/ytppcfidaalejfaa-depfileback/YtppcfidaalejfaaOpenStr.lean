/-
  ROWS THAT COME IN, OPENED, WITH WHAT THEIR SIZES SAY; rows of texts by their bytes.
-/
import Derived.Test.YtppcfidaalejfaaLaw
import Derived.Test.YtppcfidaalejfaaPBs
import Derived.Test.YtppcfidaalejfaaDpGreat
namespace Go.Proofs.Ytppcfidaalejfaa
open Go.ChangeShapes Go.WideShapes Go.ChangeAt Go.RowKit

set_option maxRecDepth 100000 in
theorem Rc.openCells {α : Type} (R : Rc α) [Inhabited α] {H : Type} {enc : TypeId × Value → H} {W : World} {fuel0 : Nat} {v : Value} {d : DataW H} {p : List MemPlace} (hce : Try.prog.cellsOf R.e = R.k)
    (hf : DataW.trod enc Try.prog W 0 (fun _ => true) true fuel0 R.st [v] = some (d, p)) (Q : α → DataW H → Prop)
    (one : ∀ fuel cs x, cs.length = R.k → DataW.trod enc Try.prog W 0 (fun _ => true) true fuel R.e cs = some x → ∃ a, R.enc a = cs ∧ Q a x.1) :
    ∃ l : List α, R.Sl W W.heap.size v l ∧ (∀ a ∈ l, ∃ d', Q a d' ∧ ∀ n ∈ d'.weights Try.prog R.e, n ∈ d.weights Try.prog R.st) ∧ (l = [] ∨ ∃ n ∈ d.weights Try.prog R.st, l.length * Try.prog.bytesOf R.e ≤ n) := by
  rcases Deep.open_slice R.under hf with ⟨hcs, _⟩ | ⟨x, len, cap, m, n, D, Pl, hcs, _, hl, hm, hz, hx, hel⟩
  · simp only [List.cons.injEq, and_true] at hcs
    subst hcs
    exact ⟨[], Rc.Sl.nil W _, by simp, .inl rfl⟩
  · simp only [List.cons.injEq, and_true] at hcs
    subst hcs
    simp only [if_true] at hz
    subst hz
    simp only [Prod.mk.injEq] at hx
    obtain ⟨hxd, -⟩ := hx
    have each : ∀ i, i < m → ∃ t : α, (∀ s u, (R.enc t)[s]? = some u → W.cell? ((x.add (i * R.k)).add s) = some u) ∧ Q t (D i) := by
      intro i hi
      obtain ⟨cs', hcs', htr⟩ := hel i hi
      rw [hce] at hcs'
      obtain ⟨_, hlen, hcell⟩ := World.cells?_some hcs'
      obtain ⟨a, ha, hq⟩ := one _ cs' _ hlen htr
      refine ⟨a, fun s u hu => ?_, hq⟩
      rw [ha] at hu
      have hs : s < R.k := by rw [← hlen]; exact (List.getElem?_eq_some_iff.1 hu).1
      rw [hcell s hs]
      exact hu
    obtain ⟨f, hf'⟩ := Deep.choose_lt each
    have hql : ((List.range len).map f).length = len := by simp
    refine ⟨(List.range len).map f, ⟨some x, m, by rw [hql], by rw [hql]; omega, (fun h => by cases h), fun hne => ?_⟩, fun a ha => ?_, .inr ⟨(len + (m - len)) * Try.prog.bytesOf R.e, ?_, ?_⟩⟩
    · have hpos : 0 < len := by
        rcases Nat.eq_zero_or_pos len with h0 | h0
        · subst h0; exact absurd (by simp) hne
        · exact h0
      have hk0 : 0 < R.k := R.pos
      have hel0 : 0 < (R.enc (f 0)).length := by rw [R.len]; exact hk0
      have hz : (x.add (0 * R.k)).add 0 = x.add 0 := by
        rw [Nat.zero_mul]
        unfold Addr.add
        split <;> simp_all
      have h00 := (hf' 0 (by omega)).1 0 _ (List.getElem?_eq_getElem hel0)
      rw [hz] at h00
      have hs := spot_none (x := x) h00
      obtain ⟨b, o, sp⟩ := x
      simp only at hs
      subst hs
      refine ⟨b, o, rfl, World.block_lt_of_cell? W _ (by simpa [Addr.add] using h00), fun q u hu => ?_⟩
      have hqlt : q < len * R.k := by
        have := (List.getElem?_eq_some_iff.1 hu).1
        rw [R.vals_length, hql] at this
        exact this
      have hj : q / R.k < len := (Nat.div_lt_iff_lt_mul hk0).2 hqlt
      have hfm : q % R.k < R.k := Nat.mod_lt _ hk0
      have hq : q / R.k * R.k + q % R.k = q := by rw [Nat.mul_comm]; exact Nat.div_add_mod q R.k
      have hv := R.vals_get ((List.range len).map f) (q / R.k) (q % R.k) (by rw [hql]; exact hj) hfm
      rw [hq, hu] at hv
      have e : ((List.range len).map f)[q / R.k]'(by rw [hql]; exact hj) = f (q / R.k) := by simp
      rw [e] at hv
      have g0 := (hf' (q / R.k) (by omega)).1 _ _ hv.symm
      rw [addr_at, addr_at, Nat.add_assoc, hq] at g0
      exact g0
    · obtain ⟨j, hj, rfl⟩ := List.mem_map.1 ha
      rw [List.mem_range] at hj
      refine ⟨D j, (hf' j (by omega)).2, fun n hn => ?_⟩
      rw [hxd]
      simp only [DataW.weights, R.under, List.mem_cons, List.mem_append]
      exact .inr (.inl (weights_mem_all (List.mem_map.2 ⟨j, List.mem_range.2 hj, rfl⟩) n hn))
    · rw [hxd]
      simp only [DataW.weights, R.under, List.mem_cons, List.length_map, List.length_range]
      exact .inl (by simp)
    · rw [hql]
      exact Nat.mul_le_mul_right _ (by omega)

theorem pairs_of' {α β : Type} {P : α → β → Prop} : ∀ (l : List α), (∀ a ∈ l, ∃ b, P a b) → ∃ ps : List (α × β), ps.map Prod.fst = l ∧ ∀ p ∈ ps, P p.1 p.2
  | [], _ => ⟨[], rfl, fun _ h => by cases h⟩
  | a :: r, h => by
    obtain ⟨b, hb⟩ := h a (List.mem_cons_self ..)
    obtain ⟨ps, h1, h2⟩ := pairs_of' r fun x hx => h x (List.mem_cons_of_mem _ hx)
    refine ⟨(a, b) :: ps, by rw [List.map_cons, h1], fun p hp => ?_⟩
    rcases List.mem_cons.1 hp with rfl | hp
    · exact hb
    · exact h2 p hp
theorem cells9 : Try.prog.cellsOf 9 = 1 := by kernel_rfl
theorem cellsSs : Try.prog.cellsOf 30 = 1 := by kernel_rfl
theorem bytes9 : 1 ≤ Try.prog.bytesOf 9 := by
  rw [show Try.prog.bytesOf 9 = 16 by kernel_rfl]; decide

set_option maxRecDepth 100000 in
theorem open_strs {H : Type} {enc : TypeId × Value → H} {W : World} {fuel0 : Nat} {v : Value} {d : DataW H} {p : List MemPlace} (hf : DataW.trod enc Try.prog W 0 (fun _ => true) true fuel0 30 [v] = some (d, p)) :
    ∃ l : List (List UInt8), BR.Sl W W.heap.size v l ∧ ((∀ n ∈ d.weights Try.prog 30, n ≤ reachBytes) → l.length ≤ reachBytes ∧ ∀ u ∈ l, u.length ≤ reachBytes) := by
  obtain ⟨l, h1, h2, h3⟩ := Rc.openCells BR cells9 hf (fun a d' => (∀ n ∈ d'.weights Try.prog 9, n ≤ reachBytes) → a.length ≤ reachBytes) (by
    intro fuel cs x hlen htr
    match cs, hlen with
    | [c0], _ =>
      obtain ⟨k0, e0, x0, _⟩ := DataW.trod_string Try.underlying9 htr
      simp only [List.cons.injEq, and_true] at e0
      subst e0
      refine ⟨bs k0, by show [Value.string (str (bs k0))] = _; rw [str_of k0], fun hw => ?_⟩
      exact hw _ (by rw [x0]; simp [DataW.weights, bs]))
  refine ⟨l, h1, fun hsz => ⟨?_, fun u hu => ?_⟩⟩
  · rcases h3 with rfl | ⟨n, hn, hl⟩
    · exact Nat.zero_le _
    · have := hsz n hn
      have := Nat.mul_le_mul_left l.length bytes9
      have e : l.length * Try.prog.bytesOf BR.e = l.length * Try.prog.bytesOf 9 := rfl
      omega
  · obtain ⟨d', k1, k2⟩ := h2 u hu
    exact k1 fun n hn => hsz n (k2 n hn)

end Go.Proofs.Ytppcfidaalejfaa

namespace Go.Proofs.Ytppcfidaalejfaa
open Go.ChangeShapes Go.WideShapes Go.ChangeAt Go.RowKit

instance : Inhabited RawD := ⟨⟨[], none, 0, 0⟩⟩
theorem cellsDr : Try.prog.cellsOf 32 = 2 := by kernel_rfl
theorem bytesDr : 1 ≤ Try.prog.bytesOf 32 := by
  rw [show Try.prog.bytesOf 32 = 40 by kernel_rfl]; decide

set_option maxRecDepth 100000 in
theorem open_deps {H : Type} {enc : TypeId × Value → H} {W : World} {base : Nat} {v : Value} {d : DataW H} {p : List MemPlace} (hok : Value.okWide Try.prog W .any base 23 v) (h : DataW.Trod enc Try.prog W 0 (fun _ => true) true 23 v d p) (hsz : ∀ n ∈ d.weights Try.prog 23, n ≤ reachBytes) :
    ∃ A : List Dp.Rule, DrS W W.heap.size v A ∧ Dp.Sized A := by
  obtain ⟨l, h1, h2, h3⟩ := Rc.openRows DrR cellsDr hok h (fun a d' => ∃ x : Dp.Rule, (a.t = x.1 ∧ BR.Sl W W.heap.size a.deps x.2) ∧ ((∀ n ∈ d'.weights Try.prog 32, n ≤ reachBytes) → x.1.length ≤ reachBytes ∧ x.2.length ≤ reachBytes ∧ ∀ u ∈ x.2, u.length ≤ reachBytes)) (by
    intro fuel cs x hlen htr
    obtain ⟨xs, n', _, hDx, hl', hlen', hfld⟩ := DataW.trod_struct Try.underlying32 htr
    match xs, hlen' with
    | [y0, y1], _ =>
      match cs, hlen with
      | [c0, c1], _ =>
        have t0 : DataW.trod enc Try.prog W 0 (fun _ => true) true n' 9 [c0] = some y0 := by
          have t : DataW.trod enc Try.prog W 0 (fun _ => true) true n' 9 (([c0, c1].drop 0).take (Try.prog.cellsOf 9)) = some y0 := hfld 0 _ rfl
          rw [cells9] at t
          exact t
        have t1 : DataW.trod enc Try.prog W 0 (fun _ => true) true n' 30 [c1] = some y1 := by
          have t : DataW.trod enc Try.prog W 0 (fun _ => true) true n' 30 (([c0, c1].drop 1).take (Try.prog.cellsOf 30)) = some y1 := hfld 1 _ rfl
          rw [cellsSs] at t
          exact t
        obtain ⟨k0, e0, x0, _⟩ := DataW.trod_string Try.underlying9 t0
        obtain ⟨ws, hws, hb⟩ := open_strs (d := y1.1) (p := y1.2) t1
        obtain ⟨ad, c, rfl, hc⟩ := hws.shape
        simp only [List.cons.injEq, and_true] at e0
        subst e0
        refine ⟨⟨bs k0, ad, ws.length, c⟩, by show [Value.string (str (bs k0)), _] = _; rw [str_of k0], (bs k0, ws), ⟨rfl, hws⟩, fun hw => ?_⟩
        have hD : x.1 = .agg [y0.1, y1.1] := by rw [hDx]; rfl
        have g : ∀ n ∈ DataW.weightsEach Try.prog [9, 30] [y0.1, y1.1], n ≤ reachBytes := fun n hn => hw n (by
          rw [hD]
          simp only [DataW.weights, Try.underlying32]
          exact hn)
        obtain ⟨b1, b2⟩ := hb fun n hn => g n (DataW.weights_mem_each (j := 1) rfl rfl n hn)
        exact ⟨g _ (DataW.weights_mem_each (j := 0) rfl rfl _ (by rw [x0]; simp [DataW.weights, bs])), b1, b2⟩)
  obtain ⟨ps, e1, e2⟩ := pairs_of' (P := fun (a : RawD) (x : Dp.Rule) => (a.t = x.1 ∧ BR.Sl W W.heap.size a.deps x.2) ∧ x.1.length ≤ reachBytes ∧ x.2.length ≤ reachBytes ∧ ∀ u ∈ x.2, u.length ≤ reachBytes) l fun a ha => by
    obtain ⟨d', ⟨x, k1, k2⟩, k3⟩ := h2 a ha
    exact ⟨x, k1, k2 fun n hn => hsz n (k3 n hn)⟩
  have hr : reachBytes = 140737488351232 := rfl
  refine ⟨ps.map Prod.snd, ⟨ps, by rw [e1]; exact h1, rfl, fun p hp => (e2 p hp).1⟩, ?_, fun u hu => ?_, fun u hu => ?_, fun u hu x hx => ?_⟩
  · rw [List.length_map]
    have hl : ps.length = l.length := by rw [← e1, List.length_map]
    rw [hl]
    rcases h3 with rfl | ⟨n, hn, hl⟩
    · exact Nat.zero_le _
    · have := hsz n hn
      have := Nat.mul_le_mul_left l.length bytesDr
      have e : l.length * Try.prog.bytesOf DrR.e = l.length * Try.prog.bytesOf 32 := rfl
      omega
  · obtain ⟨p, hp, rfl⟩ := List.mem_map.1 hu
    have := (e2 p hp).2.1
    omega
  · obtain ⟨p, hp, rfl⟩ := List.mem_map.1 hu
    have := (e2 p hp).2.2.1
    omega
  · obtain ⟨p, hp, rfl⟩ := List.mem_map.1 hu
    have := (e2 p hp).2.2.2 x hx
    omega

end Go.Proofs.Ytppcfidaalejfaa
