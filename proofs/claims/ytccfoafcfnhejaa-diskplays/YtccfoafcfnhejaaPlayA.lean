/-
  DiskPlays: the calls that come in, opened.
-/
import Derived.Test.YtccfoafcfnhejaaArgs
import Derived.Test.YtccfoafcfnhejaaPlayK
import Derived.SizedLaws
namespace Go.Proofs.Ytccfoafcfnhejaa
open Go.ChangeShapes Go.WideShapes Go.ChangeAt Go.RowKit

section
variable {H : Type} {enc : TypeId × Value → H}

theorem cells48 : Try.prog.cellsOf 48 = 9 := by kernel_rfl
theorem cells31 : Try.prog.cellsOf 31 = 1 := by kernel_rfl
theorem bytes4 : Try.prog.bytesOf 4 = 1 := by kernel_rfl

theorem weights_mem_all {P : Program} {e : TypeId} : ∀ {ds : List (DataW H)} {d : DataW H}, d ∈ ds → ∀ n ∈ d.weights P e, n ∈ DataW.weightsAll P e ds
  | d0 :: ds, d, hd, n, hn => by
    simp only [DataW.weightsAll, List.mem_append]
    rcases List.mem_cons.1 hd with rfl | hd
    · exact .inl hn
    · exact .inr (weights_mem_all hd n hn)

set_option maxRecDepth 100000 in
theorem bols_cell {W : World} {c : Value} {fuel : Nat} {x : DataW H × List MemPlace} (hf : DataW.trod enc Try.prog W 0 (fun _ => true) true fuel 31 [c] = some x) :
    ∃ q : List Bool, Bols W W.heap.size c q ∧ ((∀ n ∈ x.1.weights Try.prog 31, n ≤ reachBytes) → q.length ≤ 140737488355328) := by
  rcases Deep.open_slice Try.underlying31 hf with ⟨hcs, _⟩ | ⟨a, len, cap, m, n, D, Pl, hcs, _, hl, hm, hz, hx, hel⟩
  · simp only [List.cons.injEq, and_true] at hcs
    subst hcs
    exact ⟨[], ⟨none, 0, rfl, Nat.le_refl _, fun h => absurd rfl h⟩, fun _ => by simp⟩
  · simp only [List.cons.injEq, and_true] at hcs
    subst hcs
    simp only [if_true] at hz
    subst hz
    have each : ∀ i, i < m → ∃ t : Bool, W.cell? (a.add (i * 1)) = some (.bool t) := by
      intro i hi
      obtain ⟨cs', hcs', htr⟩ := hel i hi
      rw [cells4] at hcs'
      obtain ⟨_, hlen, hcell⟩ := World.cells?_some hcs'
      obtain ⟨k0, e0, _⟩ := DataW.trod_bool Try.underlying4 htr
      match cs', hlen with
      | [c0], _ =>
        simp at e0
        subst e0
        exact ⟨k0, by simpa [Addr.add] using hcell 0 (by omega)⟩
    obtain ⟨f, hf'⟩ := Deep.choose_lt each
    have hql : ((List.range len).map f).length = len := by simp
    refine ⟨(List.range len).map f, ⟨some a, m, by rw [hql], by rw [hql]; omega, fun hne => ?_⟩, fun hw => ?_⟩
    · have hpos : 0 < len := by
        rcases Nat.eq_zero_or_pos len with h0 | h0
        · subst h0; exact absurd (by simp) hne
        · exact h0
      have h00 := hf' 0 (by omega)
      have hs := spot_none (x := a) (by simpa using h00)
      obtain ⟨b, o, sp⟩ := a
      simp only at hs
      subst hs
      refine ⟨b, o, rfl, ?_, fun j hj => ?_⟩
      · exact World.block_lt_of_cell? W _ (by simpa [Addr.add] using h00)
      · rw [hql] at hj
        have g0 := hf' j (by omega)
        have e : ((List.range len).map f).getD j false = f j := by simp [List.getD, hj]
        rw [e]
        rw [Addr.add_mid, Nat.mul_one] at g0
        exact g0
    · have h1 := hw ((len + (m - len)) * Try.prog.bytesOf 4) (by
        rw [hx]
        simp [DataW.weights, Try.underlying31])
      rw [bytes4] at h1
      rw [hql]
      unfold reachBytes at h1
      omega

set_option maxRecDepth 100000 in
theorem open_calls {W : World} {base : Nat} {v : Value} {d : DataW H} {p : List MemPlace} (hok : Value.okWide Try.prog W .any base 42 v) (h : DataW.Trod enc Try.prog W 0 (fun _ => true) true 42 v d p) (hsz : ∀ n ∈ d.weights Try.prog 42, n ≤ reachBytes) :
    ∃ q : List CalR, CalS W W.heap.size v q := by
  obtain ⟨a0, len, cap, rfl⟩ := okWide_slice Try.underlying42 hok
  obtain ⟨fuel, hf⟩ := h
  rcases Deep.open_slice Try.underlying42 hf with ⟨hcs, _⟩ | ⟨x, l, c, m, n, D, Pl, hcs, _, hl, hm, hz, hx, hel⟩
  · simp [Value.cells] at hcs
    obtain ⟨rfl, rfl, rfl⟩ := hcs
    exact ⟨[], none, 0, rfl, (fun j hj => by simp at hj), fun h => absurd rfl h⟩
  · simp [Value.cells] at hcs
    obtain ⟨rfl, rfl, rfl⟩ := hcs
    simp only [if_true] at hz
    subst hz
    simp only [Prod.mk.injEq] at hx
    obtain ⟨hxd, -⟩ := hx
    have each : ∀ i, i < m → ∃ t : CalR, (∀ s u, t.cells[s]? = some u → W.cell? ((x.add (i * 9)).add s) = some u) ∧ Bols W W.heap.size t.vk t.kl ∧ ((∀ n ∈ (D i).weights Try.prog 48, n ≤ reachBytes) → t.kl.length ≤ 140737488355328) := by
      intro i hi
      obtain ⟨cs', hcs', htr⟩ := hel i hi
      rw [cells48] at hcs'
      obtain ⟨_, hlen, hcell⟩ := World.cells?_some hcs'
      obtain ⟨xs, n', _, hDx, hl', hlen', hfld⟩ := DataW.trod_struct Try.underlying48 htr
      match xs, hlen' with
      | [y0, y1, y2, y3, y4, y5, y6, y7, y8], _ =>
        match cs', hlen with
        | [c0, c1, c2, c3, c4, c5, c6, c7, c8], _ =>
          have t0 : DataW.trod enc Try.prog W 0 (fun _ => true) true n' 3 [c0] = some y0 := by
            have t : DataW.trod enc Try.prog W 0 (fun _ => true) true n' 3 (([c0, c1, c2, c3, c4, c5, c6, c7, c8].drop 0).take (Try.prog.cellsOf 3)) = some y0 := hfld 0 _ rfl
            rw [cells3] at t
            exact t
          have t1 : DataW.trod enc Try.prog W 0 (fun _ => true) true n' 3 [c1] = some y1 := by
            have t : DataW.trod enc Try.prog W 0 (fun _ => true) true n' 3 (([c0, c1, c2, c3, c4, c5, c6, c7, c8].drop 1).take (Try.prog.cellsOf 3)) = some y1 := hfld 1 _ rfl
            rw [cells3] at t
            exact t
          have t2 : DataW.trod enc Try.prog W 0 (fun _ => true) true n' 3 [c2] = some y2 := by
            have t : DataW.trod enc Try.prog W 0 (fun _ => true) true n' 3 (([c0, c1, c2, c3, c4, c5, c6, c7, c8].drop 2).take (Try.prog.cellsOf 3)) = some y2 := hfld 2 _ rfl
            rw [cells3] at t
            exact t
          have t3 : DataW.trod enc Try.prog W 0 (fun _ => true) true n' 3 [c3] = some y3 := by
            have t : DataW.trod enc Try.prog W 0 (fun _ => true) true n' 3 (([c0, c1, c2, c3, c4, c5, c6, c7, c8].drop 3).take (Try.prog.cellsOf 3)) = some y3 := hfld 3 _ rfl
            rw [cells3] at t
            exact t
          have t4 : DataW.trod enc Try.prog W 0 (fun _ => true) true n' 3 [c4] = some y4 := by
            have t : DataW.trod enc Try.prog W 0 (fun _ => true) true n' 3 (([c0, c1, c2, c3, c4, c5, c6, c7, c8].drop 4).take (Try.prog.cellsOf 3)) = some y4 := hfld 4 _ rfl
            rw [cells3] at t
            exact t
          have t5 : DataW.trod enc Try.prog W 0 (fun _ => true) true n' 3 [c5] = some y5 := by
            have t : DataW.trod enc Try.prog W 0 (fun _ => true) true n' 3 (([c0, c1, c2, c3, c4, c5, c6, c7, c8].drop 5).take (Try.prog.cellsOf 3)) = some y5 := hfld 5 _ rfl
            rw [cells3] at t
            exact t
          have t6 : DataW.trod enc Try.prog W 0 (fun _ => true) true n' 3 [c6] = some y6 := by
            have t : DataW.trod enc Try.prog W 0 (fun _ => true) true n' 3 (([c0, c1, c2, c3, c4, c5, c6, c7, c8].drop 6).take (Try.prog.cellsOf 3)) = some y6 := hfld 6 _ rfl
            rw [cells3] at t
            exact t
          have t7 : DataW.trod enc Try.prog W 0 (fun _ => true) true n' 5 [c7] = some y7 := by
            have t : DataW.trod enc Try.prog W 0 (fun _ => true) true n' 5 (([c0, c1, c2, c3, c4, c5, c6, c7, c8].drop 7).take (Try.prog.cellsOf 5)) = some y7 := hfld 7 _ rfl
            rw [cells5] at t
            exact t
          have t8 : DataW.trod enc Try.prog W 0 (fun _ => true) true n' 31 [c8] = some y8 := by
            have t : DataW.trod enc Try.prog W 0 (fun _ => true) true n' 31 (([c0, c1, c2, c3, c4, c5, c6, c7, c8].drop 8).take (Try.prog.cellsOf 31)) = some y8 := hfld 8 _ rfl
            rw [cells31] at t
            exact t
          obtain ⟨k0, e0, _, _⟩ := DataW.trod_int Try.underlying3 t0
          obtain ⟨k1, e1, _, _⟩ := DataW.trod_int Try.underlying3 t1
          obtain ⟨k2, e2, _, _⟩ := DataW.trod_int Try.underlying3 t2
          obtain ⟨k3, e3, _, _⟩ := DataW.trod_int Try.underlying3 t3
          obtain ⟨k4, e4, _, _⟩ := DataW.trod_int Try.underlying3 t4
          obtain ⟨k5, e5, _, _⟩ := DataW.trod_int Try.underlying3 t5
          obtain ⟨k6, e6, _, _⟩ := DataW.trod_int Try.underlying3 t6
          obtain ⟨k7, e7, _, w7⟩ := DataW.trod_int Try.underlying5 t7
          obtain ⟨kl, hb8, hkl⟩ := bols_cell t8
          simp only [List.cons.injEq, and_true] at e0 e1 e2 e3 e4 e5 e6 e7
          subst e0 e1 e2 e3 e4 e5 e6 e7
          refine ⟨⟨k0, k1, k2, k3, k4, k5, k6, UInt8.ofNat k7.toNat, c8, kl⟩, fun s u hu => ?_, hb8, fun hw => hkl fun q hq => hw q ?_⟩
          · have hs9 : s < 9 := by
              have := (Array.getElem?_eq_some_iff.1 hu).1
              simpa [CalR.cells, calV] using this
            have hcs := hcell s hs9
            have e : (CalR.cells ⟨k0, k1, k2, k3, k4, k5, k6, UInt8.ofNat k7.toNat, c8, kl⟩).toList = [Value.int .i64 k0, .int .i64 k1, .int .i64 k2, .int .i64 k3, .int .i64 k4, .int .i64 k5, .int .i64 k6, .int .u8 k7, c8] := by
              simp only [CalR.cells, calV]
              rw [← u8_of w7]
            rw [← Array.getElem?_toList, e] at hu
            rw [← hu]
            exact hcs
          · simp only [Prod.mk.injEq] at hDx
            rw [hDx.1]
            simp only [DataW.weights, Try.underlying48]
            exact DataW.weights_mem_each (j := 8) rfl rfl q hq
    haveI : Inhabited CalR := ⟨CalR.none⟩
    obtain ⟨f, hf'⟩ := Deep.choose_lt each
    have hql : ((List.range len).map f).length = len := by simp
    have hget : ∀ j, j < len → ((List.range len).map f).getD j CalR.none = f j := fun j hj => by simp [List.getD, hj]
    refine ⟨(List.range len).map f, some x, m, by rw [hql], fun j hj => ?_, fun hne => ?_⟩
    · rw [hql] at hj
      rw [hget j hj]
      obtain ⟨_, h2, h3⟩ := hf' j (by omega)
      refine ⟨h2, h3 fun q hq => hsz q ?_⟩
      rw [hxd]
      simp only [DataW.weights, Try.underlying42, List.mem_cons, List.mem_append]
      exact .inr (.inl (weights_mem_all (List.mem_map.2 ⟨j, List.mem_range.2 hj, rfl⟩) q hq))
    · have hpos : 0 < len := by
        rcases Nat.eq_zero_or_pos len with h0 | h0
        · subst h0; exact absurd (by simp) hne
        · exact h0
      have hz : (x.add (0 * 9)).add 0 = x.add 0 := by
        rw [Nat.zero_mul]
        unfold Addr.add
        split <;> simp_all
      have h00 := (hf' 0 (by omega)).1 0 _ rfl
      rw [hz] at h00
      have hs := spot_none (x := x) h00
      obtain ⟨b, o, sp⟩ := x
      simp only at hs
      subst hs
      refine ⟨b, o, rfl, ?_, fun j hj t u hu => ?_⟩
      · exact World.block_lt_of_cell? W _ (by simpa [Addr.add] using h00)
      · rw [hql] at hj
        rw [hget j hj] at hu
        have g0 := (hf' j (by omega)).1 t u hu
        rw [Addr.add_mid, Addr.add_mid] at g0
        exact g0
end
end Go.Proofs.Ytccfoafcfnhejaa
