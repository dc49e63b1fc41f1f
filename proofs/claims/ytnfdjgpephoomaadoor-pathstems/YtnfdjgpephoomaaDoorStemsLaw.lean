/-
  PathStems: what a pattern is filled with is the stem that is found again. For every input, no condition (the card: the library's tables as its text lays them).
-/
import Derived.Test.YtnfdjgpephoomaaDoorLStems
import Derived.SizedLaws
import Derived.Test.YtnfdjgpephoomaaDoorLaw
import Derived.Test.YtnfdjgpephoomaaDoorCards
import Derived.Test.YtnfdjgpephoomaaDoorTie
import Derived.ProofKit
import Derived.OpenShut
import Derived.LaidMore
import Derived.Lay
import Derived.SevenTiedAt
import Derived.Stop.Joined
namespace Go.Proofs.YtnfdjgpephoomaaDoor
open Go.ChangeShapes Go.WideShapes Go.ChangeAt Go.RowKit

theorem cellsF : Tryd.prog.cellsOf 26 = 4 := by kernel_rfl
theorem cells9f : Tryd.prog.cellsOf 9 = 1 := by kernel_rfl
theorem open_filled {H : Type} {enc : TypeId × Value → H} {W : World} {base : Nat} {v : Value} {d : DataW H} {p : List MemPlace} (hok : Value.okWide Tryd.prog W .any base 26 v) (h : DataW.Trod enc Tryd.prog W 0 (fun _ => true) true 26 v d p) :
    ∃ a b x y : ByteArray, v = .agg #[.string a, .string b, .string x, .string y] ∧ d = .agg [.lit (.string a.data.toList), .lit (.string b.data.toList), .lit (.string x.data.toList), .lit (.string y.data.toList)] := by
  obtain ⟨cs, rfl, hcs⟩ := okWide_struct Tryd.underlying26 hok
  rw [cellsF] at hcs
  obtain ⟨fuel, hf⟩ := h
  obtain ⟨xs, n', _, hx, hl', hlen', hfld⟩ := DataW.trod_struct Tryd.underlying26 hf
  match xs, hlen' with
  | [y0, y1, y2, y3], _ =>
    have t0 := hfld 0 _ rfl
    have t1 := hfld 1 _ rfl
    have t2 := hfld 2 _ rfl
    have t3 := hfld 3 _ rfl
    obtain ⟨k0, e0, x0, _⟩ := DataW.trod_string Tryd.underlying9 (by simpa using t0)
    obtain ⟨k1, e1, x1, _⟩ := DataW.trod_string Tryd.underlying9 (by simpa using t1)
    obtain ⟨k2, e2, x2, _⟩ := DataW.trod_string Tryd.underlying9 (by simpa using t2)
    obtain ⟨k3, e3, x3, _⟩ := DataW.trod_string Tryd.underlying9 (by simpa using t3)
    obtain ⟨l⟩ := cs
    match l, hcs with
    | [c0, c1, c2, c3], _ =>
      simp [Value.cells, cells9f] at e0 e1 e2 e3
      subst e0 e1 e2 e3
      subst x0 x1 x2 x3
      exact ⟨k0, k1, k2, k3, rfl, (Prod.mk.inj hx).1⟩
theorem filled_sized {H : Type} {a b x y : List UInt8} (h : (DataW.weightsEach Tryd.prog [26] ([.agg [.lit (.string a), .lit (.string b), .lit (.string x), .lit (.string y)]] : List (DataW H))).all (· ≤ reachBytes) = true) : a.length ≤ reachBytes ∧ b.length ≤ reachBytes ∧ x.length ≤ reachBytes ∧ y.length ≤ reachBytes := by
  simp only [DataW.weightsEach, DataW.weights, Tryd.underlying26, List.append_nil, List.all_append, List.map_cons, List.map_nil, List.all_cons, List.all_nil, Bool.and_true, Bool.and_eq_true, decide_eq_true_eq] at h
  exact h

set_option maxRecDepth 100000 in
theorem pathStems_lifted (os : Os) (started : os.Started) (H : Type) (enc : TypeId × Value → H) :
    ReturnsInHanded {} Tryd.checked os 4 .any (fun w args => (Rows.pathStemsSpec.pre enc Tryd.prog Tryd.f4 Rows.pathStemsRow.domain false w args ∧ laidMetH Tryd.prog Rows.pathStemsRow.laid w) ∧ sizedMet enc Tryd.prog Tryd.f4 (OpenSpec.ofChange Rows.pathStemsSpec) false w args)
      (Rows.pathStemsSpec.post enc Tryd.prog Tryd.f4 false true false false) := by
  refine returnsInHanded_of_change_and (C := Tryd.checked) (X := fun w _ => laidMetH Tryd.prog Rows.pathStemsRow.laid w) (fun _ _ _ hh h => h.of_heap hh) own started (by kernel_rfl) Tryd.func4
    (ChangeSpec.witness_shaped (enc := enc) (C := Tryd.checked) (os := os) (X := fun w _ => laidMetH Tryd.prog Rows.pathStemsRow.laid w) false (World.laidAll Tryd.prog os Rows.pathStemsRow.laid) #[.agg #[.string .empty, .string .empty, .string .empty, .string .empty]] 8 (World.laidAll_os _ _ _)
      (World.shaped_of_ZipB (by kernel_rfl) (by kernel_rfl)) (by kernel_rfl) (by kernel_rfl) (by kernel_rfl)
      (by rw [MakeChecks.laidMetH_plain _ _ _ (by kernel_rfl)]; exact laidMet_laidAll _ (by kernel_rfl) (by kernel_rfl))) ?_
  intro W base args ds gs before hval hW _ hsz0 _ _
  have hW' := hW
  obtain ⟨p, q, hA0, hV, rfl, hfz, hnd⟩ := hW
  have hA : DataW.TrodAll enc Tryd.prog W 0 (fun _ => true) true Tryd.f4.params.toList args.toList ds p := hA0
  have hread : ∀ t ∈ Tryd.f4.params.toList, Tryd.prog.readableRec t = true ∧ t < Tryd.prog.types.size := by
    rw [Tryd.params4]
    intro t ht
    simp only [List.mem_cons, List.not_mem_nil, or_false] at ht
    subst ht; exact ⟨by kernel_rfl, of_decide_eq_true (by kernel_rfl)⟩
  have hsz : (DataW.weightsEach Tryd.prog (Tryd.f4.params.toList ++ Rows.pathStemsSpec.plain.varTypes Tryd.prog) (ds ++ gs)).all (· ≤ reachBytes) = true := hsz0
  rw [Tryd.params4] at hA hval hsz
  obtain ⟨v0, vs0, d0, ds0, p0, q0, hargs, rfl, rfl, h0, r0⟩ := trodAll_cons hA
  obtain ⟨rfl, rfl, rfl⟩ := trodAll_nil r0
  obtain rfl : args = #[v0] := by cases args; simp_all
  obtain ⟨rfl, rfl⟩ := trodVars_none hV
  obtain ⟨a0, b0, x0, y0, rfl, rfl⟩ := open_filled (hval 0 26 v0 rfl rfl) h0
  obtain ⟨z1, z2, z3, z4⟩ := filled_sized (H := H) hsz
  have hr := reachBytes_lt
  have za : a0.data.toList.length = a0.size := by rw [Array.length_toList]; rfl
  have zb : b0.data.toList.length = b0.size := by rw [Array.length_toList]; rfl
  have zx : x0.data.toList.length = x0.size := by rw [Array.length_toList]; rfl
  have zy : y0.data.toList.length = y0.size := by rw [Array.length_toList]; rfl
  refine (stems_walk a0 b0 x0 y0 W (by omega) (by omega) (by omega) (by omega)).mono fun e W' ⟨he, hb⟩ => ?_
  subst he
  exact ⟨_, rfl, law_post rfl (by kernel_rfl) hread rfl hW' hb⟩

theorem pathStems_row : Rows.PathStemsSaid :=
  OpenClaim.holds_of_wide 4 Tryd.f4 rfl rfl rfl rfl rfl rfl rfl ⟨rfl, rfl, rfl, rfl, rfl⟩ rfl rfl rfl rfl rfl (by kernel_rfl) Tryd.func4 (by kernel_rfl)
    (of_decide_eq_true (by kernel_rfl)) (by unfold Func.isWrapper; first | (rw [if_pos (by decide +kernel)]; kernel_rfl) | (rw [if_neg (by decide +kernel)]; exact ⟨rfl, rfl⟩))
    (fun os started H enc _ => pathStems_lifted os started H enc)
theorem pathStems_proved : Rows.PathStemsCardSaid :=
  Claim7.holds_tied_plain_at .later [] [.data, .pinned] true Rows.pathStemsCard.stood.harness false pathStems_row (fun _ h => by cases h) (by kernel_rfl) (fun _ h => by cases h) pathStems_row_tie rfl ⟨rfl, rfl⟩ (by kernel_rfl) rfl
    (fun f fn hf hfn => by
      obtain rfl : f = 4 := Option.some.inj ((show Tryd.prog.funcNamed "brickyard/brickyardlaw09.PathStems" = some 4 by kernel_rfl).symm.trans hf) |>.symm
      obtain rfl : fn = Tryd.f4 := (Option.some.inj (Tryd.func4.symm.trans hfn)).symm
      exact ⟨by kernel_rfl, fun j t ht => by
        rw [Tryd.params4] at ht
        have hm : t ∈ [26] := by simpa using Array.mem_of_getElem? ht
        have hall : ([26].all fun u => !Tryd.prog.wantsStandIn u) = true := by kernel_rfl
        exact (show Tryd.prog.wantsStandIn t = false by simpa using List.all_eq_true.1 hall t hm)⟩)
    (by kernel_rfl)
#print axioms pathStems_proved
end Go.Proofs.YtnfdjgpephoomaaDoor
