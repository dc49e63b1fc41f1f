/-
  PathDetours: detours change nothing. For every input, no condition.
-/
import Derived.Test.YtnfdjgpephoomaaLDetours
import Derived.Test.YtnfdjgpephoomaaLaw
namespace Go.Proofs.Ytnfdjgpephoomaa
open Go.ChangeShapes Go.WideShapes Go.ChangeAt Go.RowKit

theorem cellsD : Try.prog.cellsOf 40 = 3 := by kernel_rfl
theorem cells9d : Try.prog.cellsOf 9 = 1 := by kernel_rfl
theorem cells3d : Try.prog.cellsOf 3 = 1 := by kernel_rfl
theorem open_detour {H : Type} {enc : TypeId × Value → H} {W : World} {base : Nat} {v : Value} {d : DataW H} {p : List MemPlace} (hok : Value.okWide Try.prog W .any base 40 v) (h : DataW.Trod enc Try.prog W 0 (fun _ => true) true 40 v d p) :
    ∃ (a b : Int) (g : ByteArray), v = .agg #[.int .i64 a, .int .i64 b, .string g] := by
  obtain ⟨cs, rfl, hcs⟩ := okWide_struct Try.underlying40 hok
  rw [cellsD] at hcs
  obtain ⟨fuel, hf⟩ := h
  obtain ⟨xs, n', _, _, hl', hlen', hfld⟩ := DataW.trod_struct Try.underlying40 hf
  match xs, hlen' with
  | [y0, y1, y2], _ =>
    have t0 := hfld 0 _ rfl
    have t1 := hfld 1 _ rfl
    have t2 := hfld 2 _ rfl
    obtain ⟨k0, e0, _, _⟩ := DataW.trod_int Try.underlying3 (by simpa using t0)
    obtain ⟨k1, e1, _, _⟩ := DataW.trod_int Try.underlying3 (by simpa using t1)
    obtain ⟨k2, e2, _, _⟩ := DataW.trod_string Try.underlying9 (by simpa using t2)
    obtain ⟨l⟩ := cs
    match l, hcs with
    | [c0, c1, c2], _ =>
      simp [Value.cells, cells3d] at e0 e1
      simp [Value.cells, cells9d] at e2
      subst e0 e1 e2
      exact ⟨k0, k1, k2, rfl⟩

set_option maxRecDepth 100000 in
theorem pathDetours_lifted (os : Os) (started : os.Started) (H : Type) (enc : TypeId × Value → H) :
    ReturnsInHanded {} Try.checked os 7 .any (Rows.pathDetoursSpec.pre6 enc Try.prog Try.f7 Rows.pathDetoursRow.domain false) (Rows.pathDetoursSpec.post enc Try.prog Try.f7 false true false false) := by
  refine returnsInHanded_of_change (C := Try.checked) own started (by kernel_rfl) Try.func7
    (ChangeSpec.witness6 (enc := enc) (C := Try.checked) false ⟨#[], #[.string .empty, .agg #[.int .i64 0, .int .i64 0, .string .empty]], []⟩ 8 (by kernel_rfl) (by kernel_rfl) (by kernel_rfl) (by kernel_rfl)) ?_
  intro W base args ds gs before hval hW hcnd _
  have hW' := hW
  obtain ⟨p, q, hA0, hV, rfl, hfz, hnd⟩ := hW
  have hA : DataW.TrodAll enc Try.prog W 0 (fun _ => true) true Try.f7.params.toList args.toList ds p := hA0
  have hread : ∀ t ∈ Try.f7.params.toList, Try.prog.readableRec t = true ∧ t < Try.prog.types.size := by
    rw [Try.params7]
    intro t ht
    simp only [List.mem_cons, List.not_mem_nil, or_false] at ht
    rcases ht with rfl | rfl <;> exact ⟨by kernel_rfl, of_decide_eq_true (by kernel_rfl)⟩
  rw [Try.params7] at hA hval
  obtain ⟨v0, vs0, d0, ds0, p0, q0, hargs, rfl, rfl, h0, r0⟩ := trodAll_cons hA
  obtain ⟨v1, vs1, d1, ds1, p1, q1, rfl, rfl, rfl, h1, r1⟩ := trodAll_cons r0
  obtain ⟨rfl, rfl, rfl⟩ := trodAll_nil r1
  obtain rfl : args = #[v0, v1] := by cases args; simp_all
  obtain ⟨rfl, rfl⟩ := trodVars_none hV
  obtain ⟨s0, rfl, rfl, rfl, -⟩ := Go.ChangeMaps.open_string Try.underlying9 (hval 0 9 v0 rfl rfl) h0
  obtain ⟨a1, b1, g1, rfl⟩ := open_detour (hval 1 40 v1 rfl rfl) h1
  refine (detours_walk s0 g1 a1 b1 W).mono fun e W' ⟨he, hb⟩ => ?_
  subst he
  exact ⟨_, rfl, law_post rfl (by kernel_rfl) hread rfl hW' hb⟩

theorem pathDetours_proved : Rows.PathDetoursSaid :=
  OpenClaim.holds_of_wide 7 Try.f7 rfl rfl rfl rfl rfl rfl rfl ⟨rfl, rfl, rfl, rfl, rfl⟩ rfl rfl rfl rfl rfl (by kernel_rfl) Try.func7 (by kernel_rfl)
    (of_decide_eq_true (by kernel_rfl)) (by unfold Func.isWrapper; first | (rw [if_pos (by decide +kernel)]; kernel_rfl) | (rw [if_neg (by decide +kernel)]; exact ⟨rfl, rfl⟩))
    (fun os started H enc _ => pathDetours_lifted os started H enc)
#print axioms pathDetours_proved
end Go.Proofs.Ytnfdjgpephoomaa
