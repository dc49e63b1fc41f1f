/-
  PathSides: globs that fit two texts fit both, one behind the other. For every input, no condition.
-/
import Derived.Test.YtnfdjgpephoomaaLSides
import Derived.Test.YtnfdjgpephoomaaLaw
namespace Go.Proofs.Ytnfdjgpephoomaa
open Go.ChangeShapes Go.WideShapes Go.ChangeAt Go.RowKit

theorem cellsS : Try.prog.cellsOf 44 = 4 := by kernel_rfl
theorem cells9s : Try.prog.cellsOf 9 = 1 := by kernel_rfl
theorem open_sides {H : Type} {enc : TypeId × Value → H} {W : World} {base : Nat} {v : Value} {d : DataW H} {p : List MemPlace} (hok : Value.okWide Try.prog W .any base 44 v) (h : DataW.Trod enc Try.prog W 0 (fun _ => true) true 44 v d p) :
    ∃ a b x y : ByteArray, v = .agg #[.string a, .string b, .string x, .string y] := by
  obtain ⟨cs, rfl, hcs⟩ := okWide_struct Try.underlying44 hok
  rw [cellsS] at hcs
  obtain ⟨fuel, hf⟩ := h
  obtain ⟨xs, n', _, _, hl', hlen', hfld⟩ := DataW.trod_struct Try.underlying44 hf
  match xs, hlen' with
  | [y0, y1, y2, y3], _ =>
    have t0 := hfld 0 _ rfl
    have t1 := hfld 1 _ rfl
    have t2 := hfld 2 _ rfl
    have t3 := hfld 3 _ rfl
    obtain ⟨k0, e0, _, _⟩ := DataW.trod_string Try.underlying9 (by simpa using t0)
    obtain ⟨k1, e1, _, _⟩ := DataW.trod_string Try.underlying9 (by simpa using t1)
    obtain ⟨k2, e2, _, _⟩ := DataW.trod_string Try.underlying9 (by simpa using t2)
    obtain ⟨k3, e3, _, _⟩ := DataW.trod_string Try.underlying9 (by simpa using t3)
    obtain ⟨l⟩ := cs
    match l, hcs with
    | [c0, c1, c2, c3], _ =>
      simp [Value.cells, cells9s] at e0 e1 e2 e3
      subst e0 e1 e2 e3
      exact ⟨k0, k1, k2, k3, rfl⟩

set_option maxRecDepth 100000 in
theorem pathSides_lifted (os : Os) (started : os.Started) (H : Type) (enc : TypeId × Value → H) :
    ReturnsInHanded {} Try.checked os 9 .any (Rows.pathSidesSpec.pre6 enc Try.prog Try.f9 Rows.pathSidesRow.domain false) (Rows.pathSidesSpec.post enc Try.prog Try.f9 false true false false) := by
  refine returnsInHanded_of_change (C := Try.checked) own started (by kernel_rfl) Try.func9
    (ChangeSpec.witness6 (enc := enc) (C := Try.checked) false ⟨#[], #[.agg #[.string .empty, .string .empty, .string .empty, .string .empty]], []⟩ 8 (by kernel_rfl) (by kernel_rfl) (by kernel_rfl) (by kernel_rfl)) ?_
  intro W base args ds gs before hval hW hcnd _
  have hW' := hW
  obtain ⟨p, q, hA0, hV, rfl, hfz, hnd⟩ := hW
  have hA : DataW.TrodAll enc Try.prog W 0 (fun _ => true) true Try.f9.params.toList args.toList ds p := hA0
  have hread : ∀ t ∈ Try.f9.params.toList, Try.prog.readableRec t = true ∧ t < Try.prog.types.size := by
    rw [Try.params9]
    intro t ht
    simp only [List.mem_cons, List.not_mem_nil, or_false] at ht
    subst ht; exact ⟨by kernel_rfl, of_decide_eq_true (by kernel_rfl)⟩
  rw [Try.params9] at hA hval
  obtain ⟨v0, vs0, d0, ds0, p0, q0, hargs, rfl, rfl, h0, r0⟩ := trodAll_cons hA
  obtain ⟨rfl, rfl, rfl⟩ := trodAll_nil r0
  obtain rfl : args = #[v0] := by cases args; simp_all
  obtain ⟨rfl, rfl⟩ := trodVars_none hV
  obtain ⟨a0, b0, x0, y0, rfl⟩ := open_sides (hval 0 44 v0 rfl rfl) h0
  refine (sides_walk a0 b0 x0 y0 W).mono fun e W' ⟨he, hb⟩ => ?_
  subst he
  exact ⟨_, rfl, law_post rfl (by kernel_rfl) hread rfl hW' hb⟩

theorem pathSides_proved : Rows.PathSidesSaid :=
  OpenClaim.holds_of_wide 9 Try.f9 rfl rfl rfl rfl rfl rfl rfl ⟨rfl, rfl, rfl, rfl, rfl⟩ rfl rfl rfl rfl rfl (by kernel_rfl) Try.func9 (by kernel_rfl)
    (of_decide_eq_true (by kernel_rfl)) (by unfold Func.isWrapper; first | (rw [if_pos (by decide +kernel)]; kernel_rfl) | (rw [if_neg (by decide +kernel)]; exact ⟨rfl, rfl⟩))
    (fun os started H enc _ => pathSides_lifted os started H enc)
#print axioms pathSides_proved
end Go.Proofs.Ytnfdjgpephoomaa
