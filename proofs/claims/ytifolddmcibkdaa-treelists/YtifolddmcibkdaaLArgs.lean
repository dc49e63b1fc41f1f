/-
  THE LAWS' ARGUMENTS, opened: scripts.
-/
import Derived.Test.YtifolddmcibkdaaRecOpen
import Derived.Test.YtifolddmcibkdaaLOps
namespace Go.Proofs.Ytifolddmcibkdaa
open Go.ChangeShapes Go.WideShapes Go.ChangeAt Go.RowKit

instance : Inhabited Tm.Op := ⟨Tm.noOp⟩
theorem cellsOp : Try.prog.cellsOf 41 = 4 := by kernel_rfl
theorem cells3 : Try.prog.cellsOf 3 = 1 := by kernel_rfl
theorem cells9 : Try.prog.cellsOf 9 = 1 := by kernel_rfl
theorem bytesOp : Try.prog.bytesOf 41 = 48 := by kernel_rfl
set_option maxRecDepth 100000 in
theorem open_ops {H : Type} {enc : TypeId × Value → H} {W : World} {base : Nat} {v : Value} {d : DataW H} {p : List MemPlace} (hok : Value.okWide Try.prog W .any base 22 v) (h : DataW.Trod enc Try.prog W 0 (fun _ => true) true 22 v d p) (hsz : ∀ n ∈ d.weights Try.prog 22, n ≤ reachBytes) :
    ∃ l : List Tm.Op, OpR.Sl W W.heap.size v l ∧ Tm.Sized l := by
  have hr := reachBytes_lt
  obtain ⟨l, h1, h2, h3⟩ := Rc.openRows OpR cellsOp hok h (fun a d' => (∀ n ∈ d'.weights Try.prog 41, n ≤ reachBytes) → a.path.size ≤ reachBytes ∧ a.text.size ≤ reachBytes) (by
    intro fuel cs x hlen htr
    obtain ⟨xs, n', _, hDx, hl', hlen', hfld⟩ := DataW.trod_struct Try.underlying41 htr
    match xs, hlen' with
    | [y0, y1, y2, y3], _ =>
      match cs, hlen with
      | [c0, c1, c2, c3], _ =>
        have t0 : DataW.trod enc Try.prog W 0 (fun _ => true) true n' 3 [c0] = some y0 := by
          have t : DataW.trod enc Try.prog W 0 (fun _ => true) true n' 3 (([c0, c1, c2, c3].drop 0).take (Try.prog.cellsOf 3)) = some y0 := hfld 0 _ rfl
          rw [cells3] at t
          exact t
        have t1 : DataW.trod enc Try.prog W 0 (fun _ => true) true n' 9 [c1] = some y1 := by
          have t : DataW.trod enc Try.prog W 0 (fun _ => true) true n' 9 (([c0, c1, c2, c3].drop 1).take (Try.prog.cellsOf 9)) = some y1 := hfld 1 _ rfl
          rw [cells9] at t
          exact t
        have t2 : DataW.trod enc Try.prog W 0 (fun _ => true) true n' 9 [c2] = some y2 := by
          have t : DataW.trod enc Try.prog W 0 (fun _ => true) true n' 9 (([c0, c1, c2, c3].drop 2).take (Try.prog.cellsOf 9)) = some y2 := hfld 2 _ rfl
          rw [cells9] at t
          exact t
        have t3 : DataW.trod enc Try.prog W 0 (fun _ => true) true n' 3 [c3] = some y3 := by
          have t : DataW.trod enc Try.prog W 0 (fun _ => true) true n' 3 (([c0, c1, c2, c3].drop 3).take (Try.prog.cellsOf 3)) = some y3 := hfld 3 _ rfl
          rw [cells3] at t
          exact t
        obtain ⟨k0, e0, _, _⟩ := DataW.trod_int Try.underlying3 t0
        obtain ⟨k1, e1, x1, _⟩ := DataW.trod_string Try.underlying9 t1
        obtain ⟨k2, e2, x2, _⟩ := DataW.trod_string Try.underlying9 t2
        obtain ⟨k3, e3, _, _⟩ := DataW.trod_int Try.underlying3 t3
        simp only [List.cons.injEq, and_true] at e0 e1 e2 e3
        subst e0 e1 e2 e3
        refine ⟨⟨k0, k1, k2, k3⟩, rfl, fun hw => ?_⟩
        have hD : x.1 = .agg [y0.1, y1.1, y2.1, y3.1] := by rw [hDx]; rfl
        have g : ∀ n ∈ DataW.weightsEach Try.prog [3, 9, 9, 3] [y0.1, y1.1, y2.1, y3.1], n ≤ reachBytes := fun n hn => hw n (by
          rw [hD]
          simp only [DataW.weights, Try.underlying41]
          exact hn)
        have z1 : k1.data.toList.length = k1.size := by rw [Array.length_toList]; rfl
        have z2 : k2.data.toList.length = k2.size := by rw [Array.length_toList]; rfl
        constructor
        · rw [← z1]
          exact g _ (DataW.weights_mem_each (j := 1) rfl rfl _ (by rw [x1]; simp [DataW.weights]))
        · rw [← z2]
          exact g _ (DataW.weights_mem_each (j := 2) rfl rfl _ (by rw [x2]; simp [DataW.weights])))
  refine ⟨l, h1, ?_, fun o ho => ?_⟩
  · rcases h3 with rfl | ⟨n, hn, hl⟩
    · simp
    · have := hsz n hn
      rw [show OpR.e = 41 from rfl, bytesOp] at hl
      omega
  · obtain ⟨d', hq, hw⟩ := h2 o ho
    obtain ⟨a1, a2⟩ := hq fun n hn => hsz n (hw n hn)
    exact ⟨by omega, by omega⟩

end Go.Proofs.Ytifolddmcibkdaa
