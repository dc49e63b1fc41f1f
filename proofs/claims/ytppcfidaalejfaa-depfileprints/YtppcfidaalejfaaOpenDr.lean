/-
  ROWS OF RULES OF A DEPFILE THAT COME IN, opened.
-/
import Derived.Test.YtppcfidaalejfaaOpenStr
import Derived.Test.YtppcfidaalejfaaDpGreat
namespace Go.Proofs.Ytppcfidaalejfaa
open Go.ChangeShapes Go.WideShapes Go.ChangeAt Go.RowKit

instance : Inhabited RawD := ⟨⟨[], none, 0, 0⟩⟩
theorem cellsDr : Try.prog.cellsOf 32 = 2 := by kernel_rfl
theorem bytesDr : 1 ≤ Try.prog.bytesOf 32 := by
  rw [show Try.prog.bytesOf 32 = 40 by kernel_rfl]; decide

set_option maxRecDepth 100000 in
theorem open_deps {H : Type} {enc : TypeId × Value → H} {W : World} {base : Nat} {v : Value} {d : DataW H} {p : List MemPlace} (hok : Value.okWide Try.prog W .any base 23 v) (h : DataW.Trod enc Try.prog W 0 (fun _ => true) true 23 v d p) (hsz : ∀ n ∈ d.weights Try.prog 23, n ≤ reachBytes) :
    ∃ A : List Dp.Rule, DrS W W.heap.size v A ∧ Dp.Sized A := by
  obtain ⟨l, h1, h2, h3⟩ := Rc.openRows DrR cellsDr hok h (fun a d' => ∃ x : Dp.Rule, (a.t = x.1 ∧ BR.Sl W W.heap.size a.deps x.2) ∧ ((∀ n ∈ d'.weights Try.prog 32, n ≤ reachBytes) → x.1.length ≤ reachBytes ∧ x.2.length ≤ reachBytes ∧ ∀ u ∈ x.2, u.length ≤ reachBytes)) (by
    intro fuel cs x hlen htr
    obtain ⟨xs, n', _, hDx, hl', hlen', hfld⟩ := DataW.trod_struct Try.underlying32 htr
    match xs, hlen' with
    | [y0, y1], _ =>
      match cs, hlen with
      | [c0, c1], _ =>
        have t0 : DataW.trod enc Try.prog W 0 (fun _ => true) true n' 9 [c0] = some y0 := by
          have t : DataW.trod enc Try.prog W 0 (fun _ => true) true n' 9 (([c0, c1].drop 0).take (Try.prog.cellsOf 9)) = some y0 := hfld 0 _ rfl
          rw [cells9] at t
          exact t
        have t1 : DataW.trod enc Try.prog W 0 (fun _ => true) true n' 30 [c1] = some y1 := by
          have t : DataW.trod enc Try.prog W 0 (fun _ => true) true n' 30 (([c0, c1].drop 1).take (Try.prog.cellsOf 30)) = some y1 := hfld 1 _ rfl
          rw [cellsSs] at t
          exact t
        obtain ⟨k0, e0, x0, _⟩ := DataW.trod_string Try.underlying9 t0
        obtain ⟨ws, hws, hb⟩ := open_strs (d := y1.1) (p := y1.2) t1
        obtain ⟨ad, c, rfl, hc⟩ := hws.shape
        simp only [List.cons.injEq, and_true] at e0
        subst e0
        refine ⟨⟨bs k0, ad, ws.length, c⟩, by show [Value.string (str (bs k0)), _] = _; rw [str_of k0], (bs k0, ws), ⟨rfl, hws⟩, fun hw => ?_⟩
        have hD : x.1 = .agg [y0.1, y1.1] := by rw [hDx]; rfl
        have g : ∀ n ∈ DataW.weightsEach Try.prog [9, 30] [y0.1, y1.1], n ≤ reachBytes := fun n hn => hw n (by
          rw [hD]
          simp only [DataW.weights, Try.underlying32]
          exact hn)
        obtain ⟨b1, b2⟩ := hb fun n hn => g n (DataW.weights_mem_each (j := 1) rfl rfl n hn)
        exact ⟨g _ (DataW.weights_mem_each (j := 0) rfl rfl _ (by rw [x0]; simp [DataW.weights, bs])), b1, b2⟩)
  obtain ⟨ps, e1, e2⟩ := pairs_of' (P := fun (a : RawD) (x : Dp.Rule) => (a.t = x.1 ∧ BR.Sl W W.heap.size a.deps x.2) ∧ x.1.length ≤ reachBytes ∧ x.2.length ≤ reachBytes ∧ ∀ u ∈ x.2, u.length ≤ reachBytes) l fun a ha => by
    obtain ⟨d', ⟨x, k1, k2⟩, k3⟩ := h2 a ha
    exact ⟨x, k1, k2 fun n hn => hsz n (k3 n hn)⟩
  have hr : reachBytes = 140737488351232 := rfl
  refine ⟨ps.map Prod.snd, ⟨ps, by rw [e1]; exact h1, rfl, fun p hp => (e2 p hp).1⟩, ?_, fun u hu => ?_, fun u hu => ?_, fun u hu x hx => ?_⟩
  · rw [List.length_map]
    have hl : ps.length = l.length := by rw [← e1, List.length_map]
    rw [hl]
    rcases h3 with rfl | ⟨n, hn, hl⟩
    · exact Nat.zero_le _
    · have := hsz n hn
      have := Nat.mul_le_mul_left l.length bytesDr
      have e : l.length * Try.prog.bytesOf DrR.e = l.length * Try.prog.bytesOf 32 := rfl
      omega
  · obtain ⟨p, hp, rfl⟩ := List.mem_map.1 hu
    have := (e2 p hp).2.1
    omega
  · obtain ⟨p, hp, rfl⟩ := List.mem_map.1 hu
    have := (e2 p hp).2.2.1
    omega
  · obtain ⟨p, hp, rfl⟩ := List.mem_map.1 hu
    have := (e2 p hp).2.2.2 x hx
    omega

end Go.Proofs.Ytppcfidaalejfaa
