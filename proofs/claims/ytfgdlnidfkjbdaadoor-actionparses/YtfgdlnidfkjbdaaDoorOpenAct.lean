/-
  LINES AND STATEMENTS THAT COME IN, opened.
-/
import Derived.Test.YtfgdlnidfkjbdaaDoorRecCells
import Derived.Test.YtfgdlnidfkjbdaaDoorAWide
namespace Go.Proofs.YtfgdlnidfkjbdaaDoor
open Go.ChangeShapes Go.WideShapes Go.ChangeAt Go.RowKit

instance : Inhabited RawT := ⟨⟨none, 0, 0⟩⟩
instance : Inhabited RawS := ⟨⟨0, none, 0, 0, 0, none, 0, 0⟩⟩
theorem cellsA3 : Tryd.prog.cellsOf 3 = 1 := by kernel_rfl
theorem cellsA9 : Tryd.prog.cellsOf 9 = 1 := by kernel_rfl
theorem cellsAT : Tryd.prog.cellsOf 32 = 1 := by kernel_rfl
theorem cellsAS : Tryd.prog.cellsOf 34 = 4 := by kernel_rfl
theorem cellsAL : Tryd.prog.cellsOf 25 = 1 := by kernel_rfl
theorem bytesA9 : 1 ≤ Tryd.prog.bytesOf 9 := by
  rw [show Tryd.prog.bytesOf 9 = 16 by kernel_rfl]; decide
theorem bytesAT : 1 ≤ Tryd.prog.bytesOf 32 := by
  rw [show Tryd.prog.bytesOf 32 = 24 by kernel_rfl]; decide
theorem bytesAS : 1 ≤ Tryd.prog.bytesOf 34 := by
  rw [show Tryd.prog.bytesOf 34 = 64 by kernel_rfl]; decide
theorem reach_is : reachBytes = 140737488351232 := rfl

set_option maxRecDepth 100000 in
theorem open_texts {H : Type} {enc : TypeId × Value → H} {W : World} {fuel0 : Nat} {v : Value} {d : DataW H} {p : List MemPlace} (hf : DataW.trod enc Tryd.prog W 0 (fun _ => true) true fuel0 32 [v] = some (d, p)) :
    ∃ l : List (List UInt8), TxR.Sl W W.heap.size v l ∧ ((∀ n ∈ d.weights Tryd.prog 32, n ≤ reachBytes) → l.length ≤ reachBytes ∧ ∀ s ∈ l, s.length ≤ reachBytes) := by
  obtain ⟨l, h1, h2, h3⟩ := Rc.openSized TxR cellsA9 hf (fun s d' => (∀ n ∈ d'.weights Tryd.prog 9, n ≤ reachBytes) → s.length ≤ reachBytes) (by
    intro fuel cs x hlen htr _
    obtain ⟨k, e, hx, _⟩ := DataW.trod_string Tryd.underlying9 htr
    refine ⟨bs k, by show [Value.string (str (bs k))] = _; rw [show str (bs k) = k from str_of k, e], fun hw => ?_⟩
    rw [hx] at hw
    exact hw _ (by simp [DataW.weights, bs]))
  refine ⟨l, h1, fun hw => ⟨?_, fun s hs => ?_⟩⟩
  · rcases h3 with rfl | ⟨n, hn, hl⟩
    · exact Nat.zero_le _
    · have := hw n hn
      have := Nat.mul_le_mul_left l.length bytesA9
      have e : l.length * Tryd.prog.bytesOf TxR.e = l.length * Tryd.prog.bytesOf 9 := rfl
      omega
  · obtain ⟨d', k1, k2⟩ := h2 s hs
    exact k1 fun n hn => hw n (k2 n hn)
theorem liRow_of {W : World} {B : Nat} : ∀ (l : List RawT), (∀ a ∈ l, ∃ x, TxR.Sl W B a.val x ∧ x.length ≤ reachBytes ∧ ∀ s ∈ x, s.length ≤ reachBytes) → ∃ ls, LiRow W B ls l ∧ ls.length = l.length ∧ ∀ x ∈ ls, x.length ≤ reachBytes ∧ ∀ s ∈ x, s.length ≤ reachBytes
  | [], _ => ⟨[], rfl, rfl, fun _ h => by cases h⟩
  | a :: r, h => by
    obtain ⟨x, h1, h2⟩ := h a (List.mem_cons_self ..)
    obtain ⟨ls, k1, k2, k3⟩ := liRow_of r fun y hy => h y (List.mem_cons_of_mem _ hy)
    refine ⟨x :: ls, ⟨a, r, rfl, h1, k1⟩, by simp [k2], fun y hy => ?_⟩
    rcases List.mem_cons.1 hy with rfl | hy
    · exact h2
    · exact k3 y hy
set_option maxRecDepth 100000 in
theorem open_actL {H : Type} {enc : TypeId × Value → H} {W : World} {base : Nat} {v : Value} {d : DataW H} {p : List MemPlace} (hok : Value.okWide Tryd.prog W .any base 22 v) (h : DataW.Trod enc Tryd.prog W 0 (fun _ => true) true 22 v d p) (hsz : ∀ n ∈ d.weights Tryd.prog 22, n ≤ reachBytes) :
    ∃ ls, LiS W W.heap.size v ls ∧ Sized ls := by
  obtain ⟨a0, len, cap, rfl⟩ := okWide_slice Tryd.underlying22 hok
  obtain ⟨fuel, hf⟩ := h
  obtain ⟨l, h1, h2, h3⟩ := Rc.openSized LiR cellsAT hf (fun a d' => ∃ x, TxR.Sl W W.heap.size a.val x ∧ ((∀ n ∈ d'.weights Tryd.prog 32, n ≤ reachBytes) → x.length ≤ reachBytes ∧ ∀ s ∈ x, s.length ≤ reachBytes)) (by
    intro fuel cs x hlen htr _
    match cs, hlen with
    | [c], _ =>
      obtain ⟨l, hl, hb⟩ := open_texts (d := x.1) (p := x.2) htr
      obtain ⟨ad, cc, rfl, _⟩ := hl.shape
      exact ⟨⟨ad, l.length, cc⟩, rfl, l, hl, hb⟩)
  obtain ⟨ls, k1, k2, k3⟩ := liRow_of (W := W) (B := W.heap.size) l fun a ha => by
    obtain ⟨d', ⟨x, q1, q2⟩, q3⟩ := h2 a ha
    exact ⟨x, q1, q2 fun n hn => hsz n (q3 n hn)⟩
  refine ⟨ls, ⟨l, h1, k1⟩, ?_, fun x hx => ?_⟩
  · rcases h3 with rfl | ⟨n, hn, hl⟩
    · rw [k2]; exact Nat.zero_le _
    · have := hsz n hn
      have := Nat.mul_le_mul_left l.length bytesAT
      have e : l.length * Tryd.prog.bytesOf LiR.e = l.length * Tryd.prog.bytesOf 32 := rfl
      have := reach_is
      omega
  · obtain ⟨q1, q2⟩ := k3 x hx
    have := reach_is
    exact ⟨by omega, fun s hs => by have := q2 s hs; omega⟩
/-- how great statements that come in can be -/
def Ac.SzE : Ac.Fo → Prop
  | .nil => True
  | .cons _ a _ b t => a.length ≤ reachBytes ∧ (∀ s ∈ a, s.length ≤ reachBytes) ∧ b.len ≤ reachBytes ∧ Ac.SzE b ∧ Ac.SzE t
theorem foRow_of {W : World} {B : Nat} : ∀ (l : List RawS), (∀ r ∈ l, ∃ a b, TxR.Sl W B r.args a ∧ FoS W B r.body b ∧ a.length ≤ reachBytes ∧ (∀ s ∈ a, s.length ≤ reachBytes) ∧ b.len ≤ reachBytes ∧ Ac.SzE b) → ∃ f, FoRow W B f l ∧ f.len = l.length ∧ Ac.SzE f
  | [], _ => ⟨.nil, rfl, rfl, trivial⟩
  | r :: rest, h => by
    obtain ⟨a, b, h1, ⟨bs, h2, h3⟩, h4⟩ := h r (List.mem_cons_self ..)
    obtain ⟨f, k1, k2, k3⟩ := foRow_of rest fun y hy => h y (List.mem_cons_of_mem _ hy)
    exact ⟨.cons r.op a r.n b f, ⟨r, rest, rfl, rfl, rfl, h1, ⟨bs, h2, h3⟩, k1⟩, by simp [Ac.Fo.len, k2], h4.1, h4.2.1, h4.2.2.1, h4.2.2.2, k3⟩
set_option maxRecDepth 100000 in
theorem open_fo {H : Type} {enc : TypeId × Value → H} {W : World} : ∀ (N : Nat) (fuel0 : Nat) (v : Value) (d : DataW H) (p : List MemPlace), SizeOf.sizeOf d < N → DataW.trod enc Tryd.prog W 0 (fun _ => true) true fuel0 25 [v] = some (d, p) → (∀ n ∈ d.weights Tryd.prog 25, n ≤ reachBytes) →
    ∃ f, FoS W W.heap.size v f ∧ f.len ≤ reachBytes ∧ Ac.SzE f := by
  intro N
  induction N with
  | zero => intro fuel0 v d p h; omega
  | succ N ih =>
    intro fuel0 v d p hN hf hsz
    obtain ⟨l, h1, h2, h3⟩ := Rc.openSized SmR cellsAS hf (fun r d' => (∀ n ∈ d'.weights Tryd.prog 34, n ≤ reachBytes) → ∃ a b, TxR.Sl W W.heap.size r.args a ∧ FoS W W.heap.size r.body b ∧ a.length ≤ reachBytes ∧ (∀ s ∈ a, s.length ≤ reachBytes) ∧ b.len ≤ reachBytes ∧ Ac.SzE b) (by
      intro fuel cs x hlen htr hsx
      obtain ⟨xs, n', _, hDx, hl', hlen', hfld⟩ := DataW.trod_struct Tryd.underlying34 htr
      match xs, hlen' with
      | [y0, y1, y2, y3], _ =>
        match cs, hlen with
        | [c0, c1, c2, c3], _ =>
          have t0 : DataW.trod enc Tryd.prog W 0 (fun _ => true) true n' 3 [c0] = some y0 := by
            have t : DataW.trod enc Tryd.prog W 0 (fun _ => true) true n' 3 (([c0, c1, c2, c3].drop 0).take (Tryd.prog.cellsOf 3)) = some y0 := hfld 0 _ rfl
            rw [cellsA3] at t
            exact t
          have t1 : DataW.trod enc Tryd.prog W 0 (fun _ => true) true n' 32 [c1] = some y1 := by
            have t : DataW.trod enc Tryd.prog W 0 (fun _ => true) true n' 32 (([c0, c1, c2, c3].drop 1).take (Tryd.prog.cellsOf 32)) = some y1 := hfld 1 _ rfl
            rw [cellsAT] at t
            exact t
          have t2 : DataW.trod enc Tryd.prog W 0 (fun _ => true) true n' 3 [c2] = some y2 := by
            have t : DataW.trod enc Tryd.prog W 0 (fun _ => true) true n' 3 (([c0, c1, c2, c3].drop 2).take (Tryd.prog.cellsOf 3)) = some y2 := hfld 2 _ rfl
            rw [cellsA3] at t
            exact t
          have t3 : DataW.trod enc Tryd.prog W 0 (fun _ => true) true n' 25 [c3] = some y3 := by
            have t : DataW.trod enc Tryd.prog W 0 (fun _ => true) true n' 25 (([c0, c1, c2, c3].drop 3).take (Tryd.prog.cellsOf 25)) = some y3 := hfld 3 _ rfl
            rw [cellsAL] at t
            exact t
          have hD : x.1 = .agg [y0.1, y1.1, y2.1, y3.1] := by rw [hDx]; rfl
          have hy3 : SizeOf.sizeOf y3.1 < N := by
            have : SizeOf.sizeOf y3.1 < SizeOf.sizeOf x.1 := by
              rw [hD, DataW.agg.sizeOf_spec]
              have := List.sizeOf_lt_of_mem (show y3.1 ∈ [y0.1, y1.1, y2.1, y3.1] by simp)
              omega
            omega
          obtain ⟨k0, e0, _, _⟩ := DataW.trod_int Tryd.underlying3 t0
          obtain ⟨k2, e2, _, _⟩ := DataW.trod_int Tryd.underlying3 t2
          obtain ⟨ts, hts, hbt⟩ := open_texts (d := y1.1) (p := y1.2) t1
          obtain ⟨ta, tc, rfl, _⟩ := hts.shape
          rcases Deep.open_slice SmR.under t3 with ⟨hcs, _⟩ | ⟨ba, bl, bc, _, _, _, _, hcs, _⟩
          · simp only [List.cons.injEq, and_true] at e0 e2 hcs
            subst e0 e2 hcs
            refine ⟨⟨k0, ta, ts.length, tc, k2, none, 0, 0⟩, rfl, fun hw => ?_⟩
            have g : ∀ n ∈ DataW.weightsEach Tryd.prog [3, 32, 3, 25] [y0.1, y1.1, y2.1, y3.1], n ≤ reachBytes := fun n hn => hw n (by
              rw [hD]
              simp only [DataW.weights, Tryd.underlying34]
              exact hn)
            obtain ⟨a1, a2⟩ := hbt fun n hn => g n (DataW.weights_mem_each (j := 1) rfl rfl n hn)
            obtain ⟨b, b1, b2, b3⟩ := ih n' _ y3.1 y3.2 hy3 t3 fun n hn => g n (DataW.weights_mem_each (j := 3) rfl rfl n hn)
            exact ⟨ts, b, hts, b1, a1, a2, b2, b3⟩
          · simp only [List.cons.injEq, and_true] at e0 e2 hcs
            subst e0 e2 hcs
            refine ⟨⟨k0, ta, ts.length, tc, k2, some ba, bl, bc⟩, rfl, fun hw => ?_⟩
            have g : ∀ n ∈ DataW.weightsEach Tryd.prog [3, 32, 3, 25] [y0.1, y1.1, y2.1, y3.1], n ≤ reachBytes := fun n hn => hw n (by
              rw [hD]
              simp only [DataW.weights, Tryd.underlying34]
              exact hn)
            obtain ⟨a1, a2⟩ := hbt fun n hn => g n (DataW.weights_mem_each (j := 1) rfl rfl n hn)
            obtain ⟨b, b1, b2, b3⟩ := ih n' _ y3.1 y3.2 hy3 t3 fun n hn => g n (DataW.weights_mem_each (j := 3) rfl rfl n hn)
            exact ⟨ts, b, hts, b1, a1, a2, b2, b3⟩)
    obtain ⟨f, k1, k2, k3⟩ := foRow_of (W := W) (B := W.heap.size) l fun r hr => by
      obtain ⟨d', q1, q2⟩ := h2 r hr
      exact q1 fun n hn => hsz n (q2 n hn)
    refine ⟨f, ⟨l, h1, k1⟩, ?_, k3⟩
    rcases h3 with rfl | ⟨n, hn, hl⟩
    · rw [k2]; exact Nat.zero_le _
    · have := hsz n hn
      have := Nat.mul_le_mul_left l.length bytesAS
      have e : l.length * Tryd.prog.bytesOf SmR.e = l.length * Tryd.prog.bytesOf 34 := rfl
      omega
set_option maxRecDepth 100000 in
theorem open_actS {H : Type} {enc : TypeId × Value → H} {W : World} {base : Nat} {v : Value} {d : DataW H} {p : List MemPlace} (hok : Value.okWide Tryd.prog W .any base 25 v) (h : DataW.Trod enc Tryd.prog W 0 (fun _ => true) true 25 v d p) (hsz : ∀ n ∈ d.weights Tryd.prog 25, n ≤ reachBytes) :
    ∃ f, FoS W W.heap.size v f ∧ f.len ≤ reachBytes ∧ Ac.SzE f := by
  obtain ⟨a0, len, cap, rfl⟩ := okWide_slice Tryd.underlying25 hok
  obtain ⟨fuel, hf⟩ := h
  exact open_fo _ fuel _ d p (Nat.lt_succ_self _) hf hsz

end Go.Proofs.YtfgdlnidfkjbdaaDoor
