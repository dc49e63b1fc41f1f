/-
  THE LAWS' listed: the paths that a tree lists.
-/
import Derived.Test.YtifolddmcibkdaaTXL
import Derived.Test.YtifolddmcibkdaaRecIn
namespace Go.Proofs.Ytifolddmcibkdaa
open Go.RowKit Go.Shelf
attribute [local go_sem] Oper.semAt_some

theorem list_few {t : Tm.T} (hk : Tm.Ok t) (pre : ByteArray) : (Tm.list t pre).length ≤ 256 := by
  unfold Tm.list
  exact Nat.le_trans (List.length_filter_le _ _) (by rw [List.length_map]; exact hk.few)

/-- a box with a row of its own, laid since W1; nothing else has turned -/
theorem own_boxrow (W1 : World) (ob : Nat) (t : TypeId) (hob : ob < W1.heap.size) : OwnFrom W1.heap.size (fun (pre : List ByteArray) W => (∃ v, Boxed W ob t v ∧ StR.Own W W1.heap.size v pre) ∧ Turn [ob] W1 W) := by
  intro s A B row ⟨⟨v, h1, h2⟩, h3⟩ hg hr
  refine ⟨⟨v, h1.kept hg (fun e => by have := (hr ob e.symm).1; omega), World.ownsRow.kept h2 hg ?_⟩, h3.grow hg (fun x e hx => by have := (hr x e).1; omega)⟩
  rcases h2.2 with ⟨rfl, -⟩ | ⟨g, cap, cur, rfl, -, hgb, -⟩
  · exact .inl rfl
  · right
    intro e
    obtain ⟨-, o, ho, hc⟩ := hr g e.symm
    rw [hgb] at ho
    cases ho
    cases hc

set_option maxRecDepth 100000 in
set_option maxHeartbeats 4000000 in
theorem listed_gen (pt : Option Addr) (L : List ByteArray) (pre : ByteArray) (w : World) (hll : L.length ≤ 256)
    (hTL : ∀ W, Below w.heap.size w W → Calls Try.prog 26 #[.pointer pt, .string pre] W fun e w' => ∃ gf lb D, e = .returned (.func (.func gf) #[] lb) ∧ (∀ args W, (callFunc gf args).run Try.prog W = .ok (.enter gf args) W) ∧ SeqOf w' gf lb L D ∧ (∀ b ∈ D, W.heap.size ≤ b ∧ b < w'.heap.size) ∧ Below W.heap.size W w') :
    Calls Try.prog 17 #[.pointer pt, .string pre] w fun e w' => ∃ v, e = .returned (.tuple #[v, .bool true]) ∧ StR.Own w' w.heap.size v L ∧ Below w.heap.size w w' := by
  refine (callsIn_wide (n := 9)).1 ?_
  refine callsIn_of_wp_marks Try.func17 rfl trivial ?_ rfl
  simp only [Try.ntmps17, List.size_toArray, List.length_cons, List.length_nil, Nat.reduceAdd, Nat.reduceSub, Array.replicate_succ, Array.replicate_zero, List.push_toArray, List.append_toArray, List.nil_append, List.cons_append]
  obtain ⟨Wz, hWz⟩ : ∃ Wz, ((w.alloc (.cells #[.slice none 0 0] 35)).alloc (.cells #[.bool false] 4)).alloc (.cells #[.slice none 0 0] 35) = Wz := ⟨_, rfl⟩
  have hzz : Wz.heap.size = w.heap.size + 3 := by rw [← hWz]; simp
  have hB0 : Below w.heap.size w Wz := by rw [← hWz]; exact (((Below.refl _ _).alloc (Nat.le_refl _) _).alloc (by simp) _).alloc (by simp; omega) _
  have b0 : Boxed Wz w.heap.size 35 (.slice none 0 0) := by rw [← hWz]; exact ((Boxed.new w 35 (.slice none 0 0)).alloc _).alloc _
  have b1 : Boxed Wz (w.heap.size + 1) 4 (.bool false) := by
    have := (Boxed.new (w.alloc (.cells #[.slice none 0 0] 35)) 4 (.bool false)).alloc (.cells #[.slice none 0 0] 35)
    rw [World.size_alloc] at this; rw [← hWz]; exact this
  have b2 : Boxed Wz (w.heap.size + 1 + 1) 35 (.slice none 0 0) := by
    have := Boxed.new ((w.alloc (.cells #[.slice none 0 0] 35)).alloc (.cells #[.bool false] 4)) 35 (.slice none 0 0)
    rw [World.size_alloc, World.size_alloc] at this; rw [← hWz]; exact this
  gi_wp2_with fail
  refine ⟨trivial, (callsIn_wide.2 (hTL Wz hB0)).mono ?_⟩
  rintro e w1 ⟨gf, lb, D, rfl, hent, hseq, hD, hB1⟩
  have hrun : Sem.run Try.prog (binOp BinOp.eql 62 (Value.func (.func gf) #[] lb) Value.nilFunc) w1 = .ok (.bool false) w1 := by kernel_rfl
  have hz1 := hB1.size
  have bA := boxed_below b0 hB1 (by omega)
  have bB := boxed_below b1 hB1 (by omega)
  have bC := boxed_below b2 hB1 (by omega)
  have hBw : Below w.heap.size w w1 := hB0.trans (hB1.mono (by omega))
  clear b0 b1 b2 hB0 hB1 hWz hTL
  gi_wp2_with fail
  clear hrun
  refine wpIn_rangeFunc_ownF rfl (by decide) (gf := gf) (lb := lb) rfl trivial hent (hseq w1 (Nat.le_refl _) (fun _ _ => rfl) 8 (by decide)) (fun h k => h.trans k) (fun W l o o' h0 h1 _ _ => KeepD.put (fun b hb => (hD b hb).2) W l o o' h1 h0) (Below.refl _ _) (fun _ => rfl)
    (fun pre W => (∃ v, Boxed W (w.heap.size + 1 + 1) 35 v ∧ StR.Own W w1.heap.size v pre) ∧ Turn [w.heap.size + 1 + 1] w1 W)
    (fun _ _ _ => False)
    (own_boxrow w1 (w.heap.size + 1 + 1) 35 (by omega))
    (fun _ _ _ _ _ h _ _ => h)
    ⟨⟨_, bC, Rc.Own.nil _ _⟩, Turn.refl _ _⟩
    ?_ ?_ ?_ ?_ ?_
  case refine_2 =>
    intro l x W K hK
    gi_wp2
    exact hK
  case refine_3 =>
    rintro l pre x W ⟨⟨v, hv, hO⟩, hT⟩ hlt
    have cV := hv.cell
    have fV := hv.frozen
    have hL4 := StR.lit W x #[.string x] rfl
    have hO4 := hO.alloc (.cells #[.string x] 9)
    have HLn : Hid (pre.length + [x].length ≤ 1099511627) := by show _ ≤ _; simp; omega
    obtain ⟨ad, n, c, rfl⟩ := hO.isSl
    have hTz := hT.size
    gi_wp2_with (gi_at_builtin; go_must (refine StR.appendIn rfl _ _ rfl w1.heap.size (W.heap.size + 1) _ _ pre [x] rfl hO4 rfl hL4 (by simp) HLn (by rw [World.size_alloc]; omega) ?_))
    intro v5 w5 hO5 hg5
    obtain ⟨hv1, hv2, hO6, hk6⟩ := Rc.boxAppended hv (by decide) hO hO5 hg5
    have hT6 : Turn [w.heap.size + 1 + 1] w1 (w5.setCell ⟨w.heap.size + 1 + 1, 0, none⟩ v5) := ((hT.alloc (.cells #[.string x] 9)).grow hg5 (fun k e hl => by have := (hO.lt k e).1; omega)).set (fun _ => by simp) _
    have hKD : KeepD D W (w5.setCell ⟨w.heap.size + 1 + 1, 0, none⟩ v5) := fun b hb => by
      have hbl := (hD b hb).2
      have hbg := (hD b hb).1
      rw [Below.heap_setCell w5 ⟨w.heap.size + 1 + 1, 0, none⟩ v5 b (by show b ≠ w.heap.size + 1 + 1; omega)]
      rw [hg5.block b (by rw [World.size_alloc]; omega) (fun e => by have := (hO.lt b e.symm).1; omega)]
      exact Below.heap_alloc W _ b (by omega)
    have c5 := hv1.cell
    have f5 := hv1.frozen
    obtain ⟨a7, c7, hv5, -⟩ := hO5.sl.shape
    rw [List.length_append] at hv5
    subst hv5
    have hc6 := hv2.cell
    have i1 : ¬ (256 : Int) < ((pre.length + 1 : Nat) : Int) := by omega
    clear hO4 hL4 HLn hO hO5 hg5 cV fV
    gi_wp2
    exact ⟨hk6, hKD, ⟨_, hv2, hO6⟩, hT6⟩
  case refine_4 =>
    rintro Dq xs W hDq hxs ⟨⟨v, hv, hO⟩, hT⟩ hK
    obtain rfl : L = xs := hxs.symm
    clear hxs
    have cV := hv.cell
    obtain ⟨ad, c, rfl, hle⟩ := hO.sl.shape
    have bA' := boxed_turn bA hT (by simp; omega)
    have bB' := boxed_turn bB hT (by simp)
    have cA := bA'.cell
    have fA := bA'.frozen
    have bB2 : Boxed (W.setCell ⟨w.heap.size, 0, none⟩ (.slice ad L.length c)) (w.heap.size + 1) 4 (.bool false) := (Below.heap_setCell W ⟨w.heap.size, 0, none⟩ _ (w.heap.size + 1) (by show w.heap.size + 1 ≠ w.heap.size; omega)).trans bB'
    have cB := bB2.cell
    have fB := bB2.frozen
    gi_wp2
    have bA3 : Boxed ((W.setCell ⟨w.heap.size, 0, none⟩ (.slice ad L.length c)).setCell ⟨w.heap.size + 1, 0, none⟩ (.bool true)) w.heap.size 35 (.slice ad L.length c) := (Below.heap_setCell _ ⟨w.heap.size + 1, 0, none⟩ _ w.heap.size (by show w.heap.size ≠ w.heap.size + 1; omega)).trans (bA'.set _)
    have bB3 := bB2.set (.bool true)
    have hK3 := (KeepsOthers.setCell _ ⟨w.heap.size + 1, 0, none⟩ (.bool true)).same Dq _ ((KeepsOthers.setCell W ⟨w.heap.size, 0, none⟩ (.slice ad L.length c)).same Dq _ hK rfl) rfl
    have hT3 : Turn [w.heap.size, w.heap.size + 1] W ((W.setCell ⟨w.heap.size, 0, none⟩ (.slice ad L.length c)).setCell ⟨w.heap.size + 1, 0, none⟩ (.bool true)) := ((Turn.refl _ W).set (fun _ => by simp) _).set (fun _ => by simp) _
    have hO3 := hO.turn hT3 (fun k e hm => by
      have := (hO.lt k e).1
      simp at hm; omega)
    have hB3 : Below w.heap.size w ((W.setCell ⟨w.heap.size, 0, none⟩ (.slice ad L.length c)).setCell ⟨w.heap.size + 1, 0, none⟩ (.bool true)) :=
      ((hBw.trans ((hT.mono (S' := [w.heap.size + 1 + 1]) (by simp)).below' (by omega) (by simp; omega))).setCell (p := ⟨w.heap.size, 0, none⟩) (Nat.le_refl _) _).setCell (p := ⟨w.heap.size + 1, 0, none⟩) (by simp) _
    generalize (W.setCell ⟨w.heap.size, 0, none⟩ (.slice ad L.length c)).setCell ⟨w.heap.size + 1, 0, none⟩ (.bool true) = W3 at *
    refine ⟨by simp, .inl ⟨_, _, rfl, run_takeDeferred hK3, ?_⟩⟩
    have hg := grownBy_putObj' W3 Dq (.deferred none)
    have hn0 : ∀ b t v, Boxed W3 b t v → some b ≠ some Dq := fun b t v hb e => by
      have e2 : b = Dq := by simpa using e
      rw [e2] at hb
      rw [show W3.heap[Dq]? = _ from hb] at hK3
      cases hK3
    have cA4 := (bA3.kept hg (hn0 _ _ _ bA3)).cell
    have cB4 := (bB3.kept hg (hn0 _ _ _ bB3)).cell
    have hO4 : StR.Own (W3.putObj Dq (.deferred none)) w1.heap.size (.slice ad L.length c) L := World.ownsRow.kept hO3 hg (by
      rcases hO3.2 with ⟨e, -⟩ | ⟨g, cap, cur, e, -, hgb, -⟩
      · rw [e]; exact .inl rfl
      · right
        rw [e]
        intro e2
        simp only [Value.ownBlock, Option.some.injEq] at e2
        subst e2
        rw [hgb] at hK3
        cases hK3)
    refine ⟨.tuple #[.slice ad L.length c, .bool true], ?_, _, rfl, ?_, hB3.trans (belowK_b (w := w) (Nat.le_refl _) W3 Dq _ _ (by omega) hK3 rfl rfl)⟩
    · simp [results, Try.f17, go_sem, cA4, cB4]
    · exact hO4.low (by omega)
  case refine_5 =>
    rintro _ _ _ _ _ _ hno _
    exact hno.elim

theorem listed_any (g : Nat) (t : Tm.T) (S : List Nat) (pre : ByteArray) (w : World) (h : HasT w g t S) (hk : Tm.Ok t) :
    Calls Try.prog 17 #[.pointer (some ⟨g, 0, none⟩), .string pre] w fun e w' => ∃ v, e = .returned (.tuple #[v, .bool true]) ∧ StR.Own w' w.heap.size v (Tm.list t pre) ∧ Below w.heap.size w w' :=
  listed_gen _ _ pre w (list_few hk pre) fun W hB => TList_any g t S pre W (h.below hB) hk

end Go.Proofs.Ytifolddmcibkdaa
