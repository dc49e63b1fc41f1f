/-
  THE WALK OF PathParts.
-/
import Derived.Test.YtnfdjgpephoomaaLWorks
import Derived.Test.YtnfdjgpephoomaaPXP
import Derived.Test.YtnfdjgpephoomaaLLong
import Derived.Test.YtnfdjgpephoomaaPXA
import Derived.Test.YtnfdjgpephoomaaTurn
namespace Go.Proofs.Ytnfdjgpephoomaa
open Go.RowKit Go.Shelf
attribute [local go_sem] Oper.semAt_some

theorem boxed_below {W W' : World} {B b : Nat} {t : TypeId} {v : Value} (h : Boxed W b t v) (hb : Below B W W') (hB : b < B) : Boxed W' b t v := (hb.block b hB).trans h

theorem boxed_turn {W W' : World} {S : List Nat} {b : Nat} {t : TypeId} {v : Value} (h : Boxed W b t v) (hT : Turn S W W') (hb : b ∉ S) : Boxed W' b t v := (hT.block b h.lt hb).trans h
theorem Boxed.other' {W : World} {b b' : Nat} {t : TypeId} {v : Value} (h : Boxed W b t v) (hne : b ≠ b') (u : Value) : Boxed (W.setCell ⟨b', 0, none⟩ u) b t v :=
  (Below.heap_setCell W ⟨b', 0, none⟩ u b hne).trans h
theorem prefix_next {L pre : List ByteArray} {x : ByteArray} (hpre : pre <+: L) (hlt : pre.length < L.length) : x = L.getD pre.length .empty ↔ (pre ++ [x]) <+: L := by
  obtain ⟨r, rfl⟩ := hpre
  cases r with
  | nil => simp at hlt
  | cons y r => simp [List.getD]

/-- the way out: the blocks of the loops' deferred calls are taken in, one behind the other -/
theorem leave_parts (w : World) (rb : Nat) (tmps : Array Value) (htm : tmps[4]? = some (.pointer (some ⟨rb, 0, none⟩))) : ∀ (Ds : List Nat) (W : World), Boxed W rb 4 (.bool true) → Below w.heap.size w W →
    (∀ D ∈ Ds, w.heap.size ≤ D ∧ W.heap[D]? = some (.deferred (some []))) → Ds.Nodup →
    LeavesInM Fence.wide 9 Try.prog Try.f3 tmps (fun e w' => e = .returned (.bool true) ∧ Below w.heap.size w w') (Ds.map fun D => { target := .collected D, args := #[] }) .returning W
  | [], W, hb, hB, _, _ => by
    refine ⟨.bool true, ?_, rfl, hB⟩
    have hc := hb.cell
    simp [results, Try.f3, go_sem, htm, hc]
  | D :: Ds, W, hb, hB, hD, hnd => by
    obtain ⟨h1, h2⟩ := hD D (by simp)
    refine ⟨by simp, .inl ⟨_, _, rfl, run_takeDeferred h2, ?_⟩⟩
    have hg := grownBy_putObj' W D (.deferred none)
    have hne : some rb ≠ some D := by
      intro e
      cases e
      rw [show W.heap[rb]? = _ from hb] at h2
      cases h2
    refine leave_parts w rb tmps htm Ds _ (hb.kept hg hne) (hB.trans (belowK_b (w := w) (Nat.le_refl _) W D _ _ h1 h2 rfl rfl)) (fun D' hD' => ?_) (List.nodup_cons.1 hnd).2
    obtain ⟨h3, h4⟩ := hD D' (List.mem_cons_of_mem _ hD')
    exact ⟨h3, (hg.block D' (Array.getElem?_eq_some_iff.1 h4).1 (fun e => by cases e; exact (List.nodup_cons.1 hnd).1 hD')).trans h4⟩

/-- a box that the loop's body writes, and nothing else -/
theorem own_box {α : Type} (W1 : World) (nb : Nat) (t : TypeId) (f : List α → Value) (G : List α → Prop) (hnb : nb < W1.heap.size) : OwnFrom W1.heap.size (fun (pre : List α) W => Boxed W nb t (f pre) ∧ Turn [nb] W1 W ∧ G pre) :=
  fun s A B row ⟨h1, h2, h3⟩ hg hr => ⟨h1.kept hg (fun e => by have := (hr nb e.symm).1; omega), h2.grow hg (fun x e hx => by have := (hr x e).1; omega), h3⟩
theorem own_pure {α : Type} (B : Nat) (G : List α → Prop) : OwnFrom B (fun (pre : List α) (_ : World) => G pre) := fun _ _ _ _ h _ _ => h

set_option maxRecDepth 100000 in
set_option maxHeartbeats 4000000 in
theorem parts_walk (s : ByteArray) (left : Int) (w : World) :
    Calls Try.prog 3 #[.string s, .int .i64 left] w fun e w' => e = .returned (.bool true) ∧ Below w.heap.size w w' := by
  refine (callsIn_wide (n := 9)).1 ?_
  refine callsIn_of_wp_marks Try.func3 rfl trivial ?_ rfl
  simp only [Try.ntmps3, List.size_toArray, List.length_cons, List.length_nil, Nat.reduceAdd, Nat.reduceSub, Array.replicate_succ, Array.replicate_zero, List.push_toArray, List.append_toArray, List.nil_append, List.cons_append]
  have b1 := (Boxed.new w 3 (.int .i64 left)).alloc (.cells #[.bool false] 4)
  have b2 := Boxed.new (w.alloc (.cells #[.int .i64 left] 3)) 4 (.bool false)
  have hz : ((w.alloc (.cells #[.int .i64 left] 3)).alloc (.cells #[.bool false] 4)).heap.size = w.heap.size + 2 := by rw [World.size_alloc, World.size_alloc]
  rw [World.size_alloc] at b2
  have hB0 : Below w.heap.size w ((w.alloc (.cells #[.int .i64 left] 3)).alloc (.cells #[.bool false] 4)) := (((Below.refl _ _).alloc (Nat.le_refl _) _).alloc (by simp) _)
  gi_wp2_with fail
  refine ⟨trivial, (callsIn_wide.2 (works_true _)).mono ?_⟩
  rintro e w1 ⟨rfl, hB1⟩
  rw [hz] at hB1
  have bL := boxed_below b1 hB1 (by omega)
  have bR := boxed_below b2 hB1 (by omega)
  have hBw : Below w.heap.size w w1 := hB0.trans (hB1.mono (by omega))
  have hz1 : w.heap.size + 2 ≤ w1.heap.size := by have := hB1.size; omega
  clear hB1 hz b1 b2 hB0
  gi_wp2_with fail
  refine ⟨trivial, (callsIn_wide.2 (long_any _ _)).mono ?_⟩
  rintro e w2 ⟨rfl, rfl⟩
  by_cases hl : (1048576 : Int) < (s.size : Int)
  · rw [decide_eq_true hl]
    have cR := bR.cell
    have fR := bR.frozen
    gi_wp2
    exact leave_parts w (w.heap.size + 1) _ rfl [] _ (bR.set _) (hBw.setCell (p := ⟨w.heap.size + 1, 0, none⟩) (by simp) _) (by simp) (by simp)
  rw [decide_eq_false hl]
  have hs : s.size ≤ 1048576 := by omega
  clear hl
  gi_wp2_with fail
  refine ⟨trivial, (callsIn_wide.2 (Parent_any s _ (by omega))).mono ?_⟩
  rintro e w3 ⟨⟨t3, rfl, ht3⟩, hB3⟩
  gi_wp2_with fail
  refine ⟨trivial, (callsIn_wide.2 (ParentT_any s _ (by omega))).mono ?_⟩
  rintro e w4 ⟨⟨t4, rfl, ht4⟩, hB4⟩
  have q1 : (t3.toList == t4.toList) = true := beq_of_bs (ht3.trans ht4.symm)
  clear ht3 ht4
  obtain ⟨pb, hpb⟩ : ∃ pb, (Pm.parent (bs s)).2 = pb := ⟨_, rfl⟩
  rw [hpb]
  clear hpb
  have q2 : (pb == pb) = true := by simp
  obtain ⟨ip, hip⟩ : ∃ ip, Pm.isP (bs s) = ip := ⟨_, rfl⟩
  have HIP : Hid _ := hip
  clear hip
  have q3 : (ip == ip) = true := by simp
  gi_wp2_with fail
  refine ⟨trivial, (callsIn_wide.2 (Is_any s _ (by omega))).mono ?_⟩
  rintro e w5 ⟨rfl, hB5⟩
  rw [HIP.out]
  gi_wp2_with fail
  refine ⟨trivial, (callsIn_wide.2 (IsT_any s _)).mono ?_⟩
  rintro e w6 ⟨rfl, hB6⟩
  rw [HIP.out]
  clear HIP
  gi_wp2_with fail
  refine ⟨trivial, (callsIn_wide.2 (Base_any s _ (by omega))).mono ?_⟩
  rintro e w7 ⟨t7, rfl, ht7, hB7⟩
  gi_wp2_with fail
  refine ⟨trivial, (callsIn_wide.2 (BaseT_any s _ (by omega))).mono ?_⟩
  rintro e w8 ⟨t8, rfl, ht8, hB8⟩
  have q4 : (t7.toList == t8.toList) = true := beq_of_bs (ht7.trans ht8.symm)
  clear ht7 ht8
  have hK1 : Below w2.heap.size w2 w8 := ((((hB3.trans (hB4.mono hB3.size)).trans (hB5.mono (Nat.le_trans hB3.size hB4.size))).trans (hB6.mono (Nat.le_trans (Nat.le_trans hB3.size hB4.size) hB5.size))).trans (hB7.mono (Nat.le_trans (Nat.le_trans (Nat.le_trans hB3.size hB4.size) hB5.size) hB6.size))).trans (hB8.mono (Nat.le_trans (Nat.le_trans (Nat.le_trans (Nat.le_trans hB3.size hB4.size) hB5.size) hB6.size) hB7.size))
  clear hB3 hB4 hB5 hB6 hB7 hB8
  gi_wp2_with fail
  refine ⟨trivial, (callsIn_wide.2 (AboveT_any s _ (by omega))).mono ?_⟩
  rintro e w9 ⟨v9, L, rfl, hO, hL, hB9⟩
  clear q1 q2 q3 q4
  have hlen := above_len hL
  obtain ⟨ad, c, rfl, hle, hn0, hin⟩ := hO.strs
  clear hO hn0
  have hK9 := hK1.trans (hB9.mono hK1.size)
  have bX := Boxed.new w9 28 (.slice ad L.length c)
  clear hK1 hB9
  gi_wp2_with fail
  refine ⟨trivial, (callsIn_wide.2 (Above_any s _ (by omega) L hL)).mono ?_⟩
  rintro e w10 ⟨gf, lb, rfl, hent, ⟨DD, hseq0, hDD⟩, hB10⟩
  have hseq : ∀ (W0 : World), Below w10.heap.size w10 W0 → ∀ n, 1 ≤ n → SeqStopsK Fence.wide n Try.prog gf lb (fun x : ByteArray => #[.string x]) (KeepD DD) (fun xs => xs = L) (fun pre => pre <+: L) L.length W0 :=
    fun W0 hb n hn => hseq0 W0 hb.size (KeepD.below (fun b hb => (hDD b hb).2) hb) n hn
  have hDl : ∀ b ∈ DD, b < w10.heap.size := fun b hb => (hDD b hb).2
  clear hseq0 hDD
  clear hL
  have hrun : ∀ W : World, Sem.run Try.prog (binOp BinOp.eql 31 (Value.func (.func gf) #[] lb) Value.nilFunc) W = .ok (.bool false) W := fun W => by kernel_rfl
  have hr10 := hrun w10
  gi_wp2_with fail
  clear hr10 hrun
  -- what stands, whatever the rounds lay
  rw [World.size_alloc] at hB10
  have hzX : w2.heap.size ≤ w9.heap.size := hK9.size
  have hz10 : w9.heap.size + 1 ≤ w10.heap.size := by have := hB10.size; rw [World.size_alloc] at this; exact this
  have hB9X : Below w9.heap.size w9 w10 := ((Below.refl _ _).alloc (Nat.le_refl _) _).trans (hB10.mono (by omega))
  have hBc1 : Below w.heap.size w w10 := (hBw.trans (hK9.mono (by omega))).trans (hB9X.mono (by omega))
  have bX1 := boxed_below bX hB10 (by omega)
  have bL1 := boxed_below (boxed_below bL hK9 (by omega)) hB9X (by omega)
  have bR1 := boxed_below (boxed_below bR hK9 (by omega)) hB9X (by omega)
  have HW1 : Hid (L ≠ [] → ∃ b o, ad = some ⟨b, o, none⟩ ∧ b < w10.heap.size ∧ ∀ j, j < L.length → w10.cell? ⟨b, o + j, none⟩ = some (.string (L.getD j .empty))) := fun h => by
    obtain ⟨b, o, rfl, hb, hcs⟩ := hin h
    exact ⟨b, o, rfl, by omega, fun j hj => (hB9X.cell (p := ⟨b, o + j, none⟩) hb).trans (hcs j hj)⟩
  clear hin hB10 hB9X hK9 bX bL bR hBw
  have HS : Hid _ := hseq
  clear hseq
  obtain ⟨xb, hxb⟩ : ∃ xb, w9.heap.size = xb := ⟨_, rfl⟩
  rw [hxb] at bX1 hzX hz10 ⊢
  clear hxb
  have hSc1 : Below w10.heap.size w10 w10 := Below.refl _ _
  have hzc1 : w10.heap.size ≤ w10.heap.size := Nat.le_refl _
  refine wpIn_loop_rounds 3 ?_
  rw [roundsIn_succ]
  gi_wp2_with fail
  obtain ⟨Wa1, hW1⟩ : ∃ Wa1, w10.alloc (.cells #[.int .i64 0] 3) = Wa1 := ⟨_, rfl⟩
  have hz1W : Wa1.heap.size = w10.heap.size + 1 := by rw [← hW1, World.size_alloc]
  have hB1W : Below w10.heap.size w10 Wa1 := by rw [← hW1]; exact (Below.refl _ _).alloc (Nat.le_refl _) _
  have bN : Boxed Wa1 w10.heap.size 3 (.int .i64 0) := by rw [← hW1]; exact Boxed.new _ _ _
  rw [hW1]
  clear hW1
  refine wpIn_rangeFunc_ownF rfl (by decide) (gf := gf) (lb := lb) rfl trivial hent (HS.out Wa1 (hSc1.trans (hB1W.mono hzc1)) 8 (by decide)) (fun h k => h.trans k) (fun W l o o' h0 h1 _ _ => KeepD.put hDl W l o o' h1 (by omega)) (Below.refl _ _) (fun _ => rfl)
    (fun pre W => Boxed W w10.heap.size 3 (.int .i64 (pre.length : Int)) ∧ Turn [w10.heap.size] Wa1 W ∧ pre <+: L)
    (fun _ pre _ => ¬ pre <+: L)
    (own_box Wa1 w10.heap.size 3 (fun pre => .int .i64 (pre.length : Int)) (fun pre => pre <+: L) (by omega))
    (fun _ => own_pure _ _)
    ⟨bN, Turn.refl _ _, List.nil_prefix⟩
    ?_ ?_ ?_ ?_ ?_
  case refine_2 =>
    intro l x W K hK
    gi_wp2
    exact hK
  case refine_3 =>
    rintro l pre x W ⟨hn, hT, hpre⟩ hlt
    obtain ⟨b, o, rfl, hb, hcs⟩ := HW1.out (by rintro rfl; simp at hlt)
    have cX := ((hT.cell (p := ⟨xb, 0, none⟩) (by show xb < _; omega) (by simp; omega)).trans (hB1W.cell (p := ⟨xb, 0, none⟩) (by show xb < _; omega))).trans bX1.cell
    have bR := boxed_turn (boxed_below bR1 hB1W (by omega)) hT (by simp; omega)
    have cR := bR.cell
    have fR := bR.frozen
    have cN := hn.cell
    have fN := hn.frozen
    have cK := ((hT.cell (p := ⟨b, o + pre.length, none⟩) (by show b < _; omega) (by simp; omega)).trans (hB1W.cell (p := ⟨b, o + pre.length, none⟩) hb)).trans (hcs _ hlt)
    have HE : Hid (x = L.getD pre.length .empty ↔ (pre ++ [x]) <+: L) := prefix_next hpre hlt
    have i1 : ¬ (L.length : Int) ≤ (pre.length : Int) := by omega
    generalize L.getD pre.length .empty = y at *
    clear hcs
    by_cases hxy : x = y
    · subst hxy
      have q : (x.toList == x.toList) = true := beq_self_eq_true _
      gi_wp2
      refine ⟨KeepsOthers.setCell _ _ _, KeepD.set _ _ _ (fun h => by have h9 := hDl _ h; dsimp only at h9; omega), ?_, hT.set (by simp) _, HE.out.1 (by simp)⟩
      rw [List.length_append]
      exact hn.set _
    · have q : (x.toList == y.toList) = false := by
        rw [beq_eq_false_iff_ne]
        intro h
        rw [ByteArray.toList_eq, ByteArray.toList_eq] at h
        exact hxy (bs_inj h)
      have HN : Hid _ := hxy
      clear hxy
      gi_wp2
      exact ⟨KeepsOthers.setCell _ _ _, fun h => HN.out (HE.out.2 h)⟩
  case refine_5 =>
    rintro D c' pre W hD hpre hno hK
    exact absurd hpre hno
  case refine_4 =>
    rintro DA1 xs Wm1 hDDA1 hxs ⟨hn, hT, -⟩ hK
    obtain rfl : L = xs := hxs.symm
    clear hxs
    have cX := ((hT.cell (p := ⟨xb, 0, none⟩) (by show xb < _; omega) (by simp; omega)).trans (hB1W.cell (p := ⟨xb, 0, none⟩) (by show xb < _; omega))).trans bX1.cell
    have cN := hn.cell
    have fN := hn.frozen
    have q0 : ((L.length : Int) != (L.length : Int)) = false := by simp
    gi_wp2_with fail
    obtain ⟨Wb1, hW2⟩ : ∃ Wb1, Wm1.setCell ⟨w10.heap.size, 0, none⟩ (.int .i64 0) = Wb1 := ⟨_, rfl⟩
    have hT2 : Turn [w10.heap.size] Wa1 Wb1 := by rw [← hW2]; exact hT.set (by simp) _
    have bN2 : Boxed Wb1 w10.heap.size 3 (.int .i64 0) := by rw [← hW2]; exact hn.set _
    have hKDA1 : Wb1.heap[DA1]? = some (.deferred (some [])) := by rw [← hW2]; exact (KeepsOthers.setCell _ _ _).same DA1 _ hK rfl
    rw [hW2]
    clear cX cN fN hn hT hK hW2 q0
    have hB2 : Below w10.heap.size w10 Wb1 := hB1W.trans (hT2.below' (by omega) (by simp))
    have hz2 : Wa1.heap.size ≤ Wb1.heap.size := hT2.size
    clear hT2 bN hB1W
    refine wpIn_rangeFunc_ownF rfl (by decide) (gf := gf) (lb := lb) rfl trivial hent (HS.out Wb1 (hSc1.trans (hB2.mono hzc1)) 8 (by decide)) (fun h k => h.trans k) (fun W l o o' h0 h1 _ _ => KeepD.put hDl W l o o' h1 (by omega)) (Below.refl _ _) (fun _ => rfl)
      (fun pre W => Boxed W w10.heap.size 3 (.int .i64 (pre.length : Int)) ∧ Turn [w10.heap.size] Wb1 W ∧ True)
      (fun c pre W => Boxed W w10.heap.size 3 (.int .i64 (pre.length : Int)) ∧ Turn [w10.heap.size] Wb1 W ∧ c = .exit 4)
      (own_box Wb1 w10.heap.size 3 (fun pre => .int .i64 (pre.length : Int)) (fun _ => True) (by omega))
      (fun c => own_box Wb1 w10.heap.size 3 (fun pre => .int .i64 (pre.length : Int)) (fun _ => c = .exit 4) (by omega))
      ⟨bN2, Turn.refl _ _, trivial⟩
      ?_ ?_ ?_ ?_ ?_
    case refine_2 =>
      intro l x W K hK
      gi_wp2
      exact hK
    case refine_3 =>
      rintro l pre x W ⟨hn, hT, -⟩ hlt
      have cN := hn.cell
      have fN := hn.frozen
      have bL := boxed_turn (boxed_below bL1 hB2 (by omega)) hT (by simp; omega)
      have cL := bL.cell
      have bN' := hn.set (.int .i64 ((pre.length : Int) + 1))
      have cN' := bN'.cell
      have cL' := (Boxed.other' bL (b' := w10.heap.size) (by omega) (.int .i64 ((pre.length : Int) + 1))).cell
      have bN'' : Boxed (W.setCell ⟨w10.heap.size, 0, none⟩ (.int .i64 ((pre.length : Int) + 1))) w10.heap.size 3 (.int .i64 ((pre ++ [x]).length : Int)) := by rw [List.length_append]; exact bN'
      by_cases hle' : left ≤ (pre.length : Int) + 1
      · gi_wp2
        exact ⟨KeepsOthers.setCell _ _ _, bN'', hT.set (by simp) _, rfl⟩
      · gi_wp2
        exact ⟨KeepsOthers.setCell _ _ _, KeepD.set _ _ _ (fun h => by have h9 := hDl _ h; dsimp only at h9; omega), bN'', hT.set (by simp) _⟩
    case' refine_4 =>
      rintro DB1 xs wc2 hDDB1 hxs ⟨hn, hT, -⟩ hKDB1
      obtain ⟨m, hm, hml⟩ : ∃ m, xs.length = m ∧ m ≤ L.length := ⟨_, rfl, by rw [hxs]; exact Nat.le_refl _⟩
      rw [hm] at hn
      clear hm hxs
    case' refine_5 =>
      rintro DB1 c' pre wc2 hDDB1 hpre ⟨hn, hT, rfl⟩ hKDB1
      obtain ⟨m, hm, hml⟩ : ∃ m, pre.length = m ∧ m ≤ L.length := ⟨_, rfl, hpre.length_le⟩
      rw [hm] at hn
      clear hm hpre
    all_goals
      have hz3 : Wb1.heap.size ≤ wc2.heap.size := hT.size
      have hBr : Below w10.heap.size w10 wc2 := hB2.trans (hT.below' (by omega) (by simp))
      have bX2 := boxed_below bX1 hBr (by omega)
      have bL2 := boxed_below bL1 hBr (by omega)
      have bR2 := boxed_below bR1 hBr (by omega)
      have hBc2 := hBc1.trans (hBr.mono (by omega))
      have hSc2 := hSc1.trans (hBr.mono hzc1)
      have hzc2 : w10.heap.size ≤ wc2.heap.size := by omega
      have HW2 : Hid (L ≠ [] → ∃ b o, ad = some ⟨b, o, none⟩ ∧ b < wc2.heap.size ∧ ∀ j, j < L.length → wc2.cell? ⟨b, o + j, none⟩ = some (.string (L.getD j .empty))) := fun h => by
        obtain ⟨b, o, rfl, hb, hcs⟩ := HW1.out h
        exact ⟨b, o, rfl, by omega, fun j hj => (hBr.cell (p := ⟨b, o + j, none⟩) hb).trans (hcs j hj)⟩
      have hKA1 : wc2.heap[DA1]? = some (.deferred (some [])) := (hT.block DA1 (Array.getElem?_eq_some_iff.1 hKDA1).1 (by simp; omega)).trans hKDA1
      have cN := hn.cell
      have cX := bX2.cell
      have i2 : ¬ (L.length : Int) < (m : Int) := by omega
      have hDA1' : Wa1.heap.size ≤ DA1 ∧ DA1 < Wb1.heap.size := ⟨hDDA1, (Array.getElem?_eq_some_iff.1 hKDA1).1⟩
      have hDB1' : Wb1.heap.size ≤ DB1 ∧ DB1 < wc2.heap.size := ⟨hDDB1, (Array.getElem?_eq_some_iff.1 hKDB1).1⟩
      clear hT hKDA1 bX1 bL1 bR1 hBc1 hSc1 HW1 hB2 bN2 hn hBr hDDA1 hDDB1
      gi_wp2_with fail
      clear cN cX i2 hml
      rw [roundsIn_succ]
      gi_wp2_with fail
      obtain ⟨Wa2, hW1⟩ : ∃ Wa2, wc2.alloc (.cells #[.int .i64 0] 3) = Wa2 := ⟨_, rfl⟩
      have hz1W : Wa2.heap.size = wc2.heap.size + 1 := by rw [← hW1, World.size_alloc]
      have hB1W : Below wc2.heap.size wc2 Wa2 := by rw [← hW1]; exact (Below.refl _ _).alloc (Nat.le_refl _) _
      have bN : Boxed Wa2 wc2.heap.size 3 (.int .i64 0) := by rw [← hW1]; exact Boxed.new _ _ _
      rw [hW1]
      clear hW1
      refine wpIn_rangeFunc_ownF rfl (by decide) (gf := gf) (lb := lb) rfl trivial hent (HS.out Wa2 (hSc2.trans (hB1W.mono hzc2)) 8 (by decide)) (fun h k => h.trans k) (fun W l o o' h0 h1 _ _ => KeepD.put hDl W l o o' h1 (by omega)) (Below.refl _ _) (fun _ => rfl)
        (fun pre W => Boxed W wc2.heap.size 3 (.int .i64 (pre.length : Int)) ∧ Turn [wc2.heap.size] Wa2 W ∧ pre <+: L)
        (fun _ pre _ => ¬ pre <+: L)
        (own_box Wa2 wc2.heap.size 3 (fun pre => .int .i64 (pre.length : Int)) (fun pre => pre <+: L) (by omega))
        (fun _ => own_pure _ _)
        ⟨bN, Turn.refl _ _, List.nil_prefix⟩
        ?_ ?_ ?_ ?_ ?_
      case refine_2 =>
        intro l x W K hK
        gi_wp2
        exact hK
      case refine_3 =>
        rintro l pre x W ⟨hn, hT, hpre⟩ hlt
        obtain ⟨b, o, rfl, hb, hcs⟩ := HW2.out (by rintro rfl; simp at hlt)
        have cX := ((hT.cell (p := ⟨xb, 0, none⟩) (by show xb < _; omega) (by simp; omega)).trans (hB1W.cell (p := ⟨xb, 0, none⟩) (by show xb < _; omega))).trans bX2.cell
        have bR := boxed_turn (boxed_below bR2 hB1W (by omega)) hT (by simp; omega)
        have cR := bR.cell
        have fR := bR.frozen
        have cN := hn.cell
        have fN := hn.frozen
        have cK := ((hT.cell (p := ⟨b, o + pre.length, none⟩) (by show b < _; omega) (by simp; omega)).trans (hB1W.cell (p := ⟨b, o + pre.length, none⟩) hb)).trans (hcs _ hlt)
        have HE : Hid (x = L.getD pre.length .empty ↔ (pre ++ [x]) <+: L) := prefix_next hpre hlt
        have i1 : ¬ (L.length : Int) ≤ (pre.length : Int) := by omega
        generalize L.getD pre.length .empty = y at *
        clear hcs
        by_cases hxy : x = y
        · subst hxy
          have q : (x.toList == x.toList) = true := beq_self_eq_true _
          gi_wp2
          refine ⟨KeepsOthers.setCell _ _ _, KeepD.set _ _ _ (fun h => by have h9 := hDl _ h; dsimp only at h9; omega), ?_, hT.set (by simp) _, HE.out.1 (by simp)⟩
          rw [List.length_append]
          exact hn.set _
        · have q : (x.toList == y.toList) = false := by
            rw [beq_eq_false_iff_ne]
            intro h
            rw [ByteArray.toList_eq, ByteArray.toList_eq] at h
            exact hxy (bs_inj h)
          have HN : Hid _ := hxy
          clear hxy
          gi_wp2
          exact ⟨KeepsOthers.setCell _ _ _, fun h => HN.out (HE.out.2 h)⟩
      case refine_5 =>
        rintro D c' pre W hD hpre hno hK
        exact absurd hpre hno
      case refine_4 =>
        rintro DA2 xs Wm2 hDDA2 hxs ⟨hn, hT, -⟩ hK
        obtain rfl : L = xs := hxs.symm
        clear hxs
        have cX := ((hT.cell (p := ⟨xb, 0, none⟩) (by show xb < _; omega) (by simp; omega)).trans (hB1W.cell (p := ⟨xb, 0, none⟩) (by show xb < _; omega))).trans bX2.cell
        have cN := hn.cell
        have fN := hn.frozen
        have q0 : ((L.length : Int) != (L.length : Int)) = false := by simp
        gi_wp2_with fail
        obtain ⟨Wb2, hW2⟩ : ∃ Wb2, Wm2.setCell ⟨wc2.heap.size, 0, none⟩ (.int .i64 0) = Wb2 := ⟨_, rfl⟩
        have hT2 : Turn [wc2.heap.size] Wa2 Wb2 := by rw [← hW2]; exact hT.set (by simp) _
        have bN2 : Boxed Wb2 wc2.heap.size 3 (.int .i64 0) := by rw [← hW2]; exact hn.set _
        have hKDA2 : Wb2.heap[DA2]? = some (.deferred (some [])) := by rw [← hW2]; exact (KeepsOthers.setCell _ _ _).same DA2 _ hK rfl
        rw [hW2]
        clear cX cN fN hn hT hK hW2 q0
        have hB2 : Below wc2.heap.size wc2 Wb2 := hB1W.trans (hT2.below' (by omega) (by simp))
        have hz2 : Wa2.heap.size ≤ Wb2.heap.size := hT2.size
        clear hT2 bN hB1W
        refine wpIn_rangeFunc_ownF rfl (by decide) (gf := gf) (lb := lb) rfl trivial hent (HS.out Wb2 (hSc2.trans (hB2.mono hzc2)) 8 (by decide)) (fun h k => h.trans k) (fun W l o o' h0 h1 _ _ => KeepD.put hDl W l o o' h1 (by omega)) (Below.refl _ _) (fun _ => rfl)
          (fun pre W => Boxed W wc2.heap.size 3 (.int .i64 (pre.length : Int)) ∧ Turn [wc2.heap.size] Wb2 W ∧ True)
          (fun c pre W => Boxed W wc2.heap.size 3 (.int .i64 (pre.length : Int)) ∧ Turn [wc2.heap.size] Wb2 W ∧ c = .exit 4)
          (own_box Wb2 wc2.heap.size 3 (fun pre => .int .i64 (pre.length : Int)) (fun _ => True) (by omega))
          (fun c => own_box Wb2 wc2.heap.size 3 (fun pre => .int .i64 (pre.length : Int)) (fun _ => c = .exit 4) (by omega))
          ⟨bN2, Turn.refl _ _, trivial⟩
          ?_ ?_ ?_ ?_ ?_
        case refine_2 =>
          intro l x W K hK
          gi_wp2
          exact hK
        case refine_3 =>
          rintro l pre x W ⟨hn, hT, -⟩ hlt
          have cN := hn.cell
          have fN := hn.frozen
          have bL := boxed_turn (boxed_below bL2 hB2 (by omega)) hT (by simp; omega)
          have cL := bL.cell
          have bN' := hn.set (.int .i64 ((pre.length : Int) + 1))
          have cN' := bN'.cell
          have cL' := (Boxed.other' bL (b' := wc2.heap.size) (by omega) (.int .i64 ((pre.length : Int) + 1))).cell
          have bN'' : Boxed (W.setCell ⟨wc2.heap.size, 0, none⟩ (.int .i64 ((pre.length : Int) + 1))) wc2.heap.size 3 (.int .i64 ((pre ++ [x]).length : Int)) := by rw [List.length_append]; exact bN'
          by_cases hle' : left ≤ (pre.length : Int) + 1
          · gi_wp2
            exact ⟨KeepsOthers.setCell _ _ _, bN'', hT.set (by simp) _, rfl⟩
          · gi_wp2
            exact ⟨KeepsOthers.setCell _ _ _, KeepD.set _ _ _ (fun h => by have h9 := hDl _ h; dsimp only at h9; omega), bN'', hT.set (by simp) _⟩
        case' refine_4 =>
          rintro DB2 xs wc3 hDDB2 hxs ⟨hn, hT, -⟩ hKDB2
          obtain ⟨m, hm, hml⟩ : ∃ m, xs.length = m ∧ m ≤ L.length := ⟨_, rfl, by rw [hxs]; exact Nat.le_refl _⟩
          rw [hm] at hn
          clear hm hxs
        case' refine_5 =>
          rintro DB2 c' pre wc3 hDDB2 hpre ⟨hn, hT, rfl⟩ hKDB2
          obtain ⟨m, hm, hml⟩ : ∃ m, pre.length = m ∧ m ≤ L.length := ⟨_, rfl, hpre.length_le⟩
          rw [hm] at hn
          clear hm hpre
        all_goals
          have hz3 : Wb2.heap.size ≤ wc3.heap.size := hT.size
          have hBr : Below wc2.heap.size wc2 wc3 := hB2.trans (hT.below' (by omega) (by simp))
          have bX3 := boxed_below bX2 hBr (by omega)
          have bL3 := boxed_below bL2 hBr (by omega)
          have bR3 := boxed_below bR2 hBr (by omega)
          have hBc3 := hBc2.trans (hBr.mono (by omega))
          have hSc3 := hSc2.trans (hBr.mono hzc2)
          have hzc3 : w10.heap.size ≤ wc3.heap.size := by omega
          have HW3 : Hid (L ≠ [] → ∃ b o, ad = some ⟨b, o, none⟩ ∧ b < wc3.heap.size ∧ ∀ j, j < L.length → wc3.cell? ⟨b, o + j, none⟩ = some (.string (L.getD j .empty))) := fun h => by
            obtain ⟨b, o, rfl, hb, hcs⟩ := HW2.out h
            exact ⟨b, o, rfl, by omega, fun j hj => (hBr.cell (p := ⟨b, o + j, none⟩) hb).trans (hcs j hj)⟩
          have hKA2 : wc3.heap[DA2]? = some (.deferred (some [])) := (hT.block DA2 (Array.getElem?_eq_some_iff.1 hKDA2).1 (by simp; omega)).trans hKDA2
          replace hKA1 : wc3.heap[DA1]? = some (.deferred (some [])) := (hBr.block DA1 (Array.getElem?_eq_some_iff.1 hKA1).1).trans hKA1
          replace hKDB1 : wc3.heap[DB1]? = some (.deferred (some [])) := (hBr.block DB1 (Array.getElem?_eq_some_iff.1 hKDB1).1).trans hKDB1
          have cN := hn.cell
          have cX := bX3.cell
          have i2 : ¬ (L.length : Int) < (m : Int) := by omega
          have hDA2' : Wa2.heap.size ≤ DA2 ∧ DA2 < Wb2.heap.size := ⟨hDDA2, (Array.getElem?_eq_some_iff.1 hKDA2).1⟩
          have hDB2' : Wb2.heap.size ≤ DB2 ∧ DB2 < wc3.heap.size := ⟨hDDB2, (Array.getElem?_eq_some_iff.1 hKDB2).1⟩
          clear hT hKDA2 bX2 bL2 bR2 hBc2 hSc2 HW2 hB2 bN2 hn hBr hDDA2 hDDB2
          gi_wp2_with fail
          clear cN cX i2 hml
          rw [roundsIn_succ]
          have cR := bR3.cell
          have fR := bR3.frozen
          gi_wp2
          have hK4 := fun (D : Nat) (h : wc3.heap[D]? = some (.deferred (some []))) => (KeepsOthers.setCell wc3 ⟨w.heap.size + 1, 0, none⟩ (.bool true)).same D _ h rfl
          refine leave_parts w (w.heap.size + 1) _ rfl [DB2, DA2, DB1, DA1] _ (bR3.set _) (hBc3.setCell (p := ⟨w.heap.size + 1, 0, none⟩) (by simp) _) (fun D hD => ?_) ?_
          · simp only [List.mem_cons, List.not_mem_nil, or_false] at hD
            rcases hD with rfl | rfl | rfl | rfl
            · exact ⟨by omega, hK4 _ hKDB2⟩
            · exact ⟨by omega, hK4 _ hKA2⟩
            · exact ⟨by omega, hK4 _ hKDB1⟩
            · exact ⟨by omega, hK4 _ hKA1⟩
          · simp only [List.nodup_cons, List.mem_cons, List.not_mem_nil, or_false, not_or, List.nodup_nil, not_false_eq_true, and_true]
            omega

end Go.Proofs.Ytnfdjgpephoomaa
