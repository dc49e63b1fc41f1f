/-
  THE WALK OF middle.
-/
import Derived.Test.YtplfcpbjlhobeaaDMid
import Derived.Test.YtplfcpbjlhobeaaDReadK
import Derived.Deep.AppendLies
import Derived.Test.YtplfcpbjlhobeaaDStep
namespace Go.Proofs.Ytplfcpbjlhobeaa
open Go.RowKit

theorem infoS : (Try.prog.info? 26).map (fun i => (i.zero, i.size, i.bytes)) = some (some (.slice none 0 0), 1, 24) := by kernel_rfl
/-- the first k + 1 sizes -/
theorem aheads_succ (n : Cm.Nd) (k : Nat) : Cm.aheads n (k + 1) = Cm.aheads n k ++ [((Cm.psz n.leaf (n.items.take (k + 1)) : Nat) : Int)] := by
  unfold Cm.aheads
  rw [List.range_succ, List.map_append]
  rfl
theorem aheads_len (n : Cm.Nd) (k : Nat) : (Cm.aheads n k).length = k + 1 := by simp [Cm.aheads]
theorem aheads_get (n : Cm.Nd) (k j : Nat) (h : j ≤ k) : (Cm.aheads n k).getD j 0 = (Cm.psz n.leaf (n.items.take j) : Int) := by
  simp [Cm.aheads, List.getD, show j < k + 1 by omega]

/-- middle's variables: the node, how many go up, how many items there are, the sizes -/
structure MInv (w wr : World) (n : Cm.Nd) (vi vk : Value) (vA : Value) (AL : List Int) : Prop where
  nd : wr.heap[w.heap.size]? = some (.cells #[.bool n.leaf, vi, vk] 28 (0, 0))
  up : wr.heap[w.heap.size + 1]? = some (.cells #[.int .i64 (Cm.up n.leaf : Int)] 3 (0, 0))
  ct : wr.heap[w.heap.size + 2]? = some (.cells #[.int .i64 (n.items.length : Int)] 3 (0, 0))
  ah : wr.heap[w.heap.size + 4]? = some (.cells #[vA] 26 (0, 0))
  row : OwnN wr (w.heap.size + 3) vA AL
  be : Below w.heap.size w wr
theorem cells1_of {w : World} {p : Nat} {a : Value} {t : TypeId} {f : Nat × Nat} (h : w.heap[p]? = some (.cells #[a] t f)) : w.cell? ⟨p, 0, none⟩ = some a := by
  rw [cell_of_row w p 0 _ t f h]; rfl
theorem MInv.below {w wr w' : World} {n : Cm.Nd} {vi vk vA : Value} {AL : List Int} (h : MInv w wr n vi vk vA AL) (hb : Below wr.heap.size wr w') : MInv w w' n vi vk vA AL :=
  ⟨(hb.block _ (lt_of_heap h.nd)).trans h.nd, (hb.block _ (lt_of_heap h.up)).trans h.up, (hb.block _ (lt_of_heap h.ct)).trans h.ct, (hb.block _ (lt_of_heap h.ah)).trans h.ah, h.row.below hb (Nat.le_refl _), h.be.trans (hb.mono h.be.size)⟩
theorem MInv.drew {w wr : World} {n : Cm.Nd} {vi vk vA : Value} {AL : List Int} (h : MInv w wr n vi vk vA AL) : MInv w wr.drew n vi vk vA AL :=
  ⟨h.nd, h.up, h.ct, h.ah, h.row, ⟨h.be.os, h.be.tape, h.be.output, h.be.size, h.be.block⟩⟩
theorem MInv.alloc {w wr : World} {n : Cm.Nd} {vi vk vA : Value} {AL : List Int} (h : MInv w wr n vi vk vA AL) (o : Obj) : MInv w (wr.alloc o) n vi vk vA AL := h.below ((Below.refl _ wr).alloc (Nat.le_refl _) o)
/-- a size more -/
theorem MInv.more {w wr w2 : World} {n : Cm.Nd} {vi vk vA vA' : Value} {AL AL' : List Int} (h : MInv w wr n vi vk vA AL) (hg : wr.grownBy w2 vA.ownBlock) (ho : OwnN w2 (w.heap.size + 3) vA' AL') :
    MInv w (w2.setCell ⟨w.heap.size + 4, 0, none⟩ vA') n vi vk vA' AL' ∧ w2.cell? ⟨w.heap.size + 4, 0, none⟩ = some vA ∧ w2.frozen? ⟨w.heap.size + 4, 0, none⟩ = false ∧ w2.heap[w.heap.size]? = some (.cells #[.bool n.leaf, vi, vk] 28 (0, 0)) := by
  have hty : ∀ g, vA.ownBlock = some g → w.heap.size + 3 ≤ g ∧ ∃ cur, wr.heap[g]? = some (.cells cur 3 (0, 0)) := fun g hg => heap_row h.row hg
  have hk : ∀ k o, wr.heap[k]? = some o → (k < w.heap.size + 3 ∨ ∃ cs t f, o = .cells cs t f ∧ t ≠ 3) → w2.heap[k]? = some o := fun k o hk hc => by
    refine (hg.block k (lt_of_heap hk) fun e => ?_).trans hk
    obtain ⟨h1, cur, h2⟩ := hty k e.symm
    rcases hc with hc | ⟨cs, t, f, rfl, ht⟩
    · omega
    · rw [hk] at h2
      simp only [Option.some.injEq, Obj.cells.injEq] at h2
      exact ht h2.2.1
  have a1 := hk _ _ h.nd (.inl (by omega))
  have a2 := hk _ _ h.up (.inl (by omega))
  have a3 := hk _ _ h.ct (.inl (by omega))
  have a4 := hk _ _ h.ah (.inr ⟨_, _, _, rfl, by decide⟩)
  have hb2 : Below w.heap.size w w2 := h.be.grown hg h.be.size fun k hk => by have := (hty k hk).1; omega
  refine ⟨⟨(Below.heap_setCell w2 ⟨w.heap.size + 4, 0, none⟩ vA' _ (by show _ ≠ w.heap.size + 4; omega)).trans a1, (Below.heap_setCell w2 ⟨w.heap.size + 4, 0, none⟩ vA' _ (by show _ ≠ w.heap.size + 4; omega)).trans a2, (Below.heap_setCell w2 ⟨w.heap.size + 4, 0, none⟩ vA' _ (by show _ ≠ w.heap.size + 4; omega)).trans a3, heap_setCell_same w2 (w.heap.size + 4) 0 _ _ vA' a4, Row.turn ho ((Turn.refl [w.heap.size + 4] w2).set (by simp) vA') ?_, hb2.setCell (by show w.heap.size ≤ w.heap.size + 4; omega) _⟩, cells1_of a4, frozen_of_row w2 (w.heap.size + 4) 0 _ _ a4, a1⟩
  intro g hg' hx
  simp only [List.mem_singleton] at hx
  exact Row.ne ho a4 (by decide) hg' hx

theorem made_ints (c : Nat) : madeCells (Value.int .i64 0).cells c = (intsV (List.replicate c 0)).toArray := by
  apply Array.ext
  · simp [size_madeCells, intsV]
  · intro j h1 h2
    have hz : (Value.int IntKind.i64 0).cells = #[Value.int .i64 0] := rfl
    simp [madeCells, intsV, hz, Nat.mod_one]
theorem make_ahead (z : Int) (m : Nat) (hz : z = (m : Int) + 1) (hm : m ≤ 1000000) (W : World) :
    (Instr.makeSlice 26 (.int .i64 1) (.int .i64 z)).run Try.prog W = .ok (.slice (some ⟨W.heap.size, 0, none⟩) 1 (m + 1)) (W.alloc (.cells (intsV (List.replicate (m + 1) 0)).toArray 3)) := by
  obtain ⟨i0, hi, hz0, hz1, hz2⟩ := info_parts infoN
  rw [run_make W 26 3 i0 (.int .i64 0) Try.underlying26 hi hz0 .i64 .i64 1 z (by omega) (by omega) (by rw [hz2]; omega) (by omega), hz1]
  have e : z.toNat = m + 1 := by omega
  rw [e, Nat.mul_one, made_ints]
  rfl
theorem own_ahead (W : World) (m base : Nat) (hb : base ≤ W.heap.size) (hm : m ≤ 1000000) : OwnN (W.alloc (.cells (intsV (List.replicate (m + 1) 0)).toArray 3)) base (.slice (some ⟨W.heap.size, 0, none⟩) 1 (m + 1)) [0] := by
  refine ⟨by simp [intsV], .inr ⟨W.heap.size, m + 1, _, rfl, hb, heap_alloc_new W _, by simp, by unfold maxLen; omega, by simp [intsV], ?_⟩⟩
  simp [intsV, List.replicate_succ]

theorem MInv.elem {w wr : World} {n : Cm.Nd} {vi vk : Value} {g m cap k : Nat} {AL : List Int} (h : MInv w wr n vi vk (.slice (some ⟨g, 0, none⟩) m cap) AL) (hk : k < AL.length) : wr.cell? ⟨g, k, none⟩ = some (.int .i64 (AL.getD k 0)) ∧ m = AL.length ∧ g < wr.heap.size := by
  obtain ⟨ad, c, hv, _, _, hc⟩ := h.row.ints
  obtain ⟨b, o, rfl, hlt, hcell⟩ := hc (by rintro rfl; simp at hk)
  simp only [Value.slice.injEq, Option.some.injEq, Addr.mk.injEq] at hv
  obtain ⟨⟨rfl, rfl, _⟩, rfl, rfl⟩ := hv
  have := hcell k hk
  rw [Nat.zero_add] at this
  exact ⟨this, rfl, hlt⟩

set_option maxRecDepth 100000 in
set_option maxHeartbeats 8000000 in
theorem middle_any (n : Cm.Nd) (v : Value) (B : Nat) (w : World) (hv : NdS w B v n) (hB : B ≤ w.heap.size) (hl : n.items.length ≤ 1000000) (hr : Cm.Right n) (h2 : 2 + Cm.up n.leaf ≤ n.items.length) :
    Calls Try.prog 35 #[v, .int .i64 (Cm.up n.leaf : Int)] w fun e w' => e = .returned (.int .i64 ((Cm.best (Cm.cost n) (Cm.places n)).1 : Int)) ∧ Below w.heap.size w w' := by
  have HP : Hid (∀ (i : Nat) (W : World), i < n.items.length → Below w.heap.size w W → Calls Try.prog 57 #[.slice none 0 0, v, .int .i64 (i : Int)] W fun e w' => ∃ v', e = .returned v' ∧ Own w' W.heap.size v' ([] ++ Cm.part n.leaf (n.kids.getD (i + 1) 0) (n.items.getD i Cm.zero)) ∧ Below W.heap.size W w') :=
    fun i W hi hb => appendPart_any n i hi v B W.heap.size _ [] W (hv.below hb hB) (Nat.le_trans hB hb.size) hl hr.fit (Own.nil _ _) (by simp) (Nat.le_refl _)
  have Hpz : Hid (∀ k, k ≤ n.items.length → Cm.psz n.leaf (n.items.take k) ≤ 130 * k) := fun k hk => by
    have h1 := parts_le hr.fit hk
    rw [Cm.parts_len n k hk] at h1
    exact h1
  have Hpl : Hid (∀ k, k < n.items.length → Cm.psz n.leaf (n.items.take (k + 1)) = Cm.psz n.leaf (n.items.take k) + ([] ++ Cm.part n.leaf (n.kids.getD (k + 1) 0) (n.items.getD k Cm.zero)).length) := fun k hk => by
    rw [Cm.psz_succ n.leaf n.items k hk, List.nil_append, Cm.part_len]
  have Hup : Hid (Cm.up n.leaf ≤ 1) := by show _ ≤ _; unfold Cm.up; split <;> omega
  have Hpc : Hid (Cm.places n = n.items.length - 1 - Cm.up n.leaf) := by show _ = _; unfold Cm.places Cm.up; cases n.leaf <;> simp; omega
  have HG : Hid (∀ (i : Nat) (W : World) (g c : Nat) (vi vk : Value), 1 ≤ i → i + Cm.up n.leaf < n.items.length → MInv w W n vi vk (.slice (some ⟨g, 0, none⟩) (n.items.length + 1) c) (Cm.aheads n n.items.length) → Calls Try.prog 58 #[.int .i64 (i : Int), .pointer (some ⟨w.heap.size, 0, none⟩), .pointer (some ⟨w.heap.size + 4, 0, none⟩), .pointer (some ⟨w.heap.size + 2, 0, none⟩), .pointer (some ⟨w.heap.size + 1, 0, none⟩)] W fun e w' => e = .returned (.int .i64 (Cm.cost n i : Int)) ∧ Below W.heap.size W w') :=
    fun i W g c vi vk h1 h3 hI => greater_any n i h3 hl (by have := Hpz.out n.items.length (Nat.le_refl _); rw [List.take_length] at this; omega) w.heap.size (w.heap.size + 4) (w.heap.size + 2) (w.heap.size + 1) g 0 c W (cells3_of hI.nd).1 (cells1_of hI.ah) (cells1_of hI.ct) (cells1_of hI.up)
      (fun j hj => by have := (hI.elem (k := j) (by rw [aheads_len]; omega)).1; rw [aheads_get n _ j hj] at this; rw [Nat.zero_add]; exact this) ⟨lt_of_heap hI.nd, lt_of_heap hI.ah, lt_of_heap hI.ct, lt_of_heap hI.up, (hI.elem (k := 0) (by rw [aheads_len]; omega)).2.2⟩
  obtain ⟨vi, vk, rfl, ⟨ad, c, rfl, -⟩, ⟨kd, d, rfl, -⟩⟩ := hv
  have hmk := fun W => make_ahead ((n.items.length : Int) + 1) n.items.length rfl hl W
  have hI0 : MInv w (((((w.alloc (.cells #[.bool n.leaf, .slice ad n.items.length c, .slice kd n.kids.length d] 28)).alloc (.cells #[.int .i64 (Cm.up n.leaf : Int)] 3)).alloc (.cells #[.int .i64 (n.items.length : Int)] 3)).alloc (.cells (intsV (List.replicate (n.items.length + 1) 0)).toArray 3)).alloc (.cells #[.slice (some ⟨w.heap.size + 1 + 1 + 1, 0, none⟩) 1 (n.items.length + 1)] 26)) n (.slice ad n.items.length c) (.slice kd n.kids.length d) (.slice (some ⟨w.heap.size + 1 + 1 + 1, 0, none⟩) 1 (n.items.length + 1)) (Cm.aheads n 0) := by
    have b1 := heap_alloc_new w (.cells #[.bool n.leaf, .slice ad n.items.length c, .slice kd n.kids.length d] 28)
    have e1 := (Below.refl w.heap.size w).alloc (Nat.le_refl _) (.cells #[.bool n.leaf, .slice ad n.items.length c, .slice kd n.kids.length d] 28)
    have s1 : (w.alloc (.cells #[.bool n.leaf, .slice ad n.items.length c, .slice kd n.kids.length d] 28)).heap.size = w.heap.size + 1 := by simp
    generalize w.alloc (.cells #[.bool n.leaf, .slice ad n.items.length c, .slice kd n.kids.length d] 28) = W1 at *
    have b2 := heap_alloc_new W1 (.cells #[.int .i64 (Cm.up n.leaf : Int)] 3)
    have e2 := (Below.refl W1.heap.size W1).alloc (Nat.le_refl _) (.cells #[.int .i64 (Cm.up n.leaf : Int)] 3)
    have s2 : (W1.alloc (.cells #[.int .i64 (Cm.up n.leaf : Int)] 3)).heap.size = w.heap.size + 2 := by simp [s1]
    generalize W1.alloc (.cells #[.int .i64 (Cm.up n.leaf : Int)] 3) = W2 at *
    have b3 := heap_alloc_new W2 (.cells #[.int .i64 (n.items.length : Int)] 3)
    have e3 := (Below.refl W2.heap.size W2).alloc (Nat.le_refl _) (.cells #[.int .i64 (n.items.length : Int)] 3)
    have s3 : (W2.alloc (.cells #[.int .i64 (n.items.length : Int)] 3)).heap.size = w.heap.size + 3 := by simp [s2]
    generalize W2.alloc (.cells #[.int .i64 (n.items.length : Int)] 3) = W3 at *
    have b4 := own_ahead W3 n.items.length (w.heap.size + 3) (by omega) hl
    have e4 := (Below.refl W3.heap.size W3).alloc (Nat.le_refl _) (.cells (intsV (List.replicate (n.items.length + 1) 0)).toArray 3)
    have s4 : (W3.alloc (.cells (intsV (List.replicate (n.items.length + 1) 0)).toArray 3)).heap.size = w.heap.size + 4 := by simp [s3]
    generalize W3.alloc (.cells (intsV (List.replicate (n.items.length + 1) 0)).toArray 3) = W4 at *
    rw [s3, show w.heap.size + 3 = w.heap.size + 1 + 1 + 1 by omega] at b4
    have b5 := heap_alloc_new W4 (.cells #[.slice (some ⟨w.heap.size + 1 + 1 + 1, 0, none⟩) 1 (n.items.length + 1)] 26)
    have e5 := (Below.refl W4.heap.size W4).alloc (Nat.le_refl _) (.cells #[.slice (some ⟨w.heap.size + 1 + 1 + 1, 0, none⟩) 1 (n.items.length + 1)] 26)
    rw [s4] at b5 e5
    rw [s3] at e4
    rw [s2] at e3 b3
    rw [s1] at e2 b2
    refine ⟨?_, ?_, ?_, b5, OwnN.alloc b4 _, ?_⟩
    · exact (e5.block _ (by omega)).trans ((e4.block _ (by omega)).trans ((e3.block _ (by omega)).trans ((e2.block _ (by omega)).trans b1)))
    · exact (e5.block _ (by omega)).trans ((e4.block _ (by omega)).trans ((e3.block _ (by omega)).trans b2))
    · exact (e5.block _ (by omega)).trans ((e4.block _ (by omega)).trans b3)
    · exact (((e1.trans (e2.mono (by omega))).trans (e3.mono (by omega))).trans (e4.mono (by omega))).trans (e5.mono (by omega))
  go_enter Try.func35, Try.ntmps35
  go_upto_region 3 with fail
  generalize ((((w.alloc (.cells #[.bool n.leaf, .slice ad n.items.length c, .slice kd n.kids.length d] 28)).alloc (.cells #[.int .i64 (Cm.up n.leaf : Int)] 3)).alloc (.cells #[.int .i64 (n.items.length : Int)] 3)).alloc (.cells (intsV (List.replicate (n.items.length + 1) 0)).toArray 3)).alloc (.cells #[.slice (some ⟨w.heap.size + 1 + 1 + 1, 0, none⟩) 1 (n.items.length + 1)] 26) = W0 at *
  rw [show w.heap.size + 1 + 1 + 1 + 1 = w.heap.size + 4 by omega, show w.heap.size + 1 + 1 + 1 = w.heap.size + 3 by omega, show w.heap.size + 1 + 1 = w.heap.size + 2 by omega] at *
  clear hmk
  obtain ⟨n0, n1, n2⟩ := cells3_of hI0.nd
  go_wp2
  clear n0 n1 n2
  go_loopw [22] (fun i wr => ∃ (k g cap : Nat), k ≤ n.items.length ∧ i = .int .i64 (k : Int) ∧ MInv w wr n (.slice ad n.items.length c) (.slice kd n.kids.length d) (.slice (some ⟨g, 0, none⟩) (k + 1) cap) (Cm.aheads n k))
    (fun i _ => n.items.length - (intOf i).toNat)
  case atStart => exact ⟨0, _, _, Nat.zero_le _, rfl, hI0⟩
  case round =>
    obtain ⟨k, g, cap0, hkl, rfl, hIr⟩ := hrel
    clear hI0
    by_cases hlt : k < n.items.length
    · have n4 := cells1_of hIr.ah
      have HEl : Hid (∀ W : World, MInv w W n (.slice ad n.items.length c) (.slice kd n.kids.length d) (.slice (some ⟨g, 0, none⟩) (k + 1) cap0) (Cm.aheads n k) → W.cell? ⟨g, k, none⟩ = some (.int .i64 (Cm.psz n.leaf (n.items.take k) : Int))) := fun W h => by
        have := (h.elem (k := k) (by rw [aheads_len]; omega)).1
        rwa [aheads_get n k k (Nat.le_refl _)] at this
      have e4 := HEl.out _ hIr
      have hpz := Hpz.out k hkl
      have hpz1 := Hpz.out (k + 1) hlt
      have hpl := Hpl.out k hlt
      have HKl : Hid ((Cm.aheads n k).length ≤ 2000000) := by show _ ≤ _; rw [aheads_len]; omega
      obtain ⟨Lp, hLp⟩ : ∃ Lp, ([] ++ Cm.part n.leaf (n.kids.getD (k + 1) 0) (n.items.getD k Cm.zero)).length = Lp := ⟨_, rfl⟩
      have HPl : Hid _ := hLp
      rw [hLp] at hpl
      obtain ⟨P, hP⟩ : ∃ P, Cm.psz n.leaf (n.items.take k) = P := ⟨_, rfl⟩
      rw [hP] at hpl hpz e4 HEl
      rw [hpl] at hpz1
      have HAs : Hid (∀ (W : World) {g' c' : Nat}, MInv w W n (.slice ad n.items.length c) (.slice kd n.kids.length d) (.slice (some ⟨g', 0, none⟩) (k + 1 + 1) c') (Cm.aheads n k ++ [(P : Int) + (Lp : Int)]) → MInv w W n (.slice ad n.items.length c) (.slice kd n.kids.length d) (.slice (some ⟨g', 0, none⟩) (k + 1 + 1) c') (Cm.aheads n (k + 1))) := fun W g' c' h => by
        rw [aheads_succ, hpl]
        exact h
      have HS0 : Hid _ := cells3_of hIr.nd
      have ik : (k : Int) < (k : Int) + 1 := by omega
      have hwp : IntKind.i64.wrap ((P : Int) + (Lp : Int)) = (P : Int) + (Lp : Int) := by rw [IntKind.wrap_i64]; omega
      clear hLp hP hpl hpz hpz1
      go_upto_block 1 with fail
      go_cut [7] (fun _ wx => ∃ g' c', MInv w wx n (.slice ad n.items.length c) (.slice kd n.kids.length d) (.slice (some ⟨g', 0, none⟩) (k + 1 + 1) c') (Cm.aheads n (k + 1)))
      case first =>
        go_wp2_with fail
        refine wp_region_held_drew (S := fun W : World => W.cell? ⟨w.heap.size, 0, none⟩ = some (.bool n.leaf) ∧ W.cell? ⟨w.heap.size, 1, none⟩ = some (.slice ad n.items.length c) ∧ W.cell? ⟨w.heap.size, 2, none⟩ = some (.slice kd n.kids.length d)) (by kernel_rfl) HS0.out (fun hHeld => ?_)
        refine wpAnyH_take (i := 2) (v := ?_) rfl (by kernel_rfl) (by kernel_rfl) (by kernel_rfl) (fun _ _ _ h => h) (Or.inl ⟨(by simp [Region.wanted]), ?_⟩) (hHeld) ?_
        rotate_left
        · (intro w hSw; (try dsimp only at hSw); ((go_simp) <;> (with_reducible rfl)))
        try simp only [Act.put, List.setIfInBounds_toArray]
        refine wpAnyH_take (i := 5) (v := ?_) rfl (by kernel_rfl) (by kernel_rfl) (by kernel_rfl) (fun _ _ _ h => h) (Or.inl ⟨(by simp [Region.wanted]), ?_⟩) (hHeld) ?_
        rotate_left
        · (intro w hSw; (try dsimp only at hSw); ((go_simp) <;> (with_reducible rfl)))
        try simp only [Act.put]
        refine wpAnyH_take (i := 6) (v := ?_) rfl (by kernel_rfl) (by kernel_rfl) (by kernel_rfl) (fun _ _ _ h => h) (Or.inl ⟨(by simp [Region.wanted]), ?_⟩) (hHeld) ?_
        rotate_left
        · (intro w hSw; (try dsimp only at hSw); ((go_simp) <;> (with_reducible rfl)))
        try simp only [Act.put]
        refine wpAnyH_ready (rs := [0, 1, 7]) (by kernel_rfl) (by simp) ?_
        refine AllReadyH.cons rfl (fun K hK => ?_) (AllReadyH.cons rfl (fun K hK => ?_) (AllReadyH.cons rfl (fun K hK => ?_) AllReadyH.nil))
        · go_simp
          refine hK.out _ _ HS0.out (fun hHeld => ?_)
          clear hK K
          try simp only [Act.put, List.setIfInBounds_toArray, List.set_cons_zero, List.set_cons_succ]
          refine wpAnyH_ready (rs := [1, 7]) (by kernel_rfl) (by simp) ?_
          refine AllReadyH.cons rfl (fun K hK => ?_) (AllReadyH.cons rfl (fun K hK => ?_) AllReadyH.nil)
          · go_simp
            refine hK.out _ _ HS0.out (fun hHeld => ?_)
            clear hK K
            try simp only [Act.put, List.setIfInBounds_toArray, List.set_cons_zero, List.set_cons_succ]
            refine wpAnyH_take (i := 3) (v := ?_) rfl (by kernel_rfl) (by kernel_rfl) (by kernel_rfl) (fun _ _ _ h => h) (Or.inl ⟨(by simp [Region.wanted]), ?_⟩) (hHeld) ?_
            rotate_left
            · (intro w hSw; (try dsimp only at hSw); ((go_simp) <;> (with_reducible rfl)))
            try simp only [Act.put, List.setIfInBounds_toArray]
            refine wpAnyH_ready (rs := [4, 7]) (by kernel_rfl) (by simp) ?_
            refine AllReadyH.cons rfl (fun K hK => ?_) (AllReadyH.cons rfl (fun K hK => ?_) AllReadyH.nil)
            · go_simp
              refine hK.out _ _ HS0.out (fun hHeld => ?_)
              clear hK K
              try simp only [Act.put, List.setIfInBounds_toArray, List.set_cons_zero, List.set_cons_succ]
              refine wpAnyH_ready (rs := [7]) (by kernel_rfl) (by simp) ?_
              refine AllReadyH.cons rfl (fun K hK => ?_) AllReadyH.nil
              go_simp
              refine (HP.out k _ hlt hIr.drew.be).mono ?_
              rintro e w6 ⟨v6, rfl, ho6, hb6⟩
              obtain ⟨ad6, c6, hv6, -⟩ := ho6.byts
              rw [HPl.out] at hv6
              subst hv6
              have hI6 := hIr.drew.below hb6
              have HS6 := cells3_of hI6.nd
              have HS6b := cells3_of (hI6.alloc (.cells #[.int .i64 ((P : Int) + (Lp : Int))] 3)).nd
              have m4 := cells1_of hI6.ah
              have m4b := cells1_of (hI6.alloc (.cells #[.int .i64 ((P : Int) + (Lp : Int))] 3)).ah
              have m5 := HEl.out _ hI6
              try go_wp2_with fail
              refine hK.out _ _ HS6 (fun hHeld => ?_)
              clear hK K
              try simp only [Act.put, List.setIfInBounds_toArray, List.set_cons_zero, List.set_cons_succ]
              refine wpAnyH_take (i := 8) (v := ?_) rfl (by kernel_rfl) (by kernel_rfl) (by kernel_rfl) (fun _ _ _ h => h) (Or.inl ⟨(by simp [Region.wanted]), ?_⟩) (hHeld) ?_
              rotate_left
              · (intro w hSw; (try dsimp only at hSw); ((go_simp) <;> (with_reducible rfl)))
              try simp only [Act.put, List.setIfInBounds_toArray]
              refine wpAnyH_take (i := 9) (v := ?_) rfl (by kernel_rfl) (by kernel_rfl) (by kernel_rfl) (fun _ _ _ h => h) (Or.inl ⟨(by simp [Region.wanted]), ?_⟩) (hHeld) ?_
              rotate_left
              · (intro w hSw; (try dsimp only at hSw); ((go_simp) <;> (with_reducible rfl)))
              try simp only [Act.put]
              refine wpAnyH_ready (rs := [10]) (by kernel_rfl) (by simp) ?_
              refine AllReadyH.cons rfl (fun K hK => ?_) AllReadyH.nil
              go_simp
              refine hK.out _ _ HS6b (fun hHeld => ?_)
              clear hK K
              try simp only [Act.put, List.setIfInBounds_toArray, List.set_cons_zero, List.set_cons_succ]
              refine wpAnyH_ready (rs := [11]) (by kernel_rfl) (by simp) ?_
              refine AllReadyH.cons rfl (fun K hK => ?_) AllReadyH.nil
              refine step_append_int rfl (.tmp 25) (.tmp 35) rfl (w.heap.size + 3) _ (Cm.aheads n k) ((P : Int) + (Lp : Int)) rfl hI6.row rfl HKl (by have := hI6.be.size; have := lt_of_heap hI6.ah; omega) ?_
              intro gg cap w7 hown7 hgrow7
              rw [aheads_len] at hown7 ⊢
              obtain ⟨hI7, c7, f7, hn7⟩ := (hI6.alloc (.cells #[.int .i64 ((P : Int) + (Lp : Int))] 3)).more hgrow7 hown7
              have HS7 := cells3_of hI7.nd
              refine hK.out _ _ (cells3_of hn7) (fun hHeld => ?_)
              clear hK K
              try simp only [Act.put, List.setIfInBounds_toArray]
              refine wpAnyH_ready (rs := [12]) (by kernel_rfl) (by simp) ?_
              refine AllReadyH.cons rfl (fun K hK => ?_) AllReadyH.nil
              go_simp
              refine hK.out _ _ HS7 (fun hHeld => ?_)
              clear hK K
              try simp only [Act.put, List.setIfInBounds_toArray, List.set_cons_zero, List.set_cons_succ]
              refine wpAnyH_done (by kernel_rfl) ?_ _
              go_wp2
              go_meet
              exact ⟨gg, cap, HAs.out _ hI7⟩
            · go_simp
              refine (HP.out k _ hlt hIr.drew.be).mono ?_
              rintro e w6 ⟨v6, rfl, ho6, hb6⟩
              obtain ⟨ad6, c6, hv6, -⟩ := ho6.byts
              rw [HPl.out] at hv6
              subst hv6
              have hI6 := hIr.drew.below hb6
              have HS6 := cells3_of hI6.nd
              have HS6b := cells3_of (hI6.alloc (.cells #[.int .i64 ((P : Int) + (Lp : Int))] 3)).nd
              have m4 := cells1_of hI6.ah
              have m4b := cells1_of (hI6.alloc (.cells #[.int .i64 ((P : Int) + (Lp : Int))] 3)).ah
              have m5 := HEl.out _ hI6
              try go_wp2_with fail
              refine hK.out _ _ HS6 (fun hHeld => ?_)
              clear hK K
              try simp only [Act.put, List.setIfInBounds_toArray, List.set_cons_zero, List.set_cons_succ]
              refine wpAnyH_take (i := 8) (v := ?_) rfl (by kernel_rfl) (by kernel_rfl) (by kernel_rfl) (fun _ _ _ h => h) (Or.inl ⟨(by simp [Region.wanted]), ?_⟩) (hHeld) ?_
              rotate_left
              · (intro w hSw; (try dsimp only at hSw); ((go_simp) <;> (with_reducible rfl)))
              try simp only [Act.put, List.setIfInBounds_toArray]
              refine wpAnyH_ready (rs := [4]) (by kernel_rfl) (by simp) ?_
              refine AllReadyH.cons rfl (fun K hK => ?_) AllReadyH.nil
              go_simp
              refine hK.out _ _ HS6 (fun hHeld => ?_)
              clear hK K
              try simp only [Act.put, List.setIfInBounds_toArray, List.set_cons_zero, List.set_cons_succ]
              refine wpAnyH_take (i := 9) (v := ?_) rfl (by kernel_rfl) (by kernel_rfl) (by kernel_rfl) (fun _ _ _ h => h) (Or.inl ⟨(by simp [Region.wanted]), ?_⟩) (hHeld) ?_
              rotate_left
              · (intro w hSw; (try dsimp only at hSw); ((go_simp) <;> (with_reducible rfl)))
              try simp only [Act.put, List.setIfInBounds_toArray]
              refine wpAnyH_ready (rs := [10]) (by kernel_rfl) (by simp) ?_
              refine AllReadyH.cons rfl (fun K hK => ?_) AllReadyH.nil
              go_simp
              refine hK.out _ _ HS6b (fun hHeld => ?_)
              clear hK K
              try simp only [Act.put, List.setIfInBounds_toArray, List.set_cons_zero, List.set_cons_succ]
              refine wpAnyH_ready (rs := [11]) (by kernel_rfl) (by simp) ?_
              refine AllReadyH.cons rfl (fun K hK => ?_) AllReadyH.nil
              refine step_append_int rfl (.tmp 25) (.tmp 35) rfl (w.heap.size + 3) _ (Cm.aheads n k) ((P : Int) + (Lp : Int)) rfl hI6.row rfl HKl (by have := hI6.be.size; have := lt_of_heap hI6.ah; omega) ?_
              intro gg cap w7 hown7 hgrow7
              rw [aheads_len] at hown7 ⊢
              obtain ⟨hI7, c7, f7, hn7⟩ := (hI6.alloc (.cells #[.int .i64 ((P : Int) + (Lp : Int))] 3)).more hgrow7 hown7
              have HS7 := cells3_of hI7.nd
              refine hK.out _ _ (cells3_of hn7) (fun hHeld => ?_)
              clear hK K
              try simp only [Act.put, List.setIfInBounds_toArray]
              refine wpAnyH_ready (rs := [12]) (by kernel_rfl) (by simp) ?_
              refine AllReadyH.cons rfl (fun K hK => ?_) AllReadyH.nil
              go_simp
              refine hK.out _ _ HS7 (fun hHeld => ?_)
              clear hK K
              try simp only [Act.put, List.setIfInBounds_toArray, List.set_cons_zero, List.set_cons_succ]
              refine wpAnyH_done (by kernel_rfl) ?_ _
              go_wp2
              go_meet
              exact ⟨gg, cap, HAs.out _ hI7⟩
          · go_simp
            refine (HP.out k _ hlt hIr.drew.be).mono ?_
            rintro e w6 ⟨v6, rfl, ho6, hb6⟩
            obtain ⟨ad6, c6, hv6, -⟩ := ho6.byts
            rw [HPl.out] at hv6
            subst hv6
            have hI6 := hIr.drew.below hb6
            have HS6 := cells3_of hI6.nd
            have HS6b := cells3_of (hI6.alloc (.cells #[.int .i64 ((P : Int) + (Lp : Int))] 3)).nd
            have m4 := cells1_of hI6.ah
            have m4b := cells1_of (hI6.alloc (.cells #[.int .i64 ((P : Int) + (Lp : Int))] 3)).ah
            have m5 := HEl.out _ hI6
            try go_wp2_with fail
            refine hK.out _ _ HS6 (fun hHeld => ?_)
            clear hK K
            try simp only [Act.put, List.setIfInBounds_toArray, List.set_cons_zero, List.set_cons_succ]
            refine wpAnyH_take (i := 8) (v := ?_) rfl (by kernel_rfl) (by kernel_rfl) (by kernel_rfl) (fun _ _ _ h => h) (Or.inl ⟨(by simp [Region.wanted]), ?_⟩) (hHeld) ?_
            rotate_left
            · (intro w hSw; (try dsimp only at hSw); ((go_simp) <;> (with_reducible rfl)))
            try simp only [Act.put, List.setIfInBounds_toArray]
            refine wpAnyH_ready (rs := [1]) (by kernel_rfl) (by simp) ?_
            refine AllReadyH.cons rfl (fun K hK => ?_) AllReadyH.nil
            go_simp
            refine hK.out _ _ HS6 (fun hHeld => ?_)
            clear hK K
            try simp only [Act.put, List.setIfInBounds_toArray, List.set_cons_zero, List.set_cons_succ]
            refine wpAnyH_take (i := 3) (v := ?_) rfl (by kernel_rfl) (by kernel_rfl) (by kernel_rfl) (fun _ _ _ h => h) (Or.inl ⟨(by simp [Region.wanted]), ?_⟩) (hHeld) ?_
            rotate_left
            · (intro w hSw; (try dsimp only at hSw); ((go_simp) <;> (with_reducible rfl)))
            try simp only [Act.put, List.setIfInBounds_toArray]
            refine wpAnyH_ready (rs := [4]) (by kernel_rfl) (by simp) ?_
            refine AllReadyH.cons rfl (fun K hK => ?_) AllReadyH.nil
            go_simp
            refine hK.out _ _ HS6 (fun hHeld => ?_)
            clear hK K
            try simp only [Act.put, List.setIfInBounds_toArray, List.set_cons_zero, List.set_cons_succ]
            refine wpAnyH_take (i := 9) (v := ?_) rfl (by kernel_rfl) (by kernel_rfl) (by kernel_rfl) (fun _ _ _ h => h) (Or.inl ⟨(by simp [Region.wanted]), ?_⟩) (hHeld) ?_
            rotate_left
            · (intro w hSw; (try dsimp only at hSw); ((go_simp) <;> (with_reducible rfl)))
            try simp only [Act.put, List.setIfInBounds_toArray]
            refine wpAnyH_ready (rs := [10]) (by kernel_rfl) (by simp) ?_
            refine AllReadyH.cons rfl (fun K hK => ?_) AllReadyH.nil
            go_simp
            refine hK.out _ _ HS6b (fun hHeld => ?_)
            clear hK K
            try simp only [Act.put, List.setIfInBounds_toArray, List.set_cons_zero, List.set_cons_succ]
            refine wpAnyH_ready (rs := [11]) (by kernel_rfl) (by simp) ?_
            refine AllReadyH.cons rfl (fun K hK => ?_) AllReadyH.nil
            refine step_append_int rfl (.tmp 25) (.tmp 35) rfl (w.heap.size + 3) _ (Cm.aheads n k) ((P : Int) + (Lp : Int)) rfl hI6.row rfl HKl (by have := hI6.be.size; have := lt_of_heap hI6.ah; omega) ?_
            intro gg cap w7 hown7 hgrow7
            rw [aheads_len] at hown7 ⊢
            obtain ⟨hI7, c7, f7, hn7⟩ := (hI6.alloc (.cells #[.int .i64 ((P : Int) + (Lp : Int))] 3)).more hgrow7 hown7
            have HS7 := cells3_of hI7.nd
            refine hK.out _ _ (cells3_of hn7) (fun hHeld => ?_)
            clear hK K
            try simp only [Act.put, List.setIfInBounds_toArray]
            refine wpAnyH_ready (rs := [12]) (by kernel_rfl) (by simp) ?_
            refine AllReadyH.cons rfl (fun K hK => ?_) AllReadyH.nil
            go_simp
            refine hK.out _ _ HS7 (fun hHeld => ?_)
            clear hK K
            try simp only [Act.put, List.setIfInBounds_toArray, List.set_cons_zero, List.set_cons_succ]
            refine wpAnyH_done (by kernel_rfl) ?_ _
            go_wp2
            go_meet
            exact ⟨gg, cap, HAs.out _ hI7⟩
        · go_simp
          refine hK.out _ _ HS0.out (fun hHeld => ?_)
          clear hK K
          try simp only [Act.put, List.setIfInBounds_toArray, List.set_cons_zero, List.set_cons_succ]
          refine wpAnyH_take (i := 3) (v := ?_) rfl (by kernel_rfl) (by kernel_rfl) (by kernel_rfl) (fun _ _ _ h => h) (Or.inl ⟨(by simp [Region.wanted]), ?_⟩) (hHeld) ?_
          rotate_left
          · (intro w hSw; (try dsimp only at hSw); ((go_simp) <;> (with_reducible rfl)))
          try simp only [Act.put, List.setIfInBounds_toArray]
          refine wpAnyH_ready (rs := [0, 4, 7]) (by kernel_rfl) (by simp) ?_
          refine AllReadyH.cons rfl (fun K hK => ?_) (AllReadyH.cons rfl (fun K hK => ?_) (AllReadyH.cons rfl (fun K hK => ?_) AllReadyH.nil))
          · go_simp
            refine hK.out _ _ HS0.out (fun hHeld => ?_)
            clear hK K
            try simp only [Act.put, List.setIfInBounds_toArray, List.set_cons_zero, List.set_cons_succ]
            refine wpAnyH_ready (rs := [4, 7]) (by kernel_rfl) (by simp) ?_
            refine AllReadyH.cons rfl (fun K hK => ?_) (AllReadyH.cons rfl (fun K hK => ?_) AllReadyH.nil)
            · go_simp
              refine hK.out _ _ HS0.out (fun hHeld => ?_)
              clear hK K
              try simp only [Act.put, List.setIfInBounds_toArray, List.set_cons_zero, List.set_cons_succ]
              refine wpAnyH_ready (rs := [7]) (by kernel_rfl) (by simp) ?_
              refine AllReadyH.cons rfl (fun K hK => ?_) AllReadyH.nil
              go_simp
              refine (HP.out k _ hlt hIr.drew.be).mono ?_
              rintro e w6 ⟨v6, rfl, ho6, hb6⟩
              obtain ⟨ad6, c6, hv6, -⟩ := ho6.byts
              rw [HPl.out] at hv6
              subst hv6
              have hI6 := hIr.drew.below hb6
              have HS6 := cells3_of hI6.nd
              have HS6b := cells3_of (hI6.alloc (.cells #[.int .i64 ((P : Int) + (Lp : Int))] 3)).nd
              have m4 := cells1_of hI6.ah
              have m4b := cells1_of (hI6.alloc (.cells #[.int .i64 ((P : Int) + (Lp : Int))] 3)).ah
              have m5 := HEl.out _ hI6
              try go_wp2_with fail
              refine hK.out _ _ HS6 (fun hHeld => ?_)
              clear hK K
              try simp only [Act.put, List.setIfInBounds_toArray, List.set_cons_zero, List.set_cons_succ]
              refine wpAnyH_take (i := 8) (v := ?_) rfl (by kernel_rfl) (by kernel_rfl) (by kernel_rfl) (fun _ _ _ h => h) (Or.inl ⟨(by simp [Region.wanted]), ?_⟩) (hHeld) ?_
              rotate_left
              · (intro w hSw; (try dsimp only at hSw); ((go_simp) <;> (with_reducible rfl)))
              try simp only [Act.put, List.setIfInBounds_toArray]
              refine wpAnyH_take (i := 9) (v := ?_) rfl (by kernel_rfl) (by kernel_rfl) (by kernel_rfl) (fun _ _ _ h => h) (Or.inl ⟨(by simp [Region.wanted]), ?_⟩) (hHeld) ?_
              rotate_left
              · (intro w hSw; (try dsimp only at hSw); ((go_simp) <;> (with_reducible rfl)))
              try simp only [Act.put]
              refine wpAnyH_ready (rs := [10]) (by kernel_rfl) (by simp) ?_
              refine AllReadyH.cons rfl (fun K hK => ?_) AllReadyH.nil
              go_simp
              refine hK.out _ _ HS6b (fun hHeld => ?_)
              clear hK K
              try simp only [Act.put, List.setIfInBounds_toArray, List.set_cons_zero, List.set_cons_succ]
              refine wpAnyH_ready (rs := [11]) (by kernel_rfl) (by simp) ?_
              refine AllReadyH.cons rfl (fun K hK => ?_) AllReadyH.nil
              refine step_append_int rfl (.tmp 25) (.tmp 35) rfl (w.heap.size + 3) _ (Cm.aheads n k) ((P : Int) + (Lp : Int)) rfl hI6.row rfl HKl (by have := hI6.be.size; have := lt_of_heap hI6.ah; omega) ?_
              intro gg cap w7 hown7 hgrow7
              rw [aheads_len] at hown7 ⊢
              obtain ⟨hI7, c7, f7, hn7⟩ := (hI6.alloc (.cells #[.int .i64 ((P : Int) + (Lp : Int))] 3)).more hgrow7 hown7
              have HS7 := cells3_of hI7.nd
              refine hK.out _ _ (cells3_of hn7) (fun hHeld => ?_)
              clear hK K
              try simp only [Act.put, List.setIfInBounds_toArray]
              refine wpAnyH_ready (rs := [12]) (by kernel_rfl) (by simp) ?_
              refine AllReadyH.cons rfl (fun K hK => ?_) AllReadyH.nil
              go_simp
              refine hK.out _ _ HS7 (fun hHeld => ?_)
              clear hK K
              try simp only [Act.put, List.setIfInBounds_toArray, List.set_cons_zero, List.set_cons_succ]
              refine wpAnyH_done (by kernel_rfl) ?_ _
              go_wp2
              go_meet
              exact ⟨gg, cap, HAs.out _ hI7⟩
            · go_simp
              refine (HP.out k _ hlt hIr.drew.be).mono ?_
              rintro e w6 ⟨v6, rfl, ho6, hb6⟩
              obtain ⟨ad6, c6, hv6, -⟩ := ho6.byts
              rw [HPl.out] at hv6
              subst hv6
              have hI6 := hIr.drew.below hb6
              have HS6 := cells3_of hI6.nd
              have HS6b := cells3_of (hI6.alloc (.cells #[.int .i64 ((P : Int) + (Lp : Int))] 3)).nd
              have m4 := cells1_of hI6.ah
              have m4b := cells1_of (hI6.alloc (.cells #[.int .i64 ((P : Int) + (Lp : Int))] 3)).ah
              have m5 := HEl.out _ hI6
              try go_wp2_with fail
              refine hK.out _ _ HS6 (fun hHeld => ?_)
              clear hK K
              try simp only [Act.put, List.setIfInBounds_toArray, List.set_cons_zero, List.set_cons_succ]
              refine wpAnyH_take (i := 8) (v := ?_) rfl (by kernel_rfl) (by kernel_rfl) (by kernel_rfl) (fun _ _ _ h => h) (Or.inl ⟨(by simp [Region.wanted]), ?_⟩) (hHeld) ?_
              rotate_left
              · (intro w hSw; (try dsimp only at hSw); ((go_simp) <;> (with_reducible rfl)))
              try simp only [Act.put, List.setIfInBounds_toArray]
              refine wpAnyH_ready (rs := [4]) (by kernel_rfl) (by simp) ?_
              refine AllReadyH.cons rfl (fun K hK => ?_) AllReadyH.nil
              go_simp
              refine hK.out _ _ HS6 (fun hHeld => ?_)
              clear hK K
              try simp only [Act.put, List.setIfInBounds_toArray, List.set_cons_zero, List.set_cons_succ]
              refine wpAnyH_take (i := 9) (v := ?_) rfl (by kernel_rfl) (by kernel_rfl) (by kernel_rfl) (fun _ _ _ h => h) (Or.inl ⟨(by simp [Region.wanted]), ?_⟩) (hHeld) ?_
              rotate_left
              · (intro w hSw; (try dsimp only at hSw); ((go_simp) <;> (with_reducible rfl)))
              try simp only [Act.put, List.setIfInBounds_toArray]
              refine wpAnyH_ready (rs := [10]) (by kernel_rfl) (by simp) ?_
              refine AllReadyH.cons rfl (fun K hK => ?_) AllReadyH.nil
              go_simp
              refine hK.out _ _ HS6b (fun hHeld => ?_)
              clear hK K
              try simp only [Act.put, List.setIfInBounds_toArray, List.set_cons_zero, List.set_cons_succ]
              refine wpAnyH_ready (rs := [11]) (by kernel_rfl) (by simp) ?_
              refine AllReadyH.cons rfl (fun K hK => ?_) AllReadyH.nil
              refine step_append_int rfl (.tmp 25) (.tmp 35) rfl (w.heap.size + 3) _ (Cm.aheads n k) ((P : Int) + (Lp : Int)) rfl hI6.row rfl HKl (by have := hI6.be.size; have := lt_of_heap hI6.ah; omega) ?_
              intro gg cap w7 hown7 hgrow7
              rw [aheads_len] at hown7 ⊢
              obtain ⟨hI7, c7, f7, hn7⟩ := (hI6.alloc (.cells #[.int .i64 ((P : Int) + (Lp : Int))] 3)).more hgrow7 hown7
              have HS7 := cells3_of hI7.nd
              refine hK.out _ _ (cells3_of hn7) (fun hHeld => ?_)
              clear hK K
              try simp only [Act.put, List.setIfInBounds_toArray]
              refine wpAnyH_ready (rs := [12]) (by kernel_rfl) (by simp) ?_
              refine AllReadyH.cons rfl (fun K hK => ?_) AllReadyH.nil
              go_simp
              refine hK.out _ _ HS7 (fun hHeld => ?_)
              clear hK K
              try simp only [Act.put, List.setIfInBounds_toArray, List.set_cons_zero, List.set_cons_succ]
              refine wpAnyH_done (by kernel_rfl) ?_ _
              go_wp2
              go_meet
              exact ⟨gg, cap, HAs.out _ hI7⟩
          · go_simp
            refine hK.out _ _ HS0.out (fun hHeld => ?_)
            clear hK K
            try simp only [Act.put, List.setIfInBounds_toArray, List.set_cons_zero, List.set_cons_succ]
            refine wpAnyH_ready (rs := [0, 7]) (by kernel_rfl) (by simp) ?_
            refine AllReadyH.cons rfl (fun K hK => ?_) (AllReadyH.cons rfl (fun K hK => ?_) AllReadyH.nil)
            · go_simp
              refine hK.out _ _ HS0.out (fun hHeld => ?_)
              clear hK K
              try simp only [Act.put, List.setIfInBounds_toArray, List.set_cons_zero, List.set_cons_succ]
              refine wpAnyH_ready (rs := [7]) (by kernel_rfl) (by simp) ?_
              refine AllReadyH.cons rfl (fun K hK => ?_) AllReadyH.nil
              go_simp
              refine (HP.out k _ hlt hIr.drew.be).mono ?_
              rintro e w6 ⟨v6, rfl, ho6, hb6⟩
              obtain ⟨ad6, c6, hv6, -⟩ := ho6.byts
              rw [HPl.out] at hv6
              subst hv6
              have hI6 := hIr.drew.below hb6
              have HS6 := cells3_of hI6.nd
              have HS6b := cells3_of (hI6.alloc (.cells #[.int .i64 ((P : Int) + (Lp : Int))] 3)).nd
              have m4 := cells1_of hI6.ah
              have m4b := cells1_of (hI6.alloc (.cells #[.int .i64 ((P : Int) + (Lp : Int))] 3)).ah
              have m5 := HEl.out _ hI6
              try go_wp2_with fail
              refine hK.out _ _ HS6 (fun hHeld => ?_)
              clear hK K
              try simp only [Act.put, List.setIfInBounds_toArray, List.set_cons_zero, List.set_cons_succ]
              refine wpAnyH_take (i := 8) (v := ?_) rfl (by kernel_rfl) (by kernel_rfl) (by kernel_rfl) (fun _ _ _ h => h) (Or.inl ⟨(by simp [Region.wanted]), ?_⟩) (hHeld) ?_
              rotate_left
              · (intro w hSw; (try dsimp only at hSw); ((go_simp) <;> (with_reducible rfl)))
              try simp only [Act.put, List.setIfInBounds_toArray]
              refine wpAnyH_take (i := 9) (v := ?_) rfl (by kernel_rfl) (by kernel_rfl) (by kernel_rfl) (fun _ _ _ h => h) (Or.inl ⟨(by simp [Region.wanted]), ?_⟩) (hHeld) ?_
              rotate_left
              · (intro w hSw; (try dsimp only at hSw); ((go_simp) <;> (with_reducible rfl)))
              try simp only [Act.put]
              refine wpAnyH_ready (rs := [10]) (by kernel_rfl) (by simp) ?_
              refine AllReadyH.cons rfl (fun K hK => ?_) AllReadyH.nil
              go_simp
              refine hK.out _ _ HS6b (fun hHeld => ?_)
              clear hK K
              try simp only [Act.put, List.setIfInBounds_toArray, List.set_cons_zero, List.set_cons_succ]
              refine wpAnyH_ready (rs := [11]) (by kernel_rfl) (by simp) ?_
              refine AllReadyH.cons rfl (fun K hK => ?_) AllReadyH.nil
              refine step_append_int rfl (.tmp 25) (.tmp 35) rfl (w.heap.size + 3) _ (Cm.aheads n k) ((P : Int) + (Lp : Int)) rfl hI6.row rfl HKl (by have := hI6.be.size; have := lt_of_heap hI6.ah; omega) ?_
              intro gg cap w7 hown7 hgrow7
              rw [aheads_len] at hown7 ⊢
              obtain ⟨hI7, c7, f7, hn7⟩ := (hI6.alloc (.cells #[.int .i64 ((P : Int) + (Lp : Int))] 3)).more hgrow7 hown7
              have HS7 := cells3_of hI7.nd
              refine hK.out _ _ (cells3_of hn7) (fun hHeld => ?_)
              clear hK K
              try simp only [Act.put, List.setIfInBounds_toArray]
              refine wpAnyH_ready (rs := [12]) (by kernel_rfl) (by simp) ?_
              refine AllReadyH.cons rfl (fun K hK => ?_) AllReadyH.nil
              go_simp
              refine hK.out _ _ HS7 (fun hHeld => ?_)
              clear hK K
              try simp only [Act.put, List.setIfInBounds_toArray, List.set_cons_zero, List.set_cons_succ]
              refine wpAnyH_done (by kernel_rfl) ?_ _
              go_wp2
              go_meet
              exact ⟨gg, cap, HAs.out _ hI7⟩
            · go_simp
              refine (HP.out k _ hlt hIr.drew.be).mono ?_
              rintro e w6 ⟨v6, rfl, ho6, hb6⟩
              obtain ⟨ad6, c6, hv6, -⟩ := ho6.byts
              rw [HPl.out] at hv6
              subst hv6
              have hI6 := hIr.drew.below hb6
              have HS6 := cells3_of hI6.nd
              have HS6b := cells3_of (hI6.alloc (.cells #[.int .i64 ((P : Int) + (Lp : Int))] 3)).nd
              have m4 := cells1_of hI6.ah
              have m4b := cells1_of (hI6.alloc (.cells #[.int .i64 ((P : Int) + (Lp : Int))] 3)).ah
              have m5 := HEl.out _ hI6
              try go_wp2_with fail
              refine hK.out _ _ HS6 (fun hHeld => ?_)
              clear hK K
              try simp only [Act.put, List.setIfInBounds_toArray, List.set_cons_zero, List.set_cons_succ]
              refine wpAnyH_take (i := 8) (v := ?_) rfl (by kernel_rfl) (by kernel_rfl) (by kernel_rfl) (fun _ _ _ h => h) (Or.inl ⟨(by simp [Region.wanted]), ?_⟩) (hHeld) ?_
              rotate_left
              · (intro w hSw; (try dsimp only at hSw); ((go_simp) <;> (with_reducible rfl)))
              try simp only [Act.put, List.setIfInBounds_toArray]
              refine wpAnyH_take (i := 9) (v := ?_) rfl (by kernel_rfl) (by kernel_rfl) (by kernel_rfl) (fun _ _ _ h => h) (Or.inl ⟨(by simp [Region.wanted]), ?_⟩) (hHeld) ?_
              rotate_left
              · (intro w hSw; (try dsimp only at hSw); ((go_simp) <;> (with_reducible rfl)))
              try simp only [Act.put]
              refine wpAnyH_ready (rs := [0, 10]) (by kernel_rfl) (by simp) ?_
              refine AllReadyH.cons rfl (fun K hK => ?_) (AllReadyH.cons rfl (fun K hK => ?_) AllReadyH.nil)
              · go_simp
                refine hK.out _ _ HS6 (fun hHeld => ?_)
                clear hK K
                try simp only [Act.put, List.setIfInBounds_toArray, List.set_cons_zero, List.set_cons_succ]
                refine wpAnyH_ready (rs := [10]) (by kernel_rfl) (by simp) ?_
                refine AllReadyH.cons rfl (fun K hK => ?_) AllReadyH.nil
                go_simp
                refine hK.out _ _ HS6b (fun hHeld => ?_)
                clear hK K
                try simp only [Act.put, List.setIfInBounds_toArray, List.set_cons_zero, List.set_cons_succ]
                refine wpAnyH_ready (rs := [11]) (by kernel_rfl) (by simp) ?_
                refine AllReadyH.cons rfl (fun K hK => ?_) AllReadyH.nil
                refine step_append_int rfl (.tmp 25) (.tmp 35) rfl (w.heap.size + 3) _ (Cm.aheads n k) ((P : Int) + (Lp : Int)) rfl hI6.row rfl HKl (by have := hI6.be.size; have := lt_of_heap hI6.ah; omega) ?_
                intro gg cap w7 hown7 hgrow7
                rw [aheads_len] at hown7 ⊢
                obtain ⟨hI7, c7, f7, hn7⟩ := (hI6.alloc (.cells #[.int .i64 ((P : Int) + (Lp : Int))] 3)).more hgrow7 hown7
                have HS7 := cells3_of hI7.nd
                refine hK.out _ _ (cells3_of hn7) (fun hHeld => ?_)
                clear hK K
                try simp only [Act.put, List.setIfInBounds_toArray]
                refine wpAnyH_ready (rs := [12]) (by kernel_rfl) (by simp) ?_
                refine AllReadyH.cons rfl (fun K hK => ?_) AllReadyH.nil
                go_simp
                refine hK.out _ _ HS7 (fun hHeld => ?_)
                clear hK K
                try simp only [Act.put, List.setIfInBounds_toArray, List.set_cons_zero, List.set_cons_succ]
                refine wpAnyH_done (by kernel_rfl) ?_ _
                go_wp2
                go_meet
                exact ⟨gg, cap, HAs.out _ hI7⟩
              · go_simp
                refine hK.out _ _ HS6b (fun hHeld => ?_)
                clear hK K
                try simp only [Act.put, List.setIfInBounds_toArray, List.set_cons_zero, List.set_cons_succ]
                refine wpAnyH_ready (rs := [0]) (by kernel_rfl) (by simp) ?_
                refine AllReadyH.cons rfl (fun K hK => ?_) AllReadyH.nil
                go_simp
                refine hK.out _ _ HS6b (fun hHeld => ?_)
                clear hK K
                try simp only [Act.put, List.setIfInBounds_toArray, List.set_cons_zero, List.set_cons_succ]
                refine wpAnyH_ready (rs := [11]) (by kernel_rfl) (by simp) ?_
                refine AllReadyH.cons rfl (fun K hK => ?_) AllReadyH.nil
                refine step_append_int rfl (.tmp 25) (.tmp 35) rfl (w.heap.size + 3) _ (Cm.aheads n k) ((P : Int) + (Lp : Int)) rfl hI6.row rfl HKl (by have := hI6.be.size; have := lt_of_heap hI6.ah; omega) ?_
                intro gg cap w7 hown7 hgrow7
                rw [aheads_len] at hown7 ⊢
                obtain ⟨hI7, c7, f7, hn7⟩ := (hI6.alloc (.cells #[.int .i64 ((P : Int) + (Lp : Int))] 3)).more hgrow7 hown7
                have HS7 := cells3_of hI7.nd
                refine hK.out _ _ (cells3_of hn7) (fun hHeld => ?_)
                clear hK K
                try simp only [Act.put, List.setIfInBounds_toArray]
                refine wpAnyH_ready (rs := [12]) (by kernel_rfl) (by simp) ?_
                refine AllReadyH.cons rfl (fun K hK => ?_) AllReadyH.nil
                go_simp
                refine hK.out _ _ HS7 (fun hHeld => ?_)
                clear hK K
                try simp only [Act.put, List.setIfInBounds_toArray, List.set_cons_zero, List.set_cons_succ]
                refine wpAnyH_done (by kernel_rfl) ?_ _
                go_wp2
                go_meet
                exact ⟨gg, cap, HAs.out _ hI7⟩
          · go_simp
            refine (HP.out k _ hlt hIr.drew.be).mono ?_
            rintro e w6 ⟨v6, rfl, ho6, hb6⟩
            obtain ⟨ad6, c6, hv6, -⟩ := ho6.byts
            rw [HPl.out] at hv6
            subst hv6
            have hI6 := hIr.drew.below hb6
            have HS6 := cells3_of hI6.nd
            have HS6b := cells3_of (hI6.alloc (.cells #[.int .i64 ((P : Int) + (Lp : Int))] 3)).nd
            have m4 := cells1_of hI6.ah
            have m4b := cells1_of (hI6.alloc (.cells #[.int .i64 ((P : Int) + (Lp : Int))] 3)).ah
            have m5 := HEl.out _ hI6
            try go_wp2_with fail
            refine hK.out _ _ HS6 (fun hHeld => ?_)
            clear hK K
            try simp only [Act.put, List.setIfInBounds_toArray, List.set_cons_zero, List.set_cons_succ]
            refine wpAnyH_take (i := 8) (v := ?_) rfl (by kernel_rfl) (by kernel_rfl) (by kernel_rfl) (fun _ _ _ h => h) (Or.inl ⟨(by simp [Region.wanted]), ?_⟩) (hHeld) ?_
            rotate_left
            · (intro w hSw; (try dsimp only at hSw); ((go_simp) <;> (with_reducible rfl)))
            try simp only [Act.put, List.setIfInBounds_toArray]
            refine wpAnyH_ready (rs := [0, 4]) (by kernel_rfl) (by simp) ?_
            refine AllReadyH.cons rfl (fun K hK => ?_) (AllReadyH.cons rfl (fun K hK => ?_) AllReadyH.nil)
            · go_simp
              refine hK.out _ _ HS6 (fun hHeld => ?_)
              clear hK K
              try simp only [Act.put, List.setIfInBounds_toArray, List.set_cons_zero, List.set_cons_succ]
              refine wpAnyH_ready (rs := [4]) (by kernel_rfl) (by simp) ?_
              refine AllReadyH.cons rfl (fun K hK => ?_) AllReadyH.nil
              go_simp
              refine hK.out _ _ HS6 (fun hHeld => ?_)
              clear hK K
              try simp only [Act.put, List.setIfInBounds_toArray, List.set_cons_zero, List.set_cons_succ]
              refine wpAnyH_take (i := 9) (v := ?_) rfl (by kernel_rfl) (by kernel_rfl) (by kernel_rfl) (fun _ _ _ h => h) (Or.inl ⟨(by simp [Region.wanted]), ?_⟩) (hHeld) ?_
              rotate_left
              · (intro w hSw; (try dsimp only at hSw); ((go_simp) <;> (with_reducible rfl)))
              try simp only [Act.put, List.setIfInBounds_toArray]
              refine wpAnyH_ready (rs := [10]) (by kernel_rfl) (by simp) ?_
              refine AllReadyH.cons rfl (fun K hK => ?_) AllReadyH.nil
              go_simp
              refine hK.out _ _ HS6b (fun hHeld => ?_)
              clear hK K
              try simp only [Act.put, List.setIfInBounds_toArray, List.set_cons_zero, List.set_cons_succ]
              refine wpAnyH_ready (rs := [11]) (by kernel_rfl) (by simp) ?_
              refine AllReadyH.cons rfl (fun K hK => ?_) AllReadyH.nil
              refine step_append_int rfl (.tmp 25) (.tmp 35) rfl (w.heap.size + 3) _ (Cm.aheads n k) ((P : Int) + (Lp : Int)) rfl hI6.row rfl HKl (by have := hI6.be.size; have := lt_of_heap hI6.ah; omega) ?_
              intro gg cap w7 hown7 hgrow7
              rw [aheads_len] at hown7 ⊢
              obtain ⟨hI7, c7, f7, hn7⟩ := (hI6.alloc (.cells #[.int .i64 ((P : Int) + (Lp : Int))] 3)).more hgrow7 hown7
              have HS7 := cells3_of hI7.nd
              refine hK.out _ _ (cells3_of hn7) (fun hHeld => ?_)
              clear hK K
              try simp only [Act.put, List.setIfInBounds_toArray]
              refine wpAnyH_ready (rs := [12]) (by kernel_rfl) (by simp) ?_
              refine AllReadyH.cons rfl (fun K hK => ?_) AllReadyH.nil
              go_simp
              refine hK.out _ _ HS7 (fun hHeld => ?_)
              clear hK K
              try simp only [Act.put, List.setIfInBounds_toArray, List.set_cons_zero, List.set_cons_succ]
              refine wpAnyH_done (by kernel_rfl) ?_ _
              go_wp2
              go_meet
              exact ⟨gg, cap, HAs.out _ hI7⟩
            · go_simp
              refine hK.out _ _ HS6 (fun hHeld => ?_)
              clear hK K
              try simp only [Act.put, List.setIfInBounds_toArray, List.set_cons_zero, List.set_cons_succ]
              refine wpAnyH_take (i := 9) (v := ?_) rfl (by kernel_rfl) (by kernel_rfl) (by kernel_rfl) (fun _ _ _ h => h) (Or.inl ⟨(by simp [Region.wanted]), ?_⟩) (hHeld) ?_
              rotate_left
              · (intro w hSw; (try dsimp only at hSw); ((go_simp) <;> (with_reducible rfl)))
              try simp only [Act.put, List.setIfInBounds_toArray]
              refine wpAnyH_ready (rs := [0, 10]) (by kernel_rfl) (by simp) ?_
              refine AllReadyH.cons rfl (fun K hK => ?_) (AllReadyH.cons rfl (fun K hK => ?_) AllReadyH.nil)
              · go_simp
                refine hK.out _ _ HS6 (fun hHeld => ?_)
                clear hK K
                try simp only [Act.put, List.setIfInBounds_toArray, List.set_cons_zero, List.set_cons_succ]
                refine wpAnyH_ready (rs := [10]) (by kernel_rfl) (by simp) ?_
                refine AllReadyH.cons rfl (fun K hK => ?_) AllReadyH.nil
                go_simp
                refine hK.out _ _ HS6b (fun hHeld => ?_)
                clear hK K
                try simp only [Act.put, List.setIfInBounds_toArray, List.set_cons_zero, List.set_cons_succ]
                refine wpAnyH_ready (rs := [11]) (by kernel_rfl) (by simp) ?_
                refine AllReadyH.cons rfl (fun K hK => ?_) AllReadyH.nil
                refine step_append_int rfl (.tmp 25) (.tmp 35) rfl (w.heap.size + 3) _ (Cm.aheads n k) ((P : Int) + (Lp : Int)) rfl hI6.row rfl HKl (by have := hI6.be.size; have := lt_of_heap hI6.ah; omega) ?_
                intro gg cap w7 hown7 hgrow7
                rw [aheads_len] at hown7 ⊢
                obtain ⟨hI7, c7, f7, hn7⟩ := (hI6.alloc (.cells #[.int .i64 ((P : Int) + (Lp : Int))] 3)).more hgrow7 hown7
                have HS7 := cells3_of hI7.nd
                refine hK.out _ _ (cells3_of hn7) (fun hHeld => ?_)
                clear hK K
                try simp only [Act.put, List.setIfInBounds_toArray]
                refine wpAnyH_ready (rs := [12]) (by kernel_rfl) (by simp) ?_
                refine AllReadyH.cons rfl (fun K hK => ?_) AllReadyH.nil
                go_simp
                refine hK.out _ _ HS7 (fun hHeld => ?_)
                clear hK K
                try simp only [Act.put, List.setIfInBounds_toArray, List.set_cons_zero, List.set_cons_succ]
                refine wpAnyH_done (by kernel_rfl) ?_ _
                go_wp2
                go_meet
                exact ⟨gg, cap, HAs.out _ hI7⟩
              · go_simp
                refine hK.out _ _ HS6b (fun hHeld => ?_)
                clear hK K
                try simp only [Act.put, List.setIfInBounds_toArray, List.set_cons_zero, List.set_cons_succ]
                refine wpAnyH_ready (rs := [0]) (by kernel_rfl) (by simp) ?_
                refine AllReadyH.cons rfl (fun K hK => ?_) AllReadyH.nil
                go_simp
                refine hK.out _ _ HS6b (fun hHeld => ?_)
                clear hK K
                try simp only [Act.put, List.setIfInBounds_toArray, List.set_cons_zero, List.set_cons_succ]
                refine wpAnyH_ready (rs := [11]) (by kernel_rfl) (by simp) ?_
                refine AllReadyH.cons rfl (fun K hK => ?_) AllReadyH.nil
                refine step_append_int rfl (.tmp 25) (.tmp 35) rfl (w.heap.size + 3) _ (Cm.aheads n k) ((P : Int) + (Lp : Int)) rfl hI6.row rfl HKl (by have := hI6.be.size; have := lt_of_heap hI6.ah; omega) ?_
                intro gg cap w7 hown7 hgrow7
                rw [aheads_len] at hown7 ⊢
                obtain ⟨hI7, c7, f7, hn7⟩ := (hI6.alloc (.cells #[.int .i64 ((P : Int) + (Lp : Int))] 3)).more hgrow7 hown7
                have HS7 := cells3_of hI7.nd
                refine hK.out _ _ (cells3_of hn7) (fun hHeld => ?_)
                clear hK K
                try simp only [Act.put, List.setIfInBounds_toArray]
                refine wpAnyH_ready (rs := [12]) (by kernel_rfl) (by simp) ?_
                refine AllReadyH.cons rfl (fun K hK => ?_) AllReadyH.nil
                go_simp
                refine hK.out _ _ HS7 (fun hHeld => ?_)
                clear hK K
                try simp only [Act.put, List.setIfInBounds_toArray, List.set_cons_zero, List.set_cons_succ]
                refine wpAnyH_done (by kernel_rfl) ?_ _
                go_wp2
                go_meet
                exact ⟨gg, cap, HAs.out _ hI7⟩
        · go_simp
          refine (HP.out k _ hlt hIr.drew.be).mono ?_
          rintro e w6 ⟨v6, rfl, ho6, hb6⟩
          obtain ⟨ad6, c6, hv6, -⟩ := ho6.byts
          rw [HPl.out] at hv6
          subst hv6
          have hI6 := hIr.drew.below hb6
          have HS6 := cells3_of hI6.nd
          have HS6b := cells3_of (hI6.alloc (.cells #[.int .i64 ((P : Int) + (Lp : Int))] 3)).nd
          have m4 := cells1_of hI6.ah
          have m4b := cells1_of (hI6.alloc (.cells #[.int .i64 ((P : Int) + (Lp : Int))] 3)).ah
          have m5 := HEl.out _ hI6
          try go_wp2_with fail
          refine hK.out _ _ HS6 (fun hHeld => ?_)
          clear hK K
          try simp only [Act.put, List.setIfInBounds_toArray, List.set_cons_zero, List.set_cons_succ]
          refine wpAnyH_take (i := 8) (v := ?_) rfl (by kernel_rfl) (by kernel_rfl) (by kernel_rfl) (fun _ _ _ h => h) (Or.inl ⟨(by simp [Region.wanted]), ?_⟩) (hHeld) ?_
          rotate_left
          · (intro w hSw; (try dsimp only at hSw); ((go_simp) <;> (with_reducible rfl)))
          try simp only [Act.put, List.setIfInBounds_toArray]
          refine wpAnyH_ready (rs := [0, 1]) (by kernel_rfl) (by simp) ?_
          refine AllReadyH.cons rfl (fun K hK => ?_) (AllReadyH.cons rfl (fun K hK => ?_) AllReadyH.nil)
          · go_simp
            refine hK.out _ _ HS6 (fun hHeld => ?_)
            clear hK K
            try simp only [Act.put, List.setIfInBounds_toArray, List.set_cons_zero, List.set_cons_succ]
            refine wpAnyH_ready (rs := [1]) (by kernel_rfl) (by simp) ?_
            refine AllReadyH.cons rfl (fun K hK => ?_) AllReadyH.nil
            go_simp
            refine hK.out _ _ HS6 (fun hHeld => ?_)
            clear hK K
            try simp only [Act.put, List.setIfInBounds_toArray, List.set_cons_zero, List.set_cons_succ]
            refine wpAnyH_take (i := 3) (v := ?_) rfl (by kernel_rfl) (by kernel_rfl) (by kernel_rfl) (fun _ _ _ h => h) (Or.inl ⟨(by simp [Region.wanted]), ?_⟩) (hHeld) ?_
            rotate_left
            · (intro w hSw; (try dsimp only at hSw); ((go_simp) <;> (with_reducible rfl)))
            try simp only [Act.put, List.setIfInBounds_toArray]
            refine wpAnyH_ready (rs := [4]) (by kernel_rfl) (by simp) ?_
            refine AllReadyH.cons rfl (fun K hK => ?_) AllReadyH.nil
            go_simp
            refine hK.out _ _ HS6 (fun hHeld => ?_)
            clear hK K
            try simp only [Act.put, List.setIfInBounds_toArray, List.set_cons_zero, List.set_cons_succ]
            refine wpAnyH_take (i := 9) (v := ?_) rfl (by kernel_rfl) (by kernel_rfl) (by kernel_rfl) (fun _ _ _ h => h) (Or.inl ⟨(by simp [Region.wanted]), ?_⟩) (hHeld) ?_
            rotate_left
            · (intro w hSw; (try dsimp only at hSw); ((go_simp) <;> (with_reducible rfl)))
            try simp only [Act.put, List.setIfInBounds_toArray]
            refine wpAnyH_ready (rs := [10]) (by kernel_rfl) (by simp) ?_
            refine AllReadyH.cons rfl (fun K hK => ?_) AllReadyH.nil
            go_simp
            refine hK.out _ _ HS6b (fun hHeld => ?_)
            clear hK K
            try simp only [Act.put, List.setIfInBounds_toArray, List.set_cons_zero, List.set_cons_succ]
            refine wpAnyH_ready (rs := [11]) (by kernel_rfl) (by simp) ?_
            refine AllReadyH.cons rfl (fun K hK => ?_) AllReadyH.nil
            refine step_append_int rfl (.tmp 25) (.tmp 35) rfl (w.heap.size + 3) _ (Cm.aheads n k) ((P : Int) + (Lp : Int)) rfl hI6.row rfl HKl (by have := hI6.be.size; have := lt_of_heap hI6.ah; omega) ?_
            intro gg cap w7 hown7 hgrow7
            rw [aheads_len] at hown7 ⊢
            obtain ⟨hI7, c7, f7, hn7⟩ := (hI6.alloc (.cells #[.int .i64 ((P : Int) + (Lp : Int))] 3)).more hgrow7 hown7
            have HS7 := cells3_of hI7.nd
            refine hK.out _ _ (cells3_of hn7) (fun hHeld => ?_)
            clear hK K
            try simp only [Act.put, List.setIfInBounds_toArray]
            refine wpAnyH_ready (rs := [12]) (by kernel_rfl) (by simp) ?_
            refine AllReadyH.cons rfl (fun K hK => ?_) AllReadyH.nil
            go_simp
            refine hK.out _ _ HS7 (fun hHeld => ?_)
            clear hK K
            try simp only [Act.put, List.setIfInBounds_toArray, List.set_cons_zero, List.set_cons_succ]
            refine wpAnyH_done (by kernel_rfl) ?_ _
            go_wp2
            go_meet
            exact ⟨gg, cap, HAs.out _ hI7⟩
          · go_simp
            refine hK.out _ _ HS6 (fun hHeld => ?_)
            clear hK K
            try simp only [Act.put, List.setIfInBounds_toArray, List.set_cons_zero, List.set_cons_succ]
            refine wpAnyH_take (i := 3) (v := ?_) rfl (by kernel_rfl) (by kernel_rfl) (by kernel_rfl) (fun _ _ _ h => h) (Or.inl ⟨(by simp [Region.wanted]), ?_⟩) (hHeld) ?_
            rotate_left
            · (intro w hSw; (try dsimp only at hSw); ((go_simp) <;> (with_reducible rfl)))
            try simp only [Act.put, List.setIfInBounds_toArray]
            refine wpAnyH_ready (rs := [0, 4]) (by kernel_rfl) (by simp) ?_
            refine AllReadyH.cons rfl (fun K hK => ?_) (AllReadyH.cons rfl (fun K hK => ?_) AllReadyH.nil)
            · go_simp
              refine hK.out _ _ HS6 (fun hHeld => ?_)
              clear hK K
              try simp only [Act.put, List.setIfInBounds_toArray, List.set_cons_zero, List.set_cons_succ]
              refine wpAnyH_ready (rs := [4]) (by kernel_rfl) (by simp) ?_
              refine AllReadyH.cons rfl (fun K hK => ?_) AllReadyH.nil
              go_simp
              refine hK.out _ _ HS6 (fun hHeld => ?_)
              clear hK K
              try simp only [Act.put, List.setIfInBounds_toArray, List.set_cons_zero, List.set_cons_succ]
              refine wpAnyH_take (i := 9) (v := ?_) rfl (by kernel_rfl) (by kernel_rfl) (by kernel_rfl) (fun _ _ _ h => h) (Or.inl ⟨(by simp [Region.wanted]), ?_⟩) (hHeld) ?_
              rotate_left
              · (intro w hSw; (try dsimp only at hSw); ((go_simp) <;> (with_reducible rfl)))
              try simp only [Act.put, List.setIfInBounds_toArray]
              refine wpAnyH_ready (rs := [10]) (by kernel_rfl) (by simp) ?_
              refine AllReadyH.cons rfl (fun K hK => ?_) AllReadyH.nil
              go_simp
              refine hK.out _ _ HS6b (fun hHeld => ?_)
              clear hK K
              try simp only [Act.put, List.setIfInBounds_toArray, List.set_cons_zero, List.set_cons_succ]
              refine wpAnyH_ready (rs := [11]) (by kernel_rfl) (by simp) ?_
              refine AllReadyH.cons rfl (fun K hK => ?_) AllReadyH.nil
              refine step_append_int rfl (.tmp 25) (.tmp 35) rfl (w.heap.size + 3) _ (Cm.aheads n k) ((P : Int) + (Lp : Int)) rfl hI6.row rfl HKl (by have := hI6.be.size; have := lt_of_heap hI6.ah; omega) ?_
              intro gg cap w7 hown7 hgrow7
              rw [aheads_len] at hown7 ⊢
              obtain ⟨hI7, c7, f7, hn7⟩ := (hI6.alloc (.cells #[.int .i64 ((P : Int) + (Lp : Int))] 3)).more hgrow7 hown7
              have HS7 := cells3_of hI7.nd
              refine hK.out _ _ (cells3_of hn7) (fun hHeld => ?_)
              clear hK K
              try simp only [Act.put, List.setIfInBounds_toArray]
              refine wpAnyH_ready (rs := [12]) (by kernel_rfl) (by simp) ?_
              refine AllReadyH.cons rfl (fun K hK => ?_) AllReadyH.nil
              go_simp
              refine hK.out _ _ HS7 (fun hHeld => ?_)
              clear hK K
              try simp only [Act.put, List.setIfInBounds_toArray, List.set_cons_zero, List.set_cons_succ]
              refine wpAnyH_done (by kernel_rfl) ?_ _
              go_wp2
              go_meet
              exact ⟨gg, cap, HAs.out _ hI7⟩
            · go_simp
              refine hK.out _ _ HS6 (fun hHeld => ?_)
              clear hK K
              try simp only [Act.put, List.setIfInBounds_toArray, List.set_cons_zero, List.set_cons_succ]
              refine wpAnyH_take (i := 9) (v := ?_) rfl (by kernel_rfl) (by kernel_rfl) (by kernel_rfl) (fun _ _ _ h => h) (Or.inl ⟨(by simp [Region.wanted]), ?_⟩) (hHeld) ?_
              rotate_left
              · (intro w hSw; (try dsimp only at hSw); ((go_simp) <;> (with_reducible rfl)))
              try simp only [Act.put, List.setIfInBounds_toArray]
              refine wpAnyH_ready (rs := [0, 10]) (by kernel_rfl) (by simp) ?_
              refine AllReadyH.cons rfl (fun K hK => ?_) (AllReadyH.cons rfl (fun K hK => ?_) AllReadyH.nil)
              · go_simp
                refine hK.out _ _ HS6 (fun hHeld => ?_)
                clear hK K
                try simp only [Act.put, List.setIfInBounds_toArray, List.set_cons_zero, List.set_cons_succ]
                refine wpAnyH_ready (rs := [10]) (by kernel_rfl) (by simp) ?_
                refine AllReadyH.cons rfl (fun K hK => ?_) AllReadyH.nil
                go_simp
                refine hK.out _ _ HS6b (fun hHeld => ?_)
                clear hK K
                try simp only [Act.put, List.setIfInBounds_toArray, List.set_cons_zero, List.set_cons_succ]
                refine wpAnyH_ready (rs := [11]) (by kernel_rfl) (by simp) ?_
                refine AllReadyH.cons rfl (fun K hK => ?_) AllReadyH.nil
                refine step_append_int rfl (.tmp 25) (.tmp 35) rfl (w.heap.size + 3) _ (Cm.aheads n k) ((P : Int) + (Lp : Int)) rfl hI6.row rfl HKl (by have := hI6.be.size; have := lt_of_heap hI6.ah; omega) ?_
                intro gg cap w7 hown7 hgrow7
                rw [aheads_len] at hown7 ⊢
                obtain ⟨hI7, c7, f7, hn7⟩ := (hI6.alloc (.cells #[.int .i64 ((P : Int) + (Lp : Int))] 3)).more hgrow7 hown7
                have HS7 := cells3_of hI7.nd
                refine hK.out _ _ (cells3_of hn7) (fun hHeld => ?_)
                clear hK K
                try simp only [Act.put, List.setIfInBounds_toArray]
                refine wpAnyH_ready (rs := [12]) (by kernel_rfl) (by simp) ?_
                refine AllReadyH.cons rfl (fun K hK => ?_) AllReadyH.nil
                go_simp
                refine hK.out _ _ HS7 (fun hHeld => ?_)
                clear hK K
                try simp only [Act.put, List.setIfInBounds_toArray, List.set_cons_zero, List.set_cons_succ]
                refine wpAnyH_done (by kernel_rfl) ?_ _
                go_wp2
                go_meet
                exact ⟨gg, cap, HAs.out _ hI7⟩
              · go_simp
                refine hK.out _ _ HS6b (fun hHeld => ?_)
                clear hK K
                try simp only [Act.put, List.setIfInBounds_toArray, List.set_cons_zero, List.set_cons_succ]
                refine wpAnyH_ready (rs := [0]) (by kernel_rfl) (by simp) ?_
                refine AllReadyH.cons rfl (fun K hK => ?_) AllReadyH.nil
                go_simp
                refine hK.out _ _ HS6b (fun hHeld => ?_)
                clear hK K
                try simp only [Act.put, List.setIfInBounds_toArray, List.set_cons_zero, List.set_cons_succ]
                refine wpAnyH_ready (rs := [11]) (by kernel_rfl) (by simp) ?_
                refine AllReadyH.cons rfl (fun K hK => ?_) AllReadyH.nil
                refine step_append_int rfl (.tmp 25) (.tmp 35) rfl (w.heap.size + 3) _ (Cm.aheads n k) ((P : Int) + (Lp : Int)) rfl hI6.row rfl HKl (by have := hI6.be.size; have := lt_of_heap hI6.ah; omega) ?_
                intro gg cap w7 hown7 hgrow7
                rw [aheads_len] at hown7 ⊢
                obtain ⟨hI7, c7, f7, hn7⟩ := (hI6.alloc (.cells #[.int .i64 ((P : Int) + (Lp : Int))] 3)).more hgrow7 hown7
                have HS7 := cells3_of hI7.nd
                refine hK.out _ _ (cells3_of hn7) (fun hHeld => ?_)
                clear hK K
                try simp only [Act.put, List.setIfInBounds_toArray]
                refine wpAnyH_ready (rs := [12]) (by kernel_rfl) (by simp) ?_
                refine AllReadyH.cons rfl (fun K hK => ?_) AllReadyH.nil
                go_simp
                refine hK.out _ _ HS7 (fun hHeld => ?_)
                clear hK K
                try simp only [Act.put, List.setIfInBounds_toArray, List.set_cons_zero, List.set_cons_succ]
                refine wpAnyH_done (by kernel_rfl) ?_ _
                go_wp2
                go_meet
                exact ⟨gg, cap, HAs.out _ hI7⟩
      case rest =>
        obtain ⟨g', c', hI'⟩ := hcut
        go_wp2
        exact ⟨⟨k + 1, g', c', by omega, by go_num, hI'⟩, by simp [intOf]; omega⟩
    · obtain rfl : k = n.items.length := by omega
      have hmf : ∀ (fn : Fn) (first cap : Array Value) (w : World), (Instr.makeFunc fn first cap).run Try.prog w = .ok (.func fn first cap) w := fun _ _ _ _ => rfl
      have hup := Hup.out
      go_wp2_with fail
      refine (HG.out 1 _ _ _ _ _ (by omega) (by omega) hIr).mono ?_
      rintro e w6 ⟨rfl, hb6⟩
      have hI6 := hIr.below hb6
      go_wp2_with fail
      clear hb6 hIr
      go_loopw [9, 10, 11] (fun b l i wr => ∃ (m : Nat), 1 ≤ m ∧ m + 1 + Cm.up n.leaf ≤ n.items.length ∧ i = .int .i64 ((m + 1 : Nat) : Int) ∧ b = .int .i64 ((Cm.best (Cm.cost n) m).1 : Int) ∧ l = .int .i64 ((Cm.best (Cm.cost n) m).2 : Int) ∧ MInv w wr n (.slice ad n.items.length c) (.slice kd n.kids.length d) (.slice (some ⟨g, 0, none⟩) (n.items.length + 1) cap0) (Cm.aheads n n.items.length))
        (fun _ _ i _ => n.items.length - (intOf i).toNat)
      case atStart => exact ⟨1, Nat.le_refl _, by omega, rfl, rfl, rfl, hI6⟩
      case round =>
        obtain ⟨m, hm1, hm2, rfl, rfl, rfl, hIx⟩ := hrel
        clear hI6
        have t1 := cells1_of hIx.ct
        have t2 := cells1_of hIx.up
        have hbs := Cm.best_spec (Cm.cost n) m hm1
        have hB0 : (Cm.best (Cm.cost n) m).1 ≠ 0 := by omega
        have HB : Hid (Cm.best (Cm.cost n) (m + 1) = if (Cm.best (Cm.cost n) m).1 = 0 ∨ Cm.cost n (m + 1) < (Cm.best (Cm.cost n) m).2 then (m + 1, Cm.cost n (m + 1)) else Cm.best (Cm.cost n) m) := rfl
        clear hbs
        by_cases hml : m + 1 + Cm.up n.leaf < n.items.length
        · have hcd : ((m + 1 : Nat) : Int) < (n.items.length : Int) - (Cm.up n.leaf : Int) := by omega
          have hG := HG.out (m + 1) wr g cap0 _ _ (by omega) (by omega) hIx
          obtain ⟨J, hJ⟩ : ∃ J, m + 1 = J := ⟨_, rfl⟩
          obtain ⟨b1, hb1⟩ : ∃ b1, (Cm.best (Cm.cost n) m).1 = b1 := ⟨_, rfl⟩
          obtain ⟨l1, hl1⟩ : ∃ l1, (Cm.best (Cm.cost n) m).2 = l1 := ⟨_, rfl⟩
          obtain ⟨cc, hcc⟩ : ∃ cc, Cm.cost n (m + 1) = cc := ⟨_, rfl⟩
          rw [hcc, hJ] at hG
          rw [hcc] at HB
          rw [hb1, hl1] at HB
          rw [hJ] at hcd
          rw [hb1] at hB0
          rw [hb1, hl1, hJ]
          have HJ : Hid _ := hJ
          have Hb1 : Hid _ := hb1
          have Hl1 : Hid _ := hl1
          clear hb1 hl1 hcc hJ
          by_cases hlc : cc < l1
          · have hlc' : (cc : Int) < (l1 : Int) := by omega
            go_wp2_with fail
            refine hG.mono ?_
            rintro e w7 ⟨rfl, hb7⟩
            have hI7 := hIx.below hb7
            clear hG
            go_wp2
            refine ⟨⟨m + 1, by omega, by omega, by rw [HJ.out]; go_num, ?_, ?_, hI7⟩, by simp [intOf]; omega⟩
            · rw [HB.out, if_pos (.inr hlc), HJ.out]
            · rw [HB.out, if_pos (.inr hlc)]
          · have hlc' : ¬ (cc : Int) < (l1 : Int) := by omega
            go_wp2_with fail
            refine hG.mono ?_
            rintro e w7 ⟨rfl, hb7⟩
            have hI7 := hIx.below hb7
            clear hG
            go_wp2
            have hno : ¬ (b1 = 0 ∨ cc < l1) := by rintro (h | h); exact hB0 h; exact hlc h
            refine ⟨⟨m + 1, by omega, by omega, by rw [HJ.out]; go_num, ?_, ?_, hI7⟩, by simp [intOf]; omega⟩
            · rw [HB.out, if_neg hno, Hb1.out]
            · rw [HB.out, if_neg hno, Hl1.out]
        · have hcd : ¬ ((m + 1 : Nat) : Int) < (n.items.length : Int) - (Cm.up n.leaf : Int) := by omega
          have Hpm : Hid (Cm.places n = m) := by show _ = _; rw [Hpc.out]; omega
          obtain ⟨J, hJ⟩ : ∃ J, m + 1 = J := ⟨_, rfl⟩
          rw [hJ] at hcd ⊢
          clear HB hJ
          go_wp2
          go_ret
          refine ⟨?_, hIx.be⟩
          rw [Hpm.out]
          rfl

end Go.Proofs.Ytplfcpbjlhobeaa
