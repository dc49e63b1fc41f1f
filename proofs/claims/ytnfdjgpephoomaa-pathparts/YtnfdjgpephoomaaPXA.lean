/-
  WHAT THE PROGRAM's path.Above DOES.
-/
import Derived.Test.YtnfdjgpephoomaaSeqOf
import Derived.Test.YtnfdjgpephoomaaPXP
namespace Go.Proofs.Ytnfdjgpephoomaa
open Go.RowKit Go.Shelf
attribute [local go_sem] Oper.semAt_some

theorem map_bs_inj {a b : List ByteArray} (h : a.map bs = b.map bs) : a = b := by
  induction a generalizing b with
  | nil => cases b with
    | nil => rfl
    | cons => simp at h
  | cons x r ih => cases b with
    | nil => simp at h
    | cons y r' =>
      simp only [List.map_cons, List.cons.injEq] at h
      rw [bs_inj h.1, ih h.2]

theorem Pm.aboveF_len : ∀ (f : Nat) (p : Pm.B), (Pm.aboveF f p).length ≤ f
  | 0, p => by simp [Pm.aboveF]
  | f + 1, p => by
    simp only [Pm.aboveF]
    split
    · have := Pm.aboveF_len f (Pm.parent p).1
      simp only [List.length_cons]; omega
    · simp
theorem above_len {L : List ByteArray} {s : ByteArray} (hL : L.map bs = Pm.above (bs s)) : L.length ≤ s.size := by
  have h := congrArg List.length hL
  rw [List.length_map] at h
  have h2 := Pm.aboveF_len (bs s).length (bs s)
  rw [bs_length] at h2
  unfold Pm.above at h
  rw [bs_length] at h
  omega

theorem Pm.parent_no {p : Pm.B} (h : (Pm.parent p).2 = false) : (Pm.parent p).1 = [] := by
  unfold Pm.parent at h ⊢
  by_cases hc : Pm.isP p = true ∧ 2 ≤ (Pm.cut p).length
  · rw [if_pos hc] at h; cases h
  · rw [if_neg hc]
def okOf : Value → Nat
  | .bool true => 1
  | _ => 0
theorem Pm.above_yes {p : Pm.B} (h : (Pm.parent p).2 = true) (f : Nat) (hf : p.length ≤ f) : Pm.aboveF f p = (Pm.parent p).1 :: Pm.aboveF (f - 1) (Pm.parent p).1 := by
  obtain ⟨g, rfl, -, e⟩ := Pm.aboveF_some hf h
  simpa using e

set_option maxRecDepth 100000 in
set_option maxHeartbeats 2000000 in
theorem above1 (w : World) (Bp : Nat) (s : ByteArray) (hs : s.size ≤ 100000000) (hbox : w.cell? ⟨Bp, 0, none⟩ = some (.string s)) (hBp : Bp < w.heap.size) (L : List ByteArray) (hL : L.map bs = Pm.above (bs s)) :
    SeqOf w 33 #[.pointer (some ⟨Bp, 0, none⟩)] L [Bp] := fun W0 hz0 hD n hn l J Jx W hW hJ hJx hY h0 => by
  refine callsIn_of_wp Try.func33 rfl trivial ?_ rfl
  simp only [Try.ntmps33, List.size_toArray, List.length_cons, List.length_nil, Nat.reduceAdd, Nat.reduceSub, Array.replicate_succ, Array.replicate_zero, List.push_toArray, List.append_toArray, List.nil_append, List.cons_append]
  have hc : W.cell? ⟨Bp, 0, none⟩ = some (.string s) := ((hW.cell (p := ⟨Bp, 0, none⟩) (Nat.lt_of_lt_of_le hBp hz0)).trans (World.cell?_of_block (a := ⟨Bp, 0, none⟩) (hD Bp (by simp)))).trans hbox
  have hlen := above_len hL
  have HY : Hid _ := hY
  clear hY
  have HJ : Hid (∀ pre W W', J pre W → W.heap.size ≤ W.heap.size → Below W.heap.size W W' → J pre W') := fun pre W W' hj _ hb => hJ pre W W' none hj ⟨hb.os, hb.tape, hb.output, hb.size, fun k hk _ => hb.block k hk⟩ (by simp)
  gi_wp2_with fail
  refine ⟨trivial, (callsIn_wide.2 (Parent_any s _ (by omega))).mono ?_⟩
  rintro e W1 ⟨⟨q, rfl, hq⟩, hB1⟩
  have hJ1 := HJ.out [] _ _ h0 (Nat.le_refl _) hB1
  have hst : ∃ f, q.size ≤ f ∧ f ≤ 100000000 ∧ (L.drop 0).map bs = if (Pm.parent (bs s)).2 = true then bs q :: Pm.aboveF f (bs q) else [] := by
    cases hb : (Pm.parent (bs s)).2 with
    | false =>
      refine ⟨100000000, ?_, Nat.le_refl _, ?_⟩
      · have : bs q = [] := by
          rw [hq]
          exact Pm.parent_no hb
        have := congrArg List.length this
        rw [bs_length] at this
        rw [List.length_nil] at this; omega
      · rw [List.drop_zero, hL, if_neg (by simp)]
        unfold Pm.above
        exact Pm.aboveF_none hb
    | true =>
      have h1 := Pm.above_yes hb (bs s).length (Nat.le_refl _)
      have h2 := Pm.aboveF_some (Nat.le_refl _) hb
      obtain ⟨f, hf, hfl, -⟩ := h2
      refine ⟨(bs s).length - 1, ?_, by rw [bs_length]; omega, ?_⟩
      · rw [← hq, bs_length] at hfl; omega
      · rw [List.drop_zero, hL, if_pos rfl]
        unfold Pm.above
        rw [h1, hq]
  clear hc hbox h0
  generalize (Pm.parent (bs s)).2 = ok at *
  gi_wp2
  gi_loopw [3, 4] (fun x b wr => ∃ (k f : Nat) (q : ByteArray) (ok : Bool), k ≤ L.length ∧ x = .string q ∧ b = .bool ok ∧ J (L.take k) wr ∧ q.size ≤ f ∧ f ≤ 100000000 ∧ (L.drop k).map bs = (if ok = true then bs q :: Pm.aboveF f (bs q) else [])) (fun x b _ => okOf b * (szOf x + 1))
  case atStart =>
    obtain ⟨f, h1, h2, h3⟩ := hst
    exact ⟨0, f, q, ok, Nat.zero_le _, rfl, rfl, hJ1, h1, h2, h3⟩
  case round =>
    clear hst hJ1 hq
    obtain ⟨k, f, q, ok, hk, rfl, rfl, hJk, hqf, hf, hdr⟩ := hrel
    cases ok with
    | false =>
      have HD : Hid (L.take k = L) := by
        show _ = _
        have h1 : L.drop k = [] := by
          have := congrArg List.length hdr
          simp only [List.length_map, Bool.false_eq_true, if_false, List.length_nil] at this
          exact List.eq_nil_of_length_eq_zero this
        conv => rhs; rw [← List.take_append_drop k L, h1, List.append_nil]
      clear hdr
      gi_wp2
      go_end0
      exact ⟨⟨_, rfl⟩, .inl ⟨L, rfl, by rw [HD.out] at hJk; exact hJk⟩⟩
    | true =>
      rw [if_pos rfl] at hdr
      have hklt : k < L.length := by
        have := congrArg List.length hdr
        simp only [List.length_map, List.length_drop, List.length_cons] at this
        omega
      have hqk : L[k] = q ∧ (L.drop (k + 1)).map bs = Pm.aboveF f (bs q) := by
        rw [List.drop_eq_getElem_cons hklt, List.map_cons, List.cons.injEq] at hdr
        exact ⟨bs_inj hdr.1, hdr.2⟩
      have ht : L.take (k + 1) = L.take k ++ [q] := by rw [List.take_succ_eq_append_getElem hklt, hqk.1]
      have HN : Hid _ := hqk.2
      clear hdr hqk
      obtain ⟨fn, tmps, assign, body, hy, hR⟩ := HY.out (L.take k) q wr hJk (by rw [List.length_take]; omega)
      gi_wp2
      refine hR.mono ?_
      rw [← ht]
      rintro e W3 (⟨rfl, hJ3, -⟩ | ⟨rfl, hJx3⟩)
      · gi_wp2_with fail
        refine ⟨trivial, (callsIn_wide.2 (Parent_any q _ (by omega))).mono ?_⟩
        rintro e W4 ⟨⟨q4, rfl, hq4⟩, hB4⟩
        have hJ4 := HJ.out _ _ _ hJ3 (Nat.le_refl _) hB4
        have hst : ∃ f', q4.size ≤ f' ∧ f' ≤ 100000000 ∧ Pm.aboveF f (bs q) = (if (Pm.parent (bs q)).2 = true then bs q4 :: Pm.aboveF f' (bs q4) else []) ∧ ((Pm.parent (bs q)).2 = true → q4.size < q.size) := by
          cases hb : (Pm.parent (bs q)).2 with
          | false =>
            refine ⟨100000000, ?_, Nat.le_refl _, ?_, by simp⟩
            · have : bs q4 = [] := by
                rw [hq4]
                exact Pm.parent_no hb
              have := congrArg List.length this
              rw [bs_length] at this
              rw [List.length_nil] at this; omega
            · rw [if_neg (by simp)]; exact Pm.aboveF_none hb
          | true =>
            have h1 := Pm.above_yes hb f (by rw [bs_length]; exact hqf)
            obtain ⟨f2, e2, hfl, -⟩ := Pm.aboveF_some (f := f) (by rw [bs_length]; exact hqf) hb
            obtain ⟨f3, e3, hfl3, -⟩ := Pm.aboveF_some (Nat.le_refl _) hb
            rw [bs_length] at e3
            rw [← hq4, bs_length] at hfl hfl3
            exact ⟨f - 1, by omega, by omega, by rw [if_pos rfl, h1, hq4], fun _ => by omega⟩
        obtain ⟨f4, g1, g2, g3, g4⟩ := hst
        generalize (Pm.parent (bs q)).2 = ok4 at *
        have HG : Hid _ := g4
        have HG3 : Hid _ := g3
        clear hq4 g3 g4
        gi_wp2
        go_roundw
        case rel => exact ⟨k + 1, f4, q4, ok4, by omega, rfl, rfl, hJ4, g1, g2, by rw [HN.out, HG3.out]⟩
        case measure =>
          cases ok4 with
          | false => simp [okOf]
          | true => have := HG.out rfl; simp [okOf, szOf]; omega
      · gi_wp2
        refine bodyPost_ret (results_none rfl _ _ _) rfl ?_
        exact ⟨⟨_, rfl⟩, .inr ⟨L.take (k + 1), List.take_prefix _ _, hJx3⟩⟩

set_option maxRecDepth 100000 in
theorem Above_any (s : ByteArray) (w : World) (hs : s.size ≤ 100000000) (L : List ByteArray) (hL : L.map bs = Pm.above (bs s)) :
    Calls Try.prog 20 #[.string s] w fun e w' => ∃ gf lb, e = .returned (.func (.func gf) #[] lb) ∧ (∀ args W, (callFunc gf args).run Try.prog W = .ok (.enter gf args) W) ∧ (∃ D, SeqOf w' gf lb L D ∧ ∀ b ∈ D, w.heap.size ≤ b ∧ b < w'.heap.size) ∧ Below w.heap.size w w' := by
  go_enter Try.func20, Try.ntmps20
  go_wp2
  go_ret
  have hb := cell_of_row (w.alloc (.cells #[.string s] 9)) w.heap.size 0 _ 9 (0, 0) (heap_alloc_new w _)
  exact ⟨_, _, rfl, enters_of Try.func33 (by kernel_rfl) rfl, ⟨_, above1 _ _ s hs hb (by simp) L hL, by simp⟩, (Below.refl _ _).alloc (Nat.le_refl _) _⟩

end Go.Proofs.Ytnfdjgpephoomaa
