/-
  THE DOCUMENT's Lines: what a line's words are, step by step. No program here.
-/
import Derived.Test.YthpipbkbldlfjaaYQuo2
namespace Go.Proofs.Ythpipbkbldlfjaa
open Go.RowKit

theorem drop_take_at {l : List (Lx.B Nat)} {k t : Nat} (h : k < t) (ht : t ≤ l.length) : (l.take t).drop k = l.getD k Lx.noB :: (l.take t).drop (k + 1) := by
  rw [drop_at (by rw [List.length_take]; omega)]
  congr 1
  simp [List.getD, h]
theorem map_nilW (r : Lx.R Nat (List (Lx.W Nat))) : r = r.map id ([] ++ ·) := by cases r <;> rfl
theorem map_more (r : Lx.R Nat (List (Lx.W Nat))) (acc : List (Lx.W Nat)) (w : Lx.W Nat) : (r.map id (w :: ·)).map id (acc ++ ·) = r.map id ((acc ++ [w]) ++ ·) := by
  cases r with
  | bad a => rfl
  | ok l => simp [Lx.R.map]
theorem getD_take {l : List (Lx.B Nat)} {k t : Nat} (h : k < t) : (l.take t).getD k Lx.noB = l.getD k Lx.noB := by
  simp [List.getD, h]

/-- a quoted word of a line -/
theorem quo_run {BB : List (Lx.B Nat)} {t i : Nat} (hit : i < t) (htl : t ≤ BB.length) (hc : (BB.getD i Lx.noB).c = 34) :
    (∃ x : Nat, qres (BB.take t).length ((BB.take t).getD i Lx.noB).at_ (Lx.quo ((BB.take t).drop (i + 1)) []) = #[.string .empty, .int .i64 0, .int .i64 (x : Int)] ∧ Lx.rd ((BB.take t).drop i) = .bad x) ∨
    ∃ tx k, i < k ∧ k ≤ t ∧ qres (BB.take t).length ((BB.take t).getD i Lx.noB).at_ (Lx.quo ((BB.take t).drop (i + 1)) []) = #[.string (str tx), .int .i64 (k : Int), .int .i64 (-1)] ∧ Lx.rd ((BB.take t).drop i) = (Lx.rd ((BB.take t).drop k)).map id (⟨tx, (BB.getD i Lx.noB).at_, true, false⟩ :: ·) := by
  have hlt : (BB.take t).length = t := by rw [List.length_take]; omega
  rw [drop_take_at hit htl, Lx.rd_quote hc, getD_take hit, hlt]
  cases hq : Lx.quo ((BB.take t).drop (i + 1)) [] with
  | bad a => exact .inl ⟨a, rfl, rfl⟩
  | ok o =>
    cases o with
    | none => exact .inl ⟨_, rfl, rfl⟩
    | some p =>
      obtain ⟨tx, r⟩ := p
      obtain ⟨x, hx⟩ := Lx.quo_rest _ _ [] tx r (Nat.le_refl _) hq
      have hr : r = (BB.take t).drop (i + 1 + x.length) := by
        rw [← List.drop_drop, hx, List.drop_left]
      have hl := congrArg List.length hx
      rw [List.length_drop, hlt, List.length_append] at hl
      refine .inr ⟨tx, i + 1 + x.length, by omega, by omega, ?_, ?_⟩
      · rw [qres, show t - r.length = i + 1 + x.length by omega]
      · rw [← hr]; rfl

/-- a bare word of a line -/
theorem bare_run {s : ByteArray} {BB : List (Lx.B Nat)} {t i : Nat} (hbb : BB = Lx.bytes 0 (bs s)) (hit : i < t) (htl : t ≤ BB.length) (hb : Lx.bare (BB.getD i Lx.noB).c = true) :
    ∃ K E tx, i < K ∧ K ≤ t ∧ (∀ j, i ≤ j → j < K → Lx.bare (BB.getD j Lx.noB).c = true) ∧ (K = t ∨ Lx.bare (BB.getD K Lx.noB).c = false) ∧ E = (BB.getD i Lx.noB).at_ + (K - i) ∧ E ≤ s.size ∧ s.extract (BB.getD i Lx.noB).at_ E = str tx ∧
      Lx.rd ((BB.take t).drop i) = (Lx.rd ((BB.take t).drop K)).map id (⟨tx, (BB.getD i Lx.noB).at_, false, false⟩ :: ·) := by
  have hlt : (BB.take t).length = t := by rw [List.length_take]; omega
  have hd := drop_take_at hit htl
  obtain ⟨x0, hx0⟩ : ∃ x, BB.getD i Lx.noB = x := ⟨_, rfl⟩
  rw [hx0] at hb hd ⊢
  obtain ⟨r, hr⟩ : ∃ r, (BB.take t).drop (i + 1) = r := ⟨_, rfl⟩
  obtain ⟨tw, htw⟩ : ∃ tw, r.takeWhile (fun x => Lx.bare x.c) = tw := ⟨_, rfl⟩
  obtain ⟨dw, hdw⟩ : ∃ dw, r.dropWhile (fun x => Lx.bare x.c) = dw := ⟨_, rfl⟩
  have hsp : r = tw ++ dw := by rw [← htw, ← hdw, List.takeWhile_append_dropWhile]
  have hrl : r.length = t - (i + 1) := by rw [← hr, List.length_drop, hlt]
  have hll := congrArg List.length hsp
  rw [List.length_append, hrl] at hll
  have hX : ∀ b ∈ x0 :: tw, Lx.bare b.c = true := by
    intro b hm
    rcases List.mem_cons.1 hm with rfl | hm
    · exact hb
    · rw [← htw] at hm
      exact List.all_eq_true.1 List.all_takeWhile b hm
  have hl : (BB.take t).drop i = (x0 :: tw) ++ dw := by rw [hd, hr, hsp]; rfl
  have hget : ∀ j, j < tw.length + 1 → BB.getD (i + j) Lx.noB = (x0 :: tw).getD j Lx.noB := by
    intro j hj
    rw [← getD_take (l := BB) (t := t) (by omega)]
    simp only [List.getD]
    rw [← List.getElem?_drop, hl, List.getElem?_append_left (by simp; omega)]
  -- where they stand
  have hseg : Lx.Seg (bs s) 0 BB := by
    have := Lx.seg_bytes _ [] (bs s) (Nat.le_refl _)
    rw [hbb]; simpa using this
  rw [← List.take_append_drop i BB] at hseg
  obtain ⟨q, -, hsq⟩ := Lx.Seg.rest _ hseg
  rw [split_at BB (Nat.le_of_lt hit) htl, hl] at hsq
  have hsx := Lx.Seg.head _ (Lx.Seg.head _ hsq)
  have hqa : x0.at_ = q := hsx.1
  have hch := Lx.Seg.bare _ hsx hX
  rw [List.length_cons] at hch
  have hE : q + (tw.length + 1) ≤ s.size := by
    have := (List.getElem?_eq_some_iff.1 (hch tw.length (by omega))).1
    rw [bs_length] at this
    omega
  refine ⟨i + 1 + tw.length, q + (tw.length + 1), x0.c :: tw.map Lx.B.c, by omega, by omega, ?_, ?_, by omega, hE, ?_, ?_⟩
  · intro j h1 h2
    have := hget (j - i) (by omega)
    rw [show i + (j - i) = j by omega] at this
    rw [this]
    refine hX _ ?_
    simp only [List.getD]
    rw [List.getElem?_eq_getElem (by rw [List.length_cons]; omega)]
    exact List.getElem_mem _
  · cases dw with
    | nil => left; simp at hll; omega
    | cons y ys =>
      right
      have h1 : (BB.take t).drop (i + 1 + tw.length) = y :: ys := by rw [← List.drop_drop, hr, hsp, List.drop_left]
      have h2 : i + 1 + tw.length < t := by rw [List.length_cons] at hll; omega
      rw [drop_take_at h2 htl] at h1
      simp only [List.cons.injEq] at h1
      rw [h1.1]
      have := List.head_dropWhile_not (p := fun x : Lx.B Nat => Lx.bare x.c) (l := r) (by rw [hdw]; simp)
      simpa [hdw] using this
  · rw [hqa, slice_str]
    congr 1
    apply List.ext_getElem?
    intro j
    rw [List.getElem?_drop]
    rcases Nat.lt_or_ge j (tw.length + 1) with hj | hj
    · rw [List.getElem?_take_of_lt (by omega), hch j hj]
      have : j < ((x0 :: tw).map Lx.B.c).length := by simp; omega
      simp only [List.getD, List.getElem?_eq_getElem this, Option.getD_some]
      simp only [List.map_cons] at this ⊢
      rw [List.getElem?_eq_getElem this]
    · rw [List.getElem?_eq_none (by rw [List.length_take, bs_length]; omega), List.getElem?_eq_none (by simp; omega)]
  · rw [hd, hr, Lx.rd_bare hb, htw, hdw, ← List.drop_drop, hr]
    conv => rhs; rw [hsp, List.drop_left]

end Go.Proofs.Ythpipbkbldlfjaa
