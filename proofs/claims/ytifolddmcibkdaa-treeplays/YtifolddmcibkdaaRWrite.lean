/-
  A FILE WRITTEN (the document's Write).
-/
import Derived.Test.YtifolddmcibkdaaRRead
namespace Go.Proofs.Ytifolddmcibkdaa
open Go.RowKit

/-- what a call on a tree leaves: the tree t', its blocks those that it had, or new ones -/
def LeavesR (w w' : World) (g : Nat) (t' : Tm.T) (S : List Nat) : Prop := ∃ S', HasR w' g t' S' ∧ (∀ b ∈ S', b ∈ S ∨ w.heap.size ≤ b) ∧ Turn S w w'
theorem LeavesR.same {w w' : World} {g : Nat} {t : Tm.T} {S : List Nat} (h : HasR w g t S) (hb : Below w.heap.size w w') : LeavesR w w' g t S :=
  ⟨S, h.below hb, fun _ h => .inl h, (Turn.of_below hb).mono (by simp)⟩
theorem LeavesR.after {w w1 w' : World} {g : Nat} {t : Tm.T} {S : List Nat} (hb : Below w.heap.size w w1) (h : LeavesR w1 w' g t S) : LeavesR w w' g t S := by
  obtain ⟨S', h1, h2, h3⟩ := h
  exact ⟨S', h1, fun b hm => (h2 b hm).imp id (Nat.le_trans hb.size), (Turn.of_below hb).mono (S' := S) (by simp) |>.trans h3 fun _ hx _ => hx⟩

set_option maxRecDepth 100000 in
set_option maxHeartbeats 4000000 in
theorem WriteR_any (g : Nat) (t : Tm.T) (S : List Nat) (p s : ByteArray) (w : World) (h : HasR w g t S) (hl : t.files.length ≤ 100000000) (hlc : t.chs.length ≤ 100000000) :
    Calls Try.prog 28 #[.pointer (some ⟨g, 0, none⟩), .string p, .string s] w fun e w' => e = .returned (.int .i64 ((Tm.write t p s).1 : Int)) ∧ LeavesR w w' g (Tm.write t p s).2 S := by
  go_enter Try.func28, Try.ntmps28
  have HR : Hid (Tm.write t p s = if Tm.isPath p = false then (2, t) else if 4096 < s.size then (3, t)
    else if Tm.isIn t.files p = true ∧ (t.files.getD (Tm.place t.files p) Tm.noFl).text = s then (0, t)
    else if Tm.isIn t.files p = false ∧ t.files.length = 256 then (8, t)
    else (0, ⟨Tm.put t.files p s, t.chs ++ [p]⟩)) := rfl
  go_wp2_with fail
  refine (IsT_any p _).mono ?_
  rintro e w1 ⟨rfl, hB1⟩
  cases hp : Pm.isP (bs p) with
  | false =>
    rw [if_pos (show Tm.isPath p = false from hp)] at HR
    go_wp2
    go_ret
    rw [HR.out]
    exact ⟨rfl, LeavesR.same h hB1⟩
  | true =>
    rw [if_neg (show ¬ Tm.isPath p = false by rw [show Tm.isPath p = true from hp]; simp)] at HR
    by_cases hsl : 4096 < s.size
    · rw [if_pos hsl] at HR
      have i1 : (4096 : Int) < (s.size : Int) := by omega
      go_wp2
      go_ret
      rw [HR.out]
      exact ⟨rfl, LeavesR.same h hB1⟩
    rw [if_neg hsl] at HR
    have i1 : ¬ (4096 : Int) < (s.size : Int) := by omega
    have h1 := h.below hB1
    go_wp2_with fail
    refine (AtR_any g t S p _ h1 (by omega)).mono ?_
    rintro e w2 ⟨rfl, hB2⟩
    have h2 := h1.below hB2
    have hC := hB1.trans (hB2.mono hB1.size)
    have HC : Hid (∀ w' g' t', LeavesR w2 w' g' t' S → LeavesR w w' g' t' S) := fun _ _ _ h => h.after hC
    have HS : Hid (∀ w', Below w2.heap.size w2 w' → LeavesR w2 w' g t S) := fun _ hb => LeavesR.same h2 hb
    clear h h1 hB1 hB2 hC
    obtain ⟨vf, vc, ty, hb, hty, hf, hc, hSS⟩ := h2
    obtain ⟨c0, c1, f0, f1⟩ := HasR.cell0 hb
    obtain ⟨ad, c, rfl, hle⟩ := hf.sl.shape
    have hple := Tm.place_le t.files p
    cases hi : Tm.isIn t.files p with
    | false =>
      rw [hi] at HR
      simp only [Bool.false_eq_true, false_and, if_false, true_and] at HR
      by_cases h256 : t.files.length = 256
      · rw [if_pos h256] at HR
        have q1 : ((t.files.length : Int) == 256) = true := by rw [h256]; rfl
        go_wp2
        go_ret
        rw [HR.out]
        exact ⟨rfl, HC.out _ _ _ (HS.out _ (Below.refl _ _))⟩
      rw [if_neg h256] at HR
      have q1 : ((t.files.length : Int) == 256) = false := by simp; omega
      have HPut : Hid (Tm.put t.files p s = t.files.take (Tm.place t.files p) ++ ⟨p, s⟩ :: t.files.drop (Tm.place t.files p)) := by
        show _ = _
        unfold Tm.put; rw [hi]; simp
      generalize Tm.place t.files p = k at *
      have hsl1 : ∀ W : World, (Instr.slice 34 (.slice ad t.files.length c) none (some (.int .i64 (k : Int))) none).run Try.prog W = .ok (.slice ad k c) W := fun W => FlR.slice_head W ad t.files.length c k (by omega)
      have hs1 := hf.sl.head k hple
      have HLn : Hid (([] : List Tm.Fl).length + (t.files.take k).length ≤ 1099511627) := by show _ ≤ _; simp; omega
      go_wp2_with (at_builtin; go_must (refine FlR.append rfl _ _ rfl w2.heap.size w2.heap.size _ _ [] (t.files.take k) rfl (Rc.Own.nil _ _) rfl hs1 HLn (Nat.le_refl _) ?_))
      intro v3 w3 hO3 hg3
      have hB3 : Below w2.heap.size w2 w3 := ⟨hg3.os, hg3.tape, hg3.output, hg3.size, fun j hj => hg3.block j hj (by simp [Value.ownBlock])⟩
      clear hg3 hs1 HLn
      have hL4 := FlR.lit w3 ⟨p, s⟩ #[.string p, .string s] rfl
      have hO4 := hO3.alloc (.cells #[.string p, .string s] 67)
      have hB4 := hB3.alloc hB3.size (.cells #[.string p, .string s] 67)
      have HLn2 : Hid ((t.files.take k).length + [(⟨p, s⟩ : Tm.Fl)].length ≤ 1099511627) := by show _ ≤ _; simp; omega
      go_wp2_with (at_builtin; go_must (refine FlR.append rfl _ _ rfl w2.heap.size (w3.heap.size + 1) _ _ (t.files.take k) [Tm.Fl.mk p s] rfl hO4 rfl hL4 HLn2 hB4.size ?_))
      intro v5 w5 hO5 hg5
      have hB5 := hB4.grown hg5 hB4.size fun j e => (hO4.lt j e).1
      clear hg5 hL4 hO4 hB4 HLn2 hO3 hB3
      obtain ⟨A, hsl2, hA⟩ := Rc.slice_tail (hf.below hB5 (Nat.le_refl _)).sl (k) (hple)
      have hsl3 : ∀ W : World, (Instr.slice 34 (.slice ad t.files.length c) (some (.int .i64 ((k : Int)))) none none).run Try.prog W = .ok (.slice A (t.files.length - (k)) (c - (k))) W := hsl2
      have gl : g < w2.heap.size := (Array.getElem?_eq_some_iff.1 hb).1
      have c05 := (hB5.cell (p := ⟨g, 0, none⟩) gl).trans c0
      have HLn3 : Hid ((t.files.take k ++ [(⟨p, s⟩ : Tm.Fl)]).length + (t.files.drop (k)).length ≤ 1099511627) := by show _ ≤ _; simp; omega
      go_wp2_with (at_builtin; go_must (refine FlR.append rfl _ _ rfl w2.heap.size w5.heap.size _ _ (t.files.take k ++ [Tm.Fl.mk p s]) (t.files.drop (k)) rfl hO5 rfl hA HLn3 hB5.size ?_))
      intro v6 w6 hO6 hg6
      obtain ⟨a6, n6, c6, rfl⟩ := hO6.isSl
      have hB6 := hB5.grown hg6 hB5.size fun j e => (hO5.lt j e).1
      clear hg6 hA hO5 HLn3 hB5 c05 hsl1 hsl2 hsl3
      have b6 := (hB6.block g gl).trans hb
      obtain ⟨c06, -, f06, -⟩ := HasR.cell0 b6
      have b7 : (w6.setCell ⟨g, 0, none⟩ (.slice a6 n6 c6)).heap[g]? = some (.cells #[.slice a6 n6 c6, vc] ty (0, 0)) := set_row (j := 0) b6 (.slice a6 n6 c6)
      obtain ⟨-, c17, -, -⟩ := HasR.cell0 b7
      have hne : vc.ownBlock ≠ some g := fun e => Row.ne hc hb hty.1 e rfl
      have hc7 : StR.Own (w6.setCell ⟨g, 0, none⟩ (.slice a6 n6 c6)) 0 vc t.chs := (hc.below hB6 (Nat.le_refl _)).turn ((Turn.refl [g] w6).set (fun _ => by simp) (.slice a6 n6 c6)) (fun j e hm => by simp at hm; subst hm; exact hne e)
      have hc8 := hc7.alloc (.cells #[.string p] 9)
      have hz7 : (w6.setCell ⟨g, 0, none⟩ (.slice a6 n6 c6)).heap.size = w6.heap.size := by simp [World.setCell]
      have hL8 : StR.Sl ((w6.setCell ⟨g, 0, none⟩ (.slice a6 n6 c6)).alloc (.cells #[.string p] 9)) (w6.heap.size + 1) (.slice (some ⟨w6.heap.size, 0, none⟩) 1 1) [p] := by have h8 := StR.lit (w6.setCell ⟨g, 0, none⟩ (.slice a6 n6 c6)) p #[.string p] rfl; rw [hz7] at h8; exact h8
      have HLn4 : Hid (t.chs.length + [p].length ≤ 1099511627) := by show _ ≤ _; simp; omega
      have HF : Hid (∀ w9 gc cap, ((w6.setCell ⟨g, 0, none⟩ (.slice a6 n6 c6)).alloc (.cells #[.string p] 9)).grownBy w9 vc.ownBlock → StR.Own w9 0 (.slice (some ⟨gc, 0, none⟩) (t.chs.length + 1) cap) (t.chs ++ [p]) → (vc.ownBlock = some gc ∨ gc = w6.heap.size + 1) →
          (w9.cell? ⟨g, 1, none⟩ = some vc ∧ w9.frozen? ⟨g, 1, none⟩ = false) ∧ LeavesR w2 (w9.setCell ⟨g, 1, none⟩ (.slice (some ⟨gc, 0, none⟩) (t.chs.length + 1) cap)) g ⟨Tm.put t.files p s, t.chs ++ [p]⟩ S) := fun w9 gc cap hg h4 hat => by
        have b9 := (hg.block g (by rw [World.size_alloc]; have := (Array.getElem?_eq_some_iff.1 b7).1; omega) (fun e => hne e.symm)).trans ((Below.heap_alloc (w6.setCell ⟨g, 0, none⟩ (.slice a6 n6 c6)) (.cells #[.string p] 9) g (Array.getElem?_eq_some_iff.1 b7).1).trans b7)
        obtain ⟨-, x1, -, x2⟩ := HasR.cell0 b9
        exact ⟨⟨x1, x2⟩, HasR.after hb hty hc hSS hB6 (by rw [HPut.out]; exact hO6) hg h4 (by rw [World.size_alloc, hz7]; exact hat)⟩
      clear HPut hB6 hO6 hb hc hc7 b6 b7 hSS hf hne HS
      go_wp2_with (at_builtin; go_must (refine StR.append_at rfl _ _ rfl 0 _ _ _ t.chs [p] rfl hc8 rfl hL8 (by simp) HLn4 (Nat.zero_le _) ?_))
      intro gc cap w9 hO9 hg9 hat hlt9
      obtain ⟨⟨c19, f19⟩, hF⟩ := HF.out w9 gc cap hg9 hO9 hat
      have HFF : Hid _ := hF
      clear hF HF hO9 hg9 hat hlt9 hc8 hL8 HLn4
      go_wp2
      go_ret
      rw [HR.out]
      exact ⟨rfl, HC.out _ _ _ HFF.out⟩
    | true =>
      rw [hi] at HR
      simp only [true_and, Bool.true_eq_false, false_and, if_false] at HR
      obtain ⟨hklt, -⟩ := Tm.isIn_lt hi
      obtain ⟨b, o, c', e, hb', p0, p1⟩ := FlR.at hf.sl _ hklt
      simp only [Value.slice.injEq] at e
      obtain ⟨rfl, -, rfl⟩ := e
      have HE := beq_txt (t.files.getD (Tm.place t.files p) Tm.noFl).text s
      have HPut : Hid (Tm.put t.files p s = t.files.take (Tm.place t.files p) ++ ⟨p, s⟩ :: t.files.drop (Tm.place t.files p + 1)) := by
        show _ = _
        unfold Tm.put; rw [hi]; simp
      have i2 : (Tm.place t.files p : Int) < (t.files.length : Int) := by omega
      clear p0
      generalize (t.files.getD (Tm.place t.files p) Tm.noFl).text = x at *
      by_cases hx : x = s
      · rw [if_pos hx] at HR
        rw [decide_eq_true hx] at HE
        clear hx
        go_wp2
        go_ret
        rw [HR.out]
        exact ⟨rfl, HC.out _ _ _ (HS.out _ (Below.refl _ _))⟩
      rw [if_neg hx] at HR
      rw [decide_eq_false hx] at HE
      clear hx
      generalize Tm.place t.files p = k at *
      have hsl1 : ∀ W : World, (Instr.slice 34 (.slice (some ⟨b, o, none⟩) t.files.length c) none (some (.int .i64 (k : Int))) none).run Try.prog W = .ok (.slice (some ⟨b, o, none⟩) k c) W := fun W => FlR.slice_head W (some ⟨b, o, none⟩) t.files.length c k (by omega)
      have hs1 := hf.sl.head k hple
      have HLn : Hid (([] : List Tm.Fl).length + (t.files.take k).length ≤ 1099511627) := by show _ ≤ _; simp; omega
      go_wp2_with (at_builtin; go_must (refine FlR.append rfl _ _ rfl w2.heap.size w2.heap.size _ _ [] (t.files.take k) rfl (Rc.Own.nil _ _) rfl hs1 HLn (Nat.le_refl _) ?_))
      intro v3 w3 hO3 hg3
      have hB3 : Below w2.heap.size w2 w3 := ⟨hg3.os, hg3.tape, hg3.output, hg3.size, fun j hj => hg3.block j hj (by simp [Value.ownBlock])⟩
      clear hg3 hs1 HLn
      have hL4 := FlR.lit w3 ⟨p, s⟩ #[.string p, .string s] rfl
      have hO4 := hO3.alloc (.cells #[.string p, .string s] 67)
      have hB4 := hB3.alloc hB3.size (.cells #[.string p, .string s] 67)
      have HLn2 : Hid ((t.files.take k).length + [(⟨p, s⟩ : Tm.Fl)].length ≤ 1099511627) := by show _ ≤ _; simp; omega
      go_wp2_with (at_builtin; go_must (refine FlR.append rfl _ _ rfl w2.heap.size (w3.heap.size + 1) _ _ (t.files.take k) [Tm.Fl.mk p s] rfl hO4 rfl hL4 HLn2 hB4.size ?_))
      intro v5 w5 hO5 hg5
      have hB5 := hB4.grown hg5 hB4.size fun j e => (hO4.lt j e).1
      clear hg5 hL4 hO4 hB4 HLn2 hO3 hB3
      obtain ⟨A, hsl2, hA⟩ := Rc.slice_tail (hf.below hB5 (Nat.le_refl _)).sl (k + 1) (by omega)
      have hsl3 : ∀ W : World, (Instr.slice 34 (.slice (some ⟨b, o, none⟩) t.files.length c) (some (.int .i64 ((k : Int) + 1))) none none).run Try.prog W = .ok (.slice A (t.files.length - (k + 1)) (c - (k + 1))) W := hsl2
      have gl : g < w2.heap.size := (Array.getElem?_eq_some_iff.1 hb).1
      have c05 := (hB5.cell (p := ⟨g, 0, none⟩) gl).trans c0
      have HLn3 : Hid ((t.files.take k ++ [(⟨p, s⟩ : Tm.Fl)]).length + (t.files.drop (k + 1)).length ≤ 1099511627) := by show _ ≤ _; simp; omega
      go_wp2_with (at_builtin; go_must (refine FlR.append rfl _ _ rfl w2.heap.size w5.heap.size _ _ (t.files.take k ++ [Tm.Fl.mk p s]) (t.files.drop (k + 1)) rfl hO5 rfl hA HLn3 hB5.size ?_))
      intro v6 w6 hO6 hg6
      obtain ⟨a6, n6, c6, rfl⟩ := hO6.isSl
      have hB6 := hB5.grown hg6 hB5.size fun j e => (hO5.lt j e).1
      clear hg6 hA hO5 HLn3 hB5 c05 hsl1 hsl2 hsl3
      have b6 := (hB6.block g gl).trans hb
      obtain ⟨c06, -, f06, -⟩ := HasR.cell0 b6
      have b7 : (w6.setCell ⟨g, 0, none⟩ (.slice a6 n6 c6)).heap[g]? = some (.cells #[.slice a6 n6 c6, vc] ty (0, 0)) := set_row (j := 0) b6 (.slice a6 n6 c6)
      obtain ⟨-, c17, -, -⟩ := HasR.cell0 b7
      have hne : vc.ownBlock ≠ some g := fun e => Row.ne hc hb hty.1 e rfl
      have hc7 : StR.Own (w6.setCell ⟨g, 0, none⟩ (.slice a6 n6 c6)) 0 vc t.chs := (hc.below hB6 (Nat.le_refl _)).turn ((Turn.refl [g] w6).set (fun _ => by simp) (.slice a6 n6 c6)) (fun j e hm => by simp at hm; subst hm; exact hne e)
      have hc8 := hc7.alloc (.cells #[.string p] 9)
      have hz7 : (w6.setCell ⟨g, 0, none⟩ (.slice a6 n6 c6)).heap.size = w6.heap.size := by simp [World.setCell]
      have hL8 : StR.Sl ((w6.setCell ⟨g, 0, none⟩ (.slice a6 n6 c6)).alloc (.cells #[.string p] 9)) (w6.heap.size + 1) (.slice (some ⟨w6.heap.size, 0, none⟩) 1 1) [p] := by have h8 := StR.lit (w6.setCell ⟨g, 0, none⟩ (.slice a6 n6 c6)) p #[.string p] rfl; rw [hz7] at h8; exact h8
      have HLn4 : Hid (t.chs.length + [p].length ≤ 1099511627) := by show _ ≤ _; simp; omega
      have HF : Hid (∀ w9 gc cap, ((w6.setCell ⟨g, 0, none⟩ (.slice a6 n6 c6)).alloc (.cells #[.string p] 9)).grownBy w9 vc.ownBlock → StR.Own w9 0 (.slice (some ⟨gc, 0, none⟩) (t.chs.length + 1) cap) (t.chs ++ [p]) → (vc.ownBlock = some gc ∨ gc = w6.heap.size + 1) →
          (w9.cell? ⟨g, 1, none⟩ = some vc ∧ w9.frozen? ⟨g, 1, none⟩ = false) ∧ LeavesR w2 (w9.setCell ⟨g, 1, none⟩ (.slice (some ⟨gc, 0, none⟩) (t.chs.length + 1) cap)) g ⟨Tm.put t.files p s, t.chs ++ [p]⟩ S) := fun w9 gc cap hg h4 hat => by
        have b9 := (hg.block g (by rw [World.size_alloc]; have := (Array.getElem?_eq_some_iff.1 b7).1; omega) (fun e => hne e.symm)).trans ((Below.heap_alloc (w6.setCell ⟨g, 0, none⟩ (.slice a6 n6 c6)) (.cells #[.string p] 9) g (Array.getElem?_eq_some_iff.1 b7).1).trans b7)
        obtain ⟨-, x1, -, x2⟩ := HasR.cell0 b9
        exact ⟨⟨x1, x2⟩, HasR.after hb hty hc hSS hB6 (by rw [HPut.out]; exact hO6) hg h4 (by rw [World.size_alloc, hz7]; exact hat)⟩
      clear HPut hB6 hO6 hb hc hc7 b6 b7 hSS hf hne HS
      go_wp2_with (at_builtin; go_must (refine StR.append_at rfl _ _ rfl 0 _ _ _ t.chs [p] rfl hc8 rfl hL8 (by simp) HLn4 (Nat.zero_le _) ?_))
      intro gc cap w9 hO9 hg9 hat hlt9
      obtain ⟨⟨c19, f19⟩, hF⟩ := HF.out w9 gc cap hg9 hO9 hat
      have HFF : Hid _ := hF
      clear hF HF hO9 hg9 hat hlt9 hc8 hL8 HLn4
      go_wp2
      go_ret
      rw [HR.out]
      exact ⟨rfl, HC.out _ _ _ HFF.out⟩

end Go.Proofs.Ytifolddmcibkdaa
