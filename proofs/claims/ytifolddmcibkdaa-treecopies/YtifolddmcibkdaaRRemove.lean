/-
  A FILE REMOVED (the document's Remove).
-/
import Derived.Test.YtifolddmcibkdaaRWrite
namespace Go.Proofs.Ytifolddmcibkdaa
open Go.RowKit

theorem Tm.read_zero {t : Tm.T} {p : ByteArray} (h : (Tm.read t p).2 = 0) : Tm.isPath p = true ∧ Tm.isIn t.files p = true := by
  unfold Tm.read at h
  split at h
  · cases h
  · rename_i h1
    split at h
    · rename_i h2; exact ⟨by simpa using h1, h2⟩
    · cases h

set_option maxRecDepth 100000 in
set_option maxHeartbeats 4000000 in
theorem RemoveR_any (g : Nat) (t : Tm.T) (S : List Nat) (p : ByteArray) (w : World) (h : HasR w g t S) (hl : t.files.length ≤ 100000000) (hlc : t.chs.length ≤ 100000000) :
    Calls Try.prog 29 #[.pointer (some ⟨g, 0, none⟩), .string p] w fun e w' => e = .returned (.int .i64 ((Tm.remove t p).1 : Int)) ∧ LeavesR w w' g (Tm.remove t p).2 S := by
  go_enter Try.func29, Try.ntmps29
  have HR : Hid (Tm.remove t p = if (Tm.read t p).2 = 0 then (0, ⟨Tm.cut t.files p, t.chs ++ [p]⟩) else ((Tm.read t p).2, t)) := rfl
  go_wp2_with fail
  refine (ReadR_any g t S p _ h (by omega)).mono ?_
  rintro e w1 ⟨rfl, hB1⟩
  by_cases hr : (Tm.read t p).2 = 0
  · rw [if_pos hr] at HR
    obtain ⟨-, hi⟩ := Tm.read_zero hr
    rw [hr]
    clear hr
    have h1 := h.below hB1
    go_wp2_with fail
    refine (AtR_any g t S p _ h1 (by omega)).mono ?_
    rintro e w2 ⟨rfl, hB2⟩
    have h2 := h1.below hB2
    have hC := hB1.trans (hB2.mono hB1.size)
    have HC : Hid (∀ w' g' t', LeavesR w2 w' g' t' S → LeavesR w w' g' t' S) := fun _ _ _ h => h.after hC
    clear h h1 hB1 hB2 hC
    obtain ⟨vf, vc, ty, hb, hty, hf, hc, hSS⟩ := h2
    obtain ⟨c0, c1, f0, f1⟩ := HasR.cell0 hb
    have hple := Tm.place_le t.files p
    obtain ⟨hklt, -⟩ := Tm.isIn_lt hi
    obtain ⟨b, o, c, rfl, hb', p0, p1⟩ := FlR.at hf.sl _ hklt
    have hle : t.files.length ≤ c := by
      obtain ⟨ad', c', e, h', -⟩ := hf.sl
      simp only [Value.slice.injEq] at e
      obtain ⟨-, -, rfl⟩ := e
      exact h'
    have HPut : Hid (Tm.cut t.files p = t.files.take (Tm.place t.files p) ++ t.files.drop (Tm.place t.files p + 1)) := rfl
    clear p0 p1
    rw [hi]
    generalize (t.files.getD (Tm.place t.files p) Tm.noFl).path = xx at *
    generalize Tm.place t.files p = k at *
    have i2 : (k : Int) < (t.files.length : Int) := by omega
    have hsl1 : ∀ W : World, (Instr.slice 34 (.slice (some ⟨b, o, none⟩) t.files.length c) none (some (.int .i64 (k : Int))) none).run Try.prog W = .ok (.slice (some ⟨b, o, none⟩) k c) W := fun W => FlR.slice_head W (some ⟨b, o, none⟩) t.files.length c k (by omega)
    have hs1 := hf.sl.head k hple
    have HLn : Hid (([] : List Tm.Fl).length + (t.files.take k).length ≤ 1099511627) := by show _ ≤ _; simp; omega
    go_wp2_with (at_builtin; go_must (refine FlR.append rfl _ _ rfl w2.heap.size w2.heap.size _ _ [] (t.files.take k) rfl (Rc.Own.nil _ _) rfl hs1 HLn (Nat.le_refl _) ?_))
    intro v3 w3 hO3 hg3
    have hB3 : Below w2.heap.size w2 w3 := ⟨hg3.os, hg3.tape, hg3.output, hg3.size, fun j hj => hg3.block j hj (by simp [Value.ownBlock])⟩
    clear hg3 hs1 HLn
    obtain ⟨A, hsl2, hA⟩ := Rc.slice_tail (hf.below hB3 (Nat.le_refl _)).sl (k + 1) (by omega)
    have hsl3 : ∀ W : World, (Instr.slice 34 (.slice (some ⟨b, o, none⟩) t.files.length c) (some (.int .i64 ((k : Int) + 1))) none none).run Try.prog W = .ok (.slice A (t.files.length - (k + 1)) (c - (k + 1))) W := hsl2
    have gl : g < w2.heap.size := (Array.getElem?_eq_some_iff.1 hb).1
    have c03 := (hB3.cell (p := ⟨g, 0, none⟩) gl).trans c0
    have HLn3 : Hid ((t.files.take k).length + (t.files.drop (k + 1)).length ≤ 1099511627) := by show _ ≤ _; simp; omega
    go_wp2_with (at_builtin; go_must (refine FlR.append rfl _ _ rfl w2.heap.size w3.heap.size _ _ (t.files.take k) (t.files.drop (k + 1)) rfl hO3 rfl hA HLn3 hB3.size ?_))
    intro v6 w6 hO6 hg6
    obtain ⟨a6, n6, c6, rfl⟩ := hO6.isSl
    have hB6 := hB3.grown hg6 hB3.size fun j e => (hO3.lt j e).1
    clear hg6 hA hO3 HLn3 hB3 c03 hsl1 hsl2 hsl3
    have b6 := (hB6.block g gl).trans hb
    obtain ⟨c06, -, f06, -⟩ := HasR.cell0 b6
    have b7 : (w6.setCell ⟨g, 0, none⟩ (.slice a6 n6 c6)).heap[g]? = some (.cells #[.slice a6 n6 c6, vc] ty (0, 0)) := set_row (j := 0) b6 (.slice a6 n6 c6)
    obtain ⟨-, c17, -, -⟩ := HasR.cell0 b7
    have hne : vc.ownBlock ≠ some g := fun e => Row.ne hc hb hty.1 e rfl
    have hc7 : StR.Own (w6.setCell ⟨g, 0, none⟩ (.slice a6 n6 c6)) 0 vc t.chs := (hc.below hB6 (Nat.le_refl _)).turn ((Turn.refl [g] w6).set (fun _ => by simp) (.slice a6 n6 c6)) (fun j e hm => by simp at hm; subst hm; exact hne e)
    have hc8 := hc7.alloc (.cells #[.string p] 9)
    have hz7 : (w6.setCell ⟨g, 0, none⟩ (.slice a6 n6 c6)).heap.size = w6.heap.size := by simp [World.setCell]
    have hL8 : StR.Sl ((w6.setCell ⟨g, 0, none⟩ (.slice a6 n6 c6)).alloc (.cells #[.string p] 9)) (w6.heap.size + 1) (.slice (some ⟨w6.heap.size, 0, none⟩) 1 1) [p] := by have h8 := StR.lit (w6.setCell ⟨g, 0, none⟩ (.slice a6 n6 c6)) p #[.string p] rfl; rw [hz7] at h8; exact h8
    have HLn4 : Hid (t.chs.length + [p].length ≤ 1099511627) := by show _ ≤ _; simp; omega
    have HF : Hid (∀ w9 gc cap, ((w6.setCell ⟨g, 0, none⟩ (.slice a6 n6 c6)).alloc (.cells #[.string p] 9)).grownBy w9 vc.ownBlock → StR.Own w9 0 (.slice (some ⟨gc, 0, none⟩) (t.chs.length + 1) cap) (t.chs ++ [p]) → (vc.ownBlock = some gc ∨ gc = w6.heap.size + 1) →
        (w9.cell? ⟨g, 1, none⟩ = some vc ∧ w9.frozen? ⟨g, 1, none⟩ = false) ∧ LeavesR w2 (w9.setCell ⟨g, 1, none⟩ (.slice (some ⟨gc, 0, none⟩) (t.chs.length + 1) cap)) g ⟨Tm.cut t.files p, t.chs ++ [p]⟩ S) := fun w9 gc cap hg h4 hat => by
      have b9 := (hg.block g (by rw [World.size_alloc]; have := (Array.getElem?_eq_some_iff.1 b7).1; omega) (fun e => hne e.symm)).trans ((Below.heap_alloc (w6.setCell ⟨g, 0, none⟩ (.slice a6 n6 c6)) (.cells #[.string p] 9) g (Array.getElem?_eq_some_iff.1 b7).1).trans b7)
      obtain ⟨-, x1, -, x2⟩ := HasR.cell0 b9
      exact ⟨⟨x1, x2⟩, HasR.after hb hty hc hSS hB6 (by rw [HPut.out]; exact hO6) hg h4 (by rw [World.size_alloc, hz7]; exact hat)⟩
    clear HPut hB6 hO6 hb hc hc7 b6 b7 hSS hf hne
    go_wp2_with (at_builtin; go_must (refine StR.append_at rfl _ _ rfl 0 _ _ _ t.chs [p] rfl hc8 rfl hL8 (by simp) HLn4 (Nat.zero_le _) ?_))
    intro gc cap w9 hO9 hg9 hat hlt9
    obtain ⟨⟨c19, f19⟩, hF⟩ := HF.out w9 gc cap hg9 hO9 hat
    have HFF : Hid _ := hF
    clear hF HF hO9 hg9 hat hlt9 hc8 hL8 HLn4
    go_wp2
    go_ret
    rw [HR.out]
    exact ⟨rfl, HC.out _ _ _ HFF.out⟩

  · rw [if_neg hr] at HR
    have q : (((Tm.read t p).2 : Int) != 0) = true := by simp; omega
    generalize (Tm.read t p).2 = n at *
    generalize (Tm.read t p).1 = x at *
    go_wp2
    go_ret
    rw [HR.out]
    exact ⟨rfl, LeavesR.same h hB1⟩

end Go.Proofs.Ytifolddmcibkdaa
