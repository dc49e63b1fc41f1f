/-
  THE ANSWERS OF THE EXAMPLES.
-/
import Derived.Test.YtplfcpbjlhobeaaKMath
import Derived.Test.YtplfcpbjlhobeaaDFind
import Derived.Test.YtplfcpbjlhobeaaDWorks
import Derived.Test.YtplfcpbjlhobeaaRSame
import Derived.Test.YtplfcpbjlhobeaaDPut
namespace Go.Proofs.Ytplfcpbjlhobeaa
open Go.RowKit

/-- leaf of keys that were written out -/
theorem leafL (ks : List ByteArray) (n : Nat) (hn : ks.length = n) (h1 : ks.length ≤ 1000) (W : World) (k : Nat) (hk : W.heap.size = k) :
    Calls Try.prog 9 #[.slice (some ⟨k, 0, none⟩) n n] (W.alloc (.cells (ks.map Value.string).toArray 9)) fun e w' => ∃ ad c, e = .returned (.agg #[.bool true, .slice ad n c, .slice none 0 0]) ∧ NdS w' w'.heap.size (.agg #[.bool true, .slice ad n c, .slice none 0 0]) (Cm.leafN ks) ∧ Below W.heap.size W w' := by
  subst hn
  subst hk
  refine (leaf_any ks _ _ _ h1 fun j hj => ⟨W.heap.size, 0, rfl, by simp, ?_⟩).mono ?_
  · rw [cell_of_row _ _ _ _ _ _ (heap_alloc_new W (.cells (ks.map Value.string).toArray 9))]
    simp [List.getD, List.getElem?_eq_getElem hj]
  · rintro e w' ⟨vi, rfl, ho, hb⟩
    obtain ⟨ad, c, hv, -⟩ := ho.its
    rw [show (Cm.leafN ks).items.length = ks.length by simp [Cm.leafN]] at hv
    subst hv
    exact ⟨ad, c, rfl, ⟨_, _, rfl, ho.its, Ints.nil _ _⟩, ((Below.refl W.heap.size W).alloc (Nat.le_refl _) _).trans (hb.mono (by simp))⟩
theorem leaf0 (W : World) :
    Calls Try.prog 9 #[.slice none 0 0] W fun e w' => ∃ ad c, e = .returned (.agg #[.bool true, .slice ad 0 c, .slice none 0 0]) ∧ NdS w' w'.heap.size (.agg #[.bool true, .slice ad 0 c, .slice none 0 0]) (Cm.leafN []) ∧ Below W.heap.size W w' := by
  refine (leaf_any [] none 0 W (by simp) fun j hj => by simp at hj).mono ?_
  rintro e w' ⟨vi, rfl, ho, hb⟩
  obtain ⟨ad, c, hv, -⟩ := ho.its
  rw [show (Cm.leafN []).items.length = 0 by rfl] at hv
  subst hv
  exact ⟨ad, c, rfl, ⟨_, _, rfl, ho.its, Ints.nil _ _⟩, hb⟩

theorem al_size (W : World) (o : Obj) : (W.alloc o).heap.size = W.heap.size + 1 := by simp
theorem al_le (W : World) (o : Obj) : W.heap.size ≤ (W.alloc o).heap.size := by simp
def zeros255 : List UInt8 := List.replicate 255 0
theorem getZ0 (W : World) (k : Nat) (hk : W.heap.size = k) : Calls Try.prog 7 #[.slice (some ⟨k, 0, none⟩) 240 240] (W.alloc (.cells (bV Cm.noughts).toArray 5)) fun e w' => e = .returned (.tuple #[.agg #[.bool false, .slice none 0 0, .slice none 0 0], .int .i64 7]) ∧ Below W.heap.size W w' := by
  subst hk
  refine (Get_any _ Cm.noughts _ _ (byts_lit W _ Cm.noughts 240 rfl (by decide +kernel)) (Nat.le_of_eq (al_size W _).symm)).mono ?_
  rintro e w' ⟨h | h, hb⟩
  · obtain ⟨n, vi, vk, h, -⟩ := h
    rw [show Cm.noughts = List.replicate 240 0 from rfl, k_get0] at h
    cases h
  · exact ⟨h.2, ((Below.refl W.heap.size W).alloc (Nat.le_refl _) _).trans (hb.mono (al_le W _))⟩
theorem getZ1 (W : World) (k : Nat) (hk : W.heap.size = k) : Calls Try.prog 7 #[.slice (some ⟨k, 0, none⟩) 255 255] (W.alloc (.cells (bV zeros255).toArray 5)) fun e w' => e = .returned (.tuple #[.agg #[.bool false, .slice none 0 0, .slice none 0 0], .int .i64 7]) ∧ Below W.heap.size W w' := by
  subst hk
  refine (Get_any _ zeros255 _ _ (byts_lit W _ zeros255 255 rfl (by decide +kernel)) (Nat.le_of_eq (al_size W _).symm)).mono ?_
  rintro e w' ⟨h | h, hb⟩
  · obtain ⟨n, vi, vk, h, -⟩ := h
    rw [show zeros255 = List.replicate 255 0 from rfl, k_get1] at h
    cases h
  · exact ⟨h.2, ((Below.refl W.heap.size W).alloc (Nat.le_refl _) _).trans (hb.mono (al_le W _))⟩
theorem find0 (W : World) (v : Value) (h : NdS W W.heap.size v (Cm.leafN [sA, sC])) : Calls Try.prog 8 #[v, .string sB] W fun e w' => e = .returned (.tuple #[.int .i64 1, .bool false]) ∧ Below W.heap.size W w' := by
  have := cfind_any _ sB v _ W h (Nat.le_refl _) (by decide) (by decide)
  rwa [if_pos k_find0.1, k_find0.2.1, k_find0.2.2, Bool.and_false] at this
theorem find1 (W : World) (v : Value) (h : NdS W W.heap.size v Cm.exN) : Calls Try.prog 8 #[v, .string sB] W fun e w' => e = .returned (.tuple #[.int .i64 1, .bool true]) ∧ Below W.heap.size W w' := by
  have := cfind_any _ sB v _ W h (Nat.le_refl _) (by decide) (by decide)
  rwa [if_pos k_find1.1, k_find1.2.1, k_find1.2.2.1, decide_eq_true k_find1.1, Bool.and_true] at this
theorem find2 (W : World) (v : Value) (h : NdS W W.heap.size v Cm.exN) : Calls Try.prog 8 #[v, .string sA] W fun e w' => e = .returned (.tuple #[.int .i64 0, .bool false]) ∧ Below W.heap.size W w' := by
  have := cfind_any _ sA v _ W h (Nat.le_refl _) (by decide) (by decide)
  rwa [if_pos k_find1.1, k_find1.2.2.2.1, k_find1.2.2.2.2, Bool.and_false] at this
theorem half0 (W : World) (v : Value) (h : NdS W W.heap.size v (Cm.leafN [sA, sB, sC])) : Calls Try.prog 10 #[v] W fun e w' => ∃ aa ca ka da ab cb kb db, e = .returned (.tuple #[.agg #[.bool true, .slice aa 1 ca, .slice ka 0 da], .string sB, .agg #[.bool true, .slice ab 2 cb, .slice kb 0 db], .int .i64 0]) ∧
    NdS w' w'.heap.size (.agg #[.bool true, .slice aa 1 ca, .slice ka 0 da]) (Cm.leafN [sA]) ∧ NdS w' w'.heap.size (.agg #[.bool true, .slice ab 2 cb, .slice kb 0 db]) (Cm.leafN [sB, sC]) ∧ Below W.heap.size W w' := by
  refine (Half_any _ v _ W h (Nat.le_refl _) (by decide) (by decide)).mono ?_
  rintro e w' ⟨h | h | h, hb⟩
  · exact absurd k_half0.1 h.1
  · rw [k_half0.2] at h; cases h.2.1
  · obtain ⟨-, a, key, b, vai, vak, vbi, vbk, h1, rfl, h2, h3, h4, h5⟩ := h
    rw [k_half0.2] at h1
    cases h1
    obtain ⟨aa, ca, rfl, -⟩ := h2.its
    obtain ⟨ka, da, rfl, -⟩ := h3.ints
    obtain ⟨ab, cb, rfl, -⟩ := h4.its
    obtain ⟨kb, db, rfl, -⟩ := h5.ints
    exact ⟨aa, ca, ka, da, ab, cb, kb, db, rfl, ⟨_, _, rfl, h2.its, h3.ints⟩, ⟨_, _, rfl, h4.its, h5.ints⟩, hb⟩
theorem half1 (W : World) (v : Value) (h : NdS W W.heap.size v (Cm.leafN [sA])) : Calls Try.prog 10 #[v] W fun e w' => e = .returned (.tuple #[.agg #[.bool false, .slice none 0 0, .slice none 0 0], .string ⟨#[]⟩, .agg #[.bool false, .slice none 0 0, .slice none 0 0], .int .i64 4]) ∧ Below W.heap.size W w' := by
  refine (Half_any _ v _ W h (Nat.le_refl _) (by decide) (by decide)).mono ?_
  rintro e w' ⟨h | h | h, hb⟩
  · exact absurd k_half1.1 h.1
  · exact ⟨h.2.2, hb⟩
  · obtain ⟨-, a, key, b, vai, vak, vbi, vbk, h1, -⟩ := h
    rw [k_half1.2] at h1
    cases h1
theorem join0 (W : World) (v u : Value) (h : NdS W W.heap.size v (Cm.leafN [sA])) (h' : NdS W W.heap.size u (Cm.leafN [sB, sC])) : Calls Try.prog 11 #[v, .string sB, u] W fun e w' => ∃ aa ca ka da, e = .returned (.tuple #[.agg #[.bool true, .slice aa 3 ca, .slice ka 0 da], .int .i64 0]) ∧
    NdS w' w'.heap.size (.agg #[.bool true, .slice aa 3 ca, .slice ka 0 da]) (Cm.leafN [sA, sB, sC]) ∧ Below W.heap.size W w' := by
  refine (Join_any _ _ sB v u _ W h h' (Nat.le_refl _) (by decide) (by decide) (by decide) (by decide)).mono ?_
  rintro e w' ⟨h | h | h, hb⟩
  · exact absurd k_join0.1 h.1
  · rw [k_join0.2.1] at h
    exact absurd h.2.1 k_join0.2.2
  · rw [k_join0.2.1] at h
    obtain ⟨-, -, vi, vk, rfl, h2, h3⟩ := h
    obtain ⟨aa, ca, rfl, -⟩ := h2.its
    obtain ⟨ka, da, rfl, -⟩ := h3.ints
    exact ⟨aa, ca, ka, da, rfl, ⟨_, _, rfl, h2.its, h3.ints⟩, hb⟩
theorem join1 (W : World) (v u : Value) (h : NdS W W.heap.size v (Cm.leafN [sA])) (h' : NdS W W.heap.size u (Cm.leafN [sB])) : Calls Try.prog 11 #[v, .string sA, u] W fun e w' => e = .returned (.tuple #[.agg #[.bool false, .slice none 0 0, .slice none 0 0], .int .i64 2]) ∧ Below W.heap.size W w' := by
  refine (Join_any _ _ sA v u _ W h h' (Nat.le_refl _) (by decide) (by decide) (by decide) (by decide)).mono ?_
  rintro e w' ⟨h | h | h, hb⟩
  · exact ⟨h.2, hb⟩
  · exact absurd h.1 k_join1
  · exact absurd h.1 k_join1

theorem st0 {W a b : World} (h : Below W.heap.size W a) (hb : Below a.heap.size a b) : Below W.heap.size W b := h.trans (hb.mono h.size)
theorem st1 {W a b : World} {o : Obj} (h : Below W.heap.size W a) (hb : Below (a.alloc o).heap.size (a.alloc o) b) : Below W.heap.size W b := st0 (h.alloc h.size o) hb
theorem st2 {W a b : World} {o o1 : Obj} (h : Below W.heap.size W a) (hb : Below ((a.alloc o).alloc o1).heap.size ((a.alloc o).alloc o1) b) : Below W.heap.size W b := st1 (h.alloc h.size o) hb
theorem st3 {W a b : World} {o o1 o2 : Obj} (h : Below W.heap.size W a) (hb : Below (((a.alloc o).alloc o1).alloc o2).heap.size (((a.alloc o).alloc o1).alloc o2) b) : Below W.heap.size W b := st2 (h.alloc h.size o) hb
/-- a node that stands stays -/
theorem nds_up {a b : World} {v : Value} {n : Cm.Nd} (h : NdS a a.heap.size v n) (hb : Below a.heap.size a b) : NdS b b.heap.size v n := (h.below hb (Nat.le_refl _)).mono hb.size

theorem size0 (W : World) (v : Value) (h : NdS W W.heap.size v (Cm.leafN [])) : Calls Try.prog 12 #[v] W fun e w' => e = .returned (.int .i64 2) ∧ Below W.heap.size W w' := by
  have := Size_any _ v _ W h (Nat.le_refl _) (by decide) (by decide)
  rwa [k_size0] at this
theorem size1 (W : World) (k : Nat) (hk : W.heap.size = k) : Calls Try.prog 12 #[.agg #[.bool true, .slice (some ⟨k, 0, none⟩) 1 1, .slice none 0 0]] (W.alloc (.cells #[.string sA, .string ⟨#[120, 121]⟩, .int .i64 0, .int .i64 0] 24)) fun e w' => e = .returned (.int .i64 7) ∧ Below (W.alloc (.cells #[.string sA, .string ⟨#[120, 121]⟩, .int .i64 0, .int .i64 0] 24)).heap.size (W.alloc (.cells #[.string sA, .string ⟨#[120, 121]⟩, .int .i64 0, .int .i64 0] 24)) w' := by
  subst hk
  have := Size_any ⟨true, [⟨sA, ⟨#[120, 121]⟩, 0, 0⟩], []⟩ (.agg #[.bool true, .slice (some ⟨W.heap.size, 0, none⟩) 1 1, .slice none 0 0]) _ _ ⟨_, _, rfl, its_one ⟨sA, ⟨#[120, 121]⟩, 0, 0⟩ (heap_alloc_new W _), Ints.nil _ _⟩ (Nat.le_refl _) (by decide) (by decide)
  rwa [k_size1] at this
theorem size2 (W : World) : Calls Try.prog 12 #[.agg #[.bool false, .slice none 0 0, .slice none 0 0]] W fun e w' => e = .returned (.int .i64 0) ∧ Below W.heap.size W w' := by
  have := Size_any ⟨false, [], []⟩ (.agg #[.bool false, .slice none 0 0, .slice none 0 0]) _ W ⟨_, _, rfl, Its.nil _ W.heap.size, Ints.nil _ _⟩ (Nat.le_refl _) (by decide) (by decide)
  rwa [k_size2.1] at this
theorem check0 (W : World) : Calls Try.prog 13 #[.agg #[.bool false, .slice none 0 0, .slice none 0 0]] W fun e w' => e = .returned (.int .i64 2) ∧ Below W.heap.size W w' := by
  have := Check_any ⟨false, [], []⟩ (.agg #[.bool false, .slice none 0 0, .slice none 0 0]) _ W ⟨_, _, rfl, Its.nil _ W.heap.size, Ints.nil _ _⟩ (Nat.le_refl _) (by decide) (by decide)
  rwa [k_size2.2] at this
theorem same0 (ks : List ByteArray) (W : World) (v u : Value) (h : NdS W W.heap.size v (Cm.leafN ks)) (h' : NdS W W.heap.size u (Cm.leafN ks)) (hl : (Cm.leafN ks).items.length ≤ 1000000 := by decide) : Calls Try.prog 14 #[v, u] W fun e w' => e = .returned (.bool true) ∧ Below W.heap.size W w' := by
  have := Same_any _ _ v u _ W h h' (Nat.le_refl _) hl (by simp [Cm.leafN])
  rwa [decide_eq_true rfl] at this

end Go.Proofs.Ytplfcpbjlhobeaa
