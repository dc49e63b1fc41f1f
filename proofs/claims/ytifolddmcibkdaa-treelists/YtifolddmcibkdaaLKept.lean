/-
  A TREE, ITS COPY, AND WHAT WAS LISTED OF IT: the tree goes on, the others stay.
-/
import Derived.Test.YtifolddmcibkdaaLOne
import Derived.Test.YtifolddmcibkdaaTLaw
namespace Go.Proofs.Ytifolddmcibkdaa
open Go.RowKit

/-- what Copy does -/
def CopyDoes : Prop := ∀ (g : Nat) (t : Tm.T) (S : List Nat) (w : World), HasT w g t S → Tm.Ok t →
  Calls Try.prog 22 #[.pointer (some ⟨g, 0, none⟩)] w fun e w' => ∃ g2 S2, e = .returned (.pointer (some ⟨g2, 0, none⟩)) ∧ HasT w' g2 t S2 ∧ (∀ b ∈ S2, w.heap.size ≤ b) ∧ Below w.heap.size w w'

theorem Tm.step_write {t : Tm.T} {o : Tm.Op} (h : o.kind = 0) : Tm.step t o = (Tm.write t o.path o.text).2 := by unfold Tm.step; rw [if_pos h]
theorem Tm.step_remove {t : Tm.T} {o : Tm.Op} (h : o.kind = 1) : Tm.step t o = (Tm.remove t o.path).2 := by unfold Tm.step; rw [if_neg (by omega), if_pos h]
theorem Tm.step_other {t : Tm.T} {o : Tm.Op} (h0 : o.kind ≠ 0) (h1 : o.kind ≠ 1) : Tm.step t o = t := by unfold Tm.step; rw [if_neg h0, if_neg h1]

theorem Rc.Own.keep {α : Type} {R : Rc α} {w w' : World} {base : Nat} {v : Value} {l : List α} (h : R.Own w base v l) (hk : ∀ g, v.ownBlock = some g → w'.heap[g]? = w.heap[g]?) : R.Own w' base v l := by
  refine ⟨h.1, ?_⟩
  rcases h.2 with h | ⟨g, cap, cur, rfl, h2, h3, h4⟩
  · exact .inl h
  · exact .inr ⟨g, cap, cur, rfl, h2, (hk g rfl).trans h3, h4⟩
theorem OCopy (hC : CopyDoes) {w0 : World} (g : Nat) (t : Tm.T) (A : List Nat) (w : World) (h : One w0 w g t A) (hk : Tm.Ok t) :
    Calls Try.prog 22 #[.pointer (some ⟨g, 0, none⟩)] w fun e w' => ∃ g2 S2, e = .returned (.pointer (some ⟨g2, 0, none⟩)) ∧ HasT w' g2 t S2 ∧ One w0 w' g t (A ++ S2) ∧ (∀ b ∈ S2, w.heap.size ≤ b) ∧ Below w.heap.size w w' := by
  have h' := h
  obtain ⟨S, h1, h2, h3, h4⟩ := h
  exact (hC g t S w h1 hk).mono fun e w' ⟨g2, S2, he, hT, hn, hb⟩ => ⟨g2, S2, he, hT, h'.more hb fun b hm => ⟨hn b hm, hT.lt b hm⟩, hn, hb⟩
theorem OListed2 {w0 : World} (g : Nat) (t : Tm.T) (A : List Nat) (pre : ByteArray) (w : World) (h : One w0 w g t A) (hk : Tm.Ok t) :
    Calls Try.prog 17 #[.pointer (some ⟨g, 0, none⟩), .string pre] w fun e w' => ∃ v, e = .returned (.tuple #[v, .bool true]) ∧ StR.Own w' w.heap.size v (Tm.list t pre) ∧ One w0 w' g t (A ++ v.ownBlock.toList) ∧ Below w.heap.size w w' := by
  have h' := h
  obtain ⟨S, h1, h2, h3, h4⟩ := h
  exact (listed_any g t S pre w h1 hk).mono fun e w' ⟨v, he, hv, hl⟩ => ⟨v, he, hv, h'.more hl fun b hm => hv.lt b (by simpa using hm), hl⟩

/-- the tree g is t'; its copy g2 is t, and v, what was listed, is L: both stay -/
def KS (w0 w : World) (g : Nat) (t' : Tm.T) (g2 : Nat) (t : Tm.T) (v : Value) (L : List ByteArray) : Prop := ∃ S2, One w0 w g t' (S2 ++ v.ownBlock.toList) ∧ HasT w g2 t S2 ∧ StR.Own w 0 v L
theorem KS.step {w0 w w' : World} {g g2 : Nat} {t1 t2 t : Tm.T} {v : Value} {L : List ByteArray} {S2 : List Nat} (hT : HasT w g2 t S2) (hv : StR.Own w 0 v L) (ho : One w0 w' g t2 (S2 ++ v.ownBlock.toList)) (hk : KeepD (S2 ++ v.ownBlock.toList) w w') (_h : t1 = t1) : KS w0 w' g t2 g2 t v L :=
  ⟨S2, ho, hT.keep fun b hb => hk b (by simp [hb]), hv.keep fun b hb => hk b (by simp [hb])⟩
variable {w0 w : World} {g g2 : Nat} {t' t : Tm.T} {v : Value} {L : List ByteArray}
theorem KS.below {w' : World} (h : KS w0 w g t' g2 t v L) (hb : Below w.heap.size w w') : KS w0 w' g t' g2 t v L := by
  obtain ⟨S2, h1, h2, h3⟩ := h
  obtain ⟨h4, h5⟩ := h1.below hb
  exact ⟨S2, h4, h2.below hb, h3.below hb (Nat.le_refl _)⟩
theorem KS.base (h : KS w0 w g t' g2 t v L) : Below w0.heap.size w0 w := by
  obtain ⟨S2, h1, -⟩ := h
  exact h1.base
theorem KWrite (p s : ByteArray) (h : KS w0 w g t' g2 t v L) (hk : Tm.Ok t') :
    Calls Try.prog 18 #[.pointer (some ⟨g, 0, none⟩), .string p, .string s] w fun e w' => e = .returned (.int .i64 ((Tm.write t' p s).1 : Int)) ∧ KS w0 w' g (Tm.write t' p s).2 g2 t v L := by
  obtain ⟨S2, h1, h2, h3⟩ := h
  exact (OWrite g t' _ p s w h1 hk).mono fun e w' ⟨he, ho, hd⟩ => ⟨he, KS.step (t1 := t') h2 h3 ho hd rfl⟩
theorem KRemove (p : ByteArray) (h : KS w0 w g t' g2 t v L) (hk : Tm.Ok t') :
    Calls Try.prog 19 #[.pointer (some ⟨g, 0, none⟩), .string p] w fun e w' => e = .returned (.int .i64 ((Tm.remove t' p).1 : Int)) ∧ KS w0 w' g (Tm.remove t' p).2 g2 t v L := by
  obtain ⟨S2, h1, h2, h3⟩ := h
  exact (ORemove g t' _ p w h1 hk).mono fun e w' ⟨he, ho, hd⟩ => ⟨he, KS.step (t1 := t') h2 h3 ho hd rfl⟩
theorem KRead (p : ByteArray) (h : KS w0 w g t' g2 t v L) (hk : Tm.Ok t') :
    Calls Try.prog 15 #[.pointer (some ⟨g, 0, none⟩), .string p] w fun e w' => e = .returned (.tuple #[.string (Tm.read t' p).1, .int .i64 ((Tm.read t' p).2 : Int)]) ∧ KS w0 w' g t' g2 t v L ∧ Below w.heap.size w w' := by
  have h' := h
  obtain ⟨S2, ⟨S, h1, -⟩, h2, h3⟩ := h
  exact (TRead_any g t' S p w h1 hk).mono fun e w' ⟨he, hl⟩ => ⟨he, h'.below hl, hl⟩
theorem KMark (h : KS w0 w g t' g2 t v L) (hk : Tm.Ok t') :
    Calls Try.prog 21 #[.pointer (some ⟨g, 0, none⟩)] w fun e w' => e = .returned (.int .i64 (t'.chs.length : Int)) ∧ KS w0 w' g t' g2 t v L ∧ Below w.heap.size w w' := by
  have h' := h
  obtain ⟨S2, ⟨S, h1, -⟩, h2, h3⟩ := h
  exact (TMark_any g t' S w h1 hk).mono fun e w' ⟨he, hl⟩ => ⟨he, h'.below hl, hl⟩
theorem KRead2 (p : ByteArray) (h : KS w0 w g t' g2 t v L) (hk : Tm.Ok t) :
    Calls Try.prog 15 #[.pointer (some ⟨g2, 0, none⟩), .string p] w fun e w' => e = .returned (.tuple #[.string (Tm.read t p).1, .int .i64 ((Tm.read t p).2 : Int)]) ∧ KS w0 w' g t' g2 t v L ∧ Below w.heap.size w w' := by
  have h' := h
  obtain ⟨S2, h1, h2, h3⟩ := h
  exact (TRead_any g2 t S2 p w h2 hk).mono fun e w' ⟨he, hl⟩ => ⟨he, h'.below hl, hl⟩
theorem KListed (pre : ByteArray) (h : KS w0 w g t' g2 t v L) (hk : Tm.Ok t') :
    Calls Try.prog 17 #[.pointer (some ⟨g, 0, none⟩), .string pre] w fun e w' => ∃ v2, e = .returned (.tuple #[v2, .bool true]) ∧ StR.Sl w' w'.heap.size v2 (Tm.list t' pre) ∧ KS w0 w' g t' g2 t v L := by
  have h' := h
  obtain ⟨S2, h1, h2, h3⟩ := h
  exact (OListed2 g t' _ pre w h1 hk).mono fun e w' ⟨v2, he, hv, ho, hb⟩ => ⟨v2, he, hv.sl, h'.below hb⟩
theorem KS.sl (h : KS w0 w g t' g2 t v L) : StR.Sl w w.heap.size v L := by
  obtain ⟨S2, -, -, h3⟩ := h
  exact h3.sl

end Go.Proofs.Ytifolddmcibkdaa
