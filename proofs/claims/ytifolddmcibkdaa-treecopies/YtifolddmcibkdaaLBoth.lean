/-
  THE PROGRAM's TREE AND THE DOCUMENT's, SIDE BY SIDE, apart from what must stay.
-/
import Derived.Test.YtifolddmcibkdaaLOne
import Derived.Test.YtifolddmcibkdaaRRemove
import Derived.Test.YtifolddmcibkdaaRSince
import Derived.Test.YtifolddmcibkdaaTOk
namespace Go.Proofs.Ytifolddmcibkdaa
open Go.RowKit

/-- blocks g (the program's) and r (the document's) are the same tree t, laid since w0, apart from each other and from the blocks A -/
def Both (w0 w : World) (g r : Nat) (t : Tm.T) (A : List Nat) : Prop := ∃ S R, HasT w g t S ∧ HasR w r t R ∧ (∀ b ∈ S, w0.heap.size ≤ b ∧ b ∉ A ∧ b ∉ R) ∧ (∀ b ∈ R, w0.heap.size ≤ b ∧ b ∉ A) ∧ (∀ b ∈ A, b < w.heap.size) ∧ Below w0.heap.size w0 w
/-- the program's is a step ahead -/
def Mid (w0 w : World) (g r : Nat) (t' t : Tm.T) (A : List Nat) : Prop := ∃ R, One w0 w g t' (A ++ R) ∧ HasR w r t R ∧ (∀ b ∈ R, w0.heap.size ≤ b ∧ b ∉ A)
variable {w0 w : World} {g r : Nat} {t t' : Tm.T} {A : List Nat}
theorem Both.base (h : Both w0 w g r t A) : Below w0.heap.size w0 w := by
  obtain ⟨S, R, -, -, -, -, -, h⟩ := h; exact h
theorem Both.mid (h : Both w0 w g r t A) : Mid w0 w g r t t A := by
  obtain ⟨S, R, h1, h2, h3, h4, h5, h6⟩ := h
  refine ⟨R, ⟨S, h1, fun b hb => ⟨(h3 b hb).1, fun hm => ?_⟩, fun b hb => ?_, h6⟩, h2, h4⟩
  · rcases List.mem_append.1 hm with hm | hm
    · exact (h3 b hb).2.1 hm
    · exact (h3 b hb).2.2 hm
  · rcases List.mem_append.1 hb with hb | hb
    · exact h5 b hb
    · exact h2.lt b hb
theorem Both.below {w' : World} (h : Both w0 w g r t A) (hb : Below w.heap.size w w') : Both w0 w' g r t A ∧ KeepD A w w' := by
  obtain ⟨S, R, h1, h2, h3, h4, h5, h6⟩ := h
  exact ⟨⟨S, R, h1.below hb, h2.below hb, h3, h4, fun b hx => Nat.lt_of_lt_of_le (h5 b hx) hb.size, h6.trans (hb.mono h6.size)⟩, fun b hx => hb.block b (h5 b hx)⟩
theorem Mid.below {w' : World} (h : Mid w0 w g r t' t A) (hb : Below w.heap.size w w') : Mid w0 w' g r t' t A ∧ KeepD A w w' := by
  obtain ⟨R, h1, h2, h3⟩ := h
  obtain ⟨h4, h5⟩ := h1.below hb
  exact ⟨⟨R, h4, h2.below hb, h3⟩, fun b hx => h5 b (by simp [hx])⟩
/-- the document's takes the step too -/
theorem Mid.leaves {w' : World} {R : List Nat} (h1 : One w0 w g t' (A ++ R)) (h3 : ∀ b ∈ R, w0.heap.size ≤ b ∧ b ∉ A) (h : LeavesR w w' r t' R) : Both w0 w' g r t' A ∧ KeepD A w w' := by
  obtain ⟨S, a1, a2, a3, a4⟩ := h1
  obtain ⟨R', b1, b2, b3⟩ := h
  have hA : ∀ b ∈ A, b < w.heap.size := fun b hb => a3 b (by simp [hb])
  have hAR : ∀ b ∈ A, b ∉ R := fun b hb hr => (h3 b hr).2 hb
  refine ⟨⟨S, R', a1.turn b3 fun b hb hr => (a2 b hb).2 (by simp [hr]), b1, fun b hb => ⟨(a2 b hb).1, fun hm => (a2 b hb).2 (by simp [hm]), fun hm => ?_⟩, fun b hb => ?_, fun b hb => Nat.lt_of_lt_of_le (hA b hb) b3.size, a4.trans (b3.below' a4.size fun x hx => (h3 x hx).1)⟩, fun b hb => b3.block b (hA b hb) (hAR b hb)⟩
  · rcases b2 b hm with hx | hx
    · exact (a2 b hb).2 (by simp [hx])
    · have := a1.lt b hb; omega
  · rcases b2 b hb with hx | hx
    · exact h3 b hx
    · exact ⟨Nat.le_trans a4.size hx, fun ha => by have := hA b ha; omega⟩

theorem Both.more {w' : World} {A' : List Nat} (h : Both w0 w g r t A) (hb : Below w.heap.size w w') (hA : ∀ b ∈ A', w.heap.size ≤ b ∧ b < w'.heap.size) : Both w0 w' g r t (A ++ A') := by
  obtain ⟨S, R, h1, h2, h3, h4, h5, h6⟩ := h
  refine ⟨S, R, h1.below hb, h2.below hb, fun b hx => ⟨(h3 b hx).1, fun hm => ?_, (h3 b hx).2.2⟩, fun b hx => ⟨(h4 b hx).1, fun hm => ?_⟩, fun b hm => ?_, h6.trans (hb.mono h6.size)⟩
  · rcases List.mem_append.1 hm with hm | hm
    · exact (h3 b hx).2.1 hm
    · have := (hA b hm).1; have := h1.lt b hx; omega
  · rcases List.mem_append.1 hm with hm | hm
    · exact (h4 b hx).2 hm
    · have := (hA b hm).1; have := h2.lt b hx; omega
  · rcases List.mem_append.1 hm with hm | hm
    · exact Nat.lt_of_lt_of_le (h5 b hm) hb.size
    · exact (hA b hm).2
theorem Both.less {A' : List Nat} (h : Both w0 w g r t (A ++ A')) : Both w0 w g r t A := by
  obtain ⟨S, R, h1, h2, h3, h4, h5, h6⟩ := h
  exact ⟨S, R, h1, h2, fun b hx => ⟨(h3 b hx).1, fun hm => (h3 b hx).2.1 (by simp [hm]), (h3 b hx).2.2⟩, fun b hx => ⟨(h4 b hx).1, fun hm => (h4 b hx).2 (by simp [hm])⟩, fun b hm => h5 b (by simp [hm]), h6⟩
theorem KeepD.less {A A' : List Nat} {W W' : World} (h : KeepD (A ++ A') W W') : KeepD A W W' := fun b hb => h b (by simp [hb])
theorem KeepD.cell {A : List Nat} {W W' : World} {b j : Nat} {x : Option Value} (h : KeepD A W W') (hb : b ∈ A) (hc : W.cell? ⟨b, j, none⟩ = x) : W'.cell? ⟨b, j, none⟩ = x := (World.cell?_of_block (a := ⟨b, j, none⟩) (h b hb)).trans hc
theorem BWrite (p s : ByteArray) (h : Both w0 w g r t A) (hk : Tm.Ok t) :
    Calls Try.prog 18 #[.pointer (some ⟨g, 0, none⟩), .string p, .string s] w fun e w' => e = .returned (.int .i64 ((Tm.write t p s).1 : Int)) ∧ Mid w0 w' g r (Tm.write t p s).2 t A ∧ KeepD A w w' := by
  obtain ⟨R, h1, h2, h3⟩ := h.mid
  exact (OWrite g t _ p s w h1 hk).mono fun e w' ⟨he, ho, hd⟩ => ⟨he, ⟨R, ho, h2.keep fun b hb => hd b (by simp [hb]), h3⟩, fun b hb => hd b (by simp [hb])⟩
theorem BRemove (p : ByteArray) (h : Both w0 w g r t A) (hk : Tm.Ok t) :
    Calls Try.prog 19 #[.pointer (some ⟨g, 0, none⟩), .string p] w fun e w' => e = .returned (.int .i64 ((Tm.remove t p).1 : Int)) ∧ Mid w0 w' g r (Tm.remove t p).2 t A ∧ KeepD A w w' := by
  obtain ⟨R, h1, h2, h3⟩ := h.mid
  exact (ORemove g t _ p w h1 hk).mono fun e w' ⟨he, ho, hd⟩ => ⟨he, ⟨R, ho, h2.keep fun b hb => hd b (by simp [hb]), h3⟩, fun b hb => hd b (by simp [hb])⟩
theorem MWrite (p s : ByteArray) (h : Mid w0 w g r (Tm.write t p s).2 t A) (hk : Tm.Ok t) :
    Calls Try.prog 28 #[.pointer (some ⟨r, 0, none⟩), .string p, .string s] w fun e w' => e = .returned (.int .i64 ((Tm.write t p s).1 : Int)) ∧ Both w0 w' g r (Tm.write t p s).2 A ∧ KeepD A w w' := by
  obtain ⟨R, h1, h2, h3⟩ := h
  exact (WriteR_any r t R p s w h2 (by have := hk.few; omega) (by have := hk.chs; omega)).mono fun e w' ⟨he, hl⟩ => ⟨he, Mid.leaves h1 h3 hl⟩
theorem MRemove (p : ByteArray) (h : Mid w0 w g r (Tm.remove t p).2 t A) (hk : Tm.Ok t) :
    Calls Try.prog 29 #[.pointer (some ⟨r, 0, none⟩), .string p] w fun e w' => e = .returned (.int .i64 ((Tm.remove t p).1 : Int)) ∧ Both w0 w' g r (Tm.remove t p).2 A ∧ KeepD A w w' := by
  obtain ⟨R, h1, h2, h3⟩ := h
  exact (RemoveR_any r t R p w h2 (by have := hk.few; omega) (by have := hk.chs; omega)).mono fun e w' ⟨he, hl⟩ => ⟨he, Mid.leaves h1 h3 hl⟩

theorem BRead (p : ByteArray) (h : Both w0 w g r t A) (hk : Tm.Ok t) :
    Calls Try.prog 15 #[.pointer (some ⟨g, 0, none⟩), .string p] w fun e w' => e = .returned (.tuple #[.string (Tm.read t p).1, .int .i64 ((Tm.read t p).2 : Int)]) ∧ Below w.heap.size w w' := by
  obtain ⟨S, R, h1, h2, -⟩ := h
  exact TRead_any g t S p w h1 hk
theorem BReadR (p : ByteArray) (h : Both w0 w g r t A) (hk : Tm.Ok t) :
    Calls Try.prog 30 #[.pointer (some ⟨r, 0, none⟩), .string p] w fun e w' => e = .returned (.tuple #[.string (Tm.read t p).1, .int .i64 ((Tm.read t p).2 : Int)]) ∧ Below w.heap.size w w' := by
  obtain ⟨S, R, h1, h2, -⟩ := h
  exact ReadR_any r t R p w h2 (by have := hk.few; omega)
theorem BListed (pre : ByteArray) (h : Both w0 w g r t A) (hk : Tm.Ok t) :
    Calls Try.prog 17 #[.pointer (some ⟨g, 0, none⟩), .string pre] w fun e w' => ∃ v, e = .returned (.tuple #[v, .bool true]) ∧ StR.Own w' w.heap.size v (Tm.list t pre) ∧ Below w.heap.size w w' := by
  obtain ⟨S, R, h1, h2, -⟩ := h
  exact listed_any g t S pre w h1 hk
theorem BListR (pre : ByteArray) (h : Both w0 w g r t A) (hk : Tm.Ok t) :
    Calls Try.prog 31 #[.pointer (some ⟨r, 0, none⟩), .string pre] w fun e w' => ∃ v, e = .returned v ∧ StR.Own w' w.heap.size v (Tm.list t pre) ∧ Below w.heap.size w w' := by
  obtain ⟨S, R, h1, h2, -⟩ := h
  exact ListR_any r t R pre w h2 (by have := hk.few; omega)
theorem BSince (m : Int) (h : Both w0 w g r t A) (hk : Tm.Ok t) :
    Calls Try.prog 16 #[.pointer (some ⟨g, 0, none⟩), .int .i64 m] w fun e w' => ∃ v, e = .returned (.tuple #[v, .bool (Tm.since t m).2]) ∧ StR.Sl w' w'.heap.size v (Tm.since t m).1 ∧ Below w.heap.size w w' := by
  obtain ⟨S, R, h1, h2, -⟩ := h
  exact TSince_any g t S m w h1 hk
theorem BSinceR (m : Int) (h : Both w0 w g r t A) (hk : Tm.Ok t) :
    Calls Try.prog 27 #[.pointer (some ⟨r, 0, none⟩), .int .i64 m] w fun e w' => ∃ v, e = .returned (.tuple #[v, .bool (Tm.since t m).2]) ∧ StR.Own w' w.heap.size v (Tm.since t m).1 ∧ Below w.heap.size w w' := by
  obtain ⟨S, R, h1, h2, -⟩ := h
  exact SinceR_any r t R m w h2 (by have := hk.chs; omega)
/-- the document's cells -/
theorem Both.cells (h : Both w0 w g r t A) : ∃ vf vc, w.cell? ⟨r, 0, none⟩ = some vf ∧ w.cell? ⟨r, 1, none⟩ = some vc ∧ FlR.Sl w w.heap.size vf t.files ∧ StR.Sl w w.heap.size vc t.chs ∧ r < w.heap.size := by
  obtain ⟨S, R, h1, ⟨vf, vc, ty, hb, hty, hf, hc, rfl⟩, -⟩ := h
  obtain ⟨c0, c1, -, -⟩ := HasR.cell0 hb
  exact ⟨vf, vc, c0, c1, hf.sl, hc.sl, (Array.getElem?_eq_some_iff.1 hb).1⟩
theorem ins_len (l : List ByteArray) (p : ByteArray) : (Tm.ins l p).length ≤ l.length + 1 := by
  unfold Tm.ins
  simp only
  split
  · omega
  · simp only [List.length_append, List.length_cons, List.length_take, List.length_drop]; omega
theorem since_len (t : Tm.T) (m : Int) : (Tm.since t m).1.length ≤ t.chs.length := by
  have h : ∀ (l a : List ByteArray), (l.foldl Tm.ins a).length ≤ a.length + l.length := by
    intro l
    induction l with
    | nil => intro a; simp
    | cons x l ih =>
      intro a
      have h1 := ih (Tm.ins a x)
      have h2 := ins_len a x
      simp only [List.foldl_cons, List.length_cons]
      omega
  unfold Tm.since
  split
  · simp
  · have := h (t.chs.drop m.toNat) []
    simp only [List.length_nil, List.length_drop] at this
    simp only
    omega
theorem list_len {t : Tm.T} (hk : Tm.Ok t) (pre : ByteArray) : (Tm.list t pre).length ≤ 256 := list_few hk pre

/-- two new trees -/
theorem Both.new {S : List Nat} (hT : HasT w g Tm.T.zero S) (hS : ∀ b ∈ S, w0.heap.size ≤ b) (hB : Below w0.heap.size w0 w) : Both w0 (w.alloc (.cells #[.slice none 0 0, .slice none 0 0] 37)) g w.heap.size Tm.T.zero [] := by
  have hb : Below w.heap.size w (w.alloc (.cells #[.slice none 0 0, .slice none 0 0] 37)) := (Below.refl _ _).alloc (Nat.le_refl _) _
  refine ⟨S, [w.heap.size], hT.below hb, HasR.new w, fun b hx => ⟨hS b hx, by simp, fun hm => ?_⟩, fun b hx => ⟨?_, by simp⟩, by simp, hB.trans (hb.mono hB.size)⟩
  · rw [List.mem_singleton.1 hm] at hx
    have := hT.lt _ hx
    omega
  · rw [List.mem_singleton.1 hx]; exact hB.size

end Go.Proofs.Ytifolddmcibkdaa
