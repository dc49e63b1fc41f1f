/-
  ONE TREE, AND WHAT ELSE MUST STAY.
-/
import Derived.Test.YtifolddmcibkdaaLListed
import Derived.Test.YtifolddmcibkdaaLTexts
import Derived.Test.YtifolddmcibkdaaLOps
namespace Go.Proofs.Ytifolddmcibkdaa
open Go.RowKit

/-- block g is the tree t, laid since w0, apart from the blocks A -/
def One (w0 w : World) (g : Nat) (t : Tm.T) (A : List Nat) : Prop := ∃ S, HasT w g t S ∧ (∀ b ∈ S, w0.heap.size ≤ b ∧ b ∉ A) ∧ (∀ b ∈ A, b < w.heap.size) ∧ Below w0.heap.size w0 w

theorem One.base {w0 w : World} {g : Nat} {t : Tm.T} {A : List Nat} (h : One w0 w g t A) : Below w0.heap.size w0 w := by
  obtain ⟨S, -, -, -, h⟩ := h; exact h
theorem One.below {w0 w w' : World} {g : Nat} {t : Tm.T} {A : List Nat} (h : One w0 w g t A) (hb : Below w.heap.size w w') : One w0 w' g t A ∧ KeepD A w w' := by
  obtain ⟨S, h1, h2, h3, h4⟩ := h
  exact ⟨⟨S, h1.below hb, h2, fun b hb' => Nat.lt_of_lt_of_le (h3 b hb') hb.size, h4.trans (hb.mono h4.size)⟩, fun b hb' => hb.block b (h3 b hb')⟩
theorem One.leaves {w0 w w' : World} {g : Nat} {t' : Tm.T} {A S : List Nat} (hS : ∀ b ∈ S, w0.heap.size ≤ b ∧ b ∉ A) (hA : ∀ b ∈ A, b < w.heap.size) (hB : Below w0.heap.size w0 w) (h : LeavesT w w' g t' S) : One w0 w' g t' A ∧ KeepD A w w' := by
  obtain ⟨S', h1, h2, h3⟩ := h
  refine ⟨⟨S', h1, fun b hb => ?_, fun b hb => Nat.lt_of_lt_of_le (hA b hb) h3.size, hB.trans (h3.below' hB.size fun b hb => (hS b hb).1)⟩, fun b hb => h3.block b (hA b hb) fun hx => (hS b hx).2 hb⟩
  rcases h2 b hb with hx | hx
  · exact hS b hx
  · exact ⟨Nat.le_trans hB.size hx, fun ha => by have := hA b ha; omega⟩
/-- more that must stay: what was laid behind the tree -/
theorem One.more {w0 w w' : World} {g : Nat} {t : Tm.T} {A A' : List Nat} (h : One w0 w g t A) (hb : Below w.heap.size w w') (hA : ∀ b ∈ A', w.heap.size ≤ b ∧ b < w'.heap.size) : One w0 w' g t (A ++ A') := by
  obtain ⟨S, h1, h2, h3, h4⟩ := h
  refine ⟨S, h1.below hb, fun b hx => ⟨(h2 b hx).1, fun hm => ?_⟩, fun b hm => ?_, h4.trans (hb.mono h4.size)⟩
  · rcases List.mem_append.1 hm with hm | hm
    · exact (h2 b hx).2 hm
    · have := (hA b hm).1; have := h1.lt b hx; omega
  · rcases List.mem_append.1 hm with hm | hm
    · exact Nat.lt_of_lt_of_le (h3 b hm) hb.size
    · exact (hA b hm).2

theorem OWrite {w0 : World} (g : Nat) (t : Tm.T) (A : List Nat) (p s : ByteArray) (w : World) (h : One w0 w g t A) (hk : Tm.Ok t) :
    Calls Try.prog 18 #[.pointer (some ⟨g, 0, none⟩), .string p, .string s] w fun e w' => e = .returned (.int .i64 ((Tm.write t p s).1 : Int)) ∧ One w0 w' g (Tm.write t p s).2 A ∧ KeepD A w w' := by
  obtain ⟨S, h1, h2, h3, h4⟩ := h
  exact (TWrite_any g t S p s w h1 hk).mono fun e w' ⟨he, hl⟩ => ⟨he, One.leaves h2 h3 h4 hl⟩
theorem ORemove {w0 : World} (g : Nat) (t : Tm.T) (A : List Nat) (p : ByteArray) (w : World) (h : One w0 w g t A) (hk : Tm.Ok t) :
    Calls Try.prog 19 #[.pointer (some ⟨g, 0, none⟩), .string p] w fun e w' => e = .returned (.int .i64 ((Tm.remove t p).1 : Int)) ∧ One w0 w' g (Tm.remove t p).2 A ∧ KeepD A w w' := by
  obtain ⟨S, h1, h2, h3, h4⟩ := h
  exact (TRemove_any g t S p w h1 hk).mono fun e w' ⟨he, hl⟩ => ⟨he, One.leaves h2 h3 h4 hl⟩
theorem ORead {w0 : World} (g : Nat) (t : Tm.T) (A : List Nat) (p : ByteArray) (w : World) (h : One w0 w g t A) (hk : Tm.Ok t) :
    Calls Try.prog 15 #[.pointer (some ⟨g, 0, none⟩), .string p] w fun e w' => e = .returned (.tuple #[.string (Tm.read t p).1, .int .i64 ((Tm.read t p).2 : Int)]) ∧ One w0 w' g t A ∧ KeepD A w w' := by
  have h' := h
  obtain ⟨S, h1, h2, h3, h4⟩ := h
  exact (TRead_any g t S p w h1 hk).mono fun e w' ⟨he, hl⟩ => ⟨he, h'.below hl⟩
theorem OMark {w0 : World} (g : Nat) (t : Tm.T) (A : List Nat) (w : World) (h : One w0 w g t A) (hk : Tm.Ok t) :
    Calls Try.prog 21 #[.pointer (some ⟨g, 0, none⟩)] w fun e w' => e = .returned (.int .i64 (t.chs.length : Int)) ∧ One w0 w' g t A ∧ KeepD A w w' := by
  have h' := h
  obtain ⟨S, h1, h2, h3, h4⟩ := h
  exact (TMark_any g t S w h1 hk).mono fun e w' ⟨he, hl⟩ => ⟨he, h'.below hl⟩
theorem OLen {w0 : World} (g : Nat) (t : Tm.T) (A : List Nat) (w : World) (h : One w0 w g t A) (hk : Tm.Ok t) :
    Calls Try.prog 20 #[.pointer (some ⟨g, 0, none⟩)] w fun e w' => e = .returned (.int .i64 (t.files.length : Int)) ∧ One w0 w' g t A ∧ KeepD A w w' := by
  have h' := h
  obtain ⟨S, h1, h2, h3, h4⟩ := h
  exact (TLen_any g t S w h1 hk).mono fun e w' ⟨he, hl⟩ => ⟨he, h'.below hl⟩
theorem OSince {w0 : World} (g : Nat) (t : Tm.T) (A : List Nat) (m : Int) (w : World) (h : One w0 w g t A) (hk : Tm.Ok t) :
    Calls Try.prog 16 #[.pointer (some ⟨g, 0, none⟩), .int .i64 m] w fun e w' => ∃ v, e = .returned (.tuple #[v, .bool (Tm.since t m).2]) ∧ StR.Sl w' w'.heap.size v (Tm.since t m).1 ∧ One w0 w' g t A ∧ KeepD A w w' := by
  have h' := h
  obtain ⟨S, h1, h2, h3, h4⟩ := h
  exact (TSince_any g t S m w h1 hk).mono fun e w' ⟨v, he, hv, hl⟩ => ⟨v, he, hv, h'.below hl⟩
theorem OListed {w0 : World} (g : Nat) (t : Tm.T) (A : List Nat) (pre : ByteArray) (w : World) (h : One w0 w g t A) (hk : Tm.Ok t) :
    Calls Try.prog 17 #[.pointer (some ⟨g, 0, none⟩), .string pre] w fun e w' => ∃ v, e = .returned (.tuple #[v, .bool true]) ∧ StR.Own w' w.heap.size v (Tm.list t pre) ∧ One w0 w' g t A ∧ KeepD A w w' := by
  have h' := h
  obtain ⟨S, h1, h2, h3, h4⟩ := h
  exact (listed_any g t S pre w h1 hk).mono fun e w' ⟨v, he, hv, hl⟩ => ⟨v, he, hv, h'.below hl⟩

/-- what a script of writes and removes leaves -/
def Tm.step (t : Tm.T) (o : Tm.Op) : Tm.T := if o.kind = 0 then (Tm.write t o.path o.text).2 else if o.kind = 1 then (Tm.remove t o.path).2 else t
def Tm.play (l : List Tm.Op) : Tm.T := l.foldl Tm.step Tm.T.zero
theorem Tm.chs_step (t : Tm.T) (o : Tm.Op) : (Tm.step t o).chs.length ≤ t.chs.length + 1 := by
  unfold Tm.step
  split
  · exact Tm.chs_write _ _ _
  · split
    · exact Tm.chs_remove _ _
    · omega
theorem Tm.Ok.step {t : Tm.T} (h : Tm.Ok t) (hc : t.chs.length < 10000000) (o : Tm.Op) : Tm.Ok (Tm.step t o) := by
  unfold Tm.step
  split
  · exact h.write hc _ _
  · split
    · exact h.remove hc _
    · exact h
theorem Tm.play_take (l : List Tm.Op) (k : Nat) (h : k < l.length) : Tm.play (l.take (k + 1)) = Tm.step (Tm.play (l.take k)) (l.getD k Tm.noOp) := by
  have e : l.getD k Tm.noOp = l[k] := by simp [List.getD, List.getElem?_eq_getElem h]
  unfold Tm.play
  rw [List.take_succ_eq_append_getElem h, List.foldl_append, e]; rfl
theorem Tm.play_ok (l : List Tm.Op) : l.length ≤ 9999999 → Tm.Ok (Tm.play l) ∧ (Tm.play l).chs.length ≤ l.length := by
  have h : ∀ (r : List Tm.Op) (t : Tm.T), Tm.Ok t → t.chs.length + r.length ≤ 9999999 → Tm.Ok (r.foldl Tm.step t) ∧ (r.foldl Tm.step t).chs.length ≤ t.chs.length + r.length := by
    intro r
    induction r with
    | nil => intro t h1 _; exact ⟨h1, by simp⟩
    | cons o r ih =>
      intro t h1 h2
      rw [List.foldl_cons]
      simp only [List.length_cons] at h2 ⊢
      have h3 := Tm.chs_step t o
      obtain ⟨h4, h5⟩ := ih (Tm.step t o) (h1.step (by omega) o) (by omega)
      exact ⟨h4, by omega⟩
  intro hl
  have := h l Tm.T.zero Tm.Ok.zero (by simpa [Tm.T.zero] using hl)
  simpa [Tm.play, Tm.T.zero] using this

end Go.Proofs.Ytifolddmcibkdaa
