/-
  TWO PAIRS OF TREES, all apart.
-/
import Derived.Test.YtifolddmcibkdaaLDoes
import Derived.Test.YtifolddmcibkdaaLLike
import Derived.Test.YtifolddmcibkdaaLWorks
import Derived.Test.YtifolddmcibkdaaLKept
namespace Go.Proofs.Ytifolddmcibkdaa
open Go.RowKit

/-- what the document's Copy does -/
def CopyRDoes : Prop := ∀ (r : Nat) (t : Tm.T) (R : List Nat) (w : World), HasR w r t R → Tm.Ok t →
  Calls Try.prog 23 #[.pointer (some ⟨r, 0, none⟩)] w fun e w' => ∃ r2 R2, e = .returned (.pointer (some ⟨r2, 0, none⟩)) ∧ HasR w' r2 t R2 ∧ (∀ b ∈ R2, w.heap.size ≤ b) ∧ Below w.heap.size w w'

/-- two pairs of trees, all apart -/
def Four (w0 w : World) (g r : Nat) (t : Tm.T) (g2 r2 : Nat) (u : Tm.T) : Prop := ∃ S R S2 R2, HasT w g t S ∧ HasR w r t R ∧ HasT w g2 u S2 ∧ HasR w r2 u R2 ∧
  (∀ b ∈ S, b ∉ R ∧ b ∉ S2 ∧ b ∉ R2) ∧ (∀ b ∈ R, b ∉ S2 ∧ b ∉ R2) ∧ (∀ b ∈ S2, b ∉ R2) ∧ (∀ b, b ∈ S ∨ b ∈ R ∨ b ∈ S2 ∨ b ∈ R2 → w0.heap.size ≤ b) ∧ Below w0.heap.size w0 w
variable {w0 w : World} {g r g2 r2 : Nat} {t u : Tm.T}
theorem Four.base (h : Four w0 w g r t g2 r2 u) : Below w0.heap.size w0 w := by
  obtain ⟨S, R, S2, R2, -, -, -, -, -, -, -, -, h⟩ := h; exact h
theorem Four.below {w' : World} (h : Four w0 w g r t g2 r2 u) (hb : Below w.heap.size w w') : Four w0 w' g r t g2 r2 u := by
  obtain ⟨S, R, S2, R2, h1, h2, h3, h4, h5, h6, h7, h8, h9⟩ := h
  exact ⟨S, R, S2, R2, h1.below hb, h2.below hb, h3.below hb, h4.below hb, h5, h6, h7, h8, h9.trans (hb.mono h9.size)⟩
theorem Four.first (h : Four w0 w g r t g2 r2 u) : ∃ A, Both w0 w g r t A ∧ ∀ w' t', Both w0 w' g r t' A → KeepD A w w' → Four w0 w' g r t' g2 r2 u := by
  obtain ⟨S, R, S2, R2, h1, h2, h3, h4, h5, h6, h7, h8, h9⟩ := h
  refine ⟨S2 ++ R2, ⟨S, R, h1, h2, fun b hb => ⟨h8 b (.inl hb), fun hm => ?_, (h5 b hb).1⟩, fun b hb => ⟨h8 b (.inr (.inl hb)), fun hm => ?_⟩, fun b hb => ?_, h9⟩, fun w' t' hB hK => ?_⟩
  · rcases List.mem_append.1 hm with hm | hm
    · exact (h5 b hb).2.1 hm
    · exact (h5 b hb).2.2 hm
  · rcases List.mem_append.1 hm with hm | hm
    · exact (h6 b hb).1 hm
    · exact (h6 b hb).2 hm
  · rcases List.mem_append.1 hb with hb | hb
    · exact h3.lt b hb
    · exact h4.lt b hb
  · obtain ⟨S', R', a1, a2, a3, a4, a5, a6⟩ := hB
    refine ⟨S', R', S2, R2, a1, a2, h3.keep fun b hb => hK b (by simp [hb]), h4.keep fun b hb => hK b (by simp [hb]), fun b hb => ⟨(a3 b hb).2.2, fun hm => (a3 b hb).2.1 (by simp [hm]), fun hm => (a3 b hb).2.1 (by simp [hm])⟩, fun b hb => ⟨fun hm => (a4 b hb).2 (by simp [hm]), fun hm => (a4 b hb).2 (by simp [hm])⟩, h7, fun b hb => ?_, a6⟩
    rcases hb with hb | hb | hb | hb
    · exact (a3 b hb).1
    · exact (a4 b hb).1
    · exact h8 b (.inr (.inr (.inl hb)))
    · exact h8 b (.inr (.inr (.inr hb)))
theorem Four.swap (h : Four w0 w g r t g2 r2 u) : Four w0 w g2 r2 u g r t := by
  obtain ⟨S, R, S2, R2, h1, h2, h3, h4, h5, h6, h7, h8, h9⟩ := h
  refine ⟨S2, R2, S, R, h3, h4, h1, h2, fun b hb => ⟨h7 b hb, fun hm => (h5 b hm).2.1 hb, fun hm => (h6 b hm).1 hb⟩, fun b hb => ⟨fun hm => (h5 b hm).2.2 hb, fun hm => (h6 b hm).2 hb⟩, fun b hb => (h5 b hb).1, fun b hb => h8 b ?_, h9⟩
  rcases hb with hb | hb | hb | hb
  · exact .inr (.inr (.inl hb))
  · exact .inr (.inr (.inr hb))
  · exact .inl hb
  · exact .inr (.inl hb)
theorem FDoes1 (o : Tm.Op) (h : Four w0 w g r t g2 r2 u) (hk : Tm.Ok t) (hc : t.chs.length < 1000000) :
    Calls Try.prog 14 #[.pointer (some ⟨g, 0, none⟩), .pointer (some ⟨r, 0, none⟩), opV o] w fun e w' => e = .returned (.bool true) ∧ Four w0 w' g r (Tm.step t o) g2 r2 u := by
  obtain ⟨A, hB, hF⟩ := h.first
  exact (does_any g r t A o w hB hk hc).mono fun e w' ⟨he, h1, h2⟩ => ⟨he, hF w' _ h1 h2⟩
theorem FDoes2 (o : Tm.Op) (h : Four w0 w g r t g2 r2 u) (hk : Tm.Ok u) (hc : u.chs.length < 1000000) :
    Calls Try.prog 14 #[.pointer (some ⟨g2, 0, none⟩), .pointer (some ⟨r2, 0, none⟩), opV o] w fun e w' => e = .returned (.bool true) ∧ Four w0 w' g r t g2 r2 (Tm.step u o) :=
  (FDoes1 o h.swap hk hc).mono fun _ _ ⟨he, h1⟩ => ⟨he, h1.swap⟩
theorem FLike1 (h : Four w0 w g r t g2 r2 u) (hk : Tm.Ok t) :
    Calls Try.prog 13 #[.pointer (some ⟨g, 0, none⟩), .pointer (some ⟨r, 0, none⟩)] w fun e w' => e = .returned (.bool true) ∧ Four w0 w' g r t g2 r2 u := by
  obtain ⟨A, hB, hF⟩ := h.first
  exact (like_any g r t A w hB hk).mono fun e w' ⟨he, h1⟩ => ⟨he, h.below h1⟩
theorem FLike2 (h : Four w0 w g r t g2 r2 u) (hk : Tm.Ok u) :
    Calls Try.prog 13 #[.pointer (some ⟨g2, 0, none⟩), .pointer (some ⟨r2, 0, none⟩)] w fun e w' => e = .returned (.bool true) ∧ Four w0 w' g r t g2 r2 u :=
  (FLike1 h.swap hk).mono fun _ _ ⟨he, h1⟩ => ⟨he, h1.swap⟩
/-- both copies made -/
theorem Four.made {w1 w2 : World} {S2 R2 : List Nat} (h : Both w0 w g r t []) (hT : HasT w1 g2 t S2) (hS : ∀ b ∈ S2, w.heap.size ≤ b) (hb1 : Below w.heap.size w w1) (hR : HasR w2 r2 t R2) (hRn : ∀ b ∈ R2, w1.heap.size ≤ b) (hb2 : Below w1.heap.size w1 w2) : Four w0 w2 g r t g2 r2 t := by
  obtain ⟨S, R, h1, h2, h3, h4, h5, h6⟩ := h
  have hz1 := hb1.size
  have hz0 := h6.size
  have hb : Below w.heap.size w w2 := hb1.trans (hb2.mono hb1.size)
  refine ⟨S, R, S2, R2, h1.below hb, h2.below hb, hT.below hb2, hR, fun b hx => ⟨(h3 b hx).2.2, fun hm => ?_, fun hm => ?_⟩, fun b hx => ⟨fun hm => ?_, fun hm => ?_⟩, fun b hx hm => ?_, fun b hx => ?_, h6.trans (hb.mono h6.size)⟩
  · have := h1.lt b hx; have := hS b hm; omega
  · have := h1.lt b hx; have := hRn b hm; omega
  · have := h2.lt b hx; have := hS b hm; omega
  · have := h2.lt b hx; have := hRn b hm; omega
  · have := hT.lt b hx; have := hRn b hm; omega
  · rcases hx with hx | hx | hx | hx
    · exact (h3 b hx).1
    · exact (h4 b hx).1
    · have := hS b hx; omega
    · have := hRn b hx; omega
def Tm.playOn (t : Tm.T) (l : List Tm.Op) : Tm.T := l.foldl Tm.step t
theorem Tm.playOn_take (t : Tm.T) (l : List Tm.Op) (k : Nat) (h : k < l.length) : Tm.playOn t (l.take (k + 1)) = Tm.step (Tm.playOn t (l.take k)) (l.getD k Tm.noOp) := by
  have e : l.getD k Tm.noOp = l[k] := by simp [List.getD, List.getElem?_eq_getElem h]
  unfold Tm.playOn
  rw [List.take_succ_eq_append_getElem h, List.foldl_append, e]; rfl
theorem Tm.playOn_ok : ∀ (l : List Tm.Op) (t : Tm.T), Tm.Ok t → t.chs.length + l.length ≤ 9999999 → Tm.Ok (Tm.playOn t l) ∧ (Tm.playOn t l).chs.length ≤ t.chs.length + l.length := by
  intro l
  induction l with
  | nil => intro t h _; exact ⟨h, by simp [Tm.playOn]⟩
  | cons o l ih =>
    intro t h1 h2
    simp only [List.length_cons] at h2 ⊢
    have h3 := Tm.chs_step t o
    obtain ⟨h4, h5⟩ := ih (Tm.step t o) (h1.step (by omega) o) (by omega)
    exact ⟨h4, by show (Tm.playOn (Tm.step t o) l).chs.length ≤ _; omega⟩

end Go.Proofs.Ytifolddmcibkdaa
