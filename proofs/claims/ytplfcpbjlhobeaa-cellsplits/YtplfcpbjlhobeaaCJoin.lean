/-
  THE MATHEMATICS OF JOIN: what comes of two nodes and a key between is well-formed. No program here.
-/
import Derived.Test.YtplfcpbjlhobeaaCHalf
namespace Go.Proofs.Ytplfcpbjlhobeaa.Cm

theorem bl_total : ∀ x y : List UInt8, Op.bytesLess x y = false → x ≠ y → Op.bytesLess y x = true := by
  intro x
  induction x with
  | nil =>
    intro y h1 h2
    cases y with
    | nil => exact absurd rfl h2
    | cons b s => simp [Op.bytesLess] at h1
  | cons a r ih =>
    intro y h1 h2
    cases y with
    | nil => rfl
    | cons b s =>
      simp only [Op.bytesLess, Bool.or_eq_true, decide_eq_true_eq, Bool.and_eq_true, beq_iff_eq, Bool.or_eq_false_iff, decide_eq_false_iff_not, UInt8.lt_iff_toNat_lt] at h1 ⊢
      by_cases e : a = b
      · subst e
        refine .inr ⟨rfl, ih s ?_ fun h => h2 (by rw [h])⟩
        simpa using h1.2
      · have : a.toNat ≠ b.toNat := fun h => e (UInt8.toNat_inj.1 h)
        exact .inl (by omega)
theorem kl_total {a b : ByteArray} (h1 : kl a b = false) (h2 : a ≠ b) : kl b a = true :=
  bl_total _ _ h1 fun h => h2 (by rw [ByteArray.toList_eq, ByteArray.toList_eq] at h; exact ByteArray.ext (Array.toList_inj.1 h))

/-- keys that follow one another rise -/
def Adj (l : List It) : Prop := ∀ i, 0 < i → i < l.length → kl (l.getD (i - 1) zero).key (l.getD i zero).key = true
theorem adj_append {l m : List It} (hl : Adj l) (hm : Adj m) (h : ∀ x ∈ l, ∀ y ∈ m, kl x.key y.key = true) : Adj (l ++ m) := by
  intro i h0 hi
  rw [List.length_append] at hi
  by_cases h1 : i < l.length
  · have := hl i h0 h1
    simpa [List.getD, List.getElem?_append, h1, show i - 1 < l.length by omega] using this
  · by_cases h2 : i = l.length
    · have gx : (l ++ m).getD (i - 1) zero ∈ l := by
        have : i - 1 < l.length := by omega
        simp [List.getD, List.getElem?_append, this]
      have gy : (l ++ m).getD i zero ∈ m := by
        have : i - l.length < m.length := by omega
        simp [List.getD, List.getElem?_append, h1, this]
      exact h _ gx _ gy
    · have := hm (i - l.length) (by omega) (by omega)
      have e : i - l.length - 1 = i - 1 - l.length := by omega
      rw [e] at this
      simpa [List.getD, List.getElem?_append, h1, show ¬ i - 1 < l.length by omega] using this

theorem right_iff (n : Nd) : Right n ↔ (Adj n.items ∧ ∀ x ∈ n.items, OkK x.key ∧ OkI n.leaf x) ∧ if n.leaf = true then n.kids = [] else (∀ k ∈ n.kids, KidOk k) ∧ 1 ≤ n.items.length ∧ n.kids.length = n.items.length + 1 := by
  unfold Right
  refine and_congr_left fun _ => ?_
  constructor
  · intro h
    refine ⟨fun i h0 hi => (h i hi).2.1 h0, fun x hx => ?_⟩
    obtain ⟨i, hi, rfl⟩ := List.mem_iff_getElem.1 hx
    have := h i hi
    unfold OkAt at this
    rw [show n.items.getD i zero = n.items[i] by simp [List.getD, List.getElem?_eq_getElem hi]] at this
    exact ⟨this.1, this.2.2⟩
  · rintro ⟨h1, h2⟩ i hi
    have := h2 (n.items.getD i zero) (by simp [List.getD, List.getElem?_eq_getElem hi])
    exact ⟨this.1, fun h0 => h1 i h0 hi, this.2⟩

theorem right_joined {a b : Nd} {key : ByteArray} (h : MayJoin a key b) : Right (joined a key b) := by
  obtain ⟨ha, hb, hl, h1, h2, h3⟩ := h
  rw [right_iff] at ha hb ⊢
  obtain ⟨⟨ha1, ha2⟩, ha3⟩ := ha
  obtain ⟨⟨hb1, hb2⟩, hb3⟩ := hb
  rw [← hl] at hb2 hb3
  cases hlf : a.leaf with
  | true =>
    rw [hlf] at ha3 hb3 ha2 hb2
    simp only [if_true] at ha3 hb3
    refine ⟨⟨?_, ?_⟩, ?_⟩
    · simp only [joined, hlf, if_true, List.append_nil]
      refine adj_append ha1 hb1 fun x hx y hy => ?_
      have e1 := h1 x hx
      have e2 := (h2 y hy).1
      cases e3 : kl x.key y.key with
      | true => rfl
      | false =>
        by_cases e : x.key = y.key
        · rw [e, e2] at e1; cases e1
        · rw [kl_trans (kl_total e3 e) e1] at e2; cases e2
    · intro x hx
      simp only [joined, hlf, if_true, List.append_nil, List.mem_append] at hx ⊢
      rcases hx with hx | hx
      · exact ha2 x hx
      · exact hb2 x hx
    · simp [joined, hlf, ha3, hb3]
  | false =>
    rw [hlf] at ha3 hb3 ha2 hb2
    simp only [Bool.false_eq_true, if_false] at ha3 hb3
    refine ⟨⟨?_, ?_⟩, ?_⟩
    · simp only [joined, hlf, Bool.false_eq_true, if_false, List.append_assoc]
      refine adj_append ha1 (adj_append (l := [⟨key, .empty, 0, 0⟩]) (fun i h0 hi => ?_) hb1 fun x hx y hy => ?_) fun x hx y hy => ?_
      · simp only [List.length_cons, List.length_nil] at hi; omega
      · obtain rfl := List.mem_singleton.1 hx
        exact kl_total (h2 y hy).1 ((h2 y hy).2 hlf)
      · rcases List.mem_append.1 hy with hy | hy
        · obtain rfl := List.mem_singleton.1 hy
          exact h1 x hx
        · exact kl_trans (h1 x hx) (kl_total (h2 y hy).1 ((h2 y hy).2 hlf))
    · intro x hx
      simp only [joined, hlf, Bool.false_eq_true, if_false, List.mem_append, List.mem_singleton] at hx ⊢
      rcases hx with (hx | rfl) | hx
      · exact ha2 x hx
      · exact ⟨h3 hlf, by simp [OkI, Bare]⟩
      · exact hb2 x hx
    · obtain ⟨k1, k2, k3⟩ := ha3
      obtain ⟨j1, j2, j3⟩ := hb3
      simp only [joined, hlf, Bool.false_eq_true, if_false, List.mem_append, List.length_append, List.length_cons, List.length_nil]
      refine ⟨fun k hk => ?_, by omega, by omega⟩
      rcases hk with hk | hk
      · exact k1 k hk
      · exact j1 k hk

end Go.Proofs.Ytplfcpbjlhobeaa.Cm
