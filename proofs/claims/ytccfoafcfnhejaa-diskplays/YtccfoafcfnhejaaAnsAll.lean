/-
  answers: any call.
-/
import Derived.Test.YtccfoafcfnhejaaAnsF
import Derived.Test.YtccfoafcfnhejaaAnsX
import Derived.Test.YtccfoafcfnhejaaAnsC
import Derived.Test.YtccfoafcfnhejaaAnsR
import Derived.Test.YtccfoafcfnhejaaAnsQ
import Derived.Test.YtccfoafcfnhejaaAnsW
import Derived.Test.YtccfoafcfnhejaaAnsV
namespace Go.Proofs.Ytccfoafcfnhejaa
open Go.RowKit

theorem answers_any (w : World) (x : Pl) (y : RPl) (N : Nat) (d : Dk.Dev) (hx : Has w x N d) (hy : RHas w y d) (hN : N ≤ 100000) (hfl : y.fl.length ≤ N) (kind who i after e torn short : Int) (b : UInt8) (vk : Value) (kl : List Bool)
    (hv : Bols w w.heap.size vk kl) (hkl : kl.length ≤ 140737488355328) (hapx : kl ≠ [] → ∀ k, vk.ownBlock = some k → k ∉ x.bl) (hapy : kl ≠ [] → ∀ k, vk.ownBlock = some k → k ∉ y.bl) :
    Calls Try.prog 24 #[ptr x.p, ptr y.p, .agg (calV kind who i after e torn short b vk)] w fun r w' => r = .returned (.bool true) ∧ Ans w x y N d.st.length w' := by
  obtain ⟨s, hs⟩ : ∃ s : Nat, min (max short 0) 256 = (s : Int) := ⟨(min (max short 0) 256).toNat, by omega⟩
  obtain ⟨t, ht⟩ : ∃ t : Nat, min (max torn 0) 256 = (t : Int) := ⟨(min (max torn 0) 256).toNat, by omega⟩
  by_cases ho : kind < 0 ∨ 6 < kind
  · exact ans_other w x y N d hx hy hN who i after e torn short b vk kind ho
  have hk : kind = 0 ∨ kind = 1 ∨ kind = 2 ∨ kind = 3 ∨ kind = 4 ∨ kind = 5 ∨ kind = 6 := by omega
  by_cases hi : i < 0 ∨ (d.st.length : Int) ≤ i
  · rcases hk with rfl | rfl | rfl | rfl | rfl | rfl | rfl
    · exact ans_read_no w x y N d hx hy hN who after e torn short b vk i hi
    · exact ans_write_no w x y N d hx hy hN who after e torn short b vk i hi s hs
    · exact ans_flush w x y N d hx hy hN who i after e torn short b vk
    · exact ans_fail w x y N d hx hy hN who i after e torn short b vk (by omega)
    · exact ans_cut w x y N d hx hy hN who i after e torn short b vk
    · exact ans_crash w x y N d hx hy hN who i after e torn short b vk kl t ht hv hkl hapx hapy
    · exact ans_stab_no w x y N d hx hy hN who after e torn short b vk i hi
  · obtain ⟨j, rfl⟩ : ∃ j : Nat, i = (j : Int) := ⟨i.toNat, by omega⟩
    have hj : j < d.st.length := by omega
    rcases hk with rfl | rfl | rfl | rfl | rfl | rfl | rfl
    · by_cases he : d.err = 0
      · exact ans_read_ok w x y N d hx hy hN who after e torn short b vk j hj he
      · exact ans_read_err w x y N d hx hy hN who after e torn short b vk j hj he
    · by_cases h0 : 0 < s
      · exact ans_write_arg w x y N d hx hy hN who after e torn short b vk j hj s hs h0
      · have hs0 : min (max short 0) 256 = (0 : Int) := by rw [hs]; omega
        by_cases he : d.err = 0
        · exact ans_write_ok w x y N d hx hy hN who after e torn short b vk j hj hs0 he
        · exact ans_write_err w x y N d hx hy hN who after e torn short b vk j hj hs0 he
    · exact ans_flush w x y N d hx hy hN who j after e torn short b vk
    · exact ans_fail w x y N d hx hy hN who j after e torn short b vk (by omega)
    · exact ans_cut w x y N d hx hy hN who j after e torn short b vk
    · exact ans_crash w x y N d hx hy hN who j after e torn short b vk kl t ht hv hkl hapx hapy
    · exact ans_stab_ok w x y N d hx hy hN who after e torn short b vk j hj

/-! all devices and all that go beside them -/
structure Fleet (w0 wr : World) (n N m : Nat) (X : Nat → Pl) (Y : Nat → RPl) (D : Nat → Dk.Dev) (va vr : Value) : Prop where
  m0 : 0 < m
  m5 : m ≤ 5
  hx : ∀ i, i < m → Has wr (X i) N (D i)
  hy : ∀ i, i < m → RHas wr (Y i) (D i)
  fl : ∀ i, i < m → (Y i).fl.length ≤ N
  ln : ∀ i, i < m → (D i).st.length = n
  nx : ∀ i, i < m → ∀ k, k ∈ (X i).bl → w0.heap.size ≤ k
  ny : ∀ i, i < m → ∀ k, k ∈ (Y i).bl → w0.heap.size ≤ k
  dx : ∀ i j, i < m → j < m → i ≠ j → ∀ k, k ∈ (X i).bl → k ∉ (X j).bl
  dy : ∀ i j, i < m → j < m → i ≠ j → ∀ k, k ∈ (Y i).bl → k ∉ (Y j).bl
  ra : wr.ownsRow w0.heap.size 23 1 va m ((List.range m).map fun i => ptr (X i).p)
  rr : wr.ownsRow w0.heap.size 44 1 vr m ((List.range m).map fun i => ptr (Y i).p)
  be : Below w0.heap.size w0 wr

theorem row_keep {w w' : World} {base : Nat} {e : TypeId} {v : Value} {n : Nat} {xs : List Value} (h : w.ownsRow base e 1 v n xs) (hb : ∀ k, v.ownBlock = some k → w'.heap[k]? = w.heap[k]?) : w'.ownsRow base e 1 v n xs := by
  refine ⟨h.1, ?_⟩
  rcases h.2 with h0 | ⟨g, cap, cur, rfl, h1, h2, h3⟩
  · exact .inl h0
  · exact .inr ⟨g, cap, cur, rfl, h1, (hb g rfl).trans h2, h3⟩
theorem row_ty {w : World} {base : Nat} {e : TypeId} {v : Value} {n : Nat} {xs : List Value} (h : w.ownsRow base e 1 v n xs) {k : Nat} (hk : v.ownBlock = some k) : base ≤ k ∧ ∃ cur, w.heap[k]? = some (.cells cur e (0, 0)) := by
  rcases h.2 with ⟨rfl, _⟩ | ⟨g, cap, cur, rfl, h1, h2, h3⟩
  · cases hk
  · cases hk; exact ⟨h1, cur, h2⟩
theorem row_at {w : World} {base : Nat} {e : TypeId} {v : Value} {n : Nat} {f : Nat → Value} (h : w.ownsRow base e 1 v n ((List.range n).map f)) (hn : 0 < n) : ∃ g c, v = .slice (some ⟨g, 0, none⟩) n c ∧ ∀ i, i < n → w.cell? ⟨g, i, none⟩ = some (f i) := by
  have hc := fun g hg => World.ownsRow.cells (g := g) h hg
  rcases h.2 with ⟨_, h0⟩ | ⟨g, cap, cur, rfl, h1, h2, h3⟩
  · omega
  · refine ⟨g, cap, rfl, fun i hi => ?_⟩
    have := hc g rfl i (f i) (by simp [hi])
    rwa [addr_add, Nat.zero_add] at this

section
variable {w0 wr w' : World} {n N m : Nat} {X : Nat → Pl} {Y : Nat → RPl} {D : Nat → Dk.Dev} {va vr : Value}
theorem Fleet.below (h : Fleet w0 wr n N m X Y D va vr) (hb : Below wr.heap.size wr w') : Fleet w0 w' n N m X Y D va vr :=
  ⟨h.m0, h.m5, fun i hi => (h.hx i hi).below hb, fun i hi => (h.hy i hi).below hb, h.fl, h.ln, h.nx, h.ny, h.dx, h.dy,
    row_keep h.ra fun k hk => hb.block k (World.ownsRow.lt h.ra k hk).2, row_keep h.rr fun k hk => hb.block k (World.ownsRow.lt h.rr k hk).2, h.be.trans (hb.mono h.be.size)⟩
theorem Fleet.mono (h : Fleet w0 wr n N m X Y D va vr) {N' : Nat} (hN : N ≤ N') : Fleet w0 wr n N' m X Y D va vr :=
  ⟨h.m0, h.m5, fun i hi => (h.hx i hi).mono hN, h.hy, fun i hi => Nat.le_trans (h.fl i hi) hN, h.ln, h.nx, h.ny, h.dx, h.dy, h.ra, h.rr, h.be⟩

/-- a call on the device k and on what goes beside it -/
theorem Fleet.ans (h : Fleet w0 wr n N m X Y D va vr) {k : Nat} (hk : k < m) (ha : Ans wr (X k) (Y k) N n w') :
    ∃ y' d', Fleet w0 w' n (N + 2) m X (fun i => if i = k then y' else Y i) (fun i => if i = k then d' else D i) va vr ∧ y'.p = (Y k).p := by
  obtain ⟨y', d', hx', hy', hn', hl', ht'⟩ := ha
  have hkx := h.hx k hk
  have hky := h.hy k hk
  have hsep : ∀ {b : Nat} {c : Array Value} {t : TypeId}, wr.heap[b]? = some (.cells c t (0, 0)) → t ≠ 72 ∧ t ≠ 78 ∧ t ≠ 54 ∧ t ≠ 27 ∧ t ≠ 106 → w'.heap[b]? = wr.heap[b]? := fun {b c t} hb hne =>
    ht'.block b (lt_of_heap hb) (fun hm => by
      rcases List.mem_append.1 hm with hm | hm
      · exact hkx.not_inT hb hne.1 hne.2.1 hm
      · exact hky.m.not_in hb hne.2.2 hm)
  have hk5 : Kept5 wr w' := fun b c hb => hsep hb (by decide)
  refine ⟨y', d', ⟨h.m0, h.m5, fun i hi => ?_, fun i hi => ?_, fun i hi => ?_, fun i hi => ?_, h.nx, fun i hi => ?_, h.dx, fun i j hi hj hij => ?_, ?_, ?_, ?_⟩, hn'.p⟩
  · by_cases e : i = k
    · subst e; rw [if_pos rfl]; exact hx'
    · rw [if_neg e]
      refine ((h.hx i hi).turn ht' (fun q hq hm => ?_)).mono (by omega)
      rcases List.mem_append.1 hm with hm | hm
      · exact h.dx i k hi hk e q hq hm
      · exact hky.not_inX (h.hx i hi) hm hq
  · by_cases e : i = k
    · subst e; simp only [if_true]; exact hy'
    · simp only [if_neg e]
      have hyi := h.hy i hi
      refine ⟨hyi.m.kept (fun q hq => ht'.block q (hyi.m.lt q hq) (fun hm => ?_)) hk5, hyi.t, hyi.ok⟩
      rcases List.mem_append.1 hm with hm | hm
      · exact hyi.not_inX hkx hq hm
      · exact h.dy i k hi hk e q hq hm
  · by_cases e : i = k
    · subst e; simp only [if_true]; have := hn'.fl; have := h.fl i hi; omega
    · simp only [if_neg e]; have := h.fl i hi; omega
  · by_cases e : i = k
    · subst e; simp only [if_true]; exact hl'
    · simp only [if_neg e]; exact h.ln i hi
  · by_cases e : i = k
    · subst e
      simp only [if_true]
      intro q hq
      rcases hn'.bl q hq with hq | hq
      · exact h.ny i hi q hq
      · exact Nat.le_trans h.be.size hq
    · simp only [if_neg e]; exact h.ny i hi
  · by_cases e : i = k
    · subst e
      simp only [if_true, if_neg (Ne.symm hij)]
      intro q hq hm
      rcases hn'.bl q hq with hq | hq
      · exact h.dy i j hi hj hij q hq hm
      · have := (h.hy j hj).m.lt q hm; omega
    · by_cases e2 : j = k
      · subst e2
        simp only [if_true, if_neg e]
        intro q hq hm
        rcases hn'.bl q hm with hm | hm
        · exact h.dy i j hi hj hij q hq hm
        · have := (h.hy i hi).m.lt q hq; omega
      · simp only [if_neg e, if_neg e2]; exact h.dy i j hi hj hij
  · refine row_keep h.ra fun q hq => ?_
    obtain ⟨_, cur, hcur⟩ := row_ty h.ra hq
    exact hsep hcur (by decide)
  · have e : ((List.range m).map fun i => ptr (if i = k then y' else Y i).p) = (List.range m).map fun i => ptr (Y i).p := by
      refine List.map_congr_left fun i _ => ?_
      by_cases e : i = k
      · subst e; simp only [if_true, hn'.p]
      · simp only [if_neg e]
    rw [e]
    refine row_keep h.rr fun q hq => ?_
    obtain ⟨_, cur, hcur⟩ := row_ty h.rr hq
    exact hsep hcur (by decide)
  · refine ⟨ht'.os.trans h.be.os, ht'.tape.trans h.be.tape, ht'.output.trans h.be.output, Nat.le_trans h.be.size ht'.size, fun q hq => (ht'.block q (Nat.lt_of_lt_of_le hq h.be.size) (fun hm => ?_)).trans (h.be.block q hq)⟩
    rcases List.mem_append.1 hm with hm | hm
    · have := h.nx k hk q hm; omega
    · have := h.ny k hk q hm; omega
end
end Go.Proofs.Ytccfoafcfnhejaa
