/-
  ROWS OF RULES, ONE MORE, AND A RULE's DEPS SET; a rule among rules.
-/
import Derived.Test.YtppcfidaalejfaaDpDepT
import Derived.Test.YtppcfidaalejfaaDpVol
namespace Go.Proofs.Ytppcfidaalejfaa
open Go.RowKit

/-- a row of rules of the call's own, with what lies in it -/
structure Drs (w : World) (base : Nat) (v : Value) (ps : List (RawD × Dp.Rule)) : Prop where
  row : DrR.Own w base v (ps.map Prod.fst)
  its : ∀ p ∈ ps, DrOf w base p.1 p.2
  apart : ps.Pairwise ApartD
theorem Drs.own {w : World} {base : Nat} {v : Value} {ps : List (RawD × Dp.Rule)} (h : Drs w base v ps) : DrOwn w base v (ps.map Prod.snd) := ⟨ps, h.row, rfl, h.its, h.apart⟩
theorem Drs.nil (w : World) (base : Nat) : Drs w base (.slice none 0 0) [] := ⟨Rc.Own.nil _ _, (fun _ h => by cases h), .nil⟩
theorem Drs.below {w w' : World} {base B : Nat} {v : Value} {ps : List (RawD × Dp.Rule)} (h : Drs w base v ps) (hb : Below B w w') (hB : w.heap.size ≤ B) : Drs w' base v ps :=
  ⟨h.row.below hb hB, fun p hp => (h.its p hp).below hb hB, h.apart⟩
theorem Drs.alloc {w : World} {base : Nat} {v : Value} {ps : List (RawD × Dp.Rule)} (h : Drs w base v ps) (o : Obj) : Drs (w.alloc o) base v ps :=
  ⟨h.row.alloc o, fun p hp => (h.its p hp).alloc o, h.apart⟩
/-- one more -/
theorem Drs.push {w w' : World} {base : Nat} {v v' : Value} {ps : List (RawD × Dp.Rule)} {r : RawD} {x : Dp.Rule} (h : Drs w base v ps) (hrow : DrR.Own w' base v' ((ps ++ [(r, x)]).map Prod.fst)) (hg : w.grownBy w' v.ownBlock) (hx : DrOf w' base r x) (hn : ∀ g, r.deps.ownBlock = some g → ∀ p ∈ ps, p.1.deps.ownBlock ≠ some g) : Drs w' base v' (ps ++ [(r, x)]) := by
  refine ⟨hrow, fun p hp => ?_, ?_⟩
  · rcases List.mem_append.1 hp with hp | hp
    · exact (h.its p hp).grown h.row hg
    · rw [List.mem_singleton] at hp
      subst hp; exact hx
  · rw [List.pairwise_append]
    refine ⟨h.apart, List.pairwise_singleton .., fun p hp q hq g hg' e => ?_⟩
    rw [List.mem_singleton] at hq
    subst hq
    exact hn g e p hp hg'
theorem Drs.lt {w : World} {base : Nat} {v : Value} {ps : List (RawD × Dp.Rule)} (h : Drs w base v ps) {p : RawD × Dp.Rule} (hp : p ∈ ps) {g : Nat} (hg : p.1.deps.ownBlock = some g) : base ≤ g ∧ g < w.heap.size := (h.its p hp).2.lt g hg
/-- the cells of a rule -/
theorem Drs.cells {w : World} {base g n c : Nat} {ps : List (RawD × Dp.Rule)} (h : Drs w base (.slice (some ⟨g, 0, none⟩) n c) ps) {k : Nat} (hk : k < ps.length) :
    w.cell? ⟨g, k * 2, none⟩ = some (.string (str ps[k].2.1)) ∧ w.cell? ⟨g, k * 2 + 1, none⟩ = some ps[k].1.deps ∧ BR.Own w base ps[k].1.deps ps[k].2.2 := by
  obtain ⟨b, o, c', e, -, hc⟩ := h.row.sl.cells k (by rw [List.length_map]; exact hk)
  simp only [Value.slice.injEq, Option.some.injEq, Addr.mk.injEq, and_true] at e
  obtain ⟨⟨rfl, rfl⟩, -, -⟩ := e
  have hg : (ps.map Prod.fst)[k]'(by rw [List.length_map]; exact hk) = ps[k].1 := List.getElem_map ..
  rw [hg] at hc
  obtain ⟨h1, h2⟩ := h.its ps[k] (List.getElem_mem hk)
  refine ⟨?_, ?_, h2⟩
  · have := hc 0 _ (by decide) rfl
    rw [Nat.zero_add] at this
    rw [← h1]; exact this
  · have := hc 1 _ (by decide) rfl
    rw [Nat.zero_add] at this
    exact this
/-- a rule's deps, set anew behind a call that made them of its old ones -/
theorem Drs.setDeps {w w5 : World} {base g n c : Nat} {ps : List (RawD × Dp.Rule)} (h : Drs w base (.slice (some ⟨g, 0, none⟩) n c) ps) {k : Nat} (hk : k < ps.length) {ad' : Option Addr} {n' c' : Nat} {D : List (List UInt8)}
    (hO : BR.Own w5 base (.slice ad' n' c') D) (hg : w.grownBy w5 ps[k].1.deps.ownBlock) (hnew : ∀ g', (Value.slice ad' n' c').ownBlock = some g' → ps[k].1.deps.ownBlock = some g' ∨ w.heap.size ≤ g') :
    w5.frozen? ⟨g, k * 2 + 1, none⟩ = false ∧ w5.cell? ⟨g, k * 2 + 1, none⟩ = some ps[k].1.deps ∧ Drs (w5.setCell ⟨g, k * 2 + 1, none⟩ (.slice ad' n' c')) base (.slice (some ⟨g, 0, none⟩) n c) (ps.set k (⟨ps[k].1.t, ad', n', c'⟩, (ps[k].2.1, D))) := by
  have hkk : k < (ps.map Prod.fst).length := by rw [List.length_map]; exact hk
  have hek : (ps.map Prod.fst)[k] = ps[k].1 := List.getElem_map ..
  have hrow5 : DrR.Own w5 base (.slice (some ⟨g, 0, none⟩) n c) (ps.map Prod.fst) := World.ownsRow.kept h.row hg (by
    right
    intro e
    exact (own_apart (h.its ps[k] (List.getElem_mem hk)).2 h.row (by decide)).elim (fun h0 => by rw [h0] at e; cases e) (fun h0 => h0 e.symm))
  obtain ⟨g', cap, e, -, hglt, hfr, hset⟩ := Rc.Own.set hrow5 k 1 hkk (by decide)
  simp only [Value.slice.injEq, Option.some.injEq, Addr.mk.injEq, and_true] at e
  obtain ⟨rfl, -, -⟩ := e
  have hset' := hset ⟨ps[k].1.t, ad', n', c'⟩ (.slice ad' n' c') (by rw [hek]; rfl)
  have hTu : Turn [g] w5 (w5.setCell ⟨g, k * 2 + 1, none⟩ (.slice ad' n' c')) := (Turn.refl [g] w5).set (fun _ => by simp) _
  have hother : ∀ {b : Nat} {u : Value} {l : List (List UInt8)}, BR.Own w5 b u l → BR.Own (w5.setCell ⟨g, k * 2 + 1, none⟩ (.slice ad' n' c')) b u l := fun {b u l} ho => by
    refine Row.turn ho hTu fun q hq hm => ?_
    rw [List.mem_singleton] at hm
    subst hm
    exact (own_apart ho hrow5 (by decide)).elim (fun h0 => by rw [h0] at hq; cases hq) (fun h0 => h0 hq)
  refine ⟨hfr, ?_, ?_, ?_, ?_⟩
  · obtain ⟨b, o, c2, e, -, hc⟩ := hrow5.sl.cells k hkk
    simp only [Value.slice.injEq, Option.some.injEq, Addr.mk.injEq, and_true] at e
    obtain ⟨⟨rfl, rfl⟩, -, -⟩ := e
    have := hc 1 _ (by decide) rfl
    rw [Nat.zero_add, hek] at this
    exact this
  · rw [List.map_set]
    exact hset'
  · intro p hp
    rw [List.mem_iff_getElem] at hp
    obtain ⟨j, hj, rfl⟩ := hp
    rw [List.length_set] at hj
    rw [List.getElem_set]
    by_cases hjk : k = j
    · subst hjk
      rw [if_pos rfl]
      exact ⟨(h.its ps[k] (List.getElem_mem hk)).1, hother hO⟩
    · rw [if_neg hjk]
      have hp := h.its ps[j] (List.getElem_mem hj)
      refine ⟨hp.1, hother (World.ownsRow.kept hp.2 hg ?_)⟩
      cases hb : ps[j].1.deps.ownBlock with
      | none => exact .inl rfl
      | some q =>
        right
        intro e
        rcases Nat.lt_or_gt_of_ne hjk with hlt | hlt
        · exact (List.pairwise_iff_getElem.1 h.apart k j hk hj hlt) q e.symm hb
        · exact (List.pairwise_iff_getElem.1 h.apart j k hj hk hlt) q hb e.symm
  · rw [List.pairwise_iff_getElem]
    intro a b ha hb hab
    rw [List.length_set] at ha hb
    rw [List.getElem_set, List.getElem_set]
    have hap := List.pairwise_iff_getElem.1 h.apart
    by_cases h1 : k = a
    · subst h1
      rw [if_pos rfl, if_neg (by omega)]
      intro q hq e
      rcases hnew q hq with h2 | h2
      · exact hap k b ha hb hab q h2 e
      · have := (h.lt (List.getElem_mem hb) e).2
        omega
    · rw [if_neg h1]
      by_cases h2 : k = b
      · subst h2
        rw [if_pos rfl]
        intro q hq e
        rcases hnew q e with h3 | h3
        · exact hap a k ha hb hab q hq h3
        · have := (h.lt (List.getElem_mem ha) hq).2
          omega
      · rw [if_neg h2]
        exact hap a b ha hb hab

namespace Dp
theorem put_at : ∀ (K : List Rule) (u : Rule) (k : Nat) (hk : k < K.length), K[k].1 = u.1 → (∀ j (hj : j < K.length), j < k → K[j].1 ≠ u.1) → put K u = K.set k (u.1, adds K[k].2 u.2)
  | [], _, k, hk, _, _ => by simp at hk
  | v :: r, u, 0, _, h, _ => by
    have h0 : v.1 = u.1 := h
    rw [put, if_pos h0, h0]
    rfl
  | v :: r, u, k + 1, hk, h, hn => by
    have h0 : v.1 ≠ u.1 := hn 0 (by simp) (by omega)
    rw [put, if_neg h0]
    show _ = v :: r.set k _
    rw [put_at r u k (by simpa using hk) h fun j hj hjk => hn (j + 1) (by simpa using hj) (by omega)]
    rfl
theorem put_none : ∀ (K : List Rule) (u : Rule), (∀ j (hj : j < K.length), K[j].1 ≠ u.1) → put K u = (K ++ [(u.1, [])]).set K.length (u.1, adds [] u.2)
  | [], _, _ => rfl
  | v :: r, u, hn => by
    have h0 : v.1 ≠ u.1 := hn 0 (by simp)
    rw [put, if_neg h0, put_none r u fun j hj => hn (j + 1) (by simpa using hj)]
    rfl
/-- how many deps there are -/
def dn (l : List Rule) : Nat := (l.flatMap Prod.snd).length
theorem dn_cons (u : Rule) (l : List Rule) : dn (u :: l) = u.2.length + dn l := by simp [dn]
theorem dn_vol (L : List Rule) : dn L ≤ vol L := by
  induction L with
  | nil => simp [dn]
  | cons u r ih =>
    have := sum_len u.2
    rw [dn_cons]
    unfold vol at *
    simp only [List.map_cons, List.sum_cons]
    omega
theorem adds_len (l d : List B) : (adds l d).length ≤ l.length + d.length := by
  induction d generalizing l with
  | nil => exact Nat.le_refl _
  | cons x r ih =>
    have h1 := ih (add l x)
    have h2 : (add l x).length ≤ l.length + 1 := by unfold add; split <;> simp
    show (adds (add l x) r).length ≤ _
    rw [List.length_cons]; omega
theorem dn_put : ∀ (l : List Rule) (u : Rule), dn (put l u) ≤ dn l + u.2.length
  | [], u => by
    have := adds_len [] u.2
    rw [put, dn_cons]
    simp [dn] at *; omega
  | v :: r, u => by
    rw [put]
    split
    · have := adds_len v.2 u.2
      rw [dn_cons, dn_cons]
      simp only at *; omega
    · have := dn_put r u
      rw [dn_cons, dn_cons]; omega
theorem dn_foldl : ∀ (m l : List Rule), dn (m.foldl put l) ≤ dn l + dn m
  | [], l => Nat.le_add_right ..
  | u :: m, l => by
    have h1 := dn_foldl m (put l u)
    have h2 := dn_put l u
    rw [List.foldl_cons, dn_cons]; omega
theorem put_len : ∀ (l : List Rule) (u : Rule), (put l u).length ≤ l.length + 1
  | [], u => by simp [put]
  | v :: r, u => by
    rw [put]
    split
    · simp
    · have := put_len r u
      simp only [List.length_cons]; omega
theorem foldl_len : ∀ (m l : List Rule), (m.foldl put l).length ≤ l.length + m.length
  | [], l => Nat.le_add_right ..
  | u :: m, l => by
    have h1 := foldl_len m (put l u)
    have h2 := put_len l u
    rw [List.foldl_cons, List.length_cons]; omega
theorem dn_mem {l : List Rule} {k : Nat} (hk : k < l.length) : l[k].2.length ≤ dn l := by
  induction l generalizing k with
  | nil => simp at hk
  | cons u r ih =>
    rw [dn_cons]
    cases k with
    | zero => show u.2.length ≤ _; omega
    | succ k =>
      have hk' : k < r.length := by simpa using hk
      have := ih hk'
      show (r[k]'hk').2.length ≤ _; omega
theorem dn_app (a b : List Rule) : dn (a ++ b) = dn a + dn b := by unfold dn; rw [List.flatMap_append, List.length_append]
theorem dn_take (l : List Rule) (i : Nat) : dn (l.take i) ≤ dn l := by
  have h : dn l = dn (l.take i) + dn (l.drop i) := by rw [← dn_app, List.take_append_drop]
  omega
end Dp

end Go.Proofs.Ytppcfidaalejfaa
