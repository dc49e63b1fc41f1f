/-
  A RUN WHOSE ROW OF NEEDS, OR OF OPEN BODIES, HAS GROWN.
-/
import Derived.Test.YtnobmgkdieaclaaGreatDoorIpRow
import Derived.Test.YtnobmgkdieaclaaGreatDoorKit
namespace Go.Proofs.YtnobmgkdieaclaaGreatDoor
open Go.RowKit

variable {w w' : World} {O : List Nat} {x x' : RP} {s s' : Ip.St}
/-- what is shared stays, and is still outside -/
theorem RunS.keepers {T : List Nat} (_ : RunS w O x s) (hT : Turn T w w') (hTO : ∀ b ∈ T, b < w.heap.size → b ∈ O) (hown : ∀ b ∈ x'.own, b ∈ x.own ∨ w.heap.size ≤ b) (hsub : ∀ b ∈ x.own, b ∈ O) :
    (∀ b, b < w.heap.size ∧ b ∉ O → w'.heap[b]? = w.heap[b]?) ∧ (∀ b, b < w.heap.size ∧ b ∉ O → b < w'.heap.size ∧ b ∉ x'.own ++ O) := by
  refine ⟨fun b hb => hT.block b hb.1 (fun hx => hb.2 (hTO b hx hb.1)), fun b hb => ⟨Nat.lt_of_lt_of_le hb.1 hT.size, fun hx => ?_⟩⟩
  rcases List.mem_append.1 hx with h | h
  · rcases hown b h with h | h
    · exact hb.2 (hsub b h)
    · omega
  · exact hb.2 h
/-- where the row of needs lies now -/
def RP.withN (x : RP) (g n c : Nat) : RP := { x with na := some ⟨g, 0, none⟩, nn := n, nc := c }
def RP.withO (x : RP) (a : Option Addr) (n c : Nat) : RP := { x with oa := a, on := n, oc := c }
theorem own_withN {x : RP} {g n c b : Nat} : b ∈ (x.withN g n c).own ↔ b = x.p ∨ b = x.mt ∨ b = x.mw ∨ x.ov.ownBlock = some b ∨ b = g := by
  simp [RP.own, RP.withN, RP.ov, RP.nv, Value.ownBlock]
theorem nodup_withN {x : RP} {g n c : Nat} (h : x.own.Nodup) (hg : x.nv.ownBlock = some g ∨ ∀ b ∈ x.own, b ≠ g) : (x.withN g n c).own.Nodup := by
  obtain ⟨d1, d2, d3, d4, d5, d6⟩ := RP.parts h
  have hp : g ≠ x.p ∧ g ≠ x.mt ∧ g ≠ x.mw ∧ ∀ k, x.ov.ownBlock = some k → k ≠ g := by
    rcases hg with hg | hg
    · exact ⟨(d5 g hg).1, (d5 g hg).2.1, (d5 g hg).2.2, fun k hk e => d6 k hk (e ▸ hg)⟩
    · exact ⟨(hg _ x.p_own).symm, (hg _ x.mt_own).symm, (hg _ x.mw_own).symm, fun k hk => hg k (RP.ov_own hk)⟩
  have e : (x.withN g n c).own = x.p :: x.mt :: x.mw :: (x.ov.ownBlock.toList ++ [g]) := by simp [RP.own, RP.withN, RP.ov, RP.nv, Value.ownBlock]
  rw [e]
  cases ho : x.ov.ownBlock with
  | none => simp [d1, d2, d3]; exact ⟨hp.1.symm, hp.2.1.symm, hp.2.2.1.symm⟩
  | some k =>
    have k1 := d4 k ho
    have k2 := hp.2.2.2 k ho
    simp [d1, d2, d3, k2]
    exact ⟨⟨k1.1.symm, hp.1.symm⟩, ⟨k1.2.1.symm, hp.2.1.symm⟩, k1.2.2.symm, hp.2.2.1.symm⟩
/-- a path more is asked for -/
theorem RunS.asked {g cap : Nat} {p : Ip.B} {lit : Obj} {w2 : World} (h : RunS w O x s) (hO : TxR.Own w2 7 (.slice (some ⟨g, 0, none⟩) (s.needs.length + 1) cap) (s.needs ++ [p])) (hg : (w.alloc lit).grownBy w2 x.nv.ownBlock) (hw : x.nv.ownBlock = some g ∨ g = (w.alloc lit).heap.size) :
    RunS (evW (w2.setCell ⟨x.p, 8, none⟩ (.slice (some ⟨g, 0, none⟩) (s.needs.length + 1) cap)) x.p ⟨1, p, 0, []⟩) ((x.withN g (s.needs.length + 1) cap).own ++ O) (x.withN g (s.needs.length + 1) cap) { s with needs := s.needs ++ [p], ev := ⟨1, p, 0, []⟩ } ∧
    (∀ b ∈ (x.withN g (s.needs.length + 1) cap).own, b ∈ x.own ∨ w.heap.size ≤ b) ∧ Turn x.own w (evW (w2.setCell ⟨x.p, 8, none⟩ (.slice (some ⟨g, 0, none⟩) (s.needs.length + 1) cap)) x.p ⟨1, p, 0, []⟩) := by
  obtain ⟨d1, d2, d3, d4, d5, d6⟩ := RP.parts h.nodup
  have hTn : Turn x.nv.ownBlock.toList w w2 := (((Turn.refl _ w).alloc lit).grow hg (fun b e _ => by simp [e]))
  have hpn : x.p ∉ x.nv.ownBlock.toList := fun hx => (d5 x.p (by simpa using hx)).1 rfl
  have hr2 := h.row.turn hTn hpn
  have hgs : g ≠ x.p := by
    rcases hw with hw | hw
    · exact (d5 g hw).1
    · have := h.row.lt; rw [size_alloc] at hw; omega
  have hT2 : Turn [x.p] w2 (evW (w2.setCell ⟨x.p, 8, none⟩ (.slice (some ⟨g, 0, none⟩) (s.needs.length + 1) cap)) x.p ⟨1, p, 0, []⟩) := (Turn.put1 w2 x.p 8 _).trans (evW_turn _ _ _) (fun _ hx _ => hx)
  have hT : Turn (x.p :: x.nv.ownBlock.toList) w (evW (w2.setCell ⟨x.p, 8, none⟩ (.slice (some ⟨g, 0, none⟩) (s.needs.length + 1) cap)) x.p ⟨1, p, 0, []⟩) := (hTn.mono (fun b hb _ => List.mem_cons_of_mem _ hb)).trans hT2 (fun b hb _ => by simp at hb; simp [hb])
  have hsubT : ∀ b ∈ x.p :: x.nv.ownBlock.toList, b ∈ x.own := fun b hb => by
    rcases List.mem_cons.1 hb with rfl | hb
    · exact x.p_own
    · exact RP.nv_own (by simpa using hb)
  have hown : ∀ b ∈ (x.withN g (s.needs.length + 1) cap).own, b ∈ x.own ∨ w.heap.size ≤ b := fun b hb => by
    rcases own_withN.1 hb with rfl | rfl | rfl | e | rfl
    · exact .inl x.p_own
    · exact .inl x.mt_own
    · exact .inl x.mw_own
    · exact .inl (RP.ov_own e)
    · rcases hw with hw | hw
      · exact .inl (RP.nv_own hw)
      · right; rw [hw, size_alloc]; omega
  obtain ⟨hk, hP⟩ := h.keepers (x' := x.withN g (s.needs.length + 1) cap) hT (fun b hb _ => h.sub b (hsubT b hb)) hown h.sub
  obtain ⟨rs, o1, o2⟩ := h.op
  obtain ⟨n, m1, m2⟩ := h.mt
  obtain ⟨k, m3, m4⟩ := h.mw
  refine ⟨⟨?_, h.tg.keep hk hP, ⟨rs, o1.turnP hT (fun k e hx => ?_), o2.keep hk hP⟩, ⟨n, MapV.of_block m1 (hT.block _ (h.lt _ x.mt_own) ?_), ?_⟩, ⟨k, MapV.of_block m3 (hT.block _ (h.lt _ x.mw_own) ?_), m4⟩, hO.turnP hT2 (fun k e hx => ?_), nodup_withN h.nodup ?_, fun b hb => List.mem_append_left _ hb, fun b hb => ?_, fun b hb => ?_⟩, hown, hT.mono fun b hb _ => hsubT b hb⟩
  · exact ((((hr2.set 8 _ (by simp [runCs])).set 9 _ (by simp [runCs])).set 10 _ (by simp [runCs])).set 11 _ (by simp [runCs])).set 12 _ (by simp [runCs])
  · rcases List.mem_cons.1 hx with rfl | hx
    · exact (d4 _ e).1 rfl
    · exact d6 k e (by simpa using hx)
  · intro hx
    rcases List.mem_cons.1 hx with e | hx
    · exact d1 e.symm
    · exact (d5 x.mt (by simpa [RP.withN] using hx)).2.1 rfl
  · show n + 1 ≤ (s.needs ++ [p]).length
    rw [List.length_append, List.length_singleton]
    have : n ≤ s.needs.length := by omega
    omega
  · intro hx
    rcases List.mem_cons.1 hx with e | hx
    · exact d2 e.symm
    · exact (d5 x.mw (by simpa [RP.withN] using hx)).2.2 rfl
  · simp only [Value.ownBlock, Option.some.injEq] at e
    subst e
    simp at hx
    exact hgs hx
  · rcases hw with hw | hw
    · exact .inl hw
    · right
      intro b hb e
      have := h.lt b hb
      rw [size_alloc] at hw
      omega
  · rcases own_withN.1 hb with rfl | rfl | rfl | e | rfl
    · exact h.low _ x.p_own
    · exact h.low _ x.mt_own
    · exact h.low _ x.mw_own
    · exact h.low _ (RP.ov_own e)
    · rcases hw with hw | hw
      · exact h.low _ (RP.nv_own hw)
      · have := h.low _ x.p_own
        have := h.row.lt
        rw [size_alloc] at hw; omega
  · rcases List.mem_append.1 hb with hb | hb
    · rcases own_withN.1 hb with rfl | rfl | rfl | e | rfl
      · exact Nat.lt_of_lt_of_le (h.lt _ x.p_own) hT.size
      · exact Nat.lt_of_lt_of_le (h.lt _ x.mt_own) hT.size
      · exact Nat.lt_of_lt_of_le (h.lt _ x.mw_own) hT.size
      · exact Nat.lt_of_lt_of_le (h.lt _ (RP.ov_own e)) hT.size
      · exact Nat.lt_of_lt_of_le (hO.lt _ rfl).2 hT2.size
    · exact Nat.lt_of_lt_of_le (h.lim b hb) hT.size
theorem RunS.row_app {lit : Obj} {w2 : World} (h : RunS w O x s) (hg : (w.alloc lit).grownBy w2 x.nv.ownBlock) : Rw w2 x.p (runCs x s) 62 := by
  obtain ⟨d1, d2, d3, d4, d5, d6⟩ := RP.parts h.nodup
  exact h.row.turn (((Turn.refl x.nv.ownBlock.toList w).alloc lit).grow hg (fun b e _ => by simp [e])) (fun hx => (d5 x.p (by simpa using hx)).1 rfl)

end Go.Proofs.YtnobmgkdieaclaaGreatDoor

namespace Go.Proofs.YtnobmgkdieaclaaGreatDoor
open Go.RowKit
namespace Rc
variable {α : Type} {R : Rc α}

theorem vals_set : ∀ (l : List α) (k f : Nat) (hk : k < l.length), f < R.k → ∀ (x : α) (u : Value), R.enc x = (R.enc l[k]).set f u → (R.vals l).set (k * R.k + f) u = R.vals (l.set k x)
  | [], k, f, hk, _, _, _, _ => by simp at hk
  | y :: r, 0, f, hk, hf, x, u, h => by
    have hl := R.len y
    show (R.enc y ++ R.vals r).set (0 * R.k + f) u = R.enc x ++ R.vals r
    rw [Nat.zero_mul, Nat.zero_add, List.set_append_left _ _ (by omega), h]
    rfl
  | y :: r, k + 1, f, hk, hf, x, u, h => by
    have hl := R.len y
    have ih := vals_set r k f (by simpa using hk) hf x u h
    show (R.enc y ++ R.vals r).set ((k + 1) * R.k + f) u = R.enc y ++ R.vals (r.set k x)
    rw [List.set_append_right _ _ (by rw [hl, Nat.add_mul]; omega), ← ih]
    congr 2
    rw [hl, Nat.add_mul]; omega
/-- a cell of a row of the call's own, set -/
theorem Own.set {w : World} {base : Nat} {v : Value} {l : List α} (h : R.Own w base v l) (k f : Nat) (hk : k < l.length) (hf : f < R.k) :
    ∃ g cap, v = .slice (some ⟨g, 0, none⟩) l.length cap ∧ base ≤ g ∧ g < w.heap.size ∧ w.frozen? ⟨g, k * R.k + f, none⟩ = false ∧ ∀ (x : α) (u : Value), R.enc x = (R.enc l[k]).set f u → R.Own (w.setCell ⟨g, k * R.k + f, none⟩ u) base v (l.set k x) := by
  have hlt := h.lt
  rcases h.2 with ⟨rfl, h0⟩ | ⟨g, cap, cur, rfl, h2, h3, h4, h5, h6, h7⟩
  · omega
  · refine ⟨g, cap, rfl, h2, (hlt g rfl).2, frozen_of_row w g _ _ _ h3, fun x u hx => ?_⟩
    refine ⟨R.vals_length _, .inr ⟨g, cap, cur.setIfInBounds (k * R.k + f) u, by rw [List.length_set], h2, ?_, by rw [List.length_set]; exact h4, h5, by rw [Array.size_setIfInBounds]; exact h6, ?_⟩⟩
    · rw [heap_setCell_same w g (k * R.k + f) _ R.e _ h3]
    · rw [List.length_set, Array.toList_setIfInBounds, ← vals_set l k f hk hf x u hx, ← h7, List.take_set]
end Rc
end Go.Proofs.YtnobmgkdieaclaaGreatDoor

namespace Go.Proofs.YtnobmgkdieaclaaGreatDoor
open Go.RowKit

variable {w w' : World} {O : List Nat} {x x' : RP} {s s' : Ip.St}
theorem own_withO {x : RP} {g n c b : Nat} : b ∈ (x.withO (some ⟨g, 0, none⟩) n c).own ↔ b = x.p ∨ b = x.mt ∨ b = x.mw ∨ b = g ∨ x.nv.ownBlock = some b := by
  simp [RP.own, RP.withO, RP.ov, RP.nv, Value.ownBlock]
theorem nodup_withO {x : RP} {g n c : Nat} (h : x.own.Nodup) (hg : x.ov.ownBlock = some g ∨ ∀ b ∈ x.own, b ≠ g) : (x.withO (some ⟨g, 0, none⟩) n c).own.Nodup := by
  obtain ⟨d1, d2, d3, d4, d5, d6⟩ := RP.parts h
  have hp : g ≠ x.p ∧ g ≠ x.mt ∧ g ≠ x.mw ∧ ∀ k, x.nv.ownBlock = some k → k ≠ g := by
    rcases hg with hg | hg
    · exact ⟨(d4 g hg).1, (d4 g hg).2.1, (d4 g hg).2.2, fun k hk e => d6 g hg (e ▸ hk)⟩
    · exact ⟨(hg _ x.p_own).symm, (hg _ x.mt_own).symm, (hg _ x.mw_own).symm, fun k hk => hg k (RP.nv_own hk)⟩
  have e : (x.withO (some ⟨g, 0, none⟩) n c).own = x.p :: x.mt :: x.mw :: g :: x.nv.ownBlock.toList := by simp [RP.own, RP.withO, RP.ov, RP.nv, Value.ownBlock]
  rw [e]
  cases ho : x.nv.ownBlock with
  | none => simp [d1, d2, d3]; exact ⟨hp.1.symm, hp.2.1.symm, hp.2.2.1.symm⟩
  | some k =>
    have k1 := d5 k ho
    have k2 := hp.2.2.2 k ho
    simp [d1, d2, d3]
    exact ⟨⟨hp.1.symm, k1.1.symm⟩, ⟨hp.2.1.symm, k1.2.1.symm⟩, ⟨hp.2.2.1.symm, k1.2.2.symm⟩, fun e => k2 e.symm⟩
/-- a body more -/
theorem RunS.pushed {g cap : Nat} {lit : Obj} {w2 : World} {r : RawB} {b : Ip.Bod} {rs : List RawB} (h : RunS w O x s) (o2 : BoRow w (fun b => b < w.heap.size ∧ b ∉ O) s.stack.reverse rs) (hO : BoR.Own w2 7 (.slice (some ⟨g, 0, none⟩) (rs.length + 1) cap) (rs ++ [r])) (hg : (w.alloc lit).grownBy w2 x.ov.ownBlock) (hw : x.ov.ownBlock = some g ∨ g = (w.alloc lit).heap.size)
    (hb : BoIs w (fun b => b < w.heap.size ∧ b ∉ O) b r) :
    Went w O x (s.push b) (w2.setCell ⟨x.p, 3, none⟩ (.slice (some ⟨g, 0, none⟩) (rs.length + 1) cap)) := by
  obtain ⟨d1, d2, d3, d4, d5, d6⟩ := RP.parts h.nodup
  have hTn : Turn x.ov.ownBlock.toList w w2 := (((Turn.refl _ w).alloc lit).grow hg (fun b e _ => by simp [e]))
  have hpn : x.p ∉ x.ov.ownBlock.toList := fun hx => (d4 x.p (by simpa using hx)).1 rfl
  have hr2 := h.row.turn hTn hpn
  have hgs : g ≠ x.p := by
    rcases hw with hw | hw
    · exact (d4 g hw).1
    · have := h.row.lt; rw [size_alloc] at hw; omega
  have hT2 : Turn [x.p] w2 (w2.setCell ⟨x.p, 3, none⟩ (.slice (some ⟨g, 0, none⟩) (rs.length + 1) cap)) := Turn.put1 w2 x.p 3 _
  have hT : Turn (x.p :: x.ov.ownBlock.toList) w (w2.setCell ⟨x.p, 3, none⟩ (.slice (some ⟨g, 0, none⟩) (rs.length + 1) cap)) := (hTn.mono (fun b hb _ => List.mem_cons_of_mem _ hb)).trans hT2 (fun b hb _ => by simp at hb; simp [hb])
  have hsubT : ∀ b ∈ x.p :: x.ov.ownBlock.toList, b ∈ x.own := fun b hb => by
    rcases List.mem_cons.1 hb with rfl | hb
    · exact x.p_own
    · exact RP.ov_own (by simpa using hb)
  have hown : ∀ b ∈ (x.withO (some ⟨g, 0, none⟩) (rs.length + 1) cap).own, b ∈ x.own ∨ w.heap.size ≤ b := fun b hb => by
    rcases own_withO.1 hb with rfl | rfl | rfl | rfl | e
    · exact .inl x.p_own
    · exact .inl x.mt_own
    · exact .inl x.mw_own
    · rcases hw with hw | hw
      · exact .inl (RP.ov_own hw)
      · right; rw [hw, size_alloc]; omega
    · exact .inl (RP.nv_own e)
  obtain ⟨hk, hP⟩ := h.keepers (x' := x.withO (some ⟨g, 0, none⟩) (rs.length + 1) cap) hT (fun b hb _ => h.sub b (hsubT b hb)) hown h.sub
  obtain ⟨n, m1, m2⟩ := h.mt
  obtain ⟨k, m3, m4⟩ := h.mw
  refine ⟨x.withO (some ⟨g, 0, none⟩) (rs.length + 1) cap, rfl, ⟨?_, h.tg.keep hk hP, ⟨rs ++ [r], hO.turnP hT2 (fun k e hx => ?_), ?_⟩, ⟨n, MapV.of_block m1 (hT.block _ (h.lt _ x.mt_own) ?_), m2⟩, ⟨k, MapV.of_block m3 (hT.block _ (h.lt _ x.mw_own) ?_), m4⟩, h.nd.turnP hT (fun k e hx => ?_), nodup_withO h.nodup ?_, fun b hb => List.mem_append_left _ hb, fun b hb => ?_, fun b hb => ?_⟩, hown, hT.mono fun b hb _ => hsubT b hb⟩
  · exact hr2.set 3 _ (by simp [runCs])
  · simp only [Value.ownBlock, Option.some.injEq] at e
    subst e
    simp at hx
    exact hgs hx
  · show BoRow _ _ (b :: s.stack).reverse _
    rw [List.reverse_cons]
    exact (o2.keep hk hP).app ⟨r, [], rfl, hb.keep hk hP, rfl⟩
  · intro hx
    rcases List.mem_cons.1 hx with e | hx
    · exact d1 e.symm
    · exact (d4 x.mt (by simpa [RP.withO] using hx)).2.1 rfl
  · intro hx
    rcases List.mem_cons.1 hx with e | hx
    · exact d2 e.symm
    · exact (d4 x.mw (by simpa [RP.withO] using hx)).2.2 rfl
  · rcases List.mem_cons.1 hx with rfl | hx
    · exact (d5 _ e).1 rfl
    · exact d6 k (by simpa using hx) e
  · rcases hw with hw | hw
    · exact .inl hw
    · right
      intro b hb e
      have := h.lt b hb
      rw [size_alloc] at hw
      omega
  · rcases own_withO.1 hb with rfl | rfl | rfl | rfl | e
    · exact h.low _ x.p_own
    · exact h.low _ x.mt_own
    · exact h.low _ x.mw_own
    · rcases hw with hw | hw
      · exact h.low _ (RP.ov_own hw)
      · have := h.low _ x.p_own
        have := h.row.lt
        rw [size_alloc] at hw; omega
    · exact h.low _ (RP.nv_own e)
  · rcases List.mem_append.1 hb with hb | hb
    · rcases own_withO.1 hb with rfl | rfl | rfl | rfl | e
      · exact Nat.lt_of_lt_of_le (h.lt _ x.p_own) hT.size
      · exact Nat.lt_of_lt_of_le (h.lt _ x.mt_own) hT.size
      · exact Nat.lt_of_lt_of_le (h.lt _ x.mw_own) hT.size
      · exact Nat.lt_of_lt_of_le (hO.lt _ rfl).2 hT2.size
      · exact Nat.lt_of_lt_of_le (h.lt _ (RP.nv_own e)) hT.size
    · exact Nat.lt_of_lt_of_le (h.lim b hb) hT.size
theorem RunS.row_push {lit : Obj} {w2 : World} (h : RunS w O x s) (hg : (w.alloc lit).grownBy w2 x.ov.ownBlock) : Rw w2 x.p (runCs x s) 62 := by
  obtain ⟨d1, d2, d3, d4, d5, d6⟩ := RP.parts h.nodup
  exact h.row.turn (((Turn.refl x.ov.ownBlock.toList w).alloc lit).grow hg (fun b e _ => by simp [e])) (fun hx => (d4 x.p (by simpa using hx)).1 rfl)

theorem Rc.Own.headN {α : Type} {R : Rc α} {w : World} {base : Nat} {a : Option Addr} {n c : Nat} {l : List α} (h : R.Own w base (.slice a n c) l) (m : Nat) (hm : m ≤ l.length) : R.Own w base (.slice a m c) (l.take m) := by
  have hl : (l.take m).length = m := by rw [List.length_take]; omega
  refine ⟨R.vals_length _, ?_⟩
  rw [hl]
  rcases h.2 with ⟨h1, h2⟩ | ⟨g, cap, cur, h1, h2, h3, h4, h5, h6, h7⟩
  · have : m = 0 := by omega
    subst this
    simp only [Value.slice.injEq] at h1
    obtain ⟨rfl, -, rfl⟩ := h1
    exact .inl ⟨rfl, rfl⟩
  · simp only [Value.slice.injEq] at h1
    obtain ⟨rfl, -, rfl⟩ := h1
    refine .inr ⟨g, c, cur, rfl, h2, h3, by omega, h5, h6, ?_⟩
    rw [R.vals_take, ← h7, List.take_take]
    congr 1
    exact (Nat.min_eq_left (Nat.mul_le_mul_right _ hm)).symm
/-- the row of bodies turned in its place -/
theorem RunS.bodies {g : Nat} {l : List Ip.Bod} {rs : List RawB} (h : RunS w O x s) (hT : Turn [g] w w') (hg : x.ov.ownBlock = some g) (hO : BoR.Own w' 7 x.ov rs) (hr : BoRow w (fun b => b < w.heap.size ∧ b ∉ O) l.reverse rs) : RunS w' O x { s with stack := l } := by
  obtain ⟨d1, d2, d3, d4, d5, d6⟩ := RP.parts h.nodup
  have dg := d4 g hg
  have hk : ∀ b, b < w.heap.size ∧ b ∉ O → w'.heap[b]? = w.heap[b]? := fun b hb => hT.block b hb.1 (fun hx => hb.2 (by rw [List.mem_singleton] at hx; rw [hx]; exact h.sub _ (RP.ov_own hg)))
  have hP : ∀ b, b < w.heap.size ∧ b ∉ O → b < w'.heap.size ∧ b ∉ O := fun b hb => ⟨Nat.lt_of_lt_of_le hb.1 hT.size, hb.2⟩
  obtain ⟨n, m1, m2⟩ := h.mt
  obtain ⟨k, m3, m4⟩ := h.mw
  exact ⟨h.row.turn hT (by simp; exact dg.1.symm), h.tg.keep hk hP, ⟨rs, hO, hr.keep hk hP⟩, ⟨n, MapV.of_block m1 (hT.block _ (h.lt _ x.mt_own) (by simp; exact dg.2.1.symm)), m2⟩, ⟨k, MapV.of_block m3 (hT.block _ (h.lt _ x.mw_own) (by simp; exact dg.2.2.symm)), m4⟩,
    h.nd.turnP hT (fun k e hx => d6 g hg (by simp at hx; rw [← hx]; exact e)), h.nodup, h.sub, h.low, fun b hb => Nat.lt_of_lt_of_le (h.lim b hb) hT.size⟩
/-- the innermost body is closed -/
theorem RunS.popped {b : Ip.Bod} {r : List Ip.Bod} {n : Nat} (h : RunS w O x s) (hs : s.stack = b :: r) (hn : x.on = n + 1) : RunS (w.setCell ⟨x.p, 3, none⟩ (.slice x.oa n x.oc)) O (x.withO x.oa n x.oc) { s with stack := r } ∧ n = r.length := by
  obtain ⟨d1, d2, d3, d4, d5, d6⟩ := RP.parts h.nodup
  obtain ⟨rs, o1, o2⟩ := h.op
  rw [hs, List.reverse_cons] at o2
  obtain ⟨qs, q, e, k1, k2⟩ := o2.last
  have hql := k1.len
  rw [List.length_reverse] at hql
  subst e
  obtain ⟨ad, c, esh, -⟩ := o1.sl.shape
  simp only [RP.ov, Value.slice.injEq, List.length_append, List.length_singleton] at esh
  have hnq : n = qs.length := by omega
  have hO := o1.headN n (by simp; omega)
  rw [hnq, List.take_left] at hO
  have hoe : (x.withO x.oa n x.oc).own = x.own := by
    unfold RP.own RP.withO RP.ov RP.nv
    cases x.oa <;> rfl
  have hT := Turn.put1 w x.p 3 (.slice x.oa n x.oc)
  have hk : ∀ b, b < w.heap.size ∧ b ∉ O → (w.setCell ⟨x.p, 3, none⟩ (.slice x.oa n x.oc)).heap[b]? = w.heap[b]? := fun b hb => hT.block b hb.1 (fun hx => hb.2 (by rw [List.mem_singleton] at hx; rw [hx]; exact h.sub _ x.p_own))
  have hP : ∀ b, b < w.heap.size ∧ b ∉ O → b < (w.setCell ⟨x.p, 3, none⟩ (.slice x.oa n x.oc)).heap.size ∧ b ∉ O := fun b hb => ⟨Nat.lt_of_lt_of_le hb.1 hT.size, hb.2⟩
  obtain ⟨i, m1, m2⟩ := h.mt
  obtain ⟨j, m3, m4⟩ := h.mw
  refine ⟨⟨h.row.set 3 _ (by simp [runCs]), h.tg.keep hk hP, ⟨qs, ?_, k1.keep hk hP⟩, ⟨i, MapV.of_block m1 (hT.block _ (h.lt _ x.mt_own) (by simp [RP.withO]; exact fun e => d1 e.symm)), m2⟩, ⟨j, MapV.of_block m3 (hT.block _ (h.lt _ x.mw_own) (by simp [RP.withO]; exact fun e => d2 e.symm)), m4⟩,
    h.nd.turnP hT (fun k e hx => by simp at hx; exact (d5 k e).1 hx), by rw [hoe]; exact h.nodup, by rw [hoe]; exact h.sub, by rw [hoe]; exact h.low, fun b hb => Nat.lt_of_lt_of_le (h.lim b hb) hT.size⟩, by omega⟩
  have : BoR.Own w 7 (.slice x.oa n x.oc) qs := by rw [hnq]; exact hO
  refine Rc.Own.turnP this hT (fun k e hx => ?_)
  simp at hx
  subst hx
  have : x.ov.ownBlock = some x.p := by
    rw [← e]
    unfold RP.ov RP.withO
    cases x.oa <;> rfl
  exact (d4 _ this).1 rfl
theorem BoRow.modify {w : World} {P : Nat → Prop} {f : Ip.Bod → Ip.Bod} {fr : RawB → RawB} (hf : ∀ b r, BoIs w P b r → BoIs w P (f b) (fr r)) : ∀ {l : List Ip.Bod} {rs : List RawB} (d : Nat), BoRow w P l rs → BoRow w P (l.modify d f) (rs.modify d fr)
  | [], _, d, h => by rw [show _ = ([] : List RawB) from h]; simp [BoRow]
  | b :: l, _, 0, ⟨r, rs', h1, h2, h3⟩ => by rw [h1]; exact ⟨fr r, rs', rfl, hf b r h2, h3⟩
  | b :: l, _, d + 1, ⟨r, rs', h1, h2, h3⟩ => by
    rw [h1]
    exact ⟨r, rs'.modify d fr, rfl, h2, BoRow.modify hf d h3⟩
theorem modify_at {α : Type} (f : α → α) : ∀ (l : List α) (d : Nat) (h : d < l.length), l.modify d f = l.set d (f l[d])
  | [], d, h => by simp at h
  | a :: r, 0, _ => rfl
  | a :: r, d + 1, h => by
    rw [List.modify_succ_cons, List.set_cons_succ, modify_at f r d (by simpa using h)]
    rfl
/-- the body at d has its next statement behind it: its cell, and the run then -/
theorem RunS.next {d : Nat} (h : RunS w O x s) (hd : d < s.stack.length) : ∃ g k : Nat, x.oa = some ⟨g, 0, none⟩ ∧ x.on = s.stack.length ∧ s.stack.length ≤ x.oc ∧ w.cell? ⟨g, d * 4 + 1, none⟩ = some (.int .i64 (k : Int)) ∧ w.frozen? ⟨g, d * 4 + 1, none⟩ = false ∧ (∃ b, s.stack.reverse[d]? = some b ∧ k = b.next) ∧
    RunS (w.setCell ⟨g, d * 4 + 1, none⟩ (.int .i64 ((k + 1 : Nat) : Int))) O x (s.nextAt d) ∧ g ∈ x.own := by
  obtain ⟨rs, o1, o2⟩ := h.op
  have hl := o2.len
  rw [List.length_reverse] at hl
  obtain ⟨g, cap, e, hb, hlt, hf, hset⟩ := o1.set d 1 (by omega) (by decide)
  simp only [RP.ov, Value.slice.injEq] at e
  obtain ⟨b', o', c', e2, -, hc⟩ := o1.sl.cells d (by omega)
  simp only [RP.ov, Value.slice.injEq] at e2
  have e3 : b' = g ∧ o' = 0 := by
    have := e.1.symm.trans e2.1
    simpa using this.symm
  obtain ⟨rfl, rfl⟩ := e3
  have hc1 := hc 1 _ (by decide) rfl
  rw [Nat.zero_add] at hc1
  have hle : rs.length ≤ x.oc := by
    obtain ⟨ad, c, esh, hle⟩ := o1.sl.shape
    simp only [RP.ov, Value.slice.injEq] at esh
    omega
  have hdr : d < s.stack.reverse.length := by rw [List.length_reverse]; exact hd
  have hbo : rs[d].next = s.stack.reverse[d].next := by
    have : ∀ {l : List Ip.Bod} {qs : List RawB} (_ : BoRow w (fun b => b < w.heap.size ∧ b ∉ O) l qs) (j : Nat) (h1 : j < l.length) (h2 : j < qs.length), qs[j].next = l[j].next := by
      intro l
      induction l with
      | nil => intro qs _ j h1; simp at h1
      | cons a l ih =>
        rintro qs ⟨r, rs', rfl, h2, h3⟩ j h1 h4
        cases j with
        | zero => exact h2.1
        | succ j => exact ih h3 j (by simpa using h1) (by simpa using h4)
    exact this o2 d hdr (by omega)
  refine ⟨b', rs[d].next, e.1, by omega, by omega, hc1, hf, ⟨_, List.getElem?_eq_getElem hdr, hbo⟩, ?_, RP.ov_own (by unfold RP.ov; rw [e.1]; rfl)⟩
  have hO := hset { rs[d] with next := rs[d].next + 1 } (.int .i64 ((rs[d].next + 1 : Nat) : Int)) rfl
  have hrow : BoRow w (fun b => b < w.heap.size ∧ b ∉ O) (s.stack.reverse.modify d fun b => { b with next := b.next + 1 }) (rs.modify d fun r => { r with next := r.next + 1 }) :=
    BoRow.modify (f := fun b => { b with next := b.next + 1 }) (fr := fun r => { r with next := r.next + 1 }) (fun b r hb => ⟨by show r.next + 1 = b.next + 1; rw [hb.1], hb.2.1, hb.2.2.1, hb.2.2.2⟩) d o2
  have hrs : rs.modify d (fun r => { r with next := r.next + 1 }) = rs.set d { rs[d] with next := rs[d].next + 1 } := by
    exact modify_at _ rs d (by omega)
  rw [hrs] at hrow
  exact h.bodies (g := b') (Turn.put1 w b' _ _) (by unfold RP.ov; rw [e.1]; rfl) hO (by rw [List.reverse_reverse]; exact hrow)

end Go.Proofs.YtnobmgkdieaclaaGreatDoor
