/-
  Size, Ops, lacks, begin.
-/
import Derived.Test.YtccfoafcfnhejaaHas
namespace Go.Proofs.Ytccfoafcfnhejaa
open Go.RowKit Go.Maps Go.ChangeMaps

def ptr (p : Nat) : Value := .pointer (some ⟨p, 0, none⟩)

theorem heap_setCell_at {w : World} {p : Nat} {cur : Array Value} {t : TypeId} {fr : Nat × Nat} (h : w.heap[p]? = some (.cells cur t fr)) (j : Nat) (v : Value) : (w.setCell ⟨p, j, none⟩ v).heap[p]? = some (.cells (cur.setIfInBounds j v) t fr) := by
  have hlt := lt_of_heap h
  have h1 : w.heap[p] = .cells cur t fr := by rw [Array.getElem?_eq_getElem hlt] at h; exact Option.some.inj h
  simp [World.setCell, hlt]
  rw [Array.getElem_modify_self, h1]

theorem Has.setF {w : World} {x : Pl} {N N' : Nat} {d d' : Dk.Dev} (h : Has w x N d) (j : Nat) (v : Value) (hf : (fields x d).setIfInBounds j v = fields x d') (h1 : d'.st = d.st) (h2 : d'.di = d.di) (h3 : d'.fa = d.fa) (ok : Dk.Ok d') (hN : N ≤ N') (ho : d'.op ≤ N') :
    Has (w.setCell ⟨x.p, j, none⟩ v) x N' d' := by
  obtain ⟨a1, a2, a3, a4, a5⟩ := h.apart
  have ho2 : ∀ k, k ≠ x.p → (w.setCell ⟨x.p, j, none⟩ v).heap[k]? = w.heap[k]? := fun k hk => Below.heap_setCell w ⟨x.p, j, none⟩ v k hk
  refine ⟨by rw [← hf]; exact heap_setCell_at h.hp j v, ?_, ?_, ?_, ok, h.ne, ho, h.hcap⟩
  · rw [h1]; exact h.hg.of_block (ho2 _ (Ne.symm a1))
  · rw [h2]; exact (h.hd.of_block (ho2 _ (Ne.symm a2))).mono hN
  · rw [h3]; exact (h.hf.of_block (ho2 _ (Ne.symm a3))).mono hN
theorem turn_set (w : World) (x : Pl) (j : Nat) (v : Value) : Turn x.bl w (w.setCell ⟨x.p, j, none⟩ v) := (Turn.refl _ w).set (fun _ => by simp [Pl.bl]) v

theorem Has.setD {w w' : World} {x : Pl} {N N' : Nat} {d d' : Dk.Dev} (h : Has w x N d) (ht : w.mapTurned w' x.md) (hm : MapOf w' x.md N' (fun i => (d'.di i).map aggB)) (hf : fields x d = fields x d') (h1 : d'.st = d.st) (h3 : d'.fa = d.fa) (ok : Dk.Ok d') (hN : N ≤ N') (ho : d'.op ≤ N') : Has w' x N' d' := by
  obtain ⟨a1, a2, a3, a4, a5⟩ := h.apart
  have hg := ht.grown
  refine ⟨by rw [← hf]; exact (hg.block _ h.plt (by simpa using a2)).trans h.hp, ?_, hm, ?_, ok, h.ne, ho, h.hcap⟩
  · rw [h1]; exact h.hg.of_block (hg.block _ h.hg.lt (by simpa using a4))
  · rw [h3]; exact (h.hf.of_block (hg.block _ h.hf.lt (by simpa using Ne.symm h.ne))).mono hN
theorem Has.setM {w w' : World} {x : Pl} {N N' : Nat} {d d' : Dk.Dev} (h : Has w x N d) (ht : w.mapTurned w' x.mf) (hm : MapOf w' x.mf N' (fun i => (d'.fa i).map (Value.int .i64))) (hf : fields x d = fields x d') (h1 : d'.st = d.st) (h2 : d'.di = d.di) (ok : Dk.Ok d') (hN : N ≤ N') (ho : d'.op ≤ N') : Has w' x N' d' := by
  obtain ⟨a1, a2, a3, a4, a5⟩ := h.apart
  have hg := ht.grown
  refine ⟨by rw [← hf]; exact (hg.block _ h.plt (by simpa using a3)).trans h.hp, ?_, ?_, hm, ok, h.ne, ho, h.hcap⟩
  · rw [h1]; exact h.hg.of_block (hg.block _ h.hg.lt (by simpa using a5))
  · rw [h2]; exact (h.hd.of_block (hg.block _ h.hd.lt (by simpa using h.ne))).mono hN
theorem turn_md {w w' : World} {x : Pl} (h : w.mapTurned w' x.md) : Turn x.bl w w' := (Turn.of_grown h.grown).mono (by simp [Pl.bl])
theorem turn_mf {w w' : World} {x : Pl} (h : w.mapTurned w' x.mf) : Turn x.bl w w' := (Turn.of_grown h.grown).mono (by simp [Pl.bl])
theorem Turn.join {S : List Nat} {a b c : World} (h : Turn S a b) (k : Turn S b c) : Turn S a c := h.trans k (fun _ h _ => h)

set_option maxRecDepth 100000 in
theorem Size_any (w : World) (x : Pl) (N : Nat) (d : Dk.Dev) (h : Has w x N d) : Calls Try.prog 20 #[ptr x.p] w fun e w' => e = .returned (.int .i64 (d.st.length : Int)) ∧ w' = w := by
  obtain ⟨c0, -⟩ := h.cells
  unfold ptr
  go_enter Try.func20, Try.ntmps20
  go_wp2
  go_ret
  exact ⟨rfl, rfl⟩
set_option maxRecDepth 100000 in
theorem Ops_any (w : World) (x : Pl) (N : Nat) (d : Dk.Dev) (h : Has w x N d) : Calls Try.prog 21 #[ptr x.p] w fun e w' => e = .returned (.int .i64 (d.op : Int)) ∧ w' = w := by
  obtain ⟨-, -, -, c3, -⟩ := h.cells
  unfold ptr
  go_enter Try.func21, Try.ntmps21
  go_wp2
  go_ret
  exact ⟨rfl, rfl⟩
set_option maxRecDepth 100000 in
theorem lacks_ok (w : World) (x : Pl) (N : Nat) (d : Dk.Dev) (h : Has w x N d) (i : Int) (h0 : 0 ≤ i) (h1 : i < (d.st.length : Int)) : Calls Try.prog 33 #[ptr x.p, .int .i64 i] w fun e w' => e = .returned (.int .i64 0) ∧ w' = w := by
  obtain ⟨c0, -⟩ := h.cells
  unfold ptr
  go_enter Try.func33, Try.ntmps33
  go_wp2
  go_ret
  exact ⟨rfl, rfl⟩
set_option maxRecDepth 100000 in
theorem lacks_no (w : World) (x : Pl) (N : Nat) (d : Dk.Dev) (h : Has w x N d) (i : Int) (h0 : i < 0 ∨ (d.st.length : Int) ≤ i) : Calls Try.prog 33 #[ptr x.p, .int .i64 i] w fun e w' => e = .returned (.int .i64 5) ∧ w' = w := by
  obtain ⟨c0, -⟩ := h.cells
  unfold ptr
  by_cases h1 : i < 0
  · clear h0
    go_enter Try.func33, Try.ntmps33
    go_wp2
    go_ret
    exact ⟨rfl, rfl⟩
  · have h2 : (d.st.length : Int) ≤ i := by omega
    clear h0
    go_enter Try.func33, Try.ntmps33
    go_wp2
    go_ret
    exact ⟨rfl, rfl⟩

theorem zero24 (w : World) : (zeroValue 24).run Try.prog w = .ok (.int .i64 0) w := by kernel_rfl

set_option maxRecDepth 100000 in
set_option maxHeartbeats 1000000 in
theorem begin_any (w : World) (x : Pl) (N : Nat) (d : Dk.Dev) (h : Has w x N d) (hN : N ≤ 1000000000) : Calls Try.prog 34 #[ptr x.p] w fun e w' => e = .returned (.int .i64 d.err) ∧ Has w' x (N + 1) d.begun ∧ Turn x.bl w w' := by
  obtain ⟨-, -, -, c3, c4, c5, fz⟩ := h.cells
  have hop := h.hop
  have hop' : (d.op : Int) ≤ 1000000000 := by omega
  have hk1 := h.setF (N' := N + 1) (d' := { d with op := d.op + 1 }) 3 (.int .i64 ((d.op : Int) + 1)) (by simp [fields]) rfl rfl rfl ⟨h.ok.lo, h.ok.hi, h.ok.len, h.ok.dom, h.ok.fal, h.ok.cu0, h.ok.cu1, h.ok.la0, h.ok.la1⟩ (by omega) (by simp; omega)
  have ht1 := turn_set w x 3 (.int .i64 ((d.op : Int) + 1))
  have hlk := hk1.hf.look Try.underlying70 (zero24 _) (x := (d.op : Int)) (by omega) (by omega)
  obtain ⟨w2, hdr, hm2, htn⟩ := hk1.hf.drop Try.underlying70 (x := (d.op : Int)) (by omega) (by omega) 0
  have hk2 : Has w2 x (N + 1) d.begun := hk1.setM htn (by
    have e : (fun i => (d.begun.fa i).map (Value.int .i64)) = updF (fun i => (d.fa i).map (Value.int .i64)) (d.op : Int) none := by
      funext i
      unfold updF Dk.Dev.begun
      simp only
      split <;> rfl
    rw [e]; exact hm2) rfl rfl rfl (Dk.begun_ok h.ok) (Nat.le_refl _) (by simp [Dk.Dev.begun]; omega)
  have ht2 : Turn x.bl w w2 := ht1.join (turn_mf htn)
  have c5' : w2.cell? ⟨x.p, 5, none⟩ = some (.int .i64 d.cu) := hk2.cells.2.2.2.2.2.1
  have HK : Hid (Has w2 x (N + 1) d.begun) := hk2
  have HT : Hid (Turn x.bl w w2) := ht2
  clear hk1 hk2 ht2 ht1 hm2 htn h hop
  unfold ptr
  unfold Dk.Dev.err
  by_cases hcu : d.cu ≤ (d.op : Int)
  · rw [if_pos hcu]
    go_enter Try.func34, Try.ntmps34
    go_wp2
    go_ret
    exact ⟨rfl, HK.out, HT.out⟩
  · rw [if_neg hcu]
    have hcu' : (d.op : Int) < d.cu := by omega
    clear hcu
    cases hfa : d.fa d.op with
    | none =>
      rw [hfa] at hlk
      clear hfa
      go_enter Try.func34, Try.ntmps34
      go_wp2
      go_ret
      exact ⟨rfl, HK.out, HT.out⟩
    | some e0 =>
      rw [hfa] at hlk
      clear hfa
      go_enter Try.func34, Try.ntmps34
      go_wp2
      go_ret
      exact ⟨rfl, HK.out, HT.out⟩
end Go.Proofs.Ytccfoafcfnhejaa
