/-
  Crash.
-/
import Derived.Test.YtccfoafcfnhejaaFlush
namespace Go.Proofs.Ytccfoafcfnhejaa
open Go.RowKit Go.Maps Go.ChangeMaps

/-- v is a slice of bools that reads as l, below block B -/
def Bols (w : World) (B : Nat) (v : Value) (l : List Bool) : Prop :=
  ∃ ad c, v = .slice ad l.length c ∧ l.length ≤ c ∧ (l ≠ [] → ∃ b o, ad = some ⟨b, o, none⟩ ∧ b < B ∧ ∀ j, j < l.length → w.cell? ⟨b, o + j, none⟩ = some (.bool (l.getD j false)))

/-- what is stable when k dirty blocks have been gone over -/
def partC (d : Dk.Dev) (kl : List Bool) (t k : Nat) : List Dk.Blk := (List.range d.st.length).map fun (i : Nat) => if (d.di i).isSome = true ∧ d.rank i < k then d.crB kl t i else d.stab i

theorem partC_len (d : Dk.Dev) (kl : List Bool) (t k : Nat) : (partC d kl t k).length = d.st.length := by simp [partC]
theorem partC_get (d : Dk.Dev) (kl : List Bool) (t k : Nat) {i : Nat} (hi : i < d.st.length) : (partC d kl t k).getD i [] = if (d.di i).isSome = true ∧ d.rank i < k then d.crB kl t i else d.stab i := by
  simp [partC, List.getD, hi]
theorem partC_start (d : Dk.Dev) (kl : List Bool) (t : Nat) : partC d kl t 0 = d.st := by
  refine list_ext_getD (partC_len d kl t 0) fun i hi => ?_
  rw [partC_len] at hi
  rw [partC_get d kl t 0 hi, if_neg (by omega)]
  rfl
theorem dl_rank {d : Dk.Dev} {i : Nat} (hi : i < d.st.length) (hd : (d.di i).isSome = true) : ∃ h : d.rank i < d.dl.length, d.dl[d.rank i] = i := by
  obtain ⟨k, hk, e⟩ := List.getElem_of_mem (Dk.mem_dl.2 ⟨hi, hd⟩)
  have hr := Dk.rank_dl hk
  rw [e] at hr
  subst hr
  exact ⟨hk, e⟩
theorem partC_end (d : Dk.Dev) (kl : List Bool) (t : Nat) : partC d kl t d.dl.length = (d.cr kl t).st := by
  refine list_ext_getD (by simp [partC, Dk.Dev.cr]) fun i hi => ?_
  rw [partC_len] at hi
  rw [partC_get d kl t _ hi]
  have e : (d.cr kl t).st.getD i [] = d.crB kl t i := by simp [Dk.Dev.cr, List.getD, hi]
  rw [e]
  by_cases hd : (d.di i).isSome = true
  · rw [if_pos ⟨hd, (dl_rank hi hd).1⟩]
  · rw [if_neg (fun h => hd h.1)]
    unfold Dk.Dev.crB
    cases hdi : d.di i with
    | none => rfl
    | some b => rw [hdi] at hd; simp at hd
theorem partC_at (d : Dk.Dev) (kl : List Bool) (t : Nat) {k : Nat} (hk : k < d.dl.length) : (partC d kl t k).getD d.dl[k] [] = d.stab d.dl[k] := by
  rw [partC_get d kl t k (Dk.mem_dl.1 (List.getElem_mem hk)).1, Dk.rank_dl hk, if_neg (by omega)]
theorem partC_step (d : Dk.Dev) (kl : List Bool) (t : Nat) {k : Nat} (hk : k < d.dl.length) : (partC d kl t k).set d.dl[k] (d.crB kl t d.dl[k]) = partC d kl t (k + 1) := by
  have hm := Dk.mem_dl.1 (List.getElem_mem hk)
  refine list_ext_getD (by simp [partC]) fun j hj => ?_
  rw [List.length_set, partC_len] at hj
  rw [stab_getD_set _ _ _ _ (by rw [partC_len]; exact hm.1), partC_get _ _ _ _ hj, partC_get _ _ _ _ hj]
  by_cases e : j = d.dl[k]
  · rw [if_pos e]
    subst e
    rw [Dk.rank_dl hk, if_pos ⟨hm.2, by omega⟩]
  · rw [if_neg e]
    by_cases hd : (d.di j).isSome = true
    · have hne : d.rank j ≠ k := by
        intro e2
        obtain ⟨h1, h2⟩ := dl_rank hj hd
        subst e2
        exact e h2.symm
      by_cases hlt : d.rank j < k
      · rw [if_pos ⟨hd, hlt⟩, if_pos ⟨hd, by omega⟩]
      · rw [if_neg (fun h => hlt h.2), if_neg (fun h => by have := h.2; omega)]
    · rw [if_neg (fun h => hd h.1), if_neg (fun h => hd h.1)]

/-- numbers in a row of the call's own -/
theorem OwnI.shape {w : World} {base : Nat} {v : Value} {l : List Int} (h : OwnI w base v l) : ∃ ad c, v = .slice ad l.length c ∧ l.length ≤ c := by
  rcases h.2 with ⟨rfl, h0⟩ | ⟨g, cap, cur, rfl, _, _, hle, _⟩
  · exact ⟨none, 0, by rw [h0], by omega⟩
  · exact ⟨_, _, rfl, hle⟩
theorem OwnI.cell {w : World} {base : Nat} {ad : Option Addr} {n c : Nat} {l : List Int} (h : OwnI w base (.slice ad n c) l) (hne : l ≠ []) : ∃ g, ad = some ⟨g, 0, none⟩ ∧ base ≤ g ∧ g < w.heap.size ∧ ∀ j, j < l.length → w.cell? ⟨g, j, none⟩ = some (.int .i64 (l.getD j 0)) := by
  have hlt := World.ownsRow.lt h
  have hcs := fun g hg => World.ownsRow.cells (g := g) h hg
  rcases h.2 with ⟨e, h0⟩ | ⟨g, cap, cur, e, hb, hgb, hle, _⟩
  · exact absurd (List.eq_nil_of_length_eq_zero h0) hne
  · simp only [Value.slice.injEq] at e
    obtain ⟨rfl, rfl, rfl⟩ := e
    refine ⟨g, rfl, hb, (hlt g rfl).2, fun j hj => ?_⟩
    have := hcs g rfl j (.int .i64 (l.getD j 0)) (by simp [encZ, List.getD, List.getElem?_eq_getElem hj])
    have e : (⟨g, 0, none⟩ : Addr).add j = ⟨g, j, none⟩ := by rw [Addr.add_mid, Nat.zero_add]
    rwa [e] at this
theorem OwnI.kept {w w' : World} {base : Nat} {v : Value} {l : List Int} {row : Option Nat} (h : OwnI w base v l) (hg : w.grownBy w' row) (hr : ∀ k, row = some k → k < base) : OwnI w' base v l := by
  refine World.ownsRow.kept h hg ?_
  cases row with
  | none =>
    cases v.ownBlock with
    | none => exact .inl rfl
    | some q => exact .inr (by simp)
  | some r =>
    refine .inr fun e => ?_
    have h1 := (World.ownsRow.lt h r e).1
    have := hr r rfl
    omega

/-- between two rounds of Crash -/
structure CrAt (w : World) (x : Pl) (N : Nat) (d : Dk.Dev) (kl : List Bool) (t : Nat) (v : Value) (k : Nat) (wr : World) : Prop where
  hp : wr.heap[x.p]? = some (.cells (fields x d) 72 (0, 0))
  hg : Stab wr x.g x.cap (partC d kl t k)
  hd : MapOf wr x.md N (fun i => (d.di i).map aggB)
  hf : MapOf wr x.mf N (fun i => (d.fa i).map (Value.int .i64))
  tn : Turn x.bl w wr
  row : OwnI wr w.heap.size v (dlI d)

/-- what is new, and a store among the stable blocks, keep it -/
theorem CrAt.move {w : World} {x : Pl} {N : Nat} {d : Dk.Dev} {kl : List Bool} {t : Nat} {v : Value} {k k' : Nat} {wr wr' : World} (h : CrAt w x N d kl t v k wr) (hgl : x.g < w.heap.size) (ha : x.p ≠ x.g ∧ x.md ≠ x.g ∧ x.mf ≠ x.g) (hg : wr.grownBy wr' (some x.g)) (hS : Stab wr' x.g x.cap (partC d kl t k')) : CrAt w x N d kl t v k' wr' := by
  have hb : ∀ j, j < wr.heap.size → j ≠ x.g → wr'.heap[j]? = wr.heap[j]? := fun j hj hn => hg.block j hj (by simpa using hn)
  exact ⟨(hb _ (lt_of_heap h.hp) ha.1).trans h.hp, hS, h.hd.of_block (hb _ h.hd.lt ha.2.1), h.hf.of_block (hb _ h.hf.lt ha.2.2),
    h.tn.grow hg fun j e _ => by simp only [Option.some.injEq] at e; rw [← e]; simp [Pl.bl], h.row.kept hg fun j e => by simp only [Option.some.injEq] at e; omega⟩

theorem CrAt.cells {w : World} {x : Pl} {N : Nat} {d : Dk.Dev} {kl : List Bool} {t : Nat} {v : Value} {k : Nat} {wr : World} (h : CrAt w x N d kl t v k wr) :
    ∀ o, (wr.alloc o).cell? ⟨x.p, 0, none⟩ = some (.slice (some ⟨x.g, 0, none⟩) d.st.length x.cap) ∧ (wr.alloc o).cell? ⟨x.p, 2, none⟩ = some (.int .i64 d.la) := by
  intro o
  have := (Below.heap_alloc wr o x.p (lt_of_heap h.hp)).trans h.hp
  refine ⟨?_, ?_⟩ <;> (rw [cell_of_row _ x.p _ _ 72 (0, 0) this]; rfl)

theorem crash_end {w wr : World} {x : Pl} {N : Nat} {d : Dk.Dev} {kl : List Bool} {t : Nat} {v : Value} (h : Has w x N d) (hA : CrAt w x N d kl t v d.dl.length wr) : Has wr x N { d with st := (d.cr kl t).st } := by
  have hlen : (d.cr kl t).st.length = d.st.length := by simp [Dk.Dev.cr]
  have ho := h.ok
  have hc := Dk.cr_ok ho kl t
  refine ⟨?_, ?_, hA.hd, hA.hf, ⟨by show 80 ≤ (d.cr kl t).st.length; rw [hlen]; exact ho.lo, by show (d.cr kl t).st.length ≤ _; rw [hlen]; exact ho.hi, hc.len, fun i b hb => by show _ ∧ _ ∧ i < ((d.cr kl t).st.length : Int); rw [hlen]; exact ho.dom i b hb, ho.fal, ho.cu0, ho.cu1, ho.la0, ho.la1⟩, h.ne, h.hop, h.hcap⟩
  · rw [hA.hp]
    simp [fields, hlen]
  · have := hA.hg
    rw [partC_end d kl t] at this
    exact this

/-- a round's end: the whole block has been carried over -/
theorem crash_whole {w wr : World} {x : Pl} {N : Nat} {d : Dk.Dev} {kl : List Bool} {t : Nat} {v : Value} {k : Nat} (h : Has w x N d) (hA : CrAt w x N d kl t v k wr) (hk : k < d.dl.length) (b : Dk.Blk) (hb : d.di d.dl[k] = some b) (hkeep : kl.getD k false = true) :
    CrAt w x N d kl t v (k + 1) ((wr.alloc (.cells (bV b).toArray 78)).drew.setCells x.g (d.dl[k] * 256) (bV b)) := by
  have ho := h.ok
  obtain ⟨hbl, -, -⟩ := ho.dom _ b hb
  have hm := Dk.mem_dl.1 (List.getElem_mem hk)
  have hgr : wr.grownBy (wr.alloc (.cells (bV b).toArray 78)) none := World.grownBy_alloc wr _ none
  have h4 : Stab (wr.alloc (.cells (bV b).toArray 78)).drew x.g x.cap (partC d kl t k) := hA.hg.of_block (hgr.block _ hA.hg.lt (by simp))
  have h5 := h4.set (i := d.dl[k]) (by rw [partC_len]; exact hm.1) b (by omega)
  have hcr : d.crB kl t d.dl[k] = b := by
    unfold Dk.Dev.crB
    rw [hb]
    simp only [Dk.rank_dl hk, hkeep, if_true]
  rw [List.drop_eq_nil_of_le (by rw [h4.len (by rw [partC_len]; exact hm.1)]; omega), List.append_nil] at h5
  rw [← hcr, partC_step d kl t hk, hcr] at h5
  have hg2 := grown_setCells x.g (d.dl[k] * 256) (bV b) (wr.alloc (.cells (bV b).toArray 78)).drew
  obtain ⟨a1, a2, a3, a4, a5⟩ := h.apart
  refine hA.move h.hg.lt ⟨a1, Ne.symm a4, Ne.symm a5⟩ ?_ h5
  exact ⟨hg2.os, hg2.tape, hg2.output, Nat.le_trans hgr.size hg2.size, fun j hj hn => (hg2.block j (Nat.lt_of_lt_of_le hj hgr.size) hn).trans (hgr.block j hj (by simp))⟩
/-- .. its first bytes have -/
theorem crash_torn {w wr : World} {x : Pl} {N : Nat} {d : Dk.Dev} {kl : List Bool} {t : Nat} {v : Value} {k : Nat} (h : Has w x N d) (hA : CrAt w x N d kl t v k wr) (hk : k < d.dl.length) (b : Dk.Blk) (hb : d.di d.dl[k] = some b) (hkeep : kl.getD k false = false) (hla : (d.dl[k] : Int) = d.la) (ht : t ≤ 256) :
    CrAt w x N d kl t v (k + 1) ((wr.alloc (.cells (bV b).toArray 78)).drew.setCells x.g (d.dl[k] * 256) (bV (b.take t))) := by
  have ho := h.ok
  obtain ⟨hbl, -, -⟩ := ho.dom _ b hb
  have hm := Dk.mem_dl.1 (List.getElem_mem hk)
  have hgr : wr.grownBy (wr.alloc (.cells (bV b).toArray 78)) none := World.grownBy_alloc wr _ none
  have h4 : Stab (wr.alloc (.cells (bV b).toArray 78)).drew x.g x.cap (partC d kl t k) := hA.hg.of_block (hgr.block _ hA.hg.lt (by simp))
  have htl : (b.take t).length = t := by rw [List.length_take]; omega
  have h5 := h4.set (i := d.dl[k]) (by rw [partC_len]; exact hm.1) (b.take t) (by omega)
  have hcr : d.crB kl t d.dl[k] = b.take t ++ (d.stab d.dl[k]).drop t := by
    unfold Dk.Dev.crB
    rw [hb]
    simp only [Dk.rank_dl hk, hkeep, if_pos hla]
    rfl
  rw [htl, partC_at d kl t hk, ← hcr, partC_step d kl t hk] at h5
  have hg2 := grown_setCells x.g (d.dl[k] * 256) (bV (b.take t)) (wr.alloc (.cells (bV b).toArray 78)).drew
  obtain ⟨a1, a2, a3, a4, a5⟩ := h.apart
  refine hA.move h.hg.lt ⟨a1, Ne.symm a4, Ne.symm a5⟩ ?_ h5
  exact ⟨hg2.os, hg2.tape, hg2.output, Nat.le_trans hgr.size hg2.size, fun j hj hn => (hg2.block j (Nat.lt_of_lt_of_le hj hgr.size) hn).trans (hgr.block j hj (by simp))⟩
/-- .. it stays -/
theorem crash_stay {w wr : World} {x : Pl} {N : Nat} {d : Dk.Dev} {kl : List Bool} {t : Nat} {v : Value} {k : Nat} (h : Has w x N d) (hA : CrAt w x N d kl t v k wr) (hk : k < d.dl.length) (b : Dk.Blk) (hb : d.di d.dl[k] = some b) (hkeep : kl.getD k false = false) (hla : ¬ (d.dl[k] : Int) = d.la) :
    CrAt w x N d kl t v (k + 1) (wr.alloc (.cells (bV b).toArray 78)) := by
  have hm := Dk.mem_dl.1 (List.getElem_mem hk)
  have hgr : wr.grownBy (wr.alloc (.cells (bV b).toArray 78)) none := World.grownBy_alloc wr _ none
  have h4 : Stab (wr.alloc (.cells (bV b).toArray 78)) x.g x.cap (partC d kl t k) := hA.hg.of_block (hgr.block _ hA.hg.lt (by simp))
  have hcr : d.crB kl t d.dl[k] = d.stab d.dl[k] := by
    unfold Dk.Dev.crB
    rw [hb]
    simp only [Dk.rank_dl hk, hkeep, if_neg hla]
    rfl
  have h5 : (partC d kl t k) = partC d kl t (k + 1) := by
    rw [← partC_step d kl t hk, hcr, ← partC_at d kl t hk]
    refine list_ext_getD (by simp) fun j hj => ?_
    rw [stab_getD_set _ _ _ _ (by rw [partC_len]; exact hm.1)]
    split
    · rename_i e; rw [e]
    · rfl
  rw [h5] at h4
  obtain ⟨a1, a2, a3, a4, a5⟩ := h.apart
  exact hA.move h.hg.lt ⟨a1, Ne.symm a4, Ne.symm a5⟩ ⟨hgr.os, hgr.tape, hgr.output, hgr.size, fun j hj _ => hgr.block j hj (by simp)⟩ h4

set_option maxRecDepth 100000 in
set_option maxHeartbeats 4000000 in
theorem Crash_any (w : World) (x : Pl) (N : Nat) (d : Dk.Dev) (h : Has w x N d) (hN : N ≤ 1000000000) (vk : Value) (kl : List Bool) (B : Nat) (hv : Bols w B vk kl) (hB : B ≤ w.heap.size) (hap : kl ≠ [] → ∀ k, vk.ownBlock = some k → k ∉ x.bl) (torn : Int) (t : Nat) (ht : min (max torn 0) 256 = (t : Int)) :
    Calls Try.prog 11 #[ptr x.p, vk, .int .i64 torn] w fun e w' => e = .returned (.int .i64 0) ∧ Has w' x N (d.cr kl t) ∧ Turn x.bl w w' := by
  have hdi := Dirty_any w x N d h hN
  have ht2 : t ≤ 256 := by omega
  have hhi := h.ok.hi
  obtain ⟨adk, ck, rfl, hck, hcells⟩ := hv
  have Hc : Hid (kl ≠ [] → ∃ b o, adk = some ⟨b, o, none⟩ ∧ b < B ∧ ∀ j, j < kl.length → w.cell? ⟨b, o + j, none⟩ = some (.bool (kl.getD j false))) := hcells
  have HT : Hid (min (max torn 0) 256 = (t : Int)) := ht
  clear hcells ht
  unfold ptr at *
  go_enter Try.func11, Try.ntmps11
  go_wp2_with fail
  rw [HT.out]
  refine hdi.mono ?_
  rintro e w1 ⟨v, rfl, hrow, hb1⟩
  clear hdi
  have hk1 := h.below hb1
  have hA0 : CrAt w x N d kl t v 0 w1 := ⟨hk1.hp, by rw [partC_start]; exact hk1.hg, hk1.hd, hk1.hf, Turn.mono (Turn.of_below hb1) (by simp), hrow⟩
  have hdl : (dlI d).length = d.dl.length := by simp [dlI]
  obtain ⟨adv, cv, rfl, hcv⟩ := hrow.shape
  rw [hdl] at hcv hA0 hrow ⊢
  have HDL : Hid ((dlI d).length = d.dl.length) := hdl
  clear hdl
  have hdlen := Dk.dl_le d
  have hz := zero78
  go_wp2
  go_loopw [18] (fun c wr => ∃ k : Nat, k ≤ d.dl.length ∧ c = .int .i64 (k : Int) ∧ CrAt w x N d kl t (.slice adv d.dl.length cv) k wr) (fun c _ => d.dl.length - (intOf c).toNat)
  case atStart => exact ⟨0, Nat.zero_le _, rfl, hA0⟩
  case round =>
    obtain ⟨k, hk, rfl, hA⟩ := hrel
    by_cases hlt : k < d.dl.length
    · have hm := Dk.mem_dl.1 (List.getElem_mem hlt)
      obtain ⟨b, hb⟩ := Option.isSome_iff_exists.1 hm.2
      have hbl := (h.ok.dom _ b hb).1
      obtain ⟨gv, rfl, hgv0, hgv1, hcell⟩ := hA.row.cell (by intro e; have := HDL.out; rw [e] at this; simp at this; omega)
      have hcell := hcell k (by rw [HDL.out]; exact hlt)
      have hgd : (dlI d).getD k 0 = ((d.dl[k] : Nat) : Int) := by simp [dlI, List.getD, hlt]
      rw [hgd] at hcell
      have r1 : wr.cell? ⟨x.p, 1, none⟩ = some (.map (some x.md)) := by rw [cell_of_row wr x.p _ _ 72 (0, 0) hA.hp]; rfl
      have hlk := hA.hd.look1 Try.underlying69 (zero78 _) (x := ((d.dl[k] : Nat) : Int)) (by omega) (by omega)
      rw [hb] at hlk
      simp only [Option.map_some, Option.getD_some, aggB] at hlk
      have ca0 := fun o => (hA.cells o).1
      have ca2 := fun o => (hA.cells o).2
      have HW : Hid (kl.getD k false = true → CrAt w x N d kl t (.slice (some ⟨gv, 0, none⟩) d.dl.length cv) (k + 1) ((wr.alloc (.cells (bV b).toArray 78)).drew.setCells x.g (d.dl[k] * 256) (bV b))) := fun hkp => crash_whole h hA hlt b hb hkp
      have HTn : Hid (kl.getD k false = false → ((d.dl[k] : Nat) : Int) = d.la → CrAt w x N d kl t (.slice (some ⟨gv, 0, none⟩) d.dl.length cv) (k + 1) ((wr.alloc (.cells (bV b).toArray 78)).drew.setCells x.g (d.dl[k] * 256) (bV (b.take t)))) := fun hkp hla => crash_torn h hA hlt b hb hkp hla ht2
      have HSt : Hid (kl.getD k false = false → ¬ ((d.dl[k] : Nat) : Int) = d.la → CrAt w x N d kl t (.slice (some ⟨gv, 0, none⟩) d.dl.length cv) (k + 1) (wr.alloc (.cells (bV b).toArray 78))) := fun hkp hla => crash_stay h hA hlt b hb hkp hla
      have hin := hm.1
      clear hb hm hgd
      generalize d.dl[k] = i at *
      have hpg : x.p ≠ x.g := h.apart.1
      have hglt : x.g < wr.heap.size := hA.hg.lt
      have hS4 : Stab (wr.alloc (.cells (bV b).toArray 78)) x.g x.cap (partC d kl t k) := hA.hg.of_block (Below.heap_alloc wr _ x.g hglt)
      have hth := hS4.there (i := i) (n := 256) (by rw [partC_len]; exact hin) (Nat.le_refl _)
      have hrl : (wr.alloc (.cells (bV b).toArray 78)).rangeAt wr.heap.size 0 (bV b) := by
        intro j u hu
        rw [cell_of_row _ wr.heap.size (0 + j) _ 78 (0, 0) (heap_alloc_new wr _), Nat.zero_add]
        simpa using hu
      have p5 : ∀ vs, ((wr.alloc (.cells (bV b).toArray 78)).drew.setCells x.g (i * 256) vs).cell? ⟨x.p, 0, none⟩ = some (.slice (some ⟨x.g, 0, none⟩) d.st.length x.cap) := fun vs => by
        rw [World.cell?_setCells_out x.g _ _ _ ⟨x.p, 0, none⟩ (fun e => absurd e hpg)]
        exact ca0 _
      have hi0 : (0 : Int) ≤ (i : Int) := by omega
      have hi1 : (i : Int) < (d.st.length : Int) := by omega
      have hu78 := Try.underlying78
      have hl78 : (bV b).length = 256 := by rw [bV_length]; exact hbl
      have hi78 : (Try.prog.info? 78).map (·.size) = some (bV b).length := by rw [hl78]; exact info78
      have ho78 := bV_oneCell b
      have ht0 : (0 : Int) ≤ (t : Int) := by omega
      have ht1 : (t : Int) ≤ 256 := by omega
      have hcp : (Builtin.copy_ #[27, 27] 3 #[.slice (some ⟨x.g, i * 256, none⟩) 256 256, .slice (some ⟨wr.heap.size, 0, none⟩) t 256]).run Try.prog (wr.alloc (.cells (bV b).toArray 78)).drew = .ok (goInt t) ((wr.alloc (.cells (bV b).toArray 78)).drew.setCells x.g (i * 256) (bV (b.take t))) := by
        have hlt2 : (bV (b.take t)).length = t := by rw [bV_length, List.length_take]; omega
        have hmin : Nat.min t 256 = t := Nat.min_eq_left ht2
        have := run_copy_cells (P := Try.prog) (wr.alloc (.cells (bV b).toArray 78)).drew 27 27 3 5 x.g (i * 256) 256 256 ⟨wr.heap.size, 0, none⟩ t 256 (bV (b.take t)) Try.underlying27 (by kernel_rfl) (by rw [hlt2, hmin]) ?_ ?_ ?_ (bV_oneCell _)
        · rw [hlt2] at this; exact this
        · intro j u hu
          rw [Addr.add_mid]
          have hj := (List.getElem?_eq_some_iff.1 hu).1
          refine hrl j u ?_
          rw [hlt2] at hj
          rw [bV_get (by omega)]
          rw [bV_get (by rw [List.length_take]; omega)] at hu
          rw [← hu]
          simp [List.getD, hj]
        · intro j hj
          exact (hth j (by rw [hlt2] at hj; omega)).1
        · intro j hj
          exact (hth j (by rw [hlt2] at hj; omega)).2
      by_cases hkk : k < kl.length
      · obtain ⟨bk, ok, rfl, hbk, hkc⟩ := Hc.out (by intro e; rw [e] at hkk; simp at hkk)
        have hkc2 : ∀ o, (wr.alloc o).cell? ⟨bk, ok + k, none⟩ = some (.bool (kl.getD k false)) := fun o => by
          have h1 : wr.heap[bk]? = w.heap[bk]? := hA.tn.block bk (by omega) (hap (by intro e; rw [e] at hkk; simp at hkk) bk rfl)
          have h2 : bk < wr.heap.size := by have := hA.tn.size; omega
          rw [World.cell?_of_block (a := ⟨bk, ok + k, none⟩) ((Below.heap_alloc wr o bk h2).trans h1)]
          exact hkc k hkk
        have hkk' : (k : Int) < (kl.length : Int) := by omega
        clear hkc
        cases hkb : kl.getD k false with
        | true =>
          rw [hkb] at hkc2
          have HWo : Hid (CrAt w x N d kl t (.slice (some ⟨gv, 0, none⟩) d.dl.length cv) (k + 1) ((wr.alloc (.cells (bV b).toArray 78)).drew.setCells x.g (i * 256) (bV b))) := HW.out hkb
          have rl5 : ((wr.alloc (.cells (bV b).toArray 78)).drew.setCells x.g (i * 256) (bV b)).rangeAt wr.heap.size 0 (bV b) := World.rangeAt_setCells_apart (by simpa using hrl) _ _ _ (.inl (by omega))
          have p5' := p5 (bV b)
          have p4 := ca0 (.cells (bV b).toArray 78)
          clear HW HTn HSt hkb hcp p5
          go_wp2_with (refine wpList_store_blk wr rfl (.tmp 9) (.tmp 28) rfl b Dk.zeroB hbl Dk.zeroB_len rfl rfl ?_)
          go_region_held3 (fun w' => w'.cell? ⟨x.p, 0, none⟩ = some (.slice (some ⟨x.g, 0, none⟩) d.st.length x.cap) ∧ w'.rangeAt wr.heap.size 0 (bV b) ∧ w'.there x.g (i * 256) 256) (go_keep_ranges) (fail)
          go_wp2
          go_roundw
          case rel => exact ⟨k + 1, by omega, by go_num, HWo.out⟩
          case measure => simp [intOf]; omega
        | false =>
          rw [hkb] at hkc2
          by_cases hla : (i : Int) = d.la
          · have HWo : Hid (CrAt w x N d kl t (.slice (some ⟨gv, 0, none⟩) d.dl.length cv) (k + 1) ((wr.alloc (.cells (bV b).toArray 78)).drew.setCells x.g (i * 256) (bV (b.take t)))) := HTn.out hkb hla
            have p5' := p5 (bV (b.take t))
            have p4 : (wr.alloc (.cells (bV b).toArray 78)).drew.cell? ⟨x.p, 0, none⟩ = some (.slice (some ⟨x.g, 0, none⟩) d.st.length x.cap) := ca0 (.cells (bV b).toArray 78)
            have hla2 : ((i : Int) == d.la) = true := by simpa using hla
            clear HW HTn HSt hkb p5 hla
            go_wp2_with (refine wpList_store_blk wr rfl (.tmp 9) (.tmp 28) rfl b Dk.zeroB hbl Dk.zeroB_len rfl rfl ?_)
            go_region_held3 (fun w' => w'.cell? ⟨x.p, 0, none⟩ = some (.slice (some ⟨x.g, 0, none⟩) d.st.length x.cap)) (assumption) (fail)
            go_wp2
            go_roundw
            case rel => exact ⟨k + 1, by omega, by go_num, HWo.out⟩
            case measure => simp [intOf]; omega
          · have HWo : Hid (CrAt w x N d kl t (.slice (some ⟨gv, 0, none⟩) d.dl.length cv) (k + 1) (wr.alloc (.cells (bV b).toArray 78))) := HSt.out hkb hla
            have hla2 : ((i : Int) == d.la) = false := by simpa using hla
            clear HW HTn HSt hkb p5 hla
            go_wp2_with (refine wpList_store_blk wr rfl (.tmp 9) (.tmp 28) rfl b Dk.zeroB hbl Dk.zeroB_len rfl rfl ?_)
            go_wp2
            go_roundw
            case rel => exact ⟨k + 1, by omega, by go_num, HWo.out⟩
            case measure => simp [intOf]; omega
      · have hkb : kl.getD k false = false := by simp [List.getD, List.getElem?_eq_none (Nat.le_of_not_lt hkk)]
        have hkk' : (kl.length : Int) ≤ (k : Int) := by omega
        by_cases hla : (i : Int) = d.la
        · have HWo : Hid (CrAt w x N d kl t (.slice (some ⟨gv, 0, none⟩) d.dl.length cv) (k + 1) ((wr.alloc (.cells (bV b).toArray 78)).drew.setCells x.g (i * 256) (bV (b.take t)))) := HTn.out hkb hla
          have p5' := p5 (bV (b.take t))
          have p4 : (wr.alloc (.cells (bV b).toArray 78)).drew.cell? ⟨x.p, 0, none⟩ = some (.slice (some ⟨x.g, 0, none⟩) d.st.length x.cap) := ca0 (.cells (bV b).toArray 78)
          have hla2 : ((i : Int) == d.la) = true := by simpa using hla
          clear HW HTn HSt hkb p5 hla hkk
          go_wp2_with (refine wpList_store_blk wr rfl (.tmp 9) (.tmp 28) rfl b Dk.zeroB hbl Dk.zeroB_len rfl rfl ?_)
          go_region_held3 (fun w' => w'.cell? ⟨x.p, 0, none⟩ = some (.slice (some ⟨x.g, 0, none⟩) d.st.length x.cap)) (assumption) (fail)
          go_wp2
          go_roundw
          case rel => exact ⟨k + 1, by omega, by go_num, HWo.out⟩
          case measure => simp [intOf]; omega
        · have HWo : Hid (CrAt w x N d kl t (.slice (some ⟨gv, 0, none⟩) d.dl.length cv) (k + 1) (wr.alloc (.cells (bV b).toArray 78))) := HSt.out hkb hla
          have hla2 : ((i : Int) == d.la) = false := by simpa using hla
          clear HW HTn HSt hkb p5 hla hkk
          go_wp2_with (refine wpList_store_blk wr rfl (.tmp 9) (.tmp 28) rfl b Dk.zeroB hbl Dk.zeroB_len rfl rfl ?_)
          go_wp2
          go_roundw
          case rel => exact ⟨k + 1, by omega, by go_num, HWo.out⟩
          case measure => simp [intOf]; omega
    · obtain rfl : k = d.dl.length := by omega
      have hkr := crash_end h hA
      obtain ⟨w5, hcl, hm5, htn5⟩ := hkr.hd.clear Try.underlying69 0
      have hk5 : Has w5 x N { d with st := (d.cr kl t).st, di := fun _ => none } := hkr.setD htn5 (hm5.mono (Nat.zero_le _)) rfl rfl rfl ⟨hkr.ok.lo, hkr.ok.hi, hkr.ok.len, (fun i b hh => by cases hh), hkr.ok.fal, hkr.ok.cu0, hkr.ok.cu1, hkr.ok.la0, hkr.ok.la1⟩ (Nat.le_refl _) h.hop
      obtain ⟨w6, hcl6, hm6, htn6⟩ := hk5.hf.clear Try.underlying70 0
      have hk6 : Has w6 x N { d with st := (d.cr kl t).st, di := fun _ => none, fa := fun _ => none } := hk5.setM htn6 (hm6.mono (Nat.zero_le _)) rfl rfl rfl ⟨hkr.ok.lo, hkr.ok.hi, hkr.ok.len, (fun i b hh => by cases hh), (fun i b hh => by cases hh), hkr.ok.cu0, hkr.ok.cu1, hkr.ok.la0, hkr.ok.la1⟩ (Nat.le_refl _) h.hop
      have hk7 : Has (w6.setCell ⟨x.p, 5, none⟩ (.int .i64 9223372036854775807)) x N (d.cr kl t) := hk6.setF 5 (.int .i64 9223372036854775807) (by simp [fields, Dk.Dev.cr]) rfl rfl rfl (Dk.cr_ok h.ok kl t) (Nat.le_refl _) h.hop
      have ht7 : Turn x.bl w (w6.setCell ⟨x.p, 5, none⟩ (.int .i64 9223372036854775807)) := ((hA.tn.join (turn_md htn5)).join (turn_mf htn6)).join (turn_set w6 x 5 _)
      have r1 : wr.cell? ⟨x.p, 1, none⟩ = some (.map (some x.md)) := hkr.cells.2.1
      have r4 : w5.cell? ⟨x.p, 4, none⟩ = some (.map (some x.mf)) := hk5.cells.2.2.2.2.1
      have r5 : w6.cell? ⟨x.p, 5, none⟩ = some (.int .i64 d.cu) := hk6.cells.2.2.2.2.2.1
      have f6 := hk6.cells.2.2.2.2.2.2
      have HK : Hid (Has (w6.setCell ⟨x.p, 5, none⟩ (.int .i64 9223372036854775807)) x N (d.cr kl t)) := hk7
      have HT7 : Hid (Turn x.bl w (w6.setCell ⟨x.p, 5, none⟩ (.int .i64 9223372036854775807))) := ht7
      clear hk7 ht7 hk6 hk5 hkr hm5 hm6 htn5 htn6 hA hA0
      go_wp2
      go_ret
      exact ⟨rfl, HK.out, HT7.out⟩
end Go.Proofs.Ytccfoafcfnhejaa
