/-
  Stable and Read.
-/
import Derived.Test.YtccfoafcfnhejaaArr
namespace Go.Proofs.Ytccfoafcfnhejaa
open Go.RowKit Go.Maps Go.ChangeMaps

set_option maxRecDepth 100000 in
set_option maxHeartbeats 1000000 in
theorem Stable_no (w : World) (x : Pl) (N : Nat) (d : Dk.Dev) (h : Has w x N d) (i : Int) (h0 : i < 0 ∨ (d.st.length : Int) ≤ i) : Calls Try.prog 12 #[ptr x.p, .int .i64 i] w fun e w' => e = .returned (.tuple #[.slice none 0 0, .int .i64 5]) ∧ w' = w := by
  have hl := lacks_no w x N d h i h0
  unfold ptr at *
  go_enter Try.func12, Try.ntmps12
  go_wp2_with fail
  refine hl.mono ?_
  rintro e w1 ⟨rfl, rfl⟩
  go_wp2
  go_ret2
  exact ⟨rfl, rfl⟩

set_option maxRecDepth 100000 in
set_option maxHeartbeats 1000000 in
theorem Stable_ok (w : World) (x : Pl) (N : Nat) (d : Dk.Dev) (h : Has w x N d) (i : Nat) (hi : i < d.st.length) : Calls Try.prog 12 #[ptr x.p, .int .i64 (i : Int)] w fun e w' => ∃ v, e = .returned (.tuple #[v, .int .i64 0]) ∧ Own w' w.heap.size v (d.stab i) ∧ Below w.heap.size w w' := by
  have hl := lacks_ok w x N d h i (by omega) (by omega)
  obtain ⟨c0, -⟩ := h.cells
  have hby := h.hg.byts hi
  have hlen := h.ok.len i hi
  have hglt := h.hg.lt
  have hcap : d.st.length ≤ x.cap := by obtain ⟨cur, _, _, h3, _⟩ := h.hg; exact h3
  have hhi := h.ok.hi
  unfold ptr at *
  go_enter Try.func12, Try.ntmps12
  go_wp2_with fail
  refine hl.mono ?_
  rintro e w1 ⟨rfl, rfl⟩
  go_wp2_with fail
  refine (CloneB_any _ _ (x.g + 1) _ hby (by omega) (by show (d.stab i).length ≤ _; omega)).mono ?_
  rintro e w1 ⟨v, rfl, ho, hb⟩
  go_wp2
  go_ret2
  exact ⟨v, rfl, ho, hb⟩

set_option maxRecDepth 100000 in
set_option maxHeartbeats 1000000 in
theorem Read_no (w : World) (x : Pl) (N : Nat) (d : Dk.Dev) (h : Has w x N d) (i : Int) (h0 : i < 0 ∨ (d.st.length : Int) ≤ i) : Calls Try.prog 15 #[ptr x.p, .int .i64 i] w fun e w' => e = .returned (.tuple #[.slice none 0 0, .int .i64 5]) ∧ w' = w := by
  have hl := lacks_no w x N d h i h0
  unfold ptr at *
  go_enter Try.func15, Try.ntmps15
  go_wp2_with fail
  refine hl.mono ?_
  rintro e w1 ⟨rfl, rfl⟩
  go_wp2
  go_ret2
  exact ⟨rfl, rfl⟩

set_option maxRecDepth 100000 in
set_option maxHeartbeats 1000000 in
theorem Read_err (w : World) (x : Pl) (N : Nat) (d : Dk.Dev) (h : Has w x N d) (hN : N ≤ 1000000000) (i : Nat) (hi : i < d.st.length) (he : d.err ≠ 0) :
    Calls Try.prog 15 #[ptr x.p, .int .i64 (i : Int)] w fun e w' => e = .returned (.tuple #[.slice none 0 0, .int .i64 d.err]) ∧ Has w' x (N + 1) d.begun ∧ Turn x.bl w w' := by
  have hl := lacks_ok w x N d h i (by omega) (by omega)
  have hbg := begin_any w x N d h hN
  unfold ptr at *
  generalize d.err = er at *
  go_enter Try.func15, Try.ntmps15
  go_wp2_with fail
  refine hl.mono ?_
  rintro e w1 ⟨rfl, rfl⟩
  go_wp2_with fail
  refine hbg.mono ?_
  rintro e w2 ⟨rfl, hk, ht⟩
  go_wp2
  go_ret2
  exact ⟨rfl, hk, ht⟩

set_option maxRecDepth 100000 in
set_option maxHeartbeats 1000000 in
theorem Read_ok (w : World) (x : Pl) (N : Nat) (d : Dk.Dev) (h : Has w x N d) (hN : N ≤ 1000000000) (i : Nat) (hi : i < d.st.length) (he : d.err = 0) :
    Calls Try.prog 15 #[ptr x.p, .int .i64 (i : Int)] w fun e w' => ∃ v, e = .returned (.tuple #[v, .int .i64 0]) ∧ Own w' w.heap.size v (d.cont i) ∧ Has w' x (N + 1) d.begun ∧ Turn x.bl w w' := by
  have hl := lacks_ok w x N d h i (by omega) (by omega)
  have hbg := begin_any w x N d h hN
  rw [he] at hbg
  have hhi := h.ok.hi
  clear he
  unfold ptr at *
  go_enter Try.func15, Try.ntmps15
  go_wp2_with fail
  refine hl.mono ?_
  rintro e w1 ⟨rfl, rfl⟩
  go_wp2_with fail
  refine hbg.mono ?_
  rintro e w2 ⟨rfl, hk, ht⟩
  clear hl hbg
  obtain ⟨c0, c1, -⟩ := hk.cells
  have hlk := hk.hd.look Try.underlying69 (zero78 _) (x := (i : Int)) (by omega) (by omega)
  have hz := zero78
  have hdb : d.begun.di = d.di := rfl
  have hst : d.begun.st = d.st := rfl
  rw [hdb] at hlk
  rw [hst] at c0
  have hk' := hk.below ((Below.refl _ w2).alloc (Nat.le_refl _) (.cells (bV Dk.zeroB).toArray 78))
  have hs2 := ht.size
  cases hdi : d.di i with
  | some b =>
    have hbl := (h.ok.dom i b hdi).1
    have HC : Hid (d.cont i = b) := by show _ = _; simp [Dk.Dev.cont, hdi]
    have hk2 := hk.below ((Below.refl _ w2).alloc (Nat.le_refl _) (.cells (bV b).toArray 78))
    have hby := byts_blk w2 b hbl
    rw [hdi] at hlk
    simp only [Option.map_some, Option.getD_some, Option.isSome_some, aggB] at hlk
    clear hdi hdb hst
    go_wp2_with (refine wpList_store_blk w2 rfl (.tmp 8) (.tmp 28) rfl b Dk.zeroB hbl Dk.zeroB_len rfl rfl ?_)
    refine (CloneB_any _ _ (w2.heap.size + 1) _ hby (by simp) (by omega)).mono ?_
    rintro e w3 ⟨v, rfl, ho, hb⟩
    go_wp2
    go_ret2
    refine ⟨v, rfl, ?_, hk2.below hb, (ht.alloc _).belowTrans hb⟩
    rw [HC.out]
    exact ho.low (by simp; omega)
  | none =>
    have hk2 := hk.below ((Below.refl _ w2).alloc (Nat.le_refl _) (.cells (bV Dk.zeroB).toArray 78))
    have hby := hk2.hg.byts (i := i) hi
    have HC : Hid (d.cont i = d.stab i) := by show _ = _; simp [Dk.Dev.cont, hdi]
    rw [hdi] at hlk
    simp only [Option.map_none, Option.getD_none, Option.isSome_none] at hlk
    have c0a := hk2.cells.1
    rw [hst] at c0a
    clear hdi hdb hst
    have hcap : d.st.length ≤ x.cap := by obtain ⟨cur, _, _, h3, _⟩ := h.hg; exact h3
    have hlen := h.ok.len i hi
    have hglt := hk2.hg.lt
    go_wp2_with (refine wpList_store_blk w2 rfl (.tmp 8) (.tmp 28) rfl Dk.zeroB Dk.zeroB Dk.zeroB_len Dk.zeroB_len rfl rfl ?_)
    refine (CloneB_any _ _ (x.g + 1) _ hby (by simp at hglt ⊢; omega) (by show (d.stab i).length ≤ _; omega)).mono ?_
    rintro e w3 ⟨v, rfl, ho, hb⟩
    go_wp2
    go_ret2
    refine ⟨v, rfl, ?_, hk2.below hb, (ht.alloc _).belowTrans hb⟩
    rw [HC.out]
    exact ho.low (by simp; omega)
end Go.Proofs.Ytccfoafcfnhejaa
