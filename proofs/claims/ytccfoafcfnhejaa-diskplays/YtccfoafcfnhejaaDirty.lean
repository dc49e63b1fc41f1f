/-
  Dirty: the keys of the map of dirty blocks, sorted.
-/
import Derived.Test.YtccfoafcfnhejaaLaid
import Derived.Test.YtccfoafcfnhejaaSmall
namespace Go.Proofs.Ytccfoafcfnhejaa
open Go.RowKit Go.Maps Go.Sort Go.Shelf

/-- v's row, among the blocks from base on, holds the numbers l -/
def OwnI (w : World) (base : Nat) (v : Value) (l : List Int) : Prop := w.ownsRow base 3 1 v l.length (l.map encZ)

theorem sortsA (m : Nat) : AnyZI.SortsIn Try.prog Try.sortedA_ren Fence.wide m :=
  ⟨fun blk off cap ss W hH hblk hsz => callsIn_wide.2 (AnyM.slices_Sort_int Try.sortA blk off cap ss W hH hblk hsz),
   fun p cap W => callsIn_wide.2 (AnyM.slices_Sort_int_none Try.sortA p cap W)⟩

/-- the dirty blocks as numbers -/
def dlI (d : Dk.Dev) : List Int := d.dl.map fun (i : Nat) => (i : Int)

theorem dlI_pw (d : Dk.Dev) : (dlI d).Pairwise (· < ·) := by
  unfold dlI
  rw [List.pairwise_map]
  exact (Dk.dl_pw d).imp (fun h => by omega)

theorem mem_dlI {d : Dk.Dev} (hok : Dk.Ok d) {y : Int} : y ∈ dlI d ↔ (d.di y).isSome = true := by
  unfold dlI
  rw [List.mem_map]
  constructor
  · rintro ⟨i, hi, rfl⟩
    exact (Dk.mem_dl.1 hi).2
  · intro hy
    obtain ⟨b, hb⟩ := Option.isSome_iff_exists.1 hy
    have hd := hok.dom y b hb
    have e : ((y.toNat : Nat) : Int) = y := by omega
    exact ⟨y.toNat, Dk.mem_dl.2 ⟨by omega, by rw [e]; exact hy⟩, e⟩

theorem sorted_is {l m : List Int} (h1 : l.Nodup) (h2 : m.Pairwise (· < ·)) (h : ∀ x, x ∈ l ↔ x ∈ m) : l.mergeSort (fun x y => decide (x ≤ y)) = m := by
  have tr : ∀ a b c : Int, decide (a ≤ b) = true → decide (b ≤ c) = true → decide (a ≤ c) = true := fun a b c h1 h2 => by simp only [decide_eq_true_eq] at *; omega
  have tt : ∀ a b : Int, (decide (a ≤ b) || decide (b ≤ a)) = true := fun a b => by simp only [Bool.or_eq_true, decide_eq_true_eq]; omega
  have hp := List.mergeSort_perm l (fun x y => decide (x ≤ y))
  have hs := List.pairwise_mergeSort tr tt l
  have hn : (l.mergeSort (fun x y => decide (x ≤ y))).Nodup := hp.nodup_iff.2 h1
  refine Dk.eq_of_rising ?_ h2 (fun x => by rw [hp.mem_iff, h x])
  refine (hs.and hn).imp (fun {a b} hab => ?_)
  obtain ⟨h1, h2⟩ := hab
  simp only [decide_eq_true_eq] at h1
  omega

set_option maxRecDepth 100000 in
set_option maxHeartbeats 1000000 in
theorem Dirty_any (w : World) (x : Pl) (N : Nat) (d : Dk.Dev) (h : Has w x N d) (hN : N ≤ 1000000000) :
    Calls Try.prog 19 #[ptr x.p] w fun e w' => ∃ v, e = .returned v ∧ OwnI w' w.heap.size v (dlI d) ∧ Below w.heap.size w w' := by
  obtain ⟨-, c1, -⟩ := h.cells
  obtain ⟨D, hown, hh, hat⟩ := h.hd
  have hok := h.ok
  have hsz := hown.size_le
  have hbl := hown.lt
  have hseq : SeqGives Fence.wide 2 Try.prog 54 #[.pointer (some ⟨w.heap.size, 0, none⟩)] encZ (fun ss => ss.Perm (intKeys D)) (Maps.size D) (w.alloc (.cells #[.map (some x.md)] 69)) :=
    AnyZI.keys_gives (ρ := Try.keysA_ren) { Try.keysA with } Fence.wide _ trivial rfl (by omega) w.heap.size x.md N D _ (by simp) (by simp) (by
      obtain ⟨es, clock, hb, Ft, hs, hD⟩ := hown
      exact ⟨es, clock, (Below.heap_alloc _ _ x.md hbl).trans hb, Ft, hs, hD⟩)
  have cK : ∀ mb W, CallsIn Fence.wide 5 Try.prog 40 #[.map mb] W fun e w' => e = .returned (.func (.func 54) #[] #[.pointer (some ⟨W.heap.size, 0, none⟩)]) ∧ w' = W.alloc (.cells #[.map mb] 69) := fun mb W => AnyZI.keys_in Try.keysA Fence.wide 5 trivial rfl mb W
  have cS := AnyZI.sorted_in Try.sortedA Fence.wide 5 trivial trivial trivial trivial rfl (by omega) (sortsA _) (enters_of Try.func53 (by kernel_rfl) rfl) 54 #[.pointer (some ⟨w.heap.size, 0, none⟩)] trivial (enters_of Try.func54 (by kernel_rfl) rfl) _ _ (by unfold maxLen; omega) (by omega) _ hseq
  change CallsIn _ _ Try.prog 39 _ _ _ at cS
  have hperm : (dlI d).Perm (intKeys D) := CollectedI.perm (left := fun _ => false) ⟨(dlI_pw d).imp (fun h => by omega), fun y => by
    rw [mem_dlI hok, hh]
    simp⟩ hown keyed3 Try.underlying3 (fun _ => rfl)
  have HF : Hid ((dlI d).Perm (intKeys D)) := hperm
  clear hperm hh hat
  refine (callsIn_wide (n := 6)).1 ?_
  have hfK : Fence.wide.fn 40 := trivial
  have hfS : Fence.wide.fn 39 := trivial
  unfold ptr
  refine callsIn_of_wp Try.func19 rfl trivial ?_ rfl
  simp only [Try.ntmps19, List.size_toArray, List.length_cons, List.length_nil, Nat.reduceAdd, Nat.reduceSub, Array.replicate_succ, Array.replicate_zero, List.push_toArray, List.append_toArray, List.nil_append, List.cons_append]
  gi_wp2_with (first
    | (gi_at_call 40; refine (cK _ _).mono ?_; rintro e w' ⟨rfl, rfl⟩)
    | (gi_at_call 39; refine cS.mono ?_; rintro e w' ⟨v, ss, rfl, hS, hrow, hnil, hb⟩))
  go_ret
  refine ⟨v, rfl, ?_, ((Below.refl _ w).alloc (Nat.le_refl _) _).trans (hb.mono (by simp))⟩
  have hm := sorted_is (l := ss) (m := dlI d) ((hS.trans HF.out.symm).nodup_iff.2 ((dlI_pw d).imp (fun h => by omega))) (dlI_pw d) (fun y => (hS.trans HF.out.symm).mem_iff)
  rw [hm] at hrow
  have hl : ss.length = (dlI d).length := by rw [← hm, List.length_mergeSort]
  rw [hl] at hrow
  exact ownsRow_base_a hrow (by simp)
end Go.Proofs.Ytccfoafcfnhejaa
