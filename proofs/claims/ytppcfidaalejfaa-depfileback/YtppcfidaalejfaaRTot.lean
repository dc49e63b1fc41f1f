/-
  ROWS OF TEXTS AND THEIR BYTES, pieces joined. No program here.
-/
import Derived.Test.YtppcfidaalejfaaRCutT
namespace Go.Proofs.Ytppcfidaalejfaa
open Go.RowKit

/-- how many bytes texts have, one more for each -/
def tot (l : List ByteArray) : Nat := (l.map fun s => s.size + 1).sum
theorem tot_take (l : List ByteArray) (k : Nat) (h : k < l.length) : tot (l.take (k + 1)) = tot (l.take k) + ((l.getD k .empty).size + 1) := by
  unfold tot
  rw [List.take_succ_eq_append_getElem h, List.map_append, List.sum_append]
  simp [List.getD, List.getElem?_eq_getElem h]
theorem tot_le (l : List ByteArray) (k : Nat) : tot (l.take k) ≤ tot l := by
  unfold tot
  conv => rhs; rw [← List.take_append_drop k l, List.map_append, List.sum_append]
  omega

theorem join_take (l : List ByteArray) (k : Nat) (h : k < l.length) : Pm.join ((l.take (k + 1)).map bs) = if k = 0 then bs (l.getD k .empty) else Pm.join ((l.take k).map bs) ++ 47 :: bs (l.getD k .empty) := by
  rw [List.take_succ_eq_append_getElem h, List.map_append]
  have e : l.getD k .empty = l[k] := by simp [List.getD, List.getElem?_eq_getElem h]
  rw [e]
  by_cases hk : k = 0
  · subst hk; simp [Pm.join]
  · rw [if_neg hk, List.map_cons, List.map_nil, Pm.join_append]
    intro hn
    have := congrArg List.length hn
    rw [List.length_map, List.length_take, List.length_nil] at this
    omega
theorem join_tot (l : List ByteArray) : (Pm.join (l.map bs)).length ≤ tot l := by
  induction l with
  | nil => simp [Pm.join, tot]
  | cons a r ih =>
    cases r with
    | nil => simp [Pm.join, tot]
    | cons b r =>
      rw [List.map_cons, Pm.join_cons _ _ (by simp)]
      have : tot (a :: b :: r) = a.size + 1 + tot (b :: r) := by simp [tot]
      rw [this, List.length_append, List.length_cons, bs_length]
      omega


end Go.Proofs.Ytppcfidaalejfaa

namespace Go.Proofs.Ytppcfidaalejfaa
open Go.RowKit

theorem seg_at {l : List ByteArray} {x : List Pm.B} (h : l.map bs = x) (k : Nat) (hk : k < l.length) : x.take (k + 1) = x.take k ++ [bs (l.getD k .empty)] := by
  subst h
  rw [List.take_succ_eq_append_getElem (by simpa using hk), List.getElem_map]
  simp [List.getD, List.getElem?_eq_getElem hk]

theorem tot_join (l : List ByteArray) (h : l ≠ []) : tot l = (Pm.join (l.map bs)).length + 1 := by
  induction l with
  | nil => exact absurd rfl h
  | cons a r ih =>
    cases r with
    | nil => simp [Pm.join, tot]
    | cons b r =>
      have e : tot (a :: b :: r) = a.size + 1 + tot (b :: r) := by simp [tot]
      rw [List.map_cons, Pm.join_cons _ _ (by simp), e, ih (by simp), List.length_append, List.length_cons, bs_length]
      omega
theorem length_tot (l : List ByteArray) : l.length ≤ tot l := by
  induction l with
  | nil => simp
  | cons a r ih =>
    have e : tot (a :: r) = a.size + 1 + tot r := by simp [tot]
    rw [e, List.length_cons]
    omega
/-- the pieces of a text: how many bytes -/
theorem tot_cut {l : List ByteArray} {s : ByteArray} (h : l.map bs = Pm.cut (bs s)) : tot l = s.size + 1 ∧ l.length ≤ s.size + 1 ∧ l ≠ [] := by
  have hne : l ≠ [] := by
    rintro rfl
    exact Pm.cut_ne (bs s) h.symm
  have e : tot l = s.size + 1 := by rw [tot_join l hne, h, Pm.join_cut, bs_length]
  exact ⟨e, e ▸ length_tot l, hne⟩

set_option maxRecDepth 100000 in
set_option maxHeartbeats 4000000 in
theorem IsT_any (s : ByteArray) (w : World) : Calls Try.prog 39 #[.string s] w fun e w' => e = .returned (.bool (Pm.isP (bs s))) ∧ Below w.heap.size w w' := by
  by_cases h60 : s.size ≤ 60
  · have HP : Hid (Pm.isP (bs s) = (Pm.cut (bs s)).all Pm.seg) := by show _ = _; unfold Pm.isP; rw [decide_eq_true (by rw [bs_length]; exact h60), Bool.true_and]
    have i0 : (s.size : Int) ≤ 60 := by omega
    go_enter Try.func39, Try.ntmps39
    go_wp2_with fail
    refine (Cut_any s _ (by omega)).mono ?_
    rintro e w1 ⟨v, l, rfl, hO, hl, hB⟩
    obtain ⟨ad, c, rfl, hc, hn, hi⟩ := hO.strs
    have Hi : Hid _ := hi
    have HL : Hid (l.map bs = Pm.cut (bs s)) := hl
    obtain ⟨-, hlen, -⟩ := tot_cut hl
    clear hi hl hO
    go_wp2
    go_loopw [4] (fun i wr => ∃ k : Nat, k ≤ l.length ∧ i = .int .i64 (k : Int) ∧ w1 = wr ∧ ((Pm.cut (bs s)).take k).all Pm.seg = true) (fun i _ => l.length - (intOf i).toNat)
    case atStart => exact ⟨0, Nat.zero_le _, rfl, rfl, rfl⟩
    case round =>
      obtain ⟨k, hk, rfl, rfl, hall⟩ := hrel
      have HA : Hid _ := hall
      clear hall
      by_cases hlt : k < l.length
      · obtain ⟨b, o, rfl, hbl, hcs⟩ := Hi.out (by intro h; rw [h] at hlt; simp at hlt)
        have c0 := hcs k hlt
        have HT : Hid _ := seg_at HL.out k hlt
        have i1 : (k : Int) < (l.length : Int) := by omega
        generalize l.getD k .empty = x at *
        clear hcs
        go_wp2_with fail
        refine (Segment_any x _).mono ?_
        rintro e w2 ⟨rfl, rfl⟩
        by_cases hg : Pm.seg (bs x) = true
        · rw [hg]
          have HG : Hid _ := hg
          clear hg
          go_wp2
          refine ⟨⟨k + 1, by omega, by go_num, trivial, ?_⟩, by simp [intOf]; omega⟩
          rw [HT.out, List.all_append, HA.out, List.all_cons, HG.out]
          rfl
        · rw [Bool.not_eq_true] at hg
          rw [hg]
          have HG : Hid (Pm.seg (bs x) = false) := hg
          clear hg
          go_wp2
          go_ret
          refine ⟨?_, hB⟩
          have : (Pm.cut (bs s)).all Pm.seg = false := by
            rw [List.all_eq_false]
            refine ⟨bs x, ?_, by rw [HG.out]; simp⟩
            have : bs x ∈ (Pm.cut (bs s)).take (k + 1) := by rw [HT.out]; simp
            exact List.mem_of_mem_take this
          rw [HP.out, this]
          rfl
      · obtain rfl : k = l.length := by omega
        have i1 : ¬ (l.length : Int) < (l.length : Int) := by omega
        go_wp2
        go_ret
        refine ⟨?_, hB⟩
        have hT := HA.out
        rw [List.take_of_length_le (by rw [← HL.out]; simp)] at hT
        rw [HP.out, hT]
        rfl
  · have HP : Hid (Pm.isP (bs s) = false) := by show _ = _; unfold Pm.isP; rw [decide_eq_false (by rw [bs_length]; exact h60), Bool.false_and]
    have i0 : ¬ (s.size : Int) ≤ 60 := by omega
    go_enter Try.func39, Try.ntmps39
    go_wp2
    go_ret
    exact ⟨by rw [HP.out]; rfl, Below.refl _ _⟩

end Go.Proofs.Ytppcfidaalejfaa
