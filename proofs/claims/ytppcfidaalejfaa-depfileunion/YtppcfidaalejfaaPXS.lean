/-
  WHAT THE PROGRAM's segment and Is DO.
-/
import Derived.Test.YtppcfidaalejfaaRecG
namespace Go.Proofs.Ytppcfidaalejfaa
open Go.RowKit

set_option maxRecDepth 100000 in
theorem named_any (c : UInt8) (w : World) : Calls Try.prog 57 #[.int .u8 (c.toNat : Int)] w fun e w' => e = .returned (.bool (Pm.okB c)) ∧ w' = w := by
  have HOk : Hid _ := okB_iff c
  have hx2 := c.toNat_lt
  generalize Pm.okB c = K at *
  generalize c.toNat = X at *
  go_enter Try.func57, Try.ntmps57
  go_wp2
  all_goals go_ret
  all_goals refine ⟨?_, rfl⟩
  all_goals rw [HOk.out]
  all_goals refine congrArg (fun b => Ending.returned (Value.bool b)) ?_
  all_goals rw [Bool.eq_iff_iff]
  all_goals simp only [beq_iff_eq, Bool.or_eq_true, decide_eq_true_eq, true_iff] at *
  all_goals omega
set_option maxRecDepth 100000 in
set_option maxHeartbeats 4000000 in
theorem segment_any (s : ByteArray) (w : World) (hsz : s.size ≤ 9223372036854775807) : Calls Try.prog 43 #[.string s] w fun e w' => e = .returned (.bool (Pm.seg (bs s))) ∧ w' = w := by
  have hl := bs_length s
  have hbt : s.toList = bs s := ByteArray.toList_eq s
  by_cases h1 : s.toList = []
  · have hs := seg_no (s := bs s) (.inl (by rw [← hbt, h1]; simp))
    rw [hs]
    clear hs hl hbt
    have h1b : (s.toList == []) = true := by simp [h1]
    go_enter Try.func43, Try.ntmps43
    go_wp2
    go_ret
    exact ⟨rfl, rfl⟩
  have h1b : (s.toList == []) = false := by simp [h1]
  by_cases h3 : s.toList = [46]
  · have hs := seg_no (s := bs s) (.inr (.inr (.inl (hbt.symm.trans h3))))
    rw [hs]
    clear hs hl hbt h1
    have h3b : (s.toList == [46]) = true := by simp [h3]
    go_enter Try.func43, Try.ntmps43
    go_wp2
    go_ret
    exact ⟨rfl, rfl⟩
  have h3b : (s.toList == [46]) = false := by simp [h3]
  by_cases h4 : s.toList = [46, 46]
  · have hs := seg_no (s := bs s) (.inr (.inr (.inr (hbt.symm.trans h4))))
    rw [hs]
    clear hs hl hbt h1 h3
    have h4b : (s.toList == [46, 46]) = true := by simp [h4]
    go_enter Try.func43, Try.ntmps43
    go_wp2
    go_ret
    exact ⟨rfl, rfl⟩
  have h4b : (s.toList == [46, 46]) = false := by simp [h4]
  by_cases h2 : (32 : Int) < (s.size : Int)
  · have hs := seg_no (s := bs s) (.inr (.inl (by omega)))
    rw [hs]
    clear hs hl hbt h1 h3 h4
    go_enter Try.func43, Try.ntmps43
    go_wp2
    go_ret
    exact ⟨rfl, rfl⟩
  have hne : ¬ s.size < 1 := fun h => h1 (by rw [hbt]; exact List.eq_nil_of_length_eq_zero (by omega))
  have HS : Hid (Pm.seg (bs s) = (bs s).all Pm.okB) := seg_all (by omega) (by omega) (fun e => h3 (hbt.trans e)) (fun e => h4 (hbt.trans e))
  have Hl : Hid ((bs s).length = s.size) := hl
  clear hl hbt h1 h3 h4
  go_enter Try.func43, Try.ntmps43
  go_wp2
  clear h1b h3b h4b
  go_loopw [21] (fun i wr => ∃ k : Nat, k ≤ s.size ∧ i = .int .i64 (k : Int) ∧ wr = w ∧ ∀ c ∈ (bs s).take k, Pm.okB c = true) (fun i _ => s.size - (intOf i).toNat)
  case atStart => exact ⟨0, Nat.zero_le _, rfl, rfl, by simp⟩
  case round =>
    obtain ⟨k, hk, rfl, rfl, hall⟩ := hrel
    have HA : Hid _ := hall
    clear hall
    by_cases hlt : k < s.size
    · have i1 : (k : Int) < (s.size : Int) := by omega
      have HT : Hid ((bs s).take (k + 1) = (bs s).take k ++ [s[k]]) := by
        show _ = _
        rw [List.take_succ_eq_append_getElem (by rw [Hl.out]; exact hlt)]
        congr 2
      go_wp2_with fail
      obtain ⟨x, hx⟩ : ∃ x, s[k] = x := ⟨_, rfl⟩
      rw [hx] at HT ⊢
      refine (named_any x _).mono ?_
      rintro e w2 ⟨rfl, rfl⟩
      by_cases hg : Pm.okB x = true
      · rw [hg]
        have HG : Hid _ := hg
        clear hg
        go_wp2
        refine ⟨⟨k + 1, by omega, by go_num, trivial, fun c hc => ?_⟩, by simp [intOf]; omega⟩
        rw [HT.out] at hc
        rcases List.mem_append.1 hc with h | h
        · exact HA.out c h
        · simp at h; rw [h, HG.out]
      · rw [Bool.not_eq_true] at hg
        rw [hg]
        have HG : Hid (Pm.okB x = false) := hg
        clear hg
        go_wp2
        go_ret
        refine ⟨?_, rfl⟩
        have : (bs s).all Pm.okB = false := by
          rw [List.all_eq_false]
          refine ⟨x, ?_, by rw [HG.out]; simp⟩
          have : x ∈ (bs s).take (k + 1) := by rw [HT.out]; simp
          exact List.mem_of_mem_take this
        rw [HS.out, this]
        rfl
    · obtain rfl : k = s.size := by omega
      go_wp2
      go_ret
      refine ⟨?_, rfl⟩
      rw [HS.out, List.all_eq_true.2 (fun c hc => HA.out c (by rw [List.take_of_length_le (by rw [Hl.out]; exact Nat.le_refl _)]; exact hc))]
      rfl

/-- a piece cut off -/
theorem cut_of {s a b : ByteArray} {f : Bool} (h : CutOf 47 s a b f) : Pm.cut (bs s) = bs a :: (if f = true then Pm.cut (bs b) else []) := by
  rcases h with ⟨rfl, rfl, -, h⟩ | ⟨rfl, h, h2⟩
  · rw [Pm.cut_plain _ h]; rfl
  · rw [h, Pm.cut_slash, Pm.cut_plain _ h2]; rfl
theorem cut_len {c : UInt8} {s a b : ByteArray} {f : Bool} (h : CutOf c s a b f) : a.size ≤ s.size ∧ b.size ≤ s.size ∧ (f = true → b.size < s.size) := by
  rcases h with ⟨rfl, rfl, rfl, -⟩ | ⟨rfl, h, -⟩
  · exact ⟨Nat.le_refl _, Nat.zero_le _, fun h => by cases h⟩
  · have := congrArg List.length h
    simp only [List.length_append, List.length_cons, bs_length] at this
    exact ⟨by omega, by omega, fun _ => by omega⟩
def moreOf : Value → Nat
  | .bool true => 1
  | _ => 0
set_option maxRecDepth 100000 in
set_option maxHeartbeats 4000000 in
theorem Is_any (s : ByteArray) (w : World) (hs : s.size ≤ 9223372036854775807) : Calls Try.prog 24 #[.string s] w fun e w' => e = .returned (.bool (Pm.isP (bs s))) ∧ Below w.heap.size w w' := by
  by_cases h60 : s.size ≤ 60
  · have HP : Hid (Pm.isP (bs s) = (Pm.cut (bs s)).all Pm.seg) := by show _ = _; unfold Pm.isP; rw [decide_eq_true (by rw [bs_length]; exact h60), Bool.true_and]
    have i0 : ¬ (60 : Int) < (s.size : Int) := by omega
    go_enter Try.func24, Try.ntmps24
    go_wp2
    go_loopw [0, 3] (fun x m wr => ∃ (t : ByteArray) (f : Bool), x = .string t ∧ m = .bool f ∧ t.size ≤ 60 ∧ Below w.heap.size w wr ∧ (Pm.cut (bs s)).all Pm.seg = (if f = true then (Pm.cut (bs t)).all Pm.seg else true)) (fun x m _ => moreOf m * (szOf x + 1))
    case atStart => exact ⟨s, true, rfl, rfl, h60, Below.refl _ _, by rw [if_pos rfl]⟩
    case round =>
      obtain ⟨t, f, rfl, rfl, ht, hB, hA⟩ := hrel
      have HA : Hid _ := hA
      clear hA
      cases f with
      | false =>
        go_wp2
        go_ret
        refine ⟨?_, hB⟩
        rw [HP.out, HA.out, if_neg (by simp)]
        rfl
      | true =>
        go_wp2_with fail
        refine (Cut_one t 47 _ (by omega)).mono ?_
        rintro e w2 ⟨⟨a, b, f, rfl, hc⟩, hB2⟩
        have hl := cut_len hc
        have HC : Hid _ := cut_of hc
        have HL : Hid _ := hl.2.2
        have hB3 := hB.trans (hB2.mono hB.size)
        have hb := hl.2.1
        have ha := hl.1
        clear hc hl hB2
        go_wp2_with fail
        refine (segment_any a _ (by omega)).mono ?_
        rintro e w3 ⟨rfl, rfl⟩
        have HE : Hid ((Pm.cut (bs s)).all Pm.seg = (Pm.seg (bs a) && (if f = true then (Pm.cut (bs b)).all Pm.seg else true))) := by
          show _ = _
          rw [HA.out, if_pos trivial, HC.out, List.all_cons]
          cases f <;> simp
        by_cases hg : Pm.seg (bs a) = true
        · rw [hg] at HE ⊢
          clear hg
          go_wp2
          go_roundw
          case rel => exact ⟨b, f, rfl, rfl, by omega, hB3, by rw [HE.out, Bool.true_and]⟩
          case measure =>
            cases f with
            | false => simp [moreOf]
            | true => have := HL.out rfl; simp [moreOf, szOf]; omega
        · rw [Bool.not_eq_true] at hg
          rw [hg] at HE ⊢
          clear hg
          go_wp2
          go_ret
          refine ⟨?_, hB3⟩
          rw [HP.out, HE.out, Bool.false_and]
          rfl
  · have HP : Hid (Pm.isP (bs s) = false) := by show _ = _; unfold Pm.isP; rw [decide_eq_false (by rw [bs_length]; exact h60), Bool.false_and]
    have i0 : (60 : Int) < (s.size : Int) := by omega
    go_enter Try.func24, Try.ntmps24
    go_wp2
    go_ret
    exact ⟨by rw [HP.out]; rfl, Below.refl _ _⟩

end Go.Proofs.Ytppcfidaalejfaa
