/-
  WHAT THE PROGRAM's Match DOES.
-/
import Derived.Test.YtnfdjgpephoomaaDoorPXS
namespace Go.Proofs.YtnfdjgpephoomaaDoor
open Go.RowKit

theorem Pm.marks_zero {p : Pm.B} (h : (37 : UInt8) ∉ p) : Pm.marks p = 0 := by
  unfold Pm.marks
  rw [List.countP_eq_zero]
  intro c hc
  simp only [beq_iff_eq]
  intro e
  exact h (e ▸ hc)
theorem Pm.marks_cons (a b : Pm.B) (h : (37 : UInt8) ∉ a) : Pm.marks (a ++ 37 :: b) = 1 + Pm.marks b := by
  have := Pm.marks_zero h
  unfold Pm.marks at this ⊢
  rw [List.countP_append, this, List.countP_cons]
  simp; omega
theorem Pm.marks_pos {p : Pm.B} (h : (37 : UInt8) ∈ p) : Pm.marks p ≠ 0 := by
  unfold Pm.marks
  rw [Ne, List.countP_eq_zero]
  intro hn
  exact hn 37 h (by simp)
theorem Pm.match_no {p s : Pm.B} (h : (37 : UInt8) ∉ p) : Pm.matchP p s = ([], decide (p = s)) := by
  unfold Pm.matchP
  rw [if_pos (Pm.marks_zero h)]
theorem Pm.match_two {a b s : Pm.B} (h : (37 : UInt8) ∉ a) (hb : (37 : UInt8) ∈ b) : Pm.matchP (a ++ 37 :: b) s = ([], false) := by
  have h1 := Pm.marks_cons a b h
  have h2 := Pm.marks_pos hb
  unfold Pm.matchP
  rw [if_neg (by omega), if_neg (fun hc => by omega)]
theorem Pm.match_stem {a b s : Pm.B} (h : (37 : UInt8) ∉ a) (hb : (37 : UInt8) ∉ b) : Pm.matchP (a ++ 37 :: b) s = if a.length + b.length < s.length ∧ a.isPrefixOf s = true ∧ b.isSuffixOf s = true then ((s.drop a.length).take (s.length - b.length - a.length), true) else ([], false) := by
  have h1 := Pm.marks_cons a b h
  have h2 := Pm.marks_zero hb
  have ht : (a ++ 37 :: b).takeWhile (· != 37) = a := by
    rw [List.takeWhile_append_of_pos (fun x hx => by simp only [bne_iff_ne, ne_eq]; exact fun e => h (e ▸ hx))]
    simp
  have hd : (a ++ 37 :: b).dropWhile (· != 37) = 37 :: b := by
    rw [List.dropWhile_append_of_pos (fun x hx => by simp only [bne_iff_ne, ne_eq]; exact fun e => h (e ▸ hx))]
    simp
  have hl : (a ++ 37 :: b).length = a.length + b.length + 1 := by simp; omega
  unfold Pm.matchP
  rw [if_neg (by omega), ht, hd, hl, List.drop_succ_cons, List.drop_zero]
  by_cases hc : a.length + b.length < s.length ∧ a.isPrefixOf s = true ∧ b.isSuffixOf s = true
  · rw [if_pos hc, if_pos ⟨by omega, by omega, hc.2⟩]
    congr 2
    omega
  · rw [if_neg hc, if_neg (fun hn => hc ⟨by omega, hn.2.2⟩)]

set_option maxRecDepth 100000 in
set_option maxHeartbeats 2000000 in
theorem Match_any (p s : ByteArray) (w : World) (hp : p.size ≤ 9223372036854775807) (hs : s.size ≤ 9223372036854775807) : Calls Tryd.prog 8 #[.string p, .string s] w fun e w' => (∃ t, e = .returned (.tuple #[.string t, .bool (Pm.matchP (bs p) (bs s)).2]) ∧ bs t = (Pm.matchP (bs p) (bs s)).1) ∧ Below w.heap.size w w' := by
  go_enter Tryd.func8, Tryd.ntmps8
  go_wp2_with fail
  refine (Cut_one p 37 _ hp).mono ?_
  rintro e w1 ⟨⟨a, b, f, rfl, hc⟩, hB⟩
  rcases hc with ⟨rfl, rfl, rfl, hno⟩ | ⟨rfl, hcut, hna⟩
  · have HM : Hid _ := Pm.match_no (s := bs s) hno
    have HE : Hid ((a.toList == s.toList) = decide (bs a = bs s)) := by
      show _ = _
      rw [ByteArray.toList_eq, ByteArray.toList_eq, Bool.eq_iff_iff]; simp
    clear hno
    go_wp2
    go_ret2
    rw [HM.out, ← HE.out]
    exact ⟨⟨_, rfl, rfl⟩, hB⟩
  · have hsz := congrArg List.length hcut
    simp only [List.length_append, List.length_cons, bs_length] at hsz
    go_wp2_with fail
    refine (Contains_one b 37 _).mono ?_
    rintro e w2 ⟨rfl, rfl⟩
    by_cases hb : (37 : UInt8) ∈ bs b
    · have HM : Hid (Pm.matchP (bs p) (bs s) = ([], false)) := by show _ = _; rw [hcut]; exact Pm.match_two hna hb
      rw [decide_eq_true hb]
      clear hb hcut hna
      go_wp2
      go_ret2
      rw [HM.out]
      exact ⟨⟨_, rfl, rfl⟩, hB⟩
    · have hm := Pm.match_stem (s := bs s) hna hb
      rw [← hcut, bs_length, bs_length, bs_length] at hm
      have HM : Hid _ := hm
      rw [decide_eq_false hb]
      clear hm
      clear hb hcut hna
      by_cases hlt : a.size + b.size < s.size
      · have i1 : ¬ (s.size : Int) ≤ (a.size : Int) + (b.size : Int) := by omega
        go_wp2_with fail
        refine (HasPrefix_any s a _).mono ?_
        rintro e w3 ⟨rfl, rfl⟩
        by_cases hpre : (bs a).isPrefixOf (bs s) = true
        · rw [hpre]
          have HPre : Hid _ := hpre
          clear hpre
          go_wp2_with fail
          refine (HasSuffix_any s b _ hs).mono ?_
          rintro e w4 ⟨rfl, rfl⟩
          by_cases hsuf : (bs b).isSuffixOf (bs s) = true
          · rw [hsuf]
            rw [if_pos ⟨hlt, HPre.out, hsuf⟩] at HM
            clear hsuf HPre
            have i2 : ((s.size : Int) - (b.size : Int) + 9223372036854775808) % 18446744073709551616 - 9223372036854775808 = ((s.size - b.size : Nat) : Int) := by omega
            go_wp2
            go_ret2
            rw [HM.out]
            exact ⟨⟨_, rfl, bs_extract _ _ _⟩, hB⟩
          · rw [Bool.not_eq_true] at hsuf
            rw [hsuf]
            rw [if_neg (fun h => by rw [hsuf] at h; cases h.2.2)] at HM
            clear hsuf HPre
            go_wp2
            go_ret2
            rw [HM.out]
            exact ⟨⟨_, rfl, rfl⟩, hB⟩
        · rw [Bool.not_eq_true] at hpre
          rw [hpre]
          rw [if_neg (fun h => by rw [hpre] at h; cases h.2.1)] at HM
          clear hpre
          go_wp2
          go_ret2
          rw [HM.out]
          exact ⟨⟨_, rfl, rfl⟩, hB⟩
      · have i1 : (s.size : Int) ≤ (a.size : Int) + (b.size : Int) := by omega
        rw [if_neg (fun h => hlt h.1)] at HM
        go_wp2
        go_ret2
        rw [HM.out]
        exact ⟨⟨_, rfl, rfl⟩, hB⟩

end Go.Proofs.YtnfdjgpephoomaaDoor
