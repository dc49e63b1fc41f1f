/-
  WHAT THE PROGRAM's Norm DOES, and that Above answers a function.
-/
import Derived.Test.YtppcfidaalejfaaPXN
namespace Go.Proofs.Ytppcfidaalejfaa
open Go.RowKit

theorem Pm.rest_cut {K : List Pm.B} {t a b : ByteArray} {f : Bool} (h : CutOf 47 t a b f) {K' : List Pm.B} (hs : Pm.step (some K) (bs a) = some K') : Pm.rest K true (bs t) = Pm.rest K' f (bs b) := by
  unfold Pm.rest
  rw [if_pos rfl, cut_of h, List.foldl_cons, hs]
  cases f <;> simp
theorem Pm.rest_none {K : List Pm.B} {t a b : ByteArray} {f : Bool} (h : CutOf 47 t a b f) (hs : Pm.step (some K) (bs a) = none) : Pm.rest K true (bs t) = none := by
  unfold Pm.rest
  rw [if_pos rfl, cut_of h, List.foldl_cons, hs]
  exact Pm.step_none _
theorem cut_room {c : UInt8} {s a b : ByteArray} {f : Bool} (h : CutOf c s a b f) : a.size + b.size + moreOf (.bool f) ≤ s.size := by
  rcases h with ⟨rfl, rfl, rfl, -⟩ | ⟨rfl, h, -⟩
  · exact Nat.le_refl _
  · have := congrArg List.length h
    simp only [List.length_append, List.length_cons, bs_length] at this
    show _ + _ + 1 ≤ _
    omega

set_option maxRecDepth 100000 in
set_option maxHeartbeats 4000000 in
theorem Norm_any (s : ByteArray) (w : World) (hs : s.size ≤ 100000000) : Calls Try.prog 37 #[.string s] w fun e w' => (∃ t, e = .returned (.tuple #[.string t, .int .i64 ((Pm.norm (bs s)).2 : Int)]) ∧ bs t = (Pm.norm (bs s)).1) ∧ Below w.heap.size w w' := by
  go_enter Try.func37, Try.ntmps37
  go_wp2
  go_loopw [0, 4, 5] (fun x v m wr => ∃ (t : ByteArray) (f : Bool) (K : List Pm.B), x = .string t ∧ m = .bool f ∧ Own wr w.heap.size v (Pm.enc K) ∧ Below w.heap.size w wr ∧ (∀ p ∈ K, Pm.seg p = true) ∧ Pm.norm (bs s) = Pm.told (Pm.rest K f (bs t)) ∧ (Pm.enc K).length + t.size + moreOf (.bool f) ≤ s.size + 1) (fun x _ m _ => moreOf m * (szOf x + 1))
  case atStart => exact ⟨s, true, [], rfl, rfl, World.ownsRow_nil w _ 5 1, Below.refl _ _, by simp, by unfold Pm.rest; rw [if_pos rfl]; rfl, by simp [Pm.enc, moreOf]⟩
  case round =>
    obtain ⟨t, f, K, rfl, rfl, hO, hB, hsg, hN, hroom⟩ := hrel
    have HN : Hid _ := hN
    have HSg : Hid _ := hsg
    have HR : Hid _ := hroom
    clear hN hsg hroom
    cases f with
    | false =>
      obtain ⟨vd, vc, rfl, hvc, -⟩ := hO.byts
      by_cases hK : K = []
      · subst hK
        go_wp2
        go_ret2
        rw [HN.out]
        exact ⟨⟨_, rfl, rfl⟩, hB⟩
      · have hen : Hid _ := Pm.enc_join K hK
        have hel : (Pm.enc K).length = (Pm.join K).length + 1 := by rw [hen.out]; simp
        have hjl : (Pm.join K).length ≤ 100000000 := by have := HR.out; simp only [moreOf] at this; omega
        have HTo : Hid (Pm.told (some K) = if 60 < (Pm.join K).length then ([], 3) else (Pm.join K, 0)) := by
          show _ = _
          cases K with
          | nil => exact absurd rfl hK
          | cons a r => rfl
        have HN2 : Hid (Pm.norm (bs s) = Pm.told (some K)) := HN.out
        obtain ⟨A, hsl, hbt⟩ := slice_tail hO.byts 1 (by omega)
        have hcv := conv_byts hbt
        have HD : Hid ((Pm.enc K).drop 1 = Pm.join K) := by show _ = _; rw [hen.out]; rfl
        rw [HD.out] at hcv
        rw [hel] at hsl hcv ⊢
        simp only [Nat.add_sub_cancel] at hsl hcv
        have hsl1 : ∀ W : World, (Instr.slice 54 (.slice vd ((Pm.join K).length + 1) vc) (some (.int .i64 1)) none none).run Try.prog W = .ok (.slice A (Pm.join K).length (vc - 1)) W := hsl
        clear hsl
        clear hbt hO hen
        have i2 : ((((Pm.join K).length + 1 : Nat) : Int) == 0) = false := by simp; omega
        generalize hJ : Pm.join K = j at *
        by_cases h60 : 60 < j.length
        · rw [if_pos h60] at HTo
          have i3 : (60 : Int) < (j.length : Int) := by omega
          go_wp2
          go_ret2
          rw [HN2.out, HTo.out]
          exact ⟨⟨_, rfl, rfl⟩, hB⟩
        · rw [if_neg h60] at HTo
          have i3 : ¬ (60 : Int) < (j.length : Int) := by omega
          go_wp2
          go_ret2
          rw [HN2.out, HTo.out]
          exact ⟨⟨_, rfl, str_toList _⟩, hB⟩
    | true =>
      have hts : t.size ≤ 100000000 := by have := HR.out; simp only [moreOf] at this; omega
      go_wp2_with fail
      refine (Cut_one t 47 _ (by omega)).mono ?_
      rintro e w2 ⟨⟨a, b, f, rfl, hc⟩, hB2⟩
      have hl := cut_len hc
      have HC : Hid _ := hc
      have HL : Hid _ := hl.2.2
      have HRm : Hid _ := cut_room hc
      have hB3 := hB.trans (hB2.mono hB.size)
      have hO2 := hO.below hB2 (Nat.le_refl _)
      have hb := hl.2.1
      have ha := hl.1
      have hbt : a.toList = bs a := ByteArray.toList_eq a
      clear hc hl hB2 hO hB
      by_cases e1 : bs a = []
      · have q1 : (a.toList == []) = true := by rw [hbt, e1]; rfl
        have E1 : Hid (Pm.step (some K) (bs a) = some K) := by show _ = _; rw [e1]; simp [Pm.step]
        clear e1 hbt
        go_wp2
        go_roundw
        case rel => exact ⟨b, f, K, rfl, rfl, hO2, hB3, HSg.out, by rw [HN.out, Pm.rest_cut HC.out E1.out], by have h1 := HR.out; have h2 := HRm.out; simp only [moreOf] at h1 h2 ⊢; omega⟩
        case measure =>
          cases f with
          | false => simp [moreOf]
          | true => have := HL.out rfl; simp [moreOf, szOf]; omega
      have q1 : (a.toList == []) = false := by rw [hbt]; exact beq_false_of_ne e1
      by_cases e2 : bs a = [46]
      · have q2 : (a.toList == [46]) = true := by rw [hbt, e2]; rfl
        have E1 : Hid (Pm.step (some K) (bs a) = some K) := by show _ = _; rw [e2]; simp [Pm.step]
        clear e1 e2 hbt
        go_wp2
        go_roundw
        case rel => exact ⟨b, f, K, rfl, rfl, hO2, hB3, HSg.out, by rw [HN.out, Pm.rest_cut HC.out E1.out], by have h1 := HR.out; have h2 := HRm.out; simp only [moreOf] at h1 h2 ⊢; omega⟩
        case measure =>
          cases f with
          | false => simp [moreOf]
          | true => have := HL.out rfl; simp [moreOf, szOf]; omega
      have q2 : (a.toList == [46]) = false := by rw [hbt]; exact beq_false_of_ne e2
      by_cases e3 : bs a = [46, 46]
      · have q3 : (a.toList == [46, 46]) = true := by rw [hbt, e3]; rfl
        by_cases hK : K = []
        · subst hK
          have HNn : Hid (Pm.norm (bs s) = ([], 2)) := by
            show _ = _
            rw [HN.out, Pm.rest_none HC.out (by rw [e3]; simp [Pm.step])]; rfl
          have HSn : Hid (Pm.seg (bs a) = false) := seg_no (.inr (.inr (.inr e3)))
          obtain ⟨vd, vc, rfl, hvc, -⟩ := hO2.byts
          clear e1 e2 e3 hbt
          go_wp2_with fail
          refine (segment_any a _ (by omega)).mono ?_
          rintro e w3 ⟨rfl, rfl⟩
          rw [HSn.out]
          go_wp2
          go_ret2
          rw [HNn.out]
          exact ⟨⟨_, rfl, rfl⟩, hB3⟩
        · obtain ⟨K', p, rfl⟩ : ∃ K' p, K = K' ++ [p] := ⟨K.dropLast, K.getLast hK, (List.dropLast_concat_getLast hK).symm⟩
          have E1 : Hid (Pm.step (some (K' ++ [p])) (bs a) = some K') := by show _ = _; rw [e3]; simp [Pm.step]
          have HEn : Hid _ := Pm.enc_snoc K' p
          have HEl : Hid ((Pm.enc (K' ++ [p])).length = (Pm.enc K').length + 1 + p.length) := by show _ = _; rw [HEn.out]; simp; omega
          have hp : (47 : UInt8) ∉ p := (Pm.seg_facts (HSg.out p (by simp))).2.2.2
          obtain ⟨g, cap, rfl, hcap⟩ := Own.some_ hO2 (by rw [HEn.out]; simp)
          have hlast := BLastIndex_any 47 (Pm.enc (K' ++ [p])) (Pm.enc K') p _ _ w2 hO2.byts HEn.out hp (by have h1 := HR.out; simp only [moreOf] at h1; omega)
          have hO3 := Own.take hO2 (Pm.enc K').length (by rw [HEl.out]; omega)
          rw [show (Pm.enc (K' ++ [p])).take (Pm.enc K').length = Pm.enc K' by rw [HEn.out, List.take_left]] at hO3
          have hsl := slice_head w2 (some ⟨g, 0, none⟩) (Pm.enc (K' ++ [p])).length cap (Pm.enc K').length (by rw [HEl.out] at hcap; omega)
          have i1 : (0 : Int) < ((Pm.enc (K' ++ [p])).length : Int) := by rw [HEl.out]; omega
          have i2 : ((Pm.enc K').length : Int) ≤ (cap : Int) := by rw [HEl.out] at hcap; omega
          clear e1 e2 e3 hbt hO2 hp hK hcap
          generalize (Pm.enc (K' ++ [p])).length = n1 at *
          have HN2 : Hid (∃ n2, (Pm.enc K').length = n2) := ⟨_, rfl⟩
          obtain ⟨n2, hn2⟩ := HN2.out
          clear HN2
          rw [hn2] at hlast hsl i2 HEl hO3
          have HN2 : Hid _ := hn2
          clear hn2
          go_wp2_with fail
          refine hlast.mono ?_
          rintro e w3 ⟨rfl, rfl⟩
          go_wp2
          go_roundw
          case rel => exact ⟨b, f, K', rfl, rfl, hO3, hB3, fun q hq => HSg.out q (by simp [hq]), by rw [HN.out, Pm.rest_cut HC.out E1.out], by have h1 := HR.out; have h2 := HRm.out; have h3 := HEl.out; rw [HN2.out]; simp only [moreOf] at h1 h2 ⊢; omega⟩
          case measure =>
            cases f with
            | false => simp [moreOf]
            | true => have := HL.out rfl; simp [moreOf, szOf]; omega
      have q3 : (a.toList == [46, 46]) = false := by rw [hbt]; exact beq_false_of_ne e3
      have E1 : Hid (Pm.step (some K) (bs a) = if Pm.seg (bs a) = true then some (K ++ [bs a]) else none) := by
        show _ = _
        simp only [Pm.step, e1, e2, e3, or_self, if_false]
      clear e1 e2 e3 hbt
      go_wp2_with fail
      refine (segment_any a _ (by omega)).mono ?_
      rintro e w3 ⟨rfl, rfl⟩
      by_cases hg : Pm.seg (bs a) = true
      · rw [hg]
        have HG : Hid _ := hg
        rw [if_pos hg] at E1
        clear hg
        have Hx : Hid ((Pm.enc K).length ≤ 1099511627800) := by show _ ≤ _; have h1 := HR.out; simp only [moreOf] at h1; omega
        go_wp2_with (at_builtin; go_must (refine wpList_append_byte w3 rfl (.tmp 36) (.tmp 37) rfl w.heap.size _ (Pm.enc K) 47 47 rfl rfl hO2 rfl Hx hB3.size ?_))
        intro v1 w4 hO4 hB4
        have hB5 := hB3.trans hB4
        have Hy : Hid ((Pm.enc K ++ [47]).length + a.size ≤ 1099511627800) := by show _ ≤ _; have h1 := HR.out; simp only [moreOf] at h1; rw [List.length_append, List.length_singleton]; omega
        clear hO2 hB4 hB3 Hx
        go_wp2_with (at_builtin; go_must (refine wpList_append_text rfl (.tmp 38) (.tmp 39) rfl w.heap.size _ (Pm.enc K ++ [47]) a rfl hO4 rfl Hy hB5.size ?_))
        intro v2 w5 hO5 hB6
        have hB7 := hB5.trans hB6
        have hO6 : Own w5 w.heap.size v2 (Pm.enc (K ++ [bs a])) := by rw [Pm.enc_snoc]; simpa using hO5
        clear hO5
        clear hO4 hB6 hB5 Hy
        go_wp2
        go_roundw
        case rel => exact ⟨b, f, K ++ [bs a], rfl, rfl, hO6, hB7, fun q hq => by
          rcases List.mem_append.1 hq with h | h
          · exact HSg.out q h
          · rw [List.mem_singleton.1 h]; exact HG.out, by rw [HN.out, Pm.rest_cut HC.out E1.out], by
          have h1 := HR.out
          have h2 := HRm.out
          rw [Pm.enc_snoc, List.length_append, List.length_cons, bs_length]
          simp only [moreOf] at h1 h2 ⊢
          omega⟩
        case measure =>
          cases f with
          | false => simp [moreOf]
          | true => have := HL.out rfl; simp [moreOf, szOf]; omega
      · rw [Bool.not_eq_true] at hg
        rw [hg]
        have HNn : Hid (Pm.norm (bs s) = ([], 2)) := by
          show _ = _
          rw [HN.out, Pm.rest_none HC.out (by rw [E1.out, hg]; rfl)]; rfl
        clear hg
        go_wp2
        go_ret2
        rw [HNn.out]
        exact ⟨⟨_, rfl, rfl⟩, hB3⟩
end Go.Proofs.Ytppcfidaalejfaa
