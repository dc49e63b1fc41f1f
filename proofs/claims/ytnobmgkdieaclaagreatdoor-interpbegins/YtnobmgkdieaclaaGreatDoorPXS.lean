/-
  WHAT THE PROGRAM's segment and Is DO.
-/
import Derived.Test.YtnobmgkdieaclaaGreatDoorSLib
namespace Go.Proofs.YtnobmgkdieaclaaGreatDoor
open Go.RowKit

set_option maxRecDepth 100000 in
theorem named_any (c : UInt8) (w : World) : Calls Tryz.prog 86 #[.int .u8 (c.toNat : Int)] w fun e w' => e = .returned (.bool (Pm.okB c)) ∧ w' = w := by
  have HOk : Hid _ := okB_iff c
  have hx2 := c.toNat_lt
  generalize Pm.okB c = K at *
  generalize c.toNat = X at *
  go_enter Tryz.func86, Tryz.ntmps86
  go_wp2
  all_goals go_ret
  all_goals refine ⟨?_, rfl⟩
  all_goals rw [HOk.out]
  all_goals refine congrArg (fun b => Ending.returned (Value.bool b)) ?_
  all_goals rw [Bool.eq_iff_iff]
  all_goals simp only [beq_iff_eq, Bool.or_eq_true, decide_eq_true_eq, true_iff] at *
  all_goals omega
set_option maxRecDepth 100000 in
set_option maxHeartbeats 4000000 in
theorem segment_any (s : ByteArray) (w : World) (hsz : s.size ≤ 9223372036854775807) : Calls Tryz.prog 61 #[.string s] w fun e w' => e = .returned (.bool (Pm.seg (bs s))) ∧ w' = w := by
  have hl := bs_length s
  have hbt : s.toList = bs s := ByteArray.toList_eq s
  by_cases h1 : s.toList = []
  · have hs := seg_no (s := bs s) (.inl (by rw [← hbt, h1]; simp))
    rw [hs]
    clear hs hl hbt
    have h1b : (s.toList == []) = true := by simp [h1]
    go_enter Tryz.func61, Tryz.ntmps61
    go_wp2
    go_ret
    exact ⟨rfl, rfl⟩
  have h1b : (s.toList == []) = false := by simp [h1]
  by_cases h3 : s.toList = [46]
  · have hs := seg_no (s := bs s) (.inr (.inr (.inl (hbt.symm.trans h3))))
    rw [hs]
    clear hs hl hbt h1
    have h3b : (s.toList == [46]) = true := by simp [h3]
    go_enter Tryz.func61, Tryz.ntmps61
    go_wp2
    go_ret
    exact ⟨rfl, rfl⟩
  have h3b : (s.toList == [46]) = false := by simp [h3]
  by_cases h4 : s.toList = [46, 46]
  · have hs := seg_no (s := bs s) (.inr (.inr (.inr (hbt.symm.trans h4))))
    rw [hs]
    clear hs hl hbt h1 h3
    have h4b : (s.toList == [46, 46]) = true := by simp [h4]
    go_enter Tryz.func61, Tryz.ntmps61
    go_wp2
    go_ret
    exact ⟨rfl, rfl⟩
  have h4b : (s.toList == [46, 46]) = false := by simp [h4]
  by_cases h2 : (32 : Int) < (s.size : Int)
  · have hs := seg_no (s := bs s) (.inr (.inl (by omega)))
    rw [hs]
    clear hs hl hbt h1 h3 h4
    go_enter Tryz.func61, Tryz.ntmps61
    go_wp2
    go_ret
    exact ⟨rfl, rfl⟩
  have hne : ¬ s.size < 1 := fun h => h1 (by rw [hbt]; exact List.eq_nil_of_length_eq_zero (by omega))
  have HS : Hid (Pm.seg (bs s) = (bs s).all Pm.okB) := seg_all (by omega) (by omega) (fun e => h3 (hbt.trans e)) (fun e => h4 (hbt.trans e))
  have Hl : Hid ((bs s).length = s.size) := hl
  clear hl hbt h1 h3 h4
  go_enter Tryz.func61, Tryz.ntmps61
  go_wp2
  clear h1b h3b h4b
  go_loopw [21] (fun i wr => ∃ k : Nat, k ≤ s.size ∧ i = .int .i64 (k : Int) ∧ wr = w ∧ ∀ c ∈ (bs s).take k, Pm.okB c = true) (fun i _ => s.size - (intOf i).toNat)
  case atStart => exact ⟨0, Nat.zero_le _, rfl, rfl, by simp⟩
  case round =>
    obtain ⟨k, hk, rfl, rfl, hall⟩ := hrel
    have HA : Hid _ := hall
    clear hall
    by_cases hlt : k < s.size
    · have i1 : (k : Int) < (s.size : Int) := by omega
      have HT : Hid ((bs s).take (k + 1) = (bs s).take k ++ [s[k]]) := by
        show _ = _
        rw [List.take_succ_eq_append_getElem (by rw [Hl.out]; exact hlt)]
        congr 2
      go_wp2_with fail
      obtain ⟨x, hx⟩ : ∃ x, s[k] = x := ⟨_, rfl⟩
      rw [hx] at HT ⊢
      refine (named_any x _).mono ?_
      rintro e w2 ⟨rfl, rfl⟩
      by_cases hg : Pm.okB x = true
      · rw [hg]
        have HG : Hid _ := hg
        clear hg
        go_wp2
        refine ⟨⟨k + 1, by omega, by go_num, trivial, fun c hc => ?_⟩, by simp [intOf]; omega⟩
        rw [HT.out] at hc
        rcases List.mem_append.1 hc with h | h
        · exact HA.out c h
        · simp at h; rw [h, HG.out]
      · rw [Bool.not_eq_true] at hg
        rw [hg]
        have HG : Hid (Pm.okB x = false) := hg
        clear hg
        go_wp2
        go_ret
        refine ⟨?_, rfl⟩
        have : (bs s).all Pm.okB = false := by
          rw [List.all_eq_false]
          refine ⟨x, ?_, by rw [HG.out]; simp⟩
          have : x ∈ (bs s).take (k + 1) := by rw [HT.out]; simp
          exact List.mem_of_mem_take this
        rw [HS.out, this]
        rfl
    · obtain rfl : k = s.size := by omega
      go_wp2
      go_ret
      refine ⟨?_, rfl⟩
      rw [HS.out, List.all_eq_true.2 (fun c hc => HA.out c (by rw [List.take_of_length_le (by rw [Hl.out]; exact Nat.le_refl _)]; exact hc))]
      rfl

/-- a piece cut off -/
theorem cut_of {s a b : ByteArray} {f : Bool} (h : CutOf 47 s a b f) : Pm.cut (bs s) = bs a :: (if f = true then Pm.cut (bs b) else []) := by
  rcases h with ⟨rfl, rfl, -, h⟩ | ⟨rfl, h, h2⟩
  · rw [Pm.cut_plain _ h]; rfl
  · rw [h, Pm.cut_slash, Pm.cut_plain _ h2]; rfl
theorem cut_len {c : UInt8} {s a b : ByteArray} {f : Bool} (h : CutOf c s a b f) : a.size ≤ s.size ∧ b.size ≤ s.size ∧ (f = true → b.size < s.size) := by
  rcases h with ⟨rfl, rfl, rfl, -⟩ | ⟨rfl, h, -⟩
  · exact ⟨Nat.le_refl _, Nat.zero_le _, fun h => by cases h⟩
  · have := congrArg List.length h
    simp only [List.length_append, List.length_cons, bs_length] at this
    exact ⟨by omega, by omega, fun _ => by omega⟩
def moreOf : Value → Nat
  | .bool true => 1
  | _ => 0
set_option maxRecDepth 100000 in
set_option maxHeartbeats 4000000 in
theorem Is_any (s : ByteArray) (w : World) (hs : s.size ≤ 9223372036854775807) : Calls Tryz.prog 35 #[.string s] w fun e w' => e = .returned (.bool (Pm.isP (bs s))) ∧ Below w.heap.size w w' := by
  by_cases h60 : s.size ≤ 60
  · have HP : Hid (Pm.isP (bs s) = (Pm.cut (bs s)).all Pm.seg) := by show _ = _; unfold Pm.isP; rw [decide_eq_true (by rw [bs_length]; exact h60), Bool.true_and]
    have i0 : ¬ (60 : Int) < (s.size : Int) := by omega
    go_enter Tryz.func35, Tryz.ntmps35
    go_wp2
    go_loopw [0, 3] (fun x m wr => ∃ (t : ByteArray) (f : Bool), x = .string t ∧ m = .bool f ∧ t.size ≤ 60 ∧ Below w.heap.size w wr ∧ (Pm.cut (bs s)).all Pm.seg = (if f = true then (Pm.cut (bs t)).all Pm.seg else true)) (fun x m _ => moreOf m * (szOf x + 1))
    case atStart => exact ⟨s, true, rfl, rfl, h60, Below.refl _ _, by rw [if_pos rfl]⟩
    case round =>
      obtain ⟨t, f, rfl, rfl, ht, hB, hA⟩ := hrel
      have HA : Hid _ := hA
      clear hA
      cases f with
      | false =>
        go_wp2
        go_ret
        refine ⟨?_, hB⟩
        rw [HP.out, HA.out, if_neg (by simp)]
        rfl
      | true =>
        go_wp2_with fail
        refine (Cut_one t 47 _ (by omega)).mono ?_
        rintro e w2 ⟨⟨a, b, f, rfl, hc⟩, hB2⟩
        have hl := cut_len hc
        have HC : Hid _ := cut_of hc
        have HL : Hid _ := hl.2.2
        have hB3 := hB.trans (hB2.mono hB.size)
        have hb := hl.2.1
        have ha := hl.1
        clear hc hl hB2
        go_wp2_with fail
        refine (segment_any a _ (by omega)).mono ?_
        rintro e w3 ⟨rfl, rfl⟩
        have HE : Hid ((Pm.cut (bs s)).all Pm.seg = (Pm.seg (bs a) && (if f = true then (Pm.cut (bs b)).all Pm.seg else true))) := by
          show _ = _
          rw [HA.out, if_pos trivial, HC.out, List.all_cons]
          cases f <;> simp
        by_cases hg : Pm.seg (bs a) = true
        · rw [hg] at HE ⊢
          clear hg
          go_wp2
          go_roundw
          case rel => exact ⟨b, f, rfl, rfl, by omega, hB3, by rw [HE.out, Bool.true_and]⟩
          case measure =>
            cases f with
            | false => simp [moreOf]
            | true => have := HL.out rfl; simp [moreOf, szOf]; omega
        · rw [Bool.not_eq_true] at hg
          rw [hg] at HE ⊢
          clear hg
          go_wp2
          go_ret
          refine ⟨?_, hB3⟩
          rw [HP.out, HE.out, Bool.false_and]
          rfl
  · have HP : Hid (Pm.isP (bs s) = false) := by show _ = _; unfold Pm.isP; rw [decide_eq_false (by rw [bs_length]; exact h60), Bool.false_and]
    have i0 : (60 : Int) < (s.size : Int) := by omega
    go_enter Tryz.func35, Tryz.ntmps35
    go_wp2
    go_ret
    exact ⟨by rw [HP.out]; rfl, Below.refl _ _⟩

end Go.Proofs.YtnobmgkdieaclaaGreatDoor

namespace Go.Proofs.YtnobmgkdieaclaaGreatDoor
open Go.RowKit

/-- the kept segments, each with a slash ahead -/
def Pm.enc (K : List Pm.B) : Pm.B := K.flatMap fun p => 47 :: p
theorem Pm.enc_snoc (K : List Pm.B) (p : Pm.B) : Pm.enc (K ++ [p]) = Pm.enc K ++ 47 :: p := by simp [Pm.enc]
theorem Pm.enc_join (K : List Pm.B) (h : K ≠ []) : Pm.enc K = 47 :: Pm.join K := by
  induction K with
  | nil => exact absurd rfl h
  | cons a r ih =>
    by_cases hr : r = []
    · subst hr; simp [Pm.enc, Pm.join]
    · rw [Pm.join_cons a r hr]
      have := ih hr
      simp only [Pm.enc, List.flatMap_cons] at this ⊢
      rw [this]; rfl
theorem Own.take {w : World} {base : Nat} {g n cap : Nat} {l : List UInt8} (h : Own w base (.slice (some ⟨g, 0, none⟩) n cap) l) (m : Nat) (hm : m ≤ l.length) : Own w base (.slice (some ⟨g, 0, none⟩) m cap) (l.take m) := by
  have hlen : (l.take m).length = m := by rw [List.length_take]; omega
  unfold Own
  rw [hlen]
  rcases h.2 with ⟨h0, -⟩ | ⟨g', cap', cur, hv, hb, hh, hle, hmax, hsz, htk⟩
  · cases h0
  · simp only [Value.slice.injEq, Option.some.injEq, Addr.mk.injEq] at hv
    obtain ⟨⟨rfl, -⟩, rfl, rfl⟩ := hv
    refine ⟨by simp only [bV, List.length_map, hlen]; omega, .inr ⟨g, cap, cur, rfl, hb, hh, by omega, hmax, hsz, ?_⟩⟩
    rw [Nat.mul_one] at htk ⊢
    unfold bV at htk ⊢
    rw [List.map_take, ← htk, List.take_take]
    congr 1
    omega
theorem Own.some_ {w : World} {base : Nat} {v : Value} {l : List UInt8} (h : Own w base v l) (hl : l ≠ []) : ∃ g cap, v = .slice (some ⟨g, 0, none⟩) l.length cap ∧ l.length ≤ cap := by
  rcases h.2 with ⟨h0, h1⟩ | ⟨g', cap', cur, hv, hb, hh, hle, hmax, hsz, htk⟩
  · exfalso
    rw [h0] at h
    exact hl (List.eq_nil_of_length_eq_zero (by omega))
  · exact ⟨g', cap', hv, hle⟩

set_option maxRecDepth 100000 in
theorem BLast_any (c : UInt8) (l a b : List UInt8) (v : Value) (B : Nat) (w : World) (hv : Byts w B v l) (e : l = a ++ c :: b) (hc : c ∉ b) (hl : l.length ≤ 4611686018427387904) : Calls Tryz.prog 151 #[v, .int .u8 (c.toNat : Int)] w fun e w' => e = .returned (.int .i64 (a.length : Int)) ∧ w' = w := by
  obtain ⟨ad, cp, rfl, hcp, hn, hcs⟩ := hv
  have hlen : l.length = a.length + 1 + b.length := by rw [e]; simp; omega
  obtain ⟨g, o, rfl, hbl, hcell⟩ := hcs (by rw [e]; simp)
  have Hat : Hid (∀ k, a.length < k → k < l.length → l.getD k 0 ≠ c) := fun k h1 h2 he => by
    apply hc
    subst e
    rw [List.getD_eq_getElem?_getD, List.getElem?_append_right (by omega), show k - a.length = (k - a.length - 1) + 1 by omega, List.getElem?_cons_succ] at he
    rw [List.getElem?_eq_getElem (by omega)] at he
    simp only [Option.getD_some] at he
    rw [← he]
    exact List.getElem_mem _
  have H0 : Hid (l.getD a.length 0 = c) := by show _ = _; rw [e]; simp
  have Hcell : Hid _ := hcell
  clear hcell hcs hn e hc
  go_enter Tryz.func151, Tryz.ntmps151
  go_wp2
  go_loopw [5] (fun i wr => ∃ k : Nat, i = .int .i64 (k : Int) ∧ a.length ≤ k ∧ k < l.length ∧ wr = w) (fun i _ => (intOf i).toNat)
  case atStart => exact ⟨l.length - 1, by first | (congr 1; omega) | go_num, by omega, by omega, rfl⟩
  case round =>
    obtain ⟨k, rfl, hk1, hk2, rfl⟩ := hrel
    have c0 := Hcell.out k hk2
    have HA : Hid _ := Hat.out k
    have hx := (l.getD k 0).toNat_lt
    by_cases hk : k = a.length
    · subst hk
      rw [H0.out] at c0
      go_wp2
      go_ret
      exact ⟨rfl, rfl⟩
    · have hne := HA.out (by omega) hk2
      have i1 : (((l.getD k 0).toNat : Int) == (c.toNat : Int)) = false := by
        simp only [beq_eq_false_iff_ne, ne_eq]
        intro h
        exact hne (UInt8.toNat_inj.1 (by exact_mod_cast h))
      clear hne HA
      generalize (l.getD k 0).toNat = X at *
      go_wp2
      refine ⟨⟨k - 1, by first | (congr 1; omega) | go_num, by omega, by omega, trivial⟩, by simp [intOf]; omega⟩
set_option maxRecDepth 100000 in
theorem BLastIndex_any (c : UInt8) (l a b : List UInt8) (v : Value) (B : Nat) (w : World) (hv : Byts w B v l) (e : l = a ++ c :: b) (hc : c ∉ b) (hl : l.length ≤ 4611686018427387904) : Calls Tryz.prog 140 #[v, .int .u8 (c.toNat : Int)] w fun e w' => e = .returned (.int .i64 (a.length : Int)) ∧ w' = w := by
  have H := BLast_any c l a b v B w hv e hc hl
  go_enter Tryz.func140, Tryz.ntmps140
  go_wp2_with fail
  refine H.mono ?_
  rintro e w1 ⟨rfl, rfl⟩
  go_wp2
  go_ret
  exact ⟨rfl, rfl⟩
/-- what is left of the pieces behind what is kept -/
def Pm.rest (K : List Pm.B) (f : Bool) (t : Pm.B) : Option (List Pm.B) := if f = true then (Pm.cut t).foldl Pm.step (some K) else some K
end Go.Proofs.YtnobmgkdieaclaaGreatDoor

namespace Go.Proofs.YtnobmgkdieaclaaGreatDoor
open Go.RowKit

theorem Pm.rest_cut {K : List Pm.B} {t a b : ByteArray} {f : Bool} (h : CutOf 47 t a b f) {K' : List Pm.B} (hs : Pm.step (some K) (bs a) = some K') : Pm.rest K true (bs t) = Pm.rest K' f (bs b) := by
  unfold Pm.rest
  rw [if_pos rfl, cut_of h, List.foldl_cons, hs]
  cases f <;> simp
theorem Pm.rest_none {K : List Pm.B} {t a b : ByteArray} {f : Bool} (h : CutOf 47 t a b f) (hs : Pm.step (some K) (bs a) = none) : Pm.rest K true (bs t) = none := by
  unfold Pm.rest
  rw [if_pos rfl, cut_of h, List.foldl_cons, hs]
  exact Pm.step_none _
theorem cut_room {c : UInt8} {s a b : ByteArray} {f : Bool} (h : CutOf c s a b f) : a.size + b.size + moreOf (.bool f) ≤ s.size := by
  rcases h with ⟨rfl, rfl, rfl, -⟩ | ⟨rfl, h, -⟩
  · exact Nat.le_refl _
  · have := congrArg List.length h
    simp only [List.length_append, List.length_cons, bs_length] at this
    show _ + _ + 1 ≤ _
    omega

set_option maxRecDepth 100000 in
set_option maxHeartbeats 4000000 in
theorem Norm_any (s : ByteArray) (w : World) (hs : s.size ≤ 100000000) : Calls Tryz.prog 122 #[.string s] w fun e w' => (∃ t, e = .returned (.tuple #[.string t, .int .i64 ((Pm.norm (bs s)).2 : Int)]) ∧ bs t = (Pm.norm (bs s)).1) ∧ Below w.heap.size w w' := by
  go_enter Tryz.func122, Tryz.ntmps122
  go_wp2
  go_loopw [0, 4, 5] (fun x v m wr => ∃ (t : ByteArray) (f : Bool) (K : List Pm.B), x = .string t ∧ m = .bool f ∧ Own wr w.heap.size v (Pm.enc K) ∧ Below w.heap.size w wr ∧ (∀ p ∈ K, Pm.seg p = true) ∧ Pm.norm (bs s) = Pm.told (Pm.rest K f (bs t)) ∧ (Pm.enc K).length + t.size + moreOf (.bool f) ≤ s.size + 1) (fun x _ m _ => moreOf m * (szOf x + 1))
  case atStart => exact ⟨s, true, [], rfl, rfl, World.ownsRow_nil w _ 5 1, Below.refl _ _, by simp, by unfold Pm.rest; rw [if_pos rfl]; rfl, by simp [Pm.enc, moreOf]⟩
  case round =>
    obtain ⟨t, f, K, rfl, rfl, hO, hB, hsg, hN, hroom⟩ := hrel
    have HN : Hid _ := hN
    have HSg : Hid _ := hsg
    have HR : Hid _ := hroom
    clear hN hsg hroom
    cases f with
    | false =>
      obtain ⟨vd, vc, rfl, hvc, -⟩ := hO.byts
      by_cases hK : K = []
      · subst hK
        go_wp2
        go_ret2
        rw [HN.out]
        exact ⟨⟨_, rfl, rfl⟩, hB⟩
      · have hen : Hid _ := Pm.enc_join K hK
        have hel : (Pm.enc K).length = (Pm.join K).length + 1 := by rw [hen.out]; simp
        have hjl : (Pm.join K).length ≤ 100000000 := by have := HR.out; simp only [moreOf] at this; omega
        have HTo : Hid (Pm.told (some K) = if 60 < (Pm.join K).length then ([], 3) else (Pm.join K, 0)) := by
          show _ = _
          cases K with
          | nil => exact absurd rfl hK
          | cons a r => rfl
        have HN2 : Hid (Pm.norm (bs s) = Pm.told (some K)) := HN.out
        obtain ⟨A, hsl, hbt⟩ := slice_tail hO.byts 1 (by omega)
        have hcv := conv_byts hbt
        have HD : Hid ((Pm.enc K).drop 1 = Pm.join K) := by show _ = _; rw [hen.out]; rfl
        rw [HD.out] at hcv
        rw [hel] at hsl hcv ⊢
        simp only [Nat.add_sub_cancel] at hsl hcv
        have hsl1 : ∀ W : World, (Instr.slice 78 (.slice vd ((Pm.join K).length + 1) vc) (some (.int .i64 1)) none none).run Tryz.prog W = .ok (.slice A (Pm.join K).length (vc - 1)) W := hsl
        clear hsl
        clear hbt hO hen
        have i2 : ((((Pm.join K).length + 1 : Nat) : Int) == 0) = false := by simp; omega
        generalize hJ : Pm.join K = j at *
        by_cases h60 : 60 < j.length
        · rw [if_pos h60] at HTo
          have i3 : (60 : Int) < (j.length : Int) := by omega
          go_wp2
          go_ret2
          rw [HN2.out, HTo.out]
          exact ⟨⟨_, rfl, rfl⟩, hB⟩
        · rw [if_neg h60] at HTo
          have i3 : ¬ (60 : Int) < (j.length : Int) := by omega
          go_wp2
          go_ret2
          rw [HN2.out, HTo.out]
          exact ⟨⟨_, rfl, str_toList _⟩, hB⟩
    | true =>
      have hts : t.size ≤ 100000000 := by have := HR.out; simp only [moreOf] at this; omega
      go_wp2_with fail
      refine (Cut_one t 47 _ (by omega)).mono ?_
      rintro e w2 ⟨⟨a, b, f, rfl, hc⟩, hB2⟩
      have hl := cut_len hc
      have HC : Hid _ := hc
      have HL : Hid _ := hl.2.2
      have HRm : Hid _ := cut_room hc
      have hB3 := hB.trans (hB2.mono hB.size)
      have hO2 := hO.below hB2 (Nat.le_refl _)
      have hb := hl.2.1
      have ha := hl.1
      have hbt : a.toList = bs a := ByteArray.toList_eq a
      clear hc hl hB2 hO hB
      by_cases e1 : bs a = []
      · have q1 : (a.toList == []) = true := by rw [hbt, e1]; rfl
        have E1 : Hid (Pm.step (some K) (bs a) = some K) := by show _ = _; rw [e1]; simp [Pm.step]
        clear e1 hbt
        go_wp2
        go_roundw
        case rel => exact ⟨b, f, K, rfl, rfl, hO2, hB3, HSg.out, by rw [HN.out, Pm.rest_cut HC.out E1.out], by have h1 := HR.out; have h2 := HRm.out; simp only [moreOf] at h1 h2 ⊢; omega⟩
        case measure =>
          cases f with
          | false => simp [moreOf]
          | true => have := HL.out rfl; simp [moreOf, szOf]; omega
      have q1 : (a.toList == []) = false := by rw [hbt]; exact beq_false_of_ne e1
      by_cases e2 : bs a = [46]
      · have q2 : (a.toList == [46]) = true := by rw [hbt, e2]; rfl
        have E1 : Hid (Pm.step (some K) (bs a) = some K) := by show _ = _; rw [e2]; simp [Pm.step]
        clear e1 e2 hbt
        go_wp2
        go_roundw
        case rel => exact ⟨b, f, K, rfl, rfl, hO2, hB3, HSg.out, by rw [HN.out, Pm.rest_cut HC.out E1.out], by have h1 := HR.out; have h2 := HRm.out; simp only [moreOf] at h1 h2 ⊢; omega⟩
        case measure =>
          cases f with
          | false => simp [moreOf]
          | true => have := HL.out rfl; simp [moreOf, szOf]; omega
      have q2 : (a.toList == [46]) = false := by rw [hbt]; exact beq_false_of_ne e2
      by_cases e3 : bs a = [46, 46]
      · have q3 : (a.toList == [46, 46]) = true := by rw [hbt, e3]; rfl
        by_cases hK : K = []
        · subst hK
          have HNn : Hid (Pm.norm (bs s) = ([], 2)) := by
            show _ = _
            rw [HN.out, Pm.rest_none HC.out (by rw [e3]; simp [Pm.step])]; rfl
          have HSn : Hid (Pm.seg (bs a) = false) := seg_no (.inr (.inr (.inr e3)))
          obtain ⟨vd, vc, rfl, hvc, -⟩ := hO2.byts
          clear e1 e2 e3 hbt
          go_wp2_with fail
          refine (segment_any a _ (by omega)).mono ?_
          rintro e w3 ⟨rfl, rfl⟩
          rw [HSn.out]
          go_wp2
          go_ret2
          rw [HNn.out]
          exact ⟨⟨_, rfl, rfl⟩, hB3⟩
        · obtain ⟨K', p, rfl⟩ : ∃ K' p, K = K' ++ [p] := ⟨K.dropLast, K.getLast hK, (List.dropLast_concat_getLast hK).symm⟩
          have E1 : Hid (Pm.step (some (K' ++ [p])) (bs a) = some K') := by show _ = _; rw [e3]; simp [Pm.step]
          have HEn : Hid _ := Pm.enc_snoc K' p
          have HEl : Hid ((Pm.enc (K' ++ [p])).length = (Pm.enc K').length + 1 + p.length) := by show _ = _; rw [HEn.out]; simp; omega
          have hp : (47 : UInt8) ∉ p := (Pm.seg_facts (HSg.out p (by simp))).2.2.2
          obtain ⟨g, cap, rfl, hcap⟩ := Own.some_ hO2 (by rw [HEn.out]; simp)
          have hlast := BLastIndex_any 47 (Pm.enc (K' ++ [p])) (Pm.enc K') p _ _ w2 hO2.byts HEn.out hp (by have h1 := HR.out; simp only [moreOf] at h1; omega)
          have hO3 := Own.take hO2 (Pm.enc K').length (by rw [HEl.out]; omega)
          rw [show (Pm.enc (K' ++ [p])).take (Pm.enc K').length = Pm.enc K' by rw [HEn.out, List.take_left]] at hO3
          have hsl := slice_head w2 (some ⟨g, 0, none⟩) (Pm.enc (K' ++ [p])).length cap (Pm.enc K').length (by rw [HEl.out] at hcap; omega)
          have i1 : (0 : Int) < ((Pm.enc (K' ++ [p])).length : Int) := by rw [HEl.out]; omega
          have i2 : ((Pm.enc K').length : Int) ≤ (cap : Int) := by rw [HEl.out] at hcap; omega
          clear e1 e2 e3 hbt hO2 hp hK hcap
          generalize (Pm.enc (K' ++ [p])).length = n1 at *
          have HN2 : Hid (∃ n2, (Pm.enc K').length = n2) := ⟨_, rfl⟩
          obtain ⟨n2, hn2⟩ := HN2.out
          clear HN2
          rw [hn2] at hlast hsl i2 HEl hO3
          have HN2 : Hid _ := hn2
          clear hn2
          go_wp2_with fail
          refine hlast.mono ?_
          rintro e w3 ⟨rfl, rfl⟩
          go_wp2
          go_roundw
          case rel => exact ⟨b, f, K', rfl, rfl, hO3, hB3, fun q hq => HSg.out q (by simp [hq]), by rw [HN.out, Pm.rest_cut HC.out E1.out], by have h1 := HR.out; have h2 := HRm.out; have h3 := HEl.out; rw [HN2.out]; simp only [moreOf] at h1 h2 ⊢; omega⟩
          case measure =>
            cases f with
            | false => simp [moreOf]
            | true => have := HL.out rfl; simp [moreOf, szOf]; omega
      have q3 : (a.toList == [46, 46]) = false := by rw [hbt]; exact beq_false_of_ne e3
      have E1 : Hid (Pm.step (some K) (bs a) = if Pm.seg (bs a) = true then some (K ++ [bs a]) else none) := by
        show _ = _
        simp only [Pm.step, e1, e2, e3, or_self, if_false]
      clear e1 e2 e3 hbt
      go_wp2_with fail
      refine (segment_any a _ (by omega)).mono ?_
      rintro e w3 ⟨rfl, rfl⟩
      by_cases hg : Pm.seg (bs a) = true
      · rw [hg]
        have HG : Hid _ := hg
        rw [if_pos hg] at E1
        clear hg
        have Hx : Hid ((Pm.enc K).length ≤ 1099511627800) := by show _ ≤ _; have h1 := HR.out; simp only [moreOf] at h1; omega
        go_wp2_with (at_builtin; go_must (refine wpList_append_byte w3 rfl (.tmp 36) (.tmp 37) rfl w.heap.size _ (Pm.enc K) 47 47 rfl rfl hO2 rfl Hx hB3.size ?_))
        intro v1 w4 hO4 hB4
        have hB5 := hB3.trans hB4
        have Hy : Hid ((Pm.enc K ++ [47]).length + a.size ≤ 1099511627800) := by show _ ≤ _; have h1 := HR.out; simp only [moreOf] at h1; rw [List.length_append, List.length_singleton]; omega
        clear hO2 hB4 hB3 Hx
        go_wp2_with (at_builtin; go_must (refine wpList_append_text rfl (.tmp 38) (.tmp 39) rfl w.heap.size _ (Pm.enc K ++ [47]) a rfl hO4 rfl Hy hB5.size ?_))
        intro v2 w5 hO5 hB6
        have hB7 := hB5.trans hB6
        have hO6 : Own w5 w.heap.size v2 (Pm.enc (K ++ [bs a])) := by rw [Pm.enc_snoc]; simpa using hO5
        clear hO5
        clear hO4 hB6 hB5 Hy
        go_wp2
        go_roundw
        case rel => exact ⟨b, f, K ++ [bs a], rfl, rfl, hO6, hB7, fun q hq => by
          rcases List.mem_append.1 hq with h | h
          · exact HSg.out q h
          · rw [List.mem_singleton.1 h]; exact HG.out, by rw [HN.out, Pm.rest_cut HC.out E1.out], by
          have h1 := HR.out
          have h2 := HRm.out
          rw [Pm.enc_snoc, List.length_append, List.length_cons, bs_length]
          simp only [moreOf] at h1 h2 ⊢
          omega⟩
        case measure =>
          cases f with
          | false => simp [moreOf]
          | true => have := HL.out rfl; simp [moreOf, szOf]; omega
      · rw [Bool.not_eq_true] at hg
        rw [hg]
        have HNn : Hid (Pm.norm (bs s) = ([], 2)) := by
          show _ = _
          rw [HN.out, Pm.rest_none HC.out (by rw [E1.out, hg]; rfl)]; rfl
        clear hg
        go_wp2
        go_ret2
        rw [HNn.out]
        exact ⟨⟨_, rfl, rfl⟩, hB3⟩
end Go.Proofs.YtnobmgkdieaclaaGreatDoor
