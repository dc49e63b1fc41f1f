/-
  THE WALK OF THE DOCUMENT's Norm.
-/
import Derived.Test.YtppcfidaalejfaaRTot
import Derived.Test.YtppcfidaalejfaaRJoinT
namespace Go.Proofs.Ytppcfidaalejfaa
open Go.RowKit

theorem OwnS.take {w : World} {base : Nat} {g n cap : Nat} {l : List ByteArray} (h : OwnS w base (.slice (some ⟨g, 0, none⟩) n cap) l) (m : Nat) (hm : m ≤ l.length) : OwnS w base (.slice (some ⟨g, 0, none⟩) m cap) (l.take m) := by
  have hlen : (l.take m).length = m := by rw [List.length_take]; omega
  unfold OwnS
  rw [hlen]
  rcases h.2 with ⟨h0, -⟩ | ⟨g', cap', cur, hv, hb, hh, hle, hmax, hsz, htk⟩
  · cases h0
  · simp only [Value.slice.injEq, Option.some.injEq, Addr.mk.injEq] at hv
    obtain ⟨⟨rfl, -⟩, rfl, rfl⟩ := hv
    refine ⟨by simp only [sV, List.length_map, hlen]; omega, .inr ⟨g, cap, cur, rfl, hb, hh, by omega, hmax, hsz, ?_⟩⟩
    rw [Nat.mul_one] at htk ⊢
    unfold sV at htk ⊢
    rw [List.map_take, ← htk, List.take_take]
    congr 1
    omega
theorem norm_stops {s : Pm.B} (k : Nat) (h : ((Pm.cut s).take k).foldl Pm.step (some []) = none) : Pm.norm s = ([], 2) := by
  unfold Pm.norm Pm.kept
  rw [← List.take_append_drop k (Pm.cut s), List.foldl_append, h, Pm.step_none]
  rfl
theorem bs_empty : bs (ByteArray.mk #[]) = [] := rfl
theorem elem28 : Try.prog.elem 30 = 9 := by simp [Program.elem, Try.underlying30]
theorem size9 (w : World) : (Go.sizeOf 9).run Try.prog w = .ok 1 w := by
  obtain ⟨i0, hi, _, hz1, _⟩ := info_parts info9s
  simp [Go.sizeOf, typeInfo, hi, hz1]
theorem slice_texts (W : World) (ad : Option Addr) (n c m : Nat) (hm : m ≤ c) :
    (Instr.slice 30 (.slice ad n c) none (some (.int .i64 (m : Int))) none).run Try.prog W = .ok (.slice ad m c) W := by
  rw [run_slice_h W 30 ad n c (by rw [elem28]; exact Try.underlying30) .i64 (m : Int) (by omega) (by omega), elem28, size9]
  simp [Result.andThen, sliced, addr_add_zero]
theorem tot_snoc (l : List ByteArray) (x : ByteArray) : tot (l ++ [x]) = tot l + (x.size + 1) := by simp [tot]

set_option maxRecDepth 100000 in
set_option maxHeartbeats 4000000 in
theorem NormT_any (s : ByteArray) (w : World) (hs : s.size ≤ 100000000) : Calls Try.prog 40 #[.string s] w fun e w' => (∃ t, e = .returned (.tuple #[.string t, .int .i64 ((Pm.norm (bs s)).2 : Int)]) ∧ bs t = (Pm.norm (bs s)).1) ∧ Below w.heap.size w w' := by
  go_enter Try.func40, Try.ntmps40
  go_wp2_with fail
  refine (Cut_any s _ hs).mono ?_
  rintro e w1 ⟨v, l, rfl, hO, hl, hB⟩
  obtain ⟨ad, c, rfl, hc, hn, hi⟩ := hO.strs
  have Hi : Hid _ := hi
  have HL : Hid (l.map bs = Pm.cut (bs s)) := hl
  obtain ⟨HTt, hlen, -⟩ := tot_cut hl
  have HTt : Hid _ := HTt
  clear hi hl hO
  go_wp2
  go_loopw [5, 6] (fun v i wr => ∃ (k : Nat) (K : List ByteArray), k ≤ l.length ∧ i = .int .i64 (k : Int) ∧ OwnS wr w1.heap.size v K ∧ Below w1.heap.size w1 wr ∧ ((Pm.cut (bs s)).take k).foldl Pm.step (some []) = some (K.map bs) ∧ tot K ≤ tot (l.take k)) (fun _ i _ => l.length - (intOf i).toNat)
  case atStart => exact ⟨0, [], Nat.zero_le _, rfl, OwnS.nil _ _, Below.refl _ _, rfl, Nat.le_refl _⟩
  case round =>
    obtain ⟨k, K, hk, rfl, hO, hBe, hst, htt⟩ := hrel
    have HS : Hid _ := hst
    have HT : Hid _ := htt
    clear hst htt
    by_cases hlt : k < l.length
    · obtain ⟨b, o, rfl, hbl, hcs⟩ := Hi.out (by intro h; rw [h] at hlt; simp at hlt)
      have c0 : wr.cell? ⟨b, o + k, none⟩ = _ := (hBe.cell (p := ⟨b, o + k, none⟩) hbl).trans (hcs k hlt)
      have HX : Hid _ := seg_at HL.out k hlt
      have HT2 : Hid _ := tot_take l k hlt
      have HT3 : Hid _ := tot_le l (k + 1)
      have i1 : (k : Int) < (l.length : Int) := by omega
      generalize l.getD k .empty = x at *
      have HF : Hid (((Pm.cut (bs s)).take (k + 1)).foldl Pm.step (some []) = Pm.step (some (K.map bs)) (bs x)) := by
        show _ = _
        rw [HX.out, List.foldl_append, HS.out]
        rfl
      have hbt : x.toList = bs x := ByteArray.toList_eq x
      clear hcs
      by_cases e1 : bs x = []
      · have q1 : (x.toList == []) = true := by rw [hbt, e1]; rfl
        have E1 : Hid _ := e1
        clear e1 hbt
        go_wp2
        refine ⟨⟨k + 1, K, by omega, by go_num, hO, hBe, ?_, ?_⟩, by simp [intOf]; omega⟩
        · rw [HF.out, E1.out]; rfl
        · rw [HT2.out]; have := HT.out; omega
      by_cases e2 : bs x = [46]
      · have q1 : (x.toList == []) = false := by rw [hbt, e2]; rfl
        have q2 : (x.toList == [46]) = true := by rw [hbt, e2]; rfl
        have E1 : Hid _ := e2
        clear e1 e2 hbt
        go_wp2
        refine ⟨⟨k + 1, K, by omega, by go_num, hO, hBe, ?_, ?_⟩, by simp [intOf]; omega⟩
        · rw [HF.out, E1.out]; rfl
        · rw [HT2.out]; have := HT.out; omega
      have q1 : (x.toList == []) = false := by rw [hbt]; exact beq_false_of_ne e1
      have q2 : (x.toList == [46]) = false := by rw [hbt]; exact beq_false_of_ne e2
      obtain ⟨vd, vc, rfl, hvc, -⟩ := hO.strs
      by_cases e3 : bs x = [46, 46]
      · have q3 : (x.toList == [46, 46]) = true := by rw [hbt, e3]; rfl
        have E1 : Hid _ := e3
        clear e1 e2 e3 hbt
        by_cases hK : K = []
        · subst hK
          have HN : Hid _ := norm_stops (s := bs s) (k + 1) (by rw [HF.out, E1.out]; rfl)
          go_wp2
          go_ret2
          rw [HN.out]
          exact ⟨⟨_, rfl, rfl⟩, hB.trans (hBe.mono hB.size)⟩
        · have hK1 : K.length ≠ 0 := fun h => hK (List.eq_nil_of_length_eq_zero h)
          have i2 : ((K.length : Int) == 0) = false := by simp; omega
          obtain ⟨g, rfl⟩ : ∃ g, vd = some ⟨g, 0, none⟩ := by
            rcases hO.2 with ⟨h0, hz⟩ | ⟨g, cap, cur, hv, -⟩
            · exact absurd hz hK1
            · simp only [Value.slice.injEq] at hv; exact ⟨g, hv.1⟩
          have hm : ((K.length : Int) - 1) = ((K.length - 1 : Nat) : Int) := by omega
          have hKl : K.length ≤ 100000001 := by
            have h1 := length_tot K
            have h2 := HT.out
            have h3 := tot_le l k
            rw [HTt.out] at h3
            omega
          have hsl := slice_texts wr (some ⟨g, 0, none⟩) K.length vc (K.length - 1) (by omega)
          rw [← hm] at hsl
          have hO2 := hO.take (K.length - 1) (by omega)
          have hlen2 : (K.take (K.length - 1)).length = K.length - 1 := by rw [List.length_take]; omega
          go_wp2
          refine ⟨⟨k + 1, K.take (K.length - 1), by omega, by go_num, hO2, hBe, ?_, ?_⟩, by simp [intOf]; omega⟩
          · rw [HF.out, E1.out]
            simp only [Pm.step, List.map_eq_nil_iff, hK, if_false, List.dropLast_eq_take, List.length_map, List.map_take]
            rfl
          · rw [HT2.out]
            have h1 := HT.out
            have h2 := tot_le K (K.length - 1)
            omega
      have q3 : (x.toList == [46, 46]) = false := by rw [hbt]; exact beq_false_of_ne e3
      have E1 : Hid (Pm.step (some (K.map bs)) (bs x) = if Pm.seg (bs x) = true then some (K.map bs ++ [bs x]) else none) := by
        show _ = _
        simp only [Pm.step, e1, e2, e3, or_self, if_false]
      clear e1 e2 e3 hbt
      go_wp2_with fail
      refine (Segment_any x _).mono ?_
      rintro e w2 ⟨rfl, rfl⟩
      by_cases hg : Pm.seg (bs x) = true
      · rw [hg]
        have HG : Hid _ := hg
        clear hg
        have HLt := strs_lit w2 x
        have hOa := OwnS.alloc hO (.cells #[.string x] 9)
        have hBa := hBe.alloc hBe.size (.cells #[.string x] 9)
        have Hx : Hid (K.length + [x].length ≤ 1099511627) := by
          have h1 := length_tot K
          have h2 := HT.out
          have h3 := tot_le l k
          rw [HTt.out] at h3
          show _ ≤ _
          simp only [List.length_cons, List.length_nil]
          omega
        go_wp2_with (at_builtin; go_must (refine wpList_append_strs rfl _ _ rfl w1.heap.size (w2.heap.size + 1) _ _ K [x] rfl hOa rfl HLt Hx hBa.size ?_))
        intro v' w' h1 h2
        have hB1 := hBa.grown h2 hBa.size fun g e => (World.ownsRow.lt hOa g e).1
        clear HLt hOa hBa hO hBe h2
        go_wp2
        refine ⟨⟨k + 1, K ++ [x], by omega, by go_num, h1, hB1, ?_, ?_⟩, by simp [intOf]; omega⟩
        · rw [HF.out, E1.out, if_pos HG.out, List.map_append]; rfl
        · rw [HT2.out, tot_snoc]; have := HT.out; omega
      · rw [Bool.not_eq_true] at hg
        rw [hg]
        have HN : Hid _ := norm_stops (s := bs s) (k + 1) (by rw [HF.out, E1.out, if_neg (by rw [hg]; simp)])
        clear hg
        go_wp2
        go_ret2
        rw [HN.out]
        exact ⟨⟨_, rfl, rfl⟩, hB.trans (hBe.mono hB.size)⟩
    · obtain rfl : k = l.length := by omega
      have i1 : ¬ (l.length : Int) < (l.length : Int) := by omega
      have HN : Hid (Pm.norm (bs s) = Pm.told (some (K.map bs))) := by
        have h := HS.out
        rw [List.take_of_length_le (by rw [← HL.out]; simp)] at h
        show Pm.told (Pm.kept _) = _
        rw [Pm.kept, h]
      obtain ⟨vd, vc, rfl, hvc, -⟩ := hO.strs
      by_cases hK : K = []
      · subst hK
        go_wp2
        go_ret2
        rw [HN.out]
        exact ⟨⟨_, rfl, rfl⟩, hB.trans (hBe.mono hB.size)⟩
      · have hK1 : K.length ≠ 0 := fun h => hK (List.eq_nil_of_length_eq_zero h)
        have i2 : ((K.length : Int) == 0) = false := by simp; omega
        have hT : tot K ≤ 100000001 := by
          have h2 := HT.out
          rw [List.take_length, HTt.out] at h2
          omega
        have hKl := length_tot K
        go_wp2_with fail
        refine (JoinT_any K _ wr.heap.size wr hO.strs (Nat.le_refl _) (by omega) (by omega)).mono ?_
        rintro e w3 ⟨t, rfl, ht, hb3⟩
        have hBB := (hB.trans (hBe.mono hB.size)).trans (hb3.mono (Nat.le_trans hB.size hBe.size))
        have HTo : Hid (Pm.told (some (K.map bs)) = if 60 < t.size then ([], 3) else (bs t, 0)) := by
          show _ = _
          rw [← bs_length, ht]
          cases K with
          | nil => exact absurd rfl hK
          | cons a r => rfl
        have hts : t.size ≤ 1000000000 := by
          have h1 := join_tot K
          rw [← ht, bs_length] at h1
          omega
        clear ht hb3
        by_cases h60 : 60 < t.size
        · have i3 : (60 : Int) < (t.size : Int) := by omega
          rw [if_pos h60] at HTo
          go_wp2
          go_ret2
          rw [HN.out, HTo.out]
          exact ⟨⟨_, rfl, rfl⟩, hBB⟩
        · have i3 : ¬ (60 : Int) < (t.size : Int) := by omega
          rw [if_neg h60] at HTo
          go_wp2
          go_ret2
          rw [HN.out, HTo.out]
          exact ⟨⟨_, rfl, rfl⟩, hBB⟩

end Go.Proofs.Ytppcfidaalejfaa
