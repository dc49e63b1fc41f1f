/-
  WireReads: any calls on a cursor over any bytes read what these begin with, or stay where they are, as the document's answers say. Where what comes in is of bulk at most 1048576.
-/
import Derived.Test.YtoablejghckaeaaApart
import Derived.Test.YtoablejghckaeaaRefList
import Derived.Test.YtoablejghckaeaaCloneB
import Derived.Test.YtoablejghckaeaaAskS
import Derived.Deep.DeepCutAuto
import Derived.Deep.CutBlock
import Derived.Deep.RegionWith
namespace Go.Proofs.Ytoablejghckaeaa
open Go.ChangeShapes Go.WideShapes Go.ChangeAt Go.RowKit

theorem grownBy_setCells (g : Nat) : ∀ (vs : List Value) (o : Nat) (w : World), w.grownBy (w.setCells g o vs) (some g)
  | [], _, w => grownBy_refl w _
  | v :: r, o, w => grownBy_trans (grownBy_set w g o v) (grownBy_setCells g r (o + 1) (w.setCell ⟨g, o, none⟩ v))

theorem clear_any (w : World) (g n c : Nat) (hc : ∀ j, j < n → (w.cell? ⟨g, 0 + j, none⟩).isSome = true) (hf : ∀ j, j < n → w.frozen? ⟨g, 0 + j, none⟩ = false) :
    ∃ w', (∀ ty, (Builtin.clear_ #[24] ty #[.slice (some ⟨g, 0, none⟩) n c]).run Try.prog w = .ok (.tuple #[]) w') ∧ w.grownBy w' (some g) := by
  obtain ⟨i0, hi, hz0, hz1, hz2⟩ := info_parts info5
  by_cases h0 : n = 0
  · subst h0
    refine ⟨w, fun ty => ?_, grownBy_refl w _⟩
    simp [Builtin.clear_, run_underlying Try.underlying24]
  · exact ⟨_, fun ty => Lib.run_clear_slice w 24 5 ty (.int .u8 0) Try.underlying24 (fun w => by simp [zeroValue, typeInfo, hi, hz0]) rfl rfl g 0 n c (by omega) hc hf, grownBy_setCells g _ _ _⟩

theorem Own.drewN {w : World} {base : Nat} {v : Value} {l : List UInt8} (h : Own w base v l) (q : Nat) : Own (w.drewN q) base v l := h
theorem OwnS.drewN {w : World} {base : Nat} {v : Value} {l : List ByteArray} (h : OwnS w base v l) (q : Nat) : OwnS (w.drewN q) base v l := h
theorem below_drewN' {B : Nat} {a w : World} (h : Below B a w) (q : Nat) : Below B a (w.drewN q) := ⟨h.os, h.tape, h.output, h.size, h.block⟩

theorem askU_gone (bs : List UInt8) (x m : Nat) (hx : x ≤ bs.length) : ((askU bs x m).2.1 ≠ 0 → (askU bs x m).2.2 = 0) ∧ x + (askU bs x m).2.2 ≤ bs.length := by
  unfold askU
  cases hg : Wm.getU 0 (bs.drop x) with
  | none => simpa using hx
  | some q =>
    obtain ⟨n, c⟩ := q
    have := (Wm.put_get hg).2.1
    rw [List.length_drop] at this
    simp only
    by_cases h : n ≤ m
    · rw [if_pos h]; exact ⟨fun h => absurd rfl h, by simp only; omega⟩
    · rw [if_neg h]; simpa using hx
theorem askT_gone (bs : List UInt8) (x : Nat) (m : Int) (hx : x ≤ bs.length) : ((askT bs x m).2.1 ≠ 0 → (askT bs x m).2.2 = 0) ∧ x + (askT bs x m).2.2 ≤ bs.length :=
  ⟨fun h => by rw [askT_err h], askT_le bs x m hx⟩
theorem askL_gone (bs : List UInt8) (x : Nat) (m l : Int) (hx : x ≤ bs.length) : ((askL bs x m l).2.1 ≠ 0 → (askL bs x m l).2.2 = 0) ∧ x + (askL bs x m l).2.2 ≤ bs.length := by
  refine ⟨askL_err, ?_⟩
  by_cases h : (askL bs x m l).2.1 = 0
  · have := (askL_put h).2
    rw [List.length_drop] at this
    omega
  · rw [askL_err h]; omega

theorem askL_len (bs : List UInt8) (x : Nat) (m l : Int) : (askL bs x m l).1.length ≤ bs.length := by
  unfold askL
  by_cases h1 : (askN bs x m).2.1 = 0
  · rw [if_pos h1]
    by_cases h2 : (getTs bs l (askN bs x m).1 (x + (askN bs x m).2.2)).2.1 = 0
    · rw [if_pos h2]
      have := (getTs_put bs l _ _ h2).2.2.1
      have h3 := (askN_ok h1).1
      simp only
      omega
    · rw [if_neg h2]; simp
  · rw [if_neg h1]; simp

/-- 'b[x:]': a value, and what it holds -/
theorem tail_any (ad : Option Addr) (cap x : Nat) (bs : List UInt8) (hx : x ≤ bs.length) (hcap : bs.length ≤ cap) (hnone : ad = none → cap = 0) :
    ∃ ad' n' c', (∀ W : World, (Instr.slice 24 (.slice ad bs.length cap) (some (.int .i64 (x : Int))) none none).run Try.prog W = .ok (.slice ad' n' c') W) ∧
      ∀ (W : World) (B : Nat), Byts W B (.slice ad bs.length cap) bs → Byts W B (.slice ad' n' c') (bs.drop x) := by
  have hrun : ∀ W : World, (Instr.slice 24 (.slice ad bs.length cap) (some (.int .i64 (x : Int))) none none).run Try.prog W = .ok (sliced ad x bs.length cap 1) W := by
    intro W
    rw [run_slice_l W 24 ad bs.length cap (by rw [elem24]; exact Try.underlying24) .i64 (x : Int) (by omega) (by omega), elem24, size5]
    simp [Result.andThen]
  refine ⟨_, _, _, hrun, fun W B h => ?_⟩
  by_cases hc : cap = x
  · have e : bs.drop x = [] := List.drop_eq_nil_of_le (by omega)
    rw [if_pos hc, e]
    have e1 : bs.length - x = 0 := by omega
    have e2 : cap - x = 0 := by omega
    rw [e1, e2]
    exact ⟨ad, 0, rfl, Nat.le_refl _, fun _ => rfl, fun h => absurd rfl h⟩
  · rw [if_neg hc]
    cases ad with
    | none => have := hnone rfl; omega
    | some a =>
      by_cases hne : bs = []
      · subst hne
        have : x = 0 := by simpa using hx
        subst this
        exact ⟨_, _, rfl, by simp, (fun h => by simp at h), fun h => absurd rfl h⟩
      · obtain ⟨b, o, ha, _, _⟩ := h.open hne
        simp only [Option.some.injEq] at ha
        subst ha
        have := h.tail x hx (by omega)
        have ea : (⟨b, o, none⟩ : Addr).add (x * 1) = ⟨b, o + x, none⟩ := by rw [Nat.mul_one]; unfold Addr.add; split <;> simp_all
        simp only [Option.map_some, ea]
        exact this

set_option maxRecDepth 100000 in
set_option maxHeartbeats 4000000 in
theorem reads_walk (v : Value) (bs : List UInt8) (vq : Value) (q : List (Int × Int × Int)) (w : World) (hv : Byts w w.heap.size v bs) (hbs : bs.length ≤ 1048576) (hq : AskS w w.heap.size vq q) (hql : q.length ≤ 1048576) :
    Calls Try.prog 5 #[v, vq] w fun e w' => e = .returned (.bool true) ∧ Below w.heap.size w w' := by
  have hv0 := hv
  obtain ⟨ad, cap, hva, hcap, hnone, _⟩ := hv0
  subst hva
  obtain ⟨aq, cq, hvq, hqb, hqc⟩ := id hq
  subst hvq
  have Hqc : Hid _ := hqc
  have Hqb : Hid _ := hqb
  clear hqc hqb
  go_enter Try.func5, Try.ntmps5
  go_wp2_with fail
  refine (works_any w).mono ?_
  rintro e w1 ⟨rfl, hb1⟩
  go_wp2_with fail
  refine (CloneB_any bs _ w.heap.size _ (hv.below hb1 (Nat.le_refl _)) hb1.size (by omega)).mono ?_
  rintro e w2 ⟨v2, rfl, ho2, hb2⟩
  have hB2 := hb1.trans (hb2.mono hb1.size)
  have Hl2 : Hid (bs.length + ([1, 2] : List UInt8).length ≤ 1099511627800) := by show _ ≤ _; simp; omega
  have hs12 := hb2.size
  clear hb2
  go_wp2_with (at_builtin; go_must (refine wpList_append_byts rfl (.tmp 31) (.tmp 32) rfl w1.heap.size (w2.heap.size + 1) _ _ bs [1, 2] rfl (ho2.alloc _) rfl (byts_lit w2 #[.int .u8 1, .int .u8 2] [1, 2] 2 rfl rfl) Hl2 (by simp; omega) ?_))
  intro v3 w3 ho3 hg3
  have hB3 := (hB2.alloc hB2.size (.cells #[.int .u8 1, .int .u8 2] 5)).grown hg3 (by have := hB2.size; simp; omega) fun k hk => by have := (World.ownsRow.lt ho2 k hk).1; have := hb1.size; omega
  clear hg3 ho2 hB2 hs12
  rcases ho3.2 with ⟨_, h0⟩ | ⟨g, cp3, cur, hv3, hgb, hgg, hle3, _, hcs3, _⟩
  · simp at h0
  have hy3 := ho3.byts
  subst hv3
  simp only [List.length_append, List.length_cons, List.length_nil] at hle3
  have hsl := slice_head w3 (some ⟨g, 0, none⟩) (bs ++ [1, 2]).length cp3 bs.length (by omega)
  have hy := hy3.head bs.length (by simp)
  rw [List.take_left] at hy
  have hgw : w.heap.size ≤ g := Nat.le_trans hb1.size hgb
  clear hy3
  go_wp2_with fail
  refine (New_any _ bs _ _ hy (by omega)).mono ?_
  rintro e w4 ⟨p, X, rfl, hp, hc4, ho4, hb4⟩
  have hB4 := hB3.trans (hb4.mono hB3.size)
  have hpw := Nat.le_trans hB3.size hp
  have hg3lt : g < w3.heap.size := (Array.getElem?_eq_some_iff.1 hgg).1
  have hgg4 := (hb4.block g hg3lt).trans hgg
  have hgp : g ≠ p := by omega
  obtain ⟨w5, hclr, hg5⟩ := clear_any w4 g bs.length cp3 (fun j hj => by
      rw [cell_of_row w4 g (0 + j) _ 5 (0, 0) hgg4, Array.getElem?_eq_getElem (by omega)]; rfl) (fun j hj => frozen_of_row w4 g (0 + j) _ 5 hgg4)
  have hc5 := hc4.kept hg5 (by simp; omega)
  have ho5 : Own w5 w3.heap.size X bs := World.ownsRow.kept ho4 hg5 (.inr fun e => by have := (World.ownsRow.lt ho4 g e).1; omega)
  have hB5 := hB4.grown hg5 hB4.size fun k hk => by simp only [Option.some.injEq] at hk; omega
  clear hb4 hgg hgg4 hg5 hc4 ho4 hB4 hB3 hy hsl ho3 hp hgp hg3lt
  go_wp2
  go_loopw [7, 44] (fun at' i wr => ∃ k x : Nat, k ≤ q.length ∧ i = .int .i64 (k : Int) ∧ at' = .int .i64 (x : Int) ∧ x ≤ bs.length ∧ HasCur wr p X x ∧ Own wr w3.heap.size X bs ∧ Below w.heap.size w wr) (fun _ i _ => q.length - (intOf i).toNat)
  case atStart => exact ⟨0, 0, by omega, rfl, rfl, by omega, hc5, ho5, hB5⟩
  case round =>
    obtain ⟨k, x, hk, rfl, rfl, hx, hcr, hor, hbr⟩ := hrel
    clear hc5 ho5 hB5 hclr
    by_cases hlt : k < q.length
    · have hlt' : (k : Int) < (q.length : Int) := by omega
      obtain ⟨b, o, haq, hbl, hcells⟩ := Hqc.out (by intro h; subst h; simp at hlt)
      subst haq
      obtain ⟨q0, q1, q2⟩ := hcells k hlt
      replace q0 := (hbr.cell (p := ⟨b, o + k * 3, none⟩) hbl).trans q0
      replace q1 := (hbr.cell (p := ⟨b, o + k * 3 + 1, none⟩) hbl).trans q1
      replace q2 := (hbr.cell (p := ⟨b, o + k * 3 + 2, none⟩) hbl).trans q2
      have hmem : q.getD k (0, 0, 0) ∈ q := by simp [List.getD, List.getElem?_eq_getElem hlt]
      have hbd := Hqb.out _ hmem
      generalize q.getD k (0, 0, 0) = T at *
      obtain ⟨kind, most, longest⟩ := T
      simp only at *
      have Hm1 : Hid (most ≤ 9223372036854775807) := hbd.1
      have Hm2 : Hid (longest ≤ 9223372036854775807) := hbd.2
      clear hbd hmem hcells
      obtain ⟨ad', n', c', hsl, hty⟩ := tail_any ad cap x bs hx hcap hnone
      have hty' := hty wr _ (hv.below hbr (Nat.le_refl _))
      clear hty
      go_upto_block 2 with fail
      have hcx := hcr.alloc (.cells #[.int .i64 kind, .int .i64 most, .int .i64 longest] 49)
      have hox := hor.alloc (.cells #[.int .i64 kind, .int .i64 most, .int .i64 longest] 49)
      have hbx := hbr.alloc hbr.size (.cells #[.int .i64 kind, .int .i64 most, .int .i64 longest] 49)
      have htx := hty'.alloc hbr.size (.cells #[.int .i64 kind, .int .i64 most, .int .i64 longest] 49)
      clear q0 q1 q2 hcr hor hty' hq Hqc Hqb
      go_cut [10, 11] (fun t10 t11 w' => ∃ gone er : Nat, t10 = .int .i64 (gone : Int) ∧ t11 = .int .i64 (er : Int) ∧ (er ≠ 0 → gone = 0) ∧ x + gone ≤ bs.length ∧ HasCur w' p X (x + gone) ∧ Own w' w3.heap.size X bs ∧ Below w.heap.size w w')
      case first =>
        by_cases hk0 : kind = 0
        · subst hk0
          by_cases hneg : most < 0
          · clear Hm1 Hm2
            go_wp2_with fail
            refine (AskUint_any _ (bs.drop x) w.heap.size 18446744073709551615 _ htx (by simp; omega)).mono ?_
            rintro e wa ⟨rfl, hww⟩
            rw [hww, askU_drop]
            clear hww wa
            go_wp2_with fail
            refine (Uint_any p X x _ bs 18446744073709551615 _ hcx hox hx (by omega)).mono ?_
            rintro e wb ⟨rfl, hcb, hgb'⟩
            have hob := hox.kept hcx hgb'
            have hBb := below_grow hbx hgb' hbx.size hpw
            have hfin := askU_gone bs x 18446744073709551615 hx
            generalize askU bs x 18446744073709551615 = R at *
            obtain ⟨rn, re, rc⟩ := R
            simp only at *
            go_wp2
            go_meet
            case rel => exact ⟨rc, re, rfl, rfl, hfin.1, hfin.2, hcb, hob, hBb⟩
          · obtain ⟨mn, rfl⟩ := Int.eq_ofNat_of_zero_le (show 0 ≤ most by omega)
            have hw : IntKind.u64.wrap (mn : Int) = (mn : Int) := u64_wrap_small mn (by have := Hm1.out; omega)
            clear Hm1 Hm2
            go_wp2_with fail
            refine (AskUint_any _ (bs.drop x) w.heap.size mn _ htx (by simp; omega)).mono ?_
            rintro e wa ⟨rfl, hww⟩
            rw [hww, askU_drop]
            clear hww wa
            go_wp2_with fail
            refine (Uint_any p X x _ bs mn _ hcx hox hx (by omega)).mono ?_
            rintro e wb ⟨rfl, hcb, hgb'⟩
            have hob := hox.kept hcx hgb'
            have hBb := below_grow hbx hgb' hbx.size hpw
            have hfin := askU_gone bs x mn hx
            generalize askU bs x mn = R at *
            obtain ⟨rn, re, rc⟩ := R
            simp only at *
            go_wp2
            go_meet
            case rel => exact ⟨rc, re, rfl, rfl, hfin.1, hfin.2, hcb, hob, hBb⟩
        · have hk0' : (kind == 0) = false := by rw [beq_eq_false_iff_ne]; omega
          by_cases hk1 : kind = 1
          · subst hk1
            go_wp2_with fail
            go_quiet ((go_at_call 27; refine Calls.quiet_of_same (AskText_any _ (bs.drop x) w.heap.size most _ (htx.drewN _) (by simp; omega) Hm1.out)))
            rw [askT_drop]
            go_wp2_with fail
            refine (Text_any p X x _ bs most _ (hcx.drewN nq) (hox.drewN nq) hx (by omega) Hm1.out).mono ?_
            rintro e wb ⟨rfl, hcb, hgb'⟩
            have hob := (hox.drewN nq).kept (hcx.drewN nq) hgb'
            have hBb := below_grow (below_drewN' hbx nq) hgb' hbx.size hpw
            have hfin := askT_gone bs x most hx
            generalize askT bs x most = R at *
            obtain ⟨rn, re, rc⟩ := R
            simp only at *
            go_wp2
            go_meet
            case rel => exact ⟨rc, re, rfl, rfl, hfin.1, hfin.2, hcb, hob, hBb⟩
          · have hk1' : (kind == 1) = false := by rw [beq_eq_false_iff_ne]; omega
            by_cases hk2 : kind = 2
            · subst hk2
              go_upto_region 30 with fail
              have hcD := hcx.drewN 1
              have hoD := hox.drewN 1
              have hbD := below_drewN' hbx 1
              have htD := htx.drewN 1
              go_region_with (go_at_call 28; refine (AskList_any _ (bs.drop x) w.heap.size most longest _ htD hbD.size (by simp; omega) Hm1.out Hm2.out).mono ?_; rintro e wa ⟨va, da, rfl, hoa, hta, hba⟩)
              all_goals
                rw [askL_drop] at hta
                rw [askL_drop]
                have hcA := hcD.below hba hcD.lt
                have hoA := hoD.below hba (Nat.le_refl _)
                have hbA := hbD.trans (hba.mono hbD.size)
                have hbox := (hba.block wr.heap.size (by simp)).trans (heap_alloc_new wr (.cells #[.int .i64 2, .int .i64 most, .int .i64 longest] 49))
                have x1 := (cell_of_row wa wr.heap.size 1 _ 49 (0, 0) hbox).trans (show _ = some (Value.int .i64 most) from rfl)
                have x2 := (cell_of_row wa wr.heap.size 2 _ 49 (0, 0) hbox).trans (show _ = some (Value.int .i64 longest) from rfl)
                have hpD := hcD.lt
                clear hcD hoD hbD htD hba hbox hcx hox hbx htx
                go_wp2_with fail
                refine (List_any p X x _ bs most longest _ hcA hoA hx (by omega) Hm1.out Hm2.out).mono ?_
                rintro e wb ⟨vr, dr, rfl, hor2, htr, hcb, hgb'⟩
                have hob := hoA.kept hcA hgb'
                have hBb := below_grow hbA hgb' hbA.size hpw
                have hdd : da = dr := toL_inj (hta.trans htr.symm)
                subst hdd
                have hsa' := (hoa.kept hgb' hpD).strs
                have hdl : da.length ≤ 1099511627776 := by
                  have h9 := askL_len bs x most longest
                  rw [← hta, toL_length] at h9
                  omega
                have hfin := askL_gone bs x most longest hx
                clear hoa hpD hcA hoA hbA hgb' x1 x2 hta
                generalize askL bs x most longest = R at *
                obtain ⟨rn, re, rc⟩ := R
                simp only at *
                go_wp2_with fail
                refine (EqualS_any _ _ da da _ _ _ hor2.strs hsa' hdl).mono ?_
                rintro e wd ⟨rfl, nq, hww⟩
                rw [hww, decide_eq_true rfl]
                clear hww wd
                go_wp2
                go_meet
                exact ⟨rc, re, rfl, rfl, hfin.1, hfin.2, hcb.drewN _, hob.drewN _, below_drewN' hBb _⟩
            · have hk2' : (kind == 2) = false := by rw [beq_eq_false_iff_ne]; omega
              go_wp2
              go_meet
              case rel => exact ⟨0, 0, rfl, rfl, fun _ => rfl, hx, hcx, hox, hbx⟩
      case rest =>
        obtain ⟨gone, er, rfl, rfl, her, hgone, hcc, hoc, hbc⟩ := hcut
        clear hcx hox hbx htx
        have hgo : (x : Int) + (gone : Int) ≤ 1048576 := by omega
        obtain ⟨ax, cx, hX, _⟩ := hoc.byts
        by_cases h0 : er = 0
        · subst h0
          subst hX
          go_wp2_with fail
          refine (At_any p _ (x + gone) _ hcc).mono ?_
          rintro e wa ⟨rfl, hww⟩
          rw [hww]
          clear hww wa
          have e1 : ((x + gone : Nat) : Int) = (x : Int) + (gone : Int) := by omega
          rw [e1]
          clear e1
          go_wp2_with fail
          refine (Left_any p ax bs.length cx (x + gone) _ hcc hgone (by omega)).mono ?_
          rintro e wa ⟨rfl, nq, hww⟩
          rw [hww]
          clear hww wa
          have e2 : ((bs.length - (x + gone) : Nat) : Int) = (bs.length : Int) - ((x : Int) + (gone : Int)) := by omega
          rw [e2]
          clear e2
          go_wp2
          exact ⟨⟨k + 1, x + gone, by omega, by go_num, by go_num, hgone, hcc.drewN _, hoc.drewN _, below_drewN' hbc _⟩, by simp [intOf]; omega⟩
        · have hg0 := her h0
          subst hg0
          have h0' : ((er : Int) == 0) = false := by rw [beq_eq_false_iff_ne]; omega
          rw [Nat.add_zero] at hcc
          subst hX
          clear h0 her
          go_wp2_with fail
          refine (At_any p _ x _ hcc).mono ?_
          rintro e wa ⟨rfl, hww⟩
          rw [hww]
          clear hww wa
          go_wp2_with fail
          refine (Left_any p ax bs.length cx x _ hcc hx (by omega)).mono ?_
          rintro e wa ⟨rfl, nq, hww⟩
          rw [hww]
          clear hww wa
          have e2 : ((bs.length - x : Nat) : Int) = (bs.length : Int) - (x : Int) := by omega
          rw [e2]
          clear e2
          go_wp2
          exact ⟨⟨k + 1, x, by omega, by go_num, rfl, hx, hcc.drewN _, hoc.drewN _, below_drewN' hbc _⟩, by simp [intOf]; omega⟩
    · have hlt' : ¬ (k : Int) < (q.length : Int) := by omega
      go_wp2
      go_ret
      exact ⟨rfl, hbr⟩
end Go.Proofs.Ytoablejghckaeaa
