/-
  WireAgain: what is read of any bytes, put again, are the bytes that were gone over. Where what comes in is of bulk at most 1048576.
-/
import Derived.Test.YtoablejghckaeaaApart
import Derived.Test.YtoablejghckaeaaAsks
import Derived.Deep.DeepCutAuto
namespace Go.Proofs.Ytoablejghckaeaa
open Go.ChangeShapes Go.WideShapes Go.ChangeAt Go.RowKit
open Go.ChangeMaps (open_string)

set_option maxRecDepth 100000 in
set_option maxHeartbeats 2000000 in
theorem again_walk (v : Value) (bs : List UInt8) (w : World) (hv : Byts w w.heap.size v bs) (hbs : bs.length ≤ 1048576) :
    Calls Try.prog 7 #[v] w fun e w' => e = .returned (.bool true) ∧ Below w.heap.size w w' := by
  have hv0 := hv
  obtain ⟨ad, cap, hva, hcap, _⟩ := hv0
  subst hva
  go_enter Try.func7, Try.ntmps7
  go_wp2_with fail
  refine (works_any w).mono ?_
  rintro e w1 ⟨rfl, hb1⟩
  go_wp2_with fail
  refine (New_any _ bs _ _ (hv.below hb1 (Nat.le_refl _)) (by omega)).mono ?_
  rintro e w2 ⟨p, u, rfl, hp, hc2, ho2, hb2⟩
  have hB2 := hb1.trans (hb2.mono hb1.size)
  have hpw := Nat.le_trans hb1.size hp
  clear hb2 hp hb1
  go_wp2_with fail
  refine (Uint_any p u 0 _ bs 18446744073709551615 _ hc2 ho2 (by omega) (by omega)).mono ?_
  rintro e w3 ⟨rfl, hc3, hg3⟩
  have hB3 := below_grow hB2 hg3 hB2.size hpw
  have HU : Hid _ := askU_max bs 0
  clear hB2 hc2 ho2 hg3
  generalize (askU bs 0 18446744073709551615).1 = n at *
  generalize (askU bs 0 18446744073709551615).2.1 = er at *
  generalize (askU bs 0 18446744073709551615).2.2 = c at *
  rw [Nat.zero_add] at hc3
  go_upto_region 5 with fail
  go_cut [37] (fun t w' => t = .bool false ∧ Below w.heap.size w w')
  case first =>
    rcases HU.out with ⟨h1, h2, h3, h4⟩ | ⟨h1, h2⟩
    · subst h1
      rw [List.drop_zero] at h3 h4
      go_wp2_with fail
      refine (PutUint_any n h2 _).mono ?_
      rintro e w4 ⟨v4, rfl, ho4, hb4⟩
      have hc4 := hc3.below hb4 hc3.lt
      have hB4 := hB3.trans (hb4.mono hB3.size)
      have hsl := slice_head w4 ad bs.length cap c (by omega)
      have Heq : Hid (bs.take c = Wm.putU n) := h4
      clear hb4 hc3 hB3 h4 HU h2
      go_wp2_with fail
      refine (At_any p _ c _ hc4).mono ?_
      rintro e w' ⟨rfl, rfl⟩
      go_wp2_with fail
      refine (Equal_any _ _ (Wm.putU n) (bs.take c) _ _ _ ho4.byts ((hv.below hB4 (Nat.le_refl _)).head c h3)).mono ?_
      rintro e w' ⟨rfl, rfl⟩
      rw [decide_eq_true Heq.out.symm]
      go_wp2
      go_meet
      case rel => exact ⟨rfl, hB4⟩
    · have h1' : ((er : Int) == 0) = false := by rw [beq_eq_false_iff_ne]; omega
      have h1'' : ((er : Int) != 0) = true := by rw [bne_iff_ne]; omega
      subst h2
      clear HU h1
      go_wp2_with fail
      refine (At_any p _ 0 _ hc3).mono ?_
      rintro e w' ⟨rfl, rfl⟩
      go_wp2
      go_meet
      case rel => exact ⟨rfl, hB3⟩
  case rest =>
    obtain ⟨rfl, hB⟩ := hcut
    clear hc3 hB3 HU hpw
    go_wp2_with fail
    refine (New_any _ bs _ _ (hv.below hB (Nat.le_refl _)) (by omega)).mono ?_
    rintro e w5 ⟨p5, x5, rfl, hp5, hc5, ho5, hb5⟩
    have hB5 := hB.trans (hb5.mono hB.size)
    have hpw := Nat.le_trans hB.size hp5
    clear hb5 hp5 hB
    go_wp2_with fail
    refine (Text_any p5 x5 0 _ bs (bs.length : Int) _ hc5 ho5 (by omega) (by omega) (by omega)).mono ?_
    rintro e w6 ⟨rfl, hc6, hg6⟩
    have hB6 := below_grow hB5 hg6 hB5.size hpw
    have HP : Hid _ := @askT_put bs 0 (bs.length : Int)
    have HE : Hid _ := @askT_err bs 0 (bs.length : Int)
    clear hB5 hc5 ho5 hg6
    generalize (askT bs 0 (bs.length : Int)) = T at *
    obtain ⟨t, er2, c2⟩ := T
    simp only at *
    rw [Nat.zero_add] at hc6
    go_upto_region 9 with fail
    go_cut [67] (fun t w' => t = .bool false ∧ Below w.heap.size w w')
    case first =>
      by_cases h1 : er2 = 0
      · obtain ⟨h4, h3, h2, _⟩ := HP.out h1
        subst h1
        rw [List.drop_zero] at h3 h4
        clear HP HE
        go_wp2_with fail
        refine (PutText_any (str t) (by rw [str_size]; omega) _).mono ?_
        rintro e w4 ⟨v4, rfl, ho4, hb4⟩
        rw [str_toList] at ho4
        have hc4 := hc6.below hb4 hc6.lt
        have hB4 := hB6.trans (hb4.mono hB6.size)
        have hsl := slice_head w4 ad bs.length cap c2 (by omega)
        have Heq : Hid (bs.take c2 = Wm.putT t) := h4
        clear hb4 hc6 hB6 h4 h2
        go_wp2_with fail
        refine (At_any p5 _ c2 _ hc4).mono ?_
        rintro e w' ⟨rfl, rfl⟩
        go_wp2_with fail
        refine (Equal_any _ _ (Wm.putT t) (bs.take c2) _ _ _ ho4.byts ((hv.below hB4 (Nat.le_refl _)).head c2 h3)).mono ?_
        rintro e w' ⟨rfl, rfl⟩
        rw [decide_eq_true Heq.out.symm]
        go_wp2
        go_meet
        case rel => exact ⟨rfl, hB4⟩
      · have h2 := HE.out h1
        have h2' : c2 = 0 := congrArg (fun q => q.2.2) h2
        have h1' : ((er2 : Int) == 0) = false := by rw [beq_eq_false_iff_ne]; omega
        have h1'' : ((er2 : Int) != 0) = true := by rw [bne_iff_ne]; omega
        subst h2'
        clear HP HE h1 h2
        go_wp2_with fail
        refine (At_any p5 _ 0 _ hc6).mono ?_
        rintro e w' ⟨rfl, rfl⟩
        go_wp2
        go_meet
        case rel => exact ⟨rfl, hB6⟩
    case rest =>
      obtain ⟨rfl, hB⟩ := hcut
      clear hc6 hB6 HP HE hpw
      go_wp2_with fail
      refine (New_any _ bs _ _ (hv.below hB (Nat.le_refl _)) (by omega)).mono ?_
      rintro e w7 ⟨p7, x7, rfl, hp7, hc7, ho7, hb7⟩
      have hB7 := hB.trans (hb7.mono hB.size)
      have hpw := Nat.le_trans hB.size hp7
      clear hb7 hp7 hB
      go_wp2_with fail
      refine (List_any p7 x7 0 _ bs (bs.length : Int) (bs.length : Int) _ hc7 ho7 (by omega) (by omega) (by omega) (by omega)).mono ?_
      rintro e w8 ⟨vl, done, rfl, hol, htl, hc8, hg8⟩
      have hB8 := below_grow hB7 hg8 hB7.size hpw
      have HP : Hid _ := @askL_put bs 0 (bs.length : Int) (bs.length : Int)
      have HE : Hid _ := @askL_err bs 0 (bs.length : Int) (bs.length : Int)
      clear hB7 hc7 ho7 hg8
      generalize (askL bs 0 (bs.length : Int) (bs.length : Int)) = T at *
      obtain ⟨t2, er3, c3⟩ := T
      simp only at *
      subst htl
      rw [Nat.zero_add] at hc8
      by_cases h1 : er3 = 0
      · obtain ⟨h4, h3⟩ := HP.out h1
        subst h1
        rw [List.drop_zero] at h3 h4
        have hlen : (Wm.putL (toL done)).length = c3 := by rw [← h4]; simp; omega
        have hpl : (Wm.putTs (toL done)).length ≤ 1099511627000 := by unfold Wm.putL at hlen; rw [List.length_append] at hlen; omega
        have Hpl : Hid ((Wm.putTs (toL done)).length ≤ 1099511627000) := hpl
        clear HP HE hlen hpl
        go_wp2_with fail
        refine (PutList_any done vl _ hol.strs Hpl.out).mono ?_
        rintro e w4 ⟨v4, rfl, ho4, hb4⟩
        have hc4 := hc8.below hb4 hc8.lt
        have hB4 := hB8.trans (hb4.mono hB8.size)
        have hsl := slice_head w4 ad bs.length cap c3 (by omega)
        have Heq : Hid (bs.take c3 = Wm.putL (toL done)) := h4
        clear hb4 hc8 hB8 h4 hol
        go_wp2_with fail
        refine (At_any p7 _ c3 _ hc4).mono ?_
        rintro e w' ⟨rfl, rfl⟩
        go_wp2_with fail
        refine (Equal_any _ _ (Wm.putL (toL done)) (bs.take c3) _ _ _ ho4.byts ((hv.below hB4 (Nat.le_refl _)).head c3 h3)).mono ?_
        rintro e w' ⟨rfl, rfl⟩
        rw [decide_eq_true Heq.out.symm]
        go_wp2
        go_ret
        exact ⟨rfl, hB4⟩
      · have h2' : c3 = 0 := HE.out h1
        have h1' : ((er3 : Int) == 0) = false := by rw [beq_eq_false_iff_ne]; omega
        have h1'' : ((er3 : Int) != 0) = true := by rw [bne_iff_ne]; omega
        subst h2'
        clear HP HE h1
        go_wp2_with fail
        refine (At_any p7 _ 0 _ hc8).mono ?_
        rintro e w' ⟨rfl, rfl⟩
        go_wp2
        go_ret
        exact ⟨rfl, hB8⟩

theorem wireAgain_contract (H : Type) (enc : TypeId × Value → H) (W : World) (base : Nat) (args : Array Value) (ds gs : List (DataW H)) (before : List MemPlace)
    (hval : ∀ (j : Nat) t v, Try.f7.params[j]? = some t → args[j]? = some v → Value.okWide Try.prog W .any base t v)
    (hW : DataW.Whole enc Try.prog Try.f7.params.toList Rows.wireAgainSpec.vars false W args.toList ds gs before) (hk : Rows.uptoSmall H (ds ++ gs) = true) :
    Calls Try.prog 7 args W fun e W' => ∃ v, e = .returned v ∧ Rows.wireAgainSpec.post enc Try.prog Try.f7 false true false false W args v W' := by
  have hW' := hW
  obtain ⟨p, q, hA0, hV, rfl, hfz, hnd⟩ := hW
  have hA : DataW.TrodAll enc Try.prog W 0 (fun _ => true) true Try.f7.params.toList args.toList ds p := hA0
  have hread : ∀ t ∈ Try.f7.params.toList, Try.prog.readableRec t = true ∧ t < Try.prog.types.size := by
    rw [Try.params7]
    intro t ht
    simp only [List.mem_cons, List.not_mem_nil, or_false] at ht
    rcases ht with rfl <;> exact ⟨by kernel_rfl, of_decide_eq_true (by kernel_rfl)⟩
  rw [Try.params7] at hA hval
  obtain ⟨v0, vs0, d0, ds0, p0, q0, hargs, rfl, rfl, h0, r0⟩ := trodAll_cons hA
  obtain ⟨rfl, rfl, rfl⟩ := trodAll_nil r0
  obtain rfl : args = #[v0] := by cases args; simp_all
  obtain ⟨rfl, rfl⟩ := trodVars_none hV
  obtain ⟨l0, hl0, bl0⟩ := open_byts (hval 0 24 v0 rfl rfl) h0
  have hB := bulk_all hk
  simp only [List.append_nil, Rows.uptoBulkAll] at hB
  refine (again_walk v0 l0 W hl0 (by omega)).mono fun e W' ⟨he, hb⟩ => ?_
  subst he
  exact ⟨_, rfl, law_post rfl (by kernel_rfl) hread rfl hW' hb⟩

set_option maxRecDepth 100000 in
theorem wireAgain_lifted (os : Os) (started : os.Started) (H : Type) (enc : TypeId × Value → H) (F : Stop.Interp) :
    ReturnsInHanded {} Try.checked os 7 .any ((Rows.OpenSpec.upto Rows.wireAgainSpec).pre6 enc Try.prog Try.f7 Rows.wireAgainUptoRow.domain false) (((Rows.OpenSpec.upto Rows.wireAgainSpec).at F).post enc Try.prog Try.f7 false true false false) := by
  refine returnsInHanded_of_cond (C := Try.checked) (s := Rows.OpenSpec.upto Rows.wireAgainSpec) (k := Rows.uptoSmall) rfl own started (by kernel_rfl) Try.func7
    (OpenSpec.witness (enc := enc) (C := Try.checked) (s := Rows.OpenSpec.upto Rows.wireAgainSpec) (k := Rows.uptoSmall) rfl false ⟨#[], #[.slice none 0 0], []⟩ 8 (by kernel_rfl) (by kernel_rfl) (by kernel_rfl)
      (x := ([.nil], [], [])) (by kernel_rfl) rfl (by kernel_rfl)) ?_
  intro W base args ds gs before hval hW _ hk _
  exact wireAgain_contract H enc W base args ds gs before hval hW hk

theorem wireAgain_proved : Rows.WireAgainUptoSaid :=
  OpenClaim.holds_of_cond 7 Try.f7 rfl rfl rfl rfl rfl rfl rfl ⟨rfl, rfl, rfl, rfl, rfl⟩ rfl rfl rfl rfl rfl (by kernel_rfl) Try.func7 (by kernel_rfl)
    (of_decide_eq_true (by kernel_rfl)) (by unfold Func.isWrapper; first | (rw [if_pos (by decide +kernel)]; kernel_rfl) | (rw [if_neg (by decide +kernel)]; exact ⟨rfl, rfl⟩))
    (fun os started H enc _ F => wireAgain_lifted os started H enc F)
#print axioms wireAgain_proved
end Go.Proofs.Ytoablejghckaeaa
