/-
  WirePuts: any number, text and list is told in its bytes, as the document's answer tells them. Where what comes in is of bulk at most 1048576.
-/
import Derived.Test.YtoablejghckaeaaApart
import Derived.Test.YtoablejghckaeaaRefs
namespace Go.Proofs.Ytoablejghckaeaa
open Go.ChangeShapes Go.WideShapes Go.ChangeAt Go.RowKit
open Go.ChangeMaps (open_string)

set_option maxRecDepth 100000 in
set_option maxHeartbeats 2000000 in
theorem puts_walk (n : Nat) (s : ByteArray) (v : Value) (l : List ByteArray) (w : World) (hn : n < 18446744073709551616) (hs : s.size ≤ 1048576) (hv : Strs w w.heap.size v l) (bl : (l.map fun s => s.size + 1).sum ≤ 1048576) :
    Calls Try.prog 4 #[.int .u64 (n : Int), .string s, v] w fun e w' => e = .returned (.bool true) ∧ Below w.heap.size w w' := by
  have Hn : Hid (n < 18446744073709551616) := hn
  have pl := puts_small l
  have tl := texts_small bl
  have Hpl : Hid ((Wm.putTs (toL l)).length ≤ 1099511627000) := by show _ ≤ _; omega
  have hll : l.length ≤ 1048576 := tl.2
  clear hn pl tl bl
  go_enter Try.func4, Try.ntmps4
  go_wp2_with fail
  refine (works_any w).mono ?_
  rintro e w1 ⟨rfl, hb1⟩
  have hv1 := hv.below hb1 (Nat.le_refl _)
  go_wp2_with fail
  refine (CloneS_any l v _ _ hv1 hb1.size (by omega)).mono ?_
  rintro e w2 ⟨vi, rfl, hoi, hb2⟩
  have hB2 := hb1.trans (hb2.mono hb1.size)
  have hi2 := hoi.strs
  have hi2s : w2.heap.size ≤ w2.heap.size := Nat.le_refl _
  clear hb1 hb2 hv1 hoi
  go_wp2_with fail
  refine (PutUint_any n Hn.out _).mono ?_
  rintro e w3 ⟨v3, rfl, ho3, hb3⟩
  go_wp2_with fail
  refine (refUint_any n Hn.out _).mono ?_
  rintro e w4 ⟨v4, rfl, ho4, hb4⟩
  go_wp2_with fail
  refine (Equal_any _ _ (Wm.putU n) (Wm.putU n) _ _ _ (ho3.byts.below hb4 (Nat.le_refl _)) ho4.byts).mono ?_
  rintro e w' ⟨rfl, rfl⟩
  rw [decide_eq_true rfl]
  have hB4 := (hB2.trans (hb3.mono hB2.size)).trans (hb4.mono (Nat.le_trans hB2.size hb3.size))
  have hi4 := (hi2.below hb3 (Nat.le_refl _)).below hb4 hb3.size
  have hs4 := Nat.le_trans hb3.size hb4.size
  clear ho3 hb3 ho4 hb4 hB2 hi2
  go_wp2_with fail
  refine (PutText_any s (by omega) _).mono ?_
  rintro e w5 ⟨v5, rfl, ho5, hb5⟩
  go_wp2_with fail
  refine (refText_any s (by omega) _).mono ?_
  rintro e w6 ⟨v6, rfl, ho6, hb6⟩
  go_wp2_with fail
  refine (Equal_any _ _ (Wm.putT s.data.toList) (Wm.putT s.data.toList) _ _ _ (ho5.byts.below hb6 (Nat.le_refl _)) ho6.byts).mono ?_
  rintro e w' ⟨rfl, rfl⟩
  rw [decide_eq_true rfl]
  have hB6 := (hB4.trans (hb5.mono hB4.size)).trans (hb6.mono (Nat.le_trans hB4.size hb5.size))
  have hi6 := (hi4.below hb5 hs4).below hb6 (Nat.le_trans hs4 hb5.size)
  have hs6 := Nat.le_trans hs4 (Nat.le_trans hb5.size hb6.size)
  clear ho5 hb5 ho6 hb6 hB4 hi4 hs4
  go_wp2_with fail
  refine (PutList_any l vi _ (hi6.mono hs6) Hpl.out).mono ?_
  rintro e w7 ⟨v7, rfl, ho7, hb7⟩
  have hB7 := hB6.trans (hb7.mono hB6.size)
  go_wp2_with fail
  refine (refList_any l v w.heap.size _ (hv.below hB7 (Nat.le_refl _)) hB7.size Hpl.out).mono ?_
  rintro e w8 ⟨v8, rfl, ho8, hb8⟩
  go_wp2_with fail
  refine (Equal_any _ _ (Wm.putL (toL l)) (Wm.putL (toL l)) _ _ _ (ho7.byts.below hb8 (Nat.le_refl _)) ho8.byts).mono ?_
  rintro e w' ⟨rfl, rfl⟩
  rw [decide_eq_true rfl]
  have hB8 := hB7.trans (hb8.mono hB7.size)
  have hi8 := (hi6.below hb7 hs6).below hb8 (Nat.le_trans hs6 hb7.size)
  clear ho7 hb7 ho8 hb8 hB7 hi6 hs6 hB6
  go_wp2_with fail
  refine (EqualS_any _ _ l l _ _ _ hi8 (hv.below hB8 (Nat.le_refl _)) (by omega)).mono ?_
  rintro e w6 ⟨rfl, q, rfl⟩
  rw [decide_eq_true rfl]
  go_wp2
  go_ret
  exact ⟨rfl, ⟨hB8.os, hB8.tape, hB8.output, hB8.size, hB8.block⟩⟩

theorem wirePuts_contract (H : Type) (enc : TypeId × Value → H) (W : World) (base : Nat) (args : Array Value) (ds gs : List (DataW H)) (before : List MemPlace)
    (hval : ∀ (j : Nat) t v, Try.f4.params[j]? = some t → args[j]? = some v → Value.okWide Try.prog W .any base t v)
    (hW : DataW.Whole enc Try.prog Try.f4.params.toList Rows.wirePutsSpec.vars false W args.toList ds gs before) (hk : Rows.uptoSmall H (ds ++ gs) = true) :
    Calls Try.prog 4 args W fun e W' => ∃ v, e = .returned v ∧ Rows.wirePutsSpec.post enc Try.prog Try.f4 false true false false W args v W' := by
  have hW' := hW
  obtain ⟨p, q, hA0, hV, rfl, hfz, hnd⟩ := hW
  have hA : DataW.TrodAll enc Try.prog W 0 (fun _ => true) true Try.f4.params.toList args.toList ds p := hA0
  have hread : ∀ t ∈ Try.f4.params.toList, Try.prog.readableRec t = true ∧ t < Try.prog.types.size := by
    rw [Try.params4]
    intro t ht
    simp only [List.mem_cons, List.not_mem_nil, or_false] at ht
    rcases ht with rfl | rfl | rfl <;> exact ⟨by kernel_rfl, of_decide_eq_true (by kernel_rfl)⟩
  rw [Try.params4] at hA hval
  obtain ⟨v0, vs0, d0, ds0, p0, q0, hargs, rfl, rfl, h0, r0⟩ := trodAll_cons hA
  obtain ⟨v1, vs1, d1, ds1, p1, q1, rfl, rfl, rfl, h1, r1⟩ := trodAll_cons r0
  obtain ⟨v2, vs2, d2, ds2, p2, q2, rfl, rfl, rfl, h2, r2⟩ := trodAll_cons r1
  obtain ⟨rfl, rfl, rfl⟩ := trodAll_nil r2
  obtain rfl : args = #[v0, v1, v2] := by cases args; simp_all
  obtain ⟨rfl, rfl⟩ := trodVars_none hV
  obtain ⟨z0, rfl, rfl, rfl, w0⟩ := open_int Try.underlying26 (hval 0 26 v0 rfl rfl) h0
  obtain ⟨n0, rfl, hn0⟩ := wf_u64 w0
  obtain ⟨s1, rfl, rfl, rfl, ms1⟩ := open_string Try.underlying9 (hval 1 9 v1 rfl rfl) h1
  have zs1 : s1.data.toList.length = s1.size := by rw [Array.length_toList]; rfl
  obtain ⟨l2, hl2, bl2⟩ := open_strs (hval 2 38 v2 rfl rfl) h2
  have hB := bulk_all hk
  simp only [List.append_nil, Rows.uptoBulkAll, Rows.uptoBulk] at hB
  refine (puts_walk n0 s1 v2 l2 W hn0 (by omega) hl2 (by omega)).mono fun e W' ⟨he, hb⟩ => ?_
  subst he
  exact ⟨_, rfl, law_post rfl (by kernel_rfl) hread rfl hW' hb⟩

set_option maxRecDepth 100000 in
theorem wirePuts_lifted (os : Os) (started : os.Started) (H : Type) (enc : TypeId × Value → H) (F : Stop.Interp) :
    ReturnsInHanded {} Try.checked os 4 .any ((Rows.OpenSpec.upto Rows.wirePutsSpec).pre6 enc Try.prog Try.f4 Rows.wirePutsUptoRow.domain false) (((Rows.OpenSpec.upto Rows.wirePutsSpec).at F).post enc Try.prog Try.f4 false true false false) := by
  refine returnsInHanded_of_cond (C := Try.checked) (s := Rows.OpenSpec.upto Rows.wirePutsSpec) (k := Rows.uptoSmall) rfl own started (by kernel_rfl) Try.func4
    (OpenSpec.witness (enc := enc) (C := Try.checked) (s := Rows.OpenSpec.upto Rows.wirePutsSpec) (k := Rows.uptoSmall) rfl false ⟨#[], #[.int .u64 0, .string .empty, .slice none 0 0], []⟩ 8 (by kernel_rfl) (by kernel_rfl) (by kernel_rfl)
      (x := ([.lit (.int .u64 0), .lit (.string []), .nil], [], [])) (by kernel_rfl) rfl (by kernel_rfl)) ?_
  intro W base args ds gs before hval hW _ hk _
  exact wirePuts_contract H enc W base args ds gs before hval hW hk

theorem wirePuts_proved : Rows.WirePutsUptoSaid :=
  OpenClaim.holds_of_cond 4 Try.f4 rfl rfl rfl rfl rfl rfl rfl ⟨rfl, rfl, rfl, rfl, rfl⟩ rfl rfl rfl rfl rfl (by kernel_rfl) Try.func4 (by kernel_rfl)
    (of_decide_eq_true (by kernel_rfl)) (by unfold Func.isWrapper; first | (rw [if_pos (by decide +kernel)]; kernel_rfl) | (rw [if_neg (by decide +kernel)]; exact ⟨rfl, rfl⟩))
    (fun os started H enc _ F => wirePuts_lifted os started H enc F)
#print axioms wirePuts_proved
end Go.Proofs.Ytoablejghckaeaa
