/-
  WireApart: unlike numbers, and unlike lists, have unlike bytes, of which none begin with the others'; a lesser number has no more bytes. Where what comes in is of bulk at most 1048576.
-/
import Derived.Test.YtoablejghckaeaaWorks
import Derived.Test.YtoablejghckaeaaLaw
namespace Go.Proofs.Ytoablejghckaeaa
open Go.ChangeShapes Go.WideShapes Go.ChangeAt Go.RowKit

theorem takeU (n m : Nat) (hn : n < 18446744073709551616) (hm : m < 18446744073709551616) : decide ((Wm.putU n).take (Wm.putU m).length = Wm.putU m) = decide (n = m) := by
  rw [decide_eq_decide]
  constructor
  · intro h
    have e : Wm.putU n ++ [] = Wm.putU m ++ (Wm.putU n).drop (Wm.putU m).length := by
      have := List.take_append_drop (Wm.putU m).length (Wm.putU n)
      rw [h] at this
      rw [List.append_nil, this]
    exact (Wm.putU_inj hn hm e).1
  · intro h
    rw [h, List.take_length]

theorem takeL (l k : List ByteArray) (hl : ∀ s ∈ toL l, s.length < 18446744073709551616) (hk : ∀ s ∈ toL k, s.length < 18446744073709551616) (h1 : (toL l).length < 18446744073709551616) (h2 : (toL k).length < 18446744073709551616) :
    decide ((Wm.putL (toL l)).take (Wm.putL (toL k)).length = Wm.putL (toL k)) = decide (l = k) := by
  rw [decide_eq_decide]
  constructor
  · intro h
    have e : Wm.putL (toL l) ++ [] = Wm.putL (toL k) ++ (Wm.putL (toL l)).drop (Wm.putL (toL k)).length := by
      have := List.take_append_drop (Wm.putL (toL k)).length (Wm.putL (toL l))
      rw [h] at this
      rw [List.append_nil, this]
    exact toL_inj (Wm.putL_inj hl hk h1 h2 e).1
  · intro h
    rw [h, List.take_length]

/-- a bound on texts, out of their bulk -/
theorem texts_small {l : List ByteArray} {B : Nat} (h : (l.map fun s => s.size + 1).sum ≤ B) : (∀ s ∈ toL l, s.length ≤ B) ∧ l.length ≤ B := by
  induction l generalizing B with
  | nil => simp [toL]
  | cons x r ih =>
    simp only [List.map_cons, List.sum_cons] at h
    have := ih (B := B - (x.size + 1)) (by omega)
    have h3 : x.data.toList.length = x.size := by rw [Array.length_toList]; rfl
    refine ⟨fun s hs => ?_, by simp only [List.length_cons]; omega⟩
    have e : toL (x :: r) = x.data.toList :: toL r := rfl
    rw [e] at hs
    cases List.mem_cons.1 hs with
    | inl h => rw [h, h3]; omega
    | inr h => have := this.1 s h; omega

theorem Byts.drewN {w : World} {B : Nat} {v : Value} {l : List UInt8} (h : Byts w B v l) (q : Nat) : Byts (w.drewN q) B v l := h.below (B' := B) ⟨rfl, rfl, rfl, Nat.le_refl _, fun _ _ => rfl⟩ (Nat.le_refl _)
theorem Strs.drewN {w : World} {B : Nat} {v : Value} {l : List ByteArray} (h : Strs w B v l) (q : Nat) : Strs (w.drewN q) B v l := h.below (B' := B) ⟨rfl, rfl, rfl, Nat.le_refl _, fun _ _ => rfl⟩ (Nat.le_refl _)

set_option maxRecDepth 100000 in
set_option maxHeartbeats 2000000 in
theorem apart_walk (n m : Nat) (hn : n < 18446744073709551616) (hm : m < 18446744073709551616) (vl vk : Value) (l k : List ByteArray) (w : World) (hl : Strs w w.heap.size vl l) (hk : Strs w w.heap.size vk k)
    (bl : (l.map fun s => s.size + 1).sum ≤ 1048576) (bk : (k.map fun s => s.size + 1).sum ≤ 1048576) :
    Calls Try.prog 8 #[.int .u64 (n : Int), .int .u64 (m : Int), vl, vk] w fun e w' => e = .returned (.bool true) ∧ Below w.heap.size w w' := by
  have Hn : Hid (n < 18446744073709551616) := hn
  have Hm : Hid (m < 18446744073709551616) := hm
  have HU : Hid _ := takeU n m hn hm
  have pl := puts_small l
  have pk := puts_small k
  have tl := texts_small bl
  have tk := texts_small bk
  have HL1 : Hid _ := takeL l k (fun s hs => by have := tl.1 s hs; omega) (fun s hs => by have := tk.1 s hs; omega) (by rw [toL_length]; omega) (by rw [toL_length]; omega)
  have HL2 : Hid _ := takeL k l (fun s hs => by have := tk.1 s hs; omega) (fun s hs => by have := tl.1 s hs; omega) (by rw [toL_length]; omega) (by rw [toL_length]; omega)
  have HL2 : Hid (decide ((Wm.putL (toL k)).take (Wm.putL (toL l)).length = Wm.putL (toL l)) = decide (l = k)) := by
    show _ = _
    rw [HL2.out, decide_eq_decide]; exact eq_comm
  have hll : l.length ≤ 1048576 := tl.2
  have hkl : k.length ≤ 1048576 := tk.2
  have Hpl : Hid ((Wm.putTs (toL l)).length ≤ 1099511627000) := by show _ ≤ _; omega
  have Hpk : Hid ((Wm.putTs (toL k)).length ≤ 1099511627000) := by show _ ≤ _; omega
  clear hn hm pl pk tl tk bl bk
  go_enter Try.func8, Try.ntmps8
  go_wp2_with fail
  refine (works_any w).mono ?_
  rintro e w1 ⟨rfl, hb1⟩
  go_wp2_with fail
  refine (PutUint_any n Hn.out _).mono ?_
  rintro e w2 ⟨va, rfl, hoa, hb2⟩
  go_wp2_with fail
  refine (PutUint_any m Hm.out _).mono ?_
  rintro e w3 ⟨vb, rfl, hob, hb3⟩
  have ba := hoa.byts.below hb3 (Nat.le_refl _)
  have bb := hob.byts
  have hB3 := (hb1.trans (hb2.mono hb1.size)).trans (hb3.mono (Nat.le_trans hb1.size hb2.size))
  clear hoa hob hb1 hb2 hb3
  obtain ⟨ad, ca, hva, _⟩ := id ba
  obtain ⟨bd, cb, hvb, _⟩ := id bb
  subst hva hvb
  have la := Wm.putU_length n
  have lm : n < m → (Wm.putU n).length ≤ (Wm.putU m).length := fun h => Wm.putU_mono (Nat.le_of_lt h)
  generalize (Wm.putU n) = A at *
  generalize (Wm.putU m) = B at *
  have la1 : ¬ (A.length : Int) < 1 := by omega
  have la2 : ¬ (10 : Int) < (A.length : Int) := by omega
  have hl3 := hl.below hB3 (Nat.le_refl _)
  have hk3 := hk.below hB3 (Nat.le_refl _)
  clear la hl hk
  by_cases hlt : n < m
  · have hlt' : (n : Int) < (m : Int) := by omega
    have heq' : ((n : Int) == (m : Int)) = false := by rw [beq_eq_false_iff_ne]; omega
    have lm' : ¬ (B.length : Int) < (A.length : Int) := by have := lm hlt; omega
    clear lm
    go_wp2_with fail
    refine (HasPrefix_any _ _ A B _ _ _ ba bb).mono ?_
    rintro e w' ⟨rfl, rfl⟩
    rw [HU.out, decide_eq_false (show ¬ n = m by omega)]
    go_wp2_with fail
    refine (PutList_any l vl _ (hl3.mono hB3.size) Hpl.out).mono ?_
    rintro e w4 ⟨vx, rfl, hox, hb4⟩
    have hk4 := hk3.below hb4 hB3.size
    have hl4 := hl3.below hb4 hB3.size
    have hB4 := hB3.trans (hb4.mono hB3.size)
    go_wp2_with fail
    refine (PutList_any k vk _ (hk4.mono hB4.size) Hpk.out).mono ?_
    rintro e w5 ⟨vy, rfl, hoy, hb5⟩
    have hk5 := hk4.below hb5 hB4.size
    have hl5 := hl4.below hb5 hB4.size
    have hB5 := hB4.trans (hb5.mono hB4.size)
    have bx := hox.byts.below hb5 (Nat.le_refl _)
    have bY := hoy.byts
    clear hk4 hl4 hB4 hox hoy hb4 hb5 hB3 hk3 hl3 ba bb
    go_wp2_with fail
    refine (HasPrefix_any _ _ (Wm.putL (toL l)) (Wm.putL (toL k)) _ _ _ bx bY).mono ?_
    rintro e w' ⟨rfl, rfl⟩
    rw [HL1.out]
    go_wp2_with fail
    refine (EqualS_any _ _ l k _ _ _ hl5 hk5 (by omega)).mono ?_
    rintro e w6 ⟨rfl, q, rfl⟩
    go_wp2_with fail
    refine (HasPrefix_any _ _ (Wm.putL (toL k)) (Wm.putL (toL l)) _ _ _ (bY.drewN q) (bx.drewN q)).mono ?_
    rintro e w' ⟨rfl, rfl⟩
    rw [HL2.out]
    go_wp2_with fail
    refine (EqualS_any _ _ l k _ _ _ (hl5.drewN q) (hk5.drewN q) (by omega)).mono ?_
    rintro e w6 ⟨rfl, q2, rfl⟩
    go_wp2
    go_ret
    refine ⟨?_, ⟨hB5.os, hB5.tape, hB5.output, hB5.size, hB5.block⟩⟩
    first | rfl | simp
  · have hlt' : ¬ (n : Int) < (m : Int) := by omega
    clear lm
    by_cases heq : n = m
    · have heq' : ((n : Int) == (m : Int)) = true := by rw [beq_iff_eq]; omega
      have Heq : Hid (n = m) := heq
      clear heq
      go_wp2_with fail
      refine (HasPrefix_any _ _ A B _ _ _ ba bb).mono ?_
      rintro e w' ⟨rfl, rfl⟩
      rw [HU.out, decide_eq_true Heq.out]
      go_wp2_with fail
      refine (PutList_any l vl _ (hl3.mono hB3.size) Hpl.out).mono ?_
      rintro e w4 ⟨vx, rfl, hox, hb4⟩
      have hk4 := hk3.below hb4 hB3.size
      have hl4 := hl3.below hb4 hB3.size
      have hB4 := hB3.trans (hb4.mono hB3.size)
      go_wp2_with fail
      refine (PutList_any k vk _ (hk4.mono hB4.size) Hpk.out).mono ?_
      rintro e w5 ⟨vy, rfl, hoy, hb5⟩
      have hk5 := hk4.below hb5 hB4.size
      have hl5 := hl4.below hb5 hB4.size
      have hB5 := hB4.trans (hb5.mono hB4.size)
      have bx := hox.byts.below hb5 (Nat.le_refl _)
      have bY := hoy.byts
      clear hk4 hl4 hB4 hox hoy hb4 hb5 hB3 hk3 hl3 ba bb
      go_wp2_with fail
      refine (HasPrefix_any _ _ (Wm.putL (toL l)) (Wm.putL (toL k)) _ _ _ bx bY).mono ?_
      rintro e w' ⟨rfl, rfl⟩
      rw [HL1.out]
      go_wp2_with fail
      refine (EqualS_any _ _ l k _ _ _ hl5 hk5 (by omega)).mono ?_
      rintro e w6 ⟨rfl, q, rfl⟩
      go_wp2_with fail
      refine (HasPrefix_any _ _ (Wm.putL (toL k)) (Wm.putL (toL l)) _ _ _ (bY.drewN q) (bx.drewN q)).mono ?_
      rintro e w' ⟨rfl, rfl⟩
      rw [HL2.out]
      go_wp2_with fail
      refine (EqualS_any _ _ l k _ _ _ (hl5.drewN q) (hk5.drewN q) (by omega)).mono ?_
      rintro e w6 ⟨rfl, q2, rfl⟩
      go_wp2
      go_ret
      refine ⟨?_, ⟨hB5.os, hB5.tape, hB5.output, hB5.size, hB5.block⟩⟩
      first | rfl | simp
    · have heq' : ((n : Int) == (m : Int)) = false := by rw [beq_eq_false_iff_ne]; omega
      go_wp2_with fail
      refine (HasPrefix_any _ _ A B _ _ _ ba bb).mono ?_
      rintro e w' ⟨rfl, rfl⟩
      rw [HU.out, decide_eq_false heq]
      clear heq
      go_wp2_with fail
      refine (PutList_any l vl _ (hl3.mono hB3.size) Hpl.out).mono ?_
      rintro e w4 ⟨vx, rfl, hox, hb4⟩
      have hk4 := hk3.below hb4 hB3.size
      have hl4 := hl3.below hb4 hB3.size
      have hB4 := hB3.trans (hb4.mono hB3.size)
      go_wp2_with fail
      refine (PutList_any k vk _ (hk4.mono hB4.size) Hpk.out).mono ?_
      rintro e w5 ⟨vy, rfl, hoy, hb5⟩
      have hk5 := hk4.below hb5 hB4.size
      have hl5 := hl4.below hb5 hB4.size
      have hB5 := hB4.trans (hb5.mono hB4.size)
      have bx := hox.byts.below hb5 (Nat.le_refl _)
      have bY := hoy.byts
      clear hk4 hl4 hB4 hox hoy hb4 hb5 hB3 hk3 hl3 ba bb
      go_wp2_with fail
      refine (HasPrefix_any _ _ (Wm.putL (toL l)) (Wm.putL (toL k)) _ _ _ bx bY).mono ?_
      rintro e w' ⟨rfl, rfl⟩
      rw [HL1.out]
      go_wp2_with fail
      refine (EqualS_any _ _ l k _ _ _ hl5 hk5 (by omega)).mono ?_
      rintro e w6 ⟨rfl, q, rfl⟩
      go_wp2_with fail
      refine (HasPrefix_any _ _ (Wm.putL (toL k)) (Wm.putL (toL l)) _ _ _ (bY.drewN q) (bx.drewN q)).mono ?_
      rintro e w' ⟨rfl, rfl⟩
      rw [HL2.out]
      go_wp2_with fail
      refine (EqualS_any _ _ l k _ _ _ (hl5.drewN q) (hk5.drewN q) (by omega)).mono ?_
      rintro e w6 ⟨rfl, q2, rfl⟩
      go_wp2
      go_ret
      refine ⟨?_, ⟨hB5.os, hB5.tape, hB5.output, hB5.size, hB5.block⟩⟩
      first | rfl | simp

theorem apart_contract (H : Type) (enc : TypeId × Value → H) (W : World) (base : Nat) (args : Array Value) (ds gs : List (DataW H)) (before : List MemPlace)
    (hval : ∀ (j : Nat) t v, Try.f8.params[j]? = some t → args[j]? = some v → Value.okWide Try.prog W .any base t v)
    (hW : DataW.Whole enc Try.prog Try.f8.params.toList Rows.wireApartSpec.vars false W args.toList ds gs before) (hk : Rows.uptoSmall H (ds ++ gs) = true) :
    Calls Try.prog 8 args W fun e W' => ∃ v, e = .returned v ∧ Rows.wireApartSpec.post enc Try.prog Try.f8 false true false false W args v W' := by
  have hW' := hW
  obtain ⟨p, q, hA0, hV, rfl, hfz, hnd⟩ := hW
  have hA : DataW.TrodAll enc Try.prog W 0 (fun _ => true) true Try.f8.params.toList args.toList ds p := hA0
  have hread : ∀ t ∈ Try.f8.params.toList, Try.prog.readableRec t = true ∧ t < Try.prog.types.size := by
    rw [Try.params8]
    intro t ht
    simp only [List.mem_cons, List.not_mem_nil, or_false] at ht
    rcases ht with rfl | rfl | rfl | rfl <;> exact ⟨by kernel_rfl, of_decide_eq_true (by kernel_rfl)⟩
  rw [Try.params8] at hA hval
  obtain ⟨v0, v1, v2, v3, d0, d1, d2, d3, p0, p1, p2, p3, rfl, rfl, rfl, h0, h1, h2, h3⟩ := trodAll_four hA
  obtain ⟨rfl, rfl⟩ := trodVars_none hV
  obtain ⟨n0, rfl, rfl, rfl, w0⟩ := open_int Try.underlying26 (hval 0 26 v0 rfl rfl) h0
  obtain ⟨n1, rfl, rfl, rfl, w1⟩ := open_int Try.underlying26 (hval 1 26 v1 rfl rfl) h1
  obtain ⟨n, rfl, hn⟩ := wf_u64 w0
  obtain ⟨m, rfl, hm⟩ := wf_u64 w1
  obtain ⟨l, hl, bl⟩ := open_strs (hval 2 38 v2 rfl rfl) h2
  obtain ⟨k, hk', bk⟩ := open_strs (hval 3 38 v3 rfl rfl) h3
  have hB := bulk_all hk
  simp only [List.append_nil, Rows.uptoBulkAll] at hB
  refine (apart_walk n m hn hm v2 v3 l k W hl hk' (by omega) (by omega)).mono fun e W' ⟨he, hb⟩ => ?_
  subst he
  exact ⟨_, rfl, law_post rfl (by kernel_rfl) hread rfl hW' hb⟩

set_option maxRecDepth 100000 in
theorem apart_lifted (os : Os) (started : os.Started) (H : Type) (enc : TypeId × Value → H) (F : Stop.Interp) :
    ReturnsInHanded {} Try.checked os 8 .any ((Rows.OpenSpec.upto Rows.wireApartSpec).pre6 enc Try.prog Try.f8 Rows.wireApartUptoRow.domain false) (((Rows.OpenSpec.upto Rows.wireApartSpec).at F).post enc Try.prog Try.f8 false true false false) := by
  refine returnsInHanded_of_cond (C := Try.checked) (s := Rows.OpenSpec.upto Rows.wireApartSpec) (k := Rows.uptoSmall) rfl own started (by kernel_rfl) Try.func8
    (OpenSpec.witness (enc := enc) (C := Try.checked) (s := Rows.OpenSpec.upto Rows.wireApartSpec) (k := Rows.uptoSmall) rfl false ⟨#[], #[.int .u64 0, .int .u64 0, .slice none 0 0, .slice none 0 0], []⟩ 8 (by kernel_rfl) (by kernel_rfl) (by kernel_rfl)
      (x := ([.lit (.int .u64 0), .lit (.int .u64 0), .nil, .nil], [], [])) (by kernel_rfl) rfl (by kernel_rfl)) ?_
  intro W base args ds gs before hval hW _ hk _
  exact apart_contract H enc W base args ds gs before hval hW hk

theorem apart_proved : Rows.WireApartUptoSaid :=
  OpenClaim.holds_of_cond 8 Try.f8 rfl rfl rfl rfl rfl rfl rfl ⟨rfl, rfl, rfl, rfl, rfl⟩ rfl rfl rfl rfl rfl (by kernel_rfl) Try.func8 (by kernel_rfl)
    (of_decide_eq_true (by kernel_rfl)) (by unfold Func.isWrapper; first | (rw [if_pos (by decide +kernel)]; kernel_rfl) | (rw [if_neg (by decide +kernel)]; exact ⟨rfl, rfl⟩))
    (fun os started H enc _ F => apart_lifted os started H enc F)
#print axioms apart_proved
end Go.Proofs.Ytoablejghckaeaa
