/-
  WireBack: what was put is read, whatever stands behind it. Where what comes in is of bulk at most 1048576.
-/
import Derived.Test.YtoablejghckaeaaApart
import Derived.Test.YtoablejghckaeaaAsks
import Derived.Test.YtoablejghckaeaaConcat
namespace Go.Proofs.Ytoablejghckaeaa
open Go.ChangeShapes Go.WideShapes Go.ChangeAt Go.RowKit
open Go.ChangeMaps (open_string)

theorem ByL_four (w : World) (a1 a2 a3 a4 : Option Addr) (c1 c2 c3 c4 B : Nat) (l1 l2 l3 l4 : List UInt8) (h1 : Byts w B (.slice a1 l1.length c1) l1) (h2 : Byts w B (.slice a2 l2.length c2) l2) (h3 : Byts w B (.slice a3 l3.length c3) l3) (h4 : Byts w B (.slice a4 l4.length c4) l4)
    (hB : B ≤ w.heap.size) : ByL (w.alloc (.cells #[.slice a1 l1.length c1, .slice a2 l2.length c2, .slice a3 l3.length c3, .slice a4 l4.length c4] 24)) B w.heap.size 0 [l1, l2, l3, l4] := by
  intro j hj
  have hc := fun i => cell_of_row (w.alloc (.cells #[.slice a1 l1.length c1, .slice a2 l2.length c2, .slice a3 l3.length c3, .slice a4 l4.length c4] 24)) w.heap.size i _ 24 (0, 0) (heap_alloc_new w _)
  match j, hj with
  | 0, _ => exact ⟨a1, c1, by rw [hc]; rfl, h1.alloc hB _⟩
  | 1, _ => exact ⟨a2, c2, by rw [hc]; rfl, h2.alloc hB _⟩
  | 2, _ => exact ⟨a3, c3, by rw [hc]; rfl, h3.alloc hB _⟩
  | 3, _ => exact ⟨a4, c4, by rw [hc]; rfl, h4.alloc hB _⟩

set_option maxRecDepth 100000 in
set_option maxHeartbeats 2000000 in
theorem back_walk (n : Nat) (s : ByteArray) (v : Value) (l : List ByteArray) (vb : Value) (bs : List UInt8) (w : World) (hn : n < 18446744073709551616) (hs : s.size ≤ 1048576) (hv : Strs w w.heap.size v l) (bl : (l.map fun s => s.size + 1).sum ≤ 1048576)
    (hvb : Byts w w.heap.size vb bs) (hbs : bs.length ≤ 1048576) :
    Calls Try.prog 6 #[.int .u64 (n : Int), .string s, v, vb] w fun e w' => e = .returned (.bool true) ∧ Below w.heap.size w w' := by
  have Hn : Hid (n < 18446744073709551616) := hn
  have pl := puts_small l
  have tl := texts_small bl
  have Hpl : Hid ((Wm.putTs (toL l)).length ≤ 11534336) := by show _ ≤ _; omega
  have hll : l.length ≤ 1048576 := tl.2
  have HtL : Hid (∀ s ∈ toL l, s.length ≤ 1048576) := tl.1
  clear hn pl tl bl
  go_enter Try.func6, Try.ntmps6
  go_wp2_with fail
  refine (works_any w).mono ?_
  rintro e w1 ⟨rfl, hb1⟩
  go_wp2_with fail
  refine (PutUint_any n Hn.out _).mono ?_
  rintro e w2 ⟨va, rfl, hoa, hb2⟩
  have hB2 := hb1.trans (hb2.mono hb1.size)
  go_wp2_with fail
  refine (PutText_any s (by omega) _).mono ?_
  rintro e w3 ⟨vt, rfl, hot, hb3⟩
  have hB3 := hB2.trans (hb3.mono hB2.size)
  go_wp2_with fail
  refine (PutList_any l v _ ((hv.below hB3 (Nat.le_refl _)).mono hB3.size) (by have := Hpl.out; omega)).mono ?_
  rintro e w4 ⟨vl, rfl, hol, hb4⟩
  have hB4 := hB3.trans (hb4.mono hB3.size)
  have ya := ((hoa.byts.below hb3 (Nat.le_refl _)).below hb4 hb3.size).mono (Nat.le_trans hb3.size hb4.size)
  have yt := (hot.byts.below hb4 (Nat.le_refl _)).mono hb4.size
  have yl := hol.byts
  have yb := (hvb.below hB4 (Nat.le_refl _)).mono hB4.size
  clear hoa hot hol hb1 hb2 hb3 hb4 hB2 hB3
  obtain ⟨a1, c1, e1, _⟩ := id ya
  obtain ⟨a2, c2, e2, _⟩ := id yt
  obtain ⟨a3, c3, e3, _⟩ := id yl
  obtain ⟨a4, c4, e4, _⟩ := id yb
  subst e1 e2 e3 e4
  have hU := Wm.putU_length n
  have hT : (Wm.putT s.data.toList).length ≤ 1048586 := by
    unfold Wm.putT; rw [List.length_append, size_toList]; have := (Wm.putU_length s.size).2; omega
  have hL : (Wm.putL (toL l)).length ≤ 11534346 := by
    unfold Wm.putL; rw [List.length_append]; have := (Wm.putU_length (toL l).length).2; have := Hpl.out; omega
  have yy := ByL_four w4 a1 a2 a3 a4 c1 c2 c3 c4 w4.heap.size _ _ _ _ ya yt yl yb (Nat.le_refl _)
  have Hflat : Hid ([Wm.putU n, Wm.putT s.data.toList, Wm.putL (toL l), bs].flatten = Wm.putU n ++ (Wm.putT s.data.toList ++ (Wm.putL (toL l) ++ bs))) := by show _ = _; simp
  have Hfl : Hid ([Wm.putU n, Wm.putT s.data.toList, Wm.putL (toL l), bs].flatten.length ≤ 1099511627000) := by
    show _ ≤ _; rw [Hflat.out]; simp only [List.length_append]; omega
  clear ya yt yl yb
  have HR1 : Hid _ := askU_putU n Hn.out [] (Wm.putT s.data.toList ++ (Wm.putL (toL l) ++ bs))
  have HR2 : Hid _ := askT_putT s.data.toList (by rw [size_toList]; omega) (Wm.putU n) (Wm.putL (toL l) ++ bs) (s.size : Int) (by rw [size_toList]; omega)
  have HR3 : Hid (∀ m : Nat, (∀ s ∈ toL l, s.length ≤ m) → askL (Wm.putU n ++ (Wm.putT s.data.toList ++ (Wm.putL (toL l) ++ bs))) ((Wm.putU n).length + (Wm.putT s.data.toList).length) (l.length : Int) (m : Int) = (toL l, 0, (Wm.putL (toL l)).length)) := by
    intro m hm
    have := askL_putL (toL l) (Wm.putU n ++ Wm.putT s.data.toList) bs (l.length : Int) (m : Int) (by rw [toL_length]; omega) (by rw [toL_length]; omega) (fun s hs => ⟨by have := HtL.out s hs; omega, by have := hm s hs; omega⟩) (by rw [toL_length]; exact length_le_put l)
    rw [List.append_assoc, List.length_append] at this
    exact this
  generalize Wm.putU n = A at *
  generalize Wm.putT s.data.toList = T at *
  generalize Wm.putL (toL l) = L at *
  go_wp2_with fail
  refine (Concat_any [A, T, L, bs] w4.heap.size w4.heap.size 0 4 _ yy (by simp) (by simp) (by simp) Hfl.out).mono ?_
  rintro e w5 ⟨vc, rfl, hoc, hb5⟩
  rw [Hflat.out] at hoc
  have hB5 := (hB4.alloc hB4.size _).trans (hb5.mono (by have := hB4.size; simp; omega))
  clear hb5 yy Hfl Hflat hB4
  have hD : (A ++ (T ++ (L ++ bs))).length ≤ 1099511627776 := by simp only [List.length_append]; omega
  have Hlen : Hid ((A ++ (T ++ (L ++ bs))).length = A.length + (T.length + (L.length + bs.length))) := by show _ = _; simp only [List.length_append]
  generalize (A ++ (T ++ (L ++ bs))) = D at *
  go_wp2_with fail
  refine (New_any _ D _ _ hoc.byts hD).mono ?_
  rintro e w6 ⟨p, x, rfl, hp, hc6, ho6, hb6⟩
  have hB6 := hB5.trans (hb6.mono hB5.size)
  have hpw := Nat.le_trans hB5.size hp
  clear hb6 hp hB5 hoc
  have hv6 := hv.below hB6 (Nat.le_refl _)
  obtain ⟨ad, cv, ev, _⟩ := id hv
  subst ev
  go_wp2
  go_loop [10, 33] (fun lg i => ∃ k m : Nat, k ≤ l.length ∧ i = .int .i64 (k : Int) ∧ lg = .int .i64 (m : Int) ∧ (∀ s ∈ toL (l.take k), s.length ≤ m) ∧ m ≤ 1048576) (fun _ i => l.length - (intOf i).toNat)
  case atStart => exact ⟨0, 0, Nat.zero_le _, rfl, rfl, by simp [toL], by omega⟩
  case round =>
    obtain ⟨k, m, hk, rfl, rfl, hall, hm⟩ := hrel
    have Hall : Hid (∀ s ∈ toL (l.take k), s.length ≤ m) := hall
    clear hall
    by_cases hlt : k < l.length
    · obtain ⟨b, o, rfl, hbl, hcs⟩ := hv6.open (by intro h; subst h; simp at hlt)
      have hck := hcs k hlt
      have HS := toL_take_succ l k hlt
      have hmem : (l.getD k .empty).data.toList ∈ toL l := by
        unfold toL
        refine List.mem_map.2 ⟨l.getD k .empty, ?_, rfl⟩
        simp [List.getD, List.getElem?_eq_getElem hlt]
      have hsz := HtL.out _ hmem
      rw [size_toList] at hsz
      generalize (l.getD k .empty) = t at *
      have HS' : Hid (toL (l.take (k + 1)) = toL (l.take k) ++ [t.data.toList]) := HS
      clear HS hmem hcs
      go_wp2
      refine ⟨⟨k + 1, if m < t.size then t.size else m, by omega, by go_num, ?_, ?_, ?_⟩, by simp [intOf]; omega⟩
      · by_cases hc : m < t.size <;> simp [hc]
      · rw [HS'.out]
        intro y hy
        rcases List.mem_append.1 hy with h | h
        · have := Hall.out y h
          by_cases hc : m < t.size <;> simp [hc] <;> omega
        · simp only [List.mem_cons, List.not_mem_nil, or_false] at h
          subst h
          rw [size_toList]
          by_cases hc : m < t.size <;> simp [hc] <;> omega
      · by_cases hc : m < t.size <;> simp [hc] <;> omega
    · have hL3 := HR3.out m (by have := Hall.out; rwa [List.take_of_length_le (by omega)] at this)
      have HR3' : Hid _ := hL3
      clear hL3 HR3 Hall
      go_wp2_with fail
      refine (Uint_any p x 0 _ D n _ hc6 ho6 (by omega) hD).mono ?_
      rintro e w7 ⟨rfl, hc7, hg7⟩
      have ho7 := ho6.kept hc6 hg7
      have hB7 := below_grow hB6 hg7 hB6.size hpw
      have e1 : askU D 0 n = (n, 0, A.length) := HR1.out
      rw [e1] at hc7 ⊢
      clear hc6 ho6 hB6 hg7 e1
      simp only [Nat.zero_add] at hc7
      go_wp2_with fail
      refine (Text_any p x A.length _ D (s.size : Int) _ hc7 ho7 (by have := Hlen.out; omega) hD (by omega)).mono ?_
      rintro e w8 ⟨rfl, hc8, hg8⟩
      have ho8 := ho7.kept hc7 hg8
      have hB8 := below_grow hB7 hg8 hB7.size hpw
      rw [HR2.out] at hc8 ⊢
      clear hc7 ho7 hB7 hg8
      simp only at hc8
      go_wp2_with fail
      refine (List_any p x (A.length + T.length) _ D (l.length : Int) (m : Int) _ hc8 ho8 (by have := Hlen.out; omega) hD (by omega) (by omega)).mono ?_
      rintro e w9 ⟨vr, done, rfl, hol, htl, hc9, hg9⟩
      have ho9 := ho8.kept hc8 hg9
      have hB9 := below_grow hB8 hg9 hB8.size hpw
      rw [HR3'.out] at hc9 htl ⊢
      clear hc8 ho8 hB8 hg9
      simp only at hc9 htl
      have hd := toL_inj htl
      subst hd
      have hst : ((str s.data.toList).toList == s.toList) = true := by rw [str_of]; simp
      obtain ⟨ax, cx, ex, _⟩ := ho9.byts
      subst ex
      go_wp2_with fail
      refine (EqualS_any _ _ done done _ _ _ hol.strs (hv.below hB9 (Nat.le_refl _)) (by omega)).mono ?_
      rintro e w' ⟨rfl, q, rfl⟩
      rw [decide_eq_true rfl]
      have hc10 := hc9.drewN q
      have el : D.length - (A.length + T.length + L.length) = bs.length := by have := Hlen.out; omega
      have El : Hid _ := el
      have hle : A.length + T.length + L.length ≤ D.length := by have := Hlen.out; omega
      clear el
      go_wp2_with fail
      refine (Left_any p ax D.length cx (A.length + T.length + L.length) _ hc10 hle hD).mono ?_
      rintro e w' ⟨rfl, q2, rfl⟩
      rw [El.out]
      go_wp2
      go_ret
      refine ⟨?_, ⟨hB9.os, hB9.tape, hB9.output, hB9.size, hB9.block⟩⟩
      first | rfl | simp

theorem wireBack_contract (H : Type) (enc : TypeId × Value → H) (W : World) (base : Nat) (args : Array Value) (ds gs : List (DataW H)) (before : List MemPlace)
    (hval : ∀ (j : Nat) t v, Try.f6.params[j]? = some t → args[j]? = some v → Value.okWide Try.prog W .any base t v)
    (hW : DataW.Whole enc Try.prog Try.f6.params.toList Rows.wireBackSpec.vars false W args.toList ds gs before) (hk : Rows.uptoSmall H (ds ++ gs) = true) :
    Calls Try.prog 6 args W fun e W' => ∃ v, e = .returned v ∧ Rows.wireBackSpec.post enc Try.prog Try.f6 false true false false W args v W' := by
  have hW' := hW
  obtain ⟨p, q, hA0, hV, rfl, hfz, hnd⟩ := hW
  have hA : DataW.TrodAll enc Try.prog W 0 (fun _ => true) true Try.f6.params.toList args.toList ds p := hA0
  have hread : ∀ t ∈ Try.f6.params.toList, Try.prog.readableRec t = true ∧ t < Try.prog.types.size := by
    rw [Try.params6]
    intro t ht
    simp only [List.mem_cons, List.not_mem_nil, or_false] at ht
    rcases ht with rfl | rfl | rfl | rfl <;> exact ⟨by kernel_rfl, of_decide_eq_true (by kernel_rfl)⟩
  rw [Try.params6] at hA hval
  obtain ⟨v0, vs0, d0, ds0, p0, q0, hargs, rfl, rfl, h0, r0⟩ := trodAll_cons hA
  obtain ⟨v1, vs1, d1, ds1, p1, q1, rfl, rfl, rfl, h1, r1⟩ := trodAll_cons r0
  obtain ⟨v2, vs2, d2, ds2, p2, q2, rfl, rfl, rfl, h2, r2⟩ := trodAll_cons r1
  obtain ⟨v3, vs3, d3, ds3, p3, q3, rfl, rfl, rfl, h3, r3⟩ := trodAll_cons r2
  obtain ⟨rfl, rfl, rfl⟩ := trodAll_nil r3
  obtain rfl : args = #[v0, v1, v2, v3] := by cases args; simp_all
  obtain ⟨rfl, rfl⟩ := trodVars_none hV
  obtain ⟨z0, rfl, rfl, rfl, w0⟩ := open_int Try.underlying26 (hval 0 26 v0 rfl rfl) h0
  obtain ⟨n0, rfl, hn0⟩ := wf_u64 w0
  obtain ⟨s1, rfl, rfl, rfl, ms1⟩ := open_string Try.underlying9 (hval 1 9 v1 rfl rfl) h1
  have zs1 : s1.data.toList.length = s1.size := by rw [Array.length_toList]; rfl
  obtain ⟨l2, hl2, bl2⟩ := open_strs (hval 2 38 v2 rfl rfl) h2
  obtain ⟨l3, hl3, bl3⟩ := open_byts (hval 3 24 v3 rfl rfl) h3
  have hB := bulk_all hk
  simp only [List.append_nil, Rows.uptoBulkAll, Rows.uptoBulk] at hB
  refine (back_walk n0 s1 v2 l2 v3 l3 W hn0 (by omega) hl2 (by omega) hl3 (by omega)).mono fun e W' ⟨he, hb⟩ => ?_
  subst he
  exact ⟨_, rfl, law_post rfl (by kernel_rfl) hread rfl hW' hb⟩

set_option maxRecDepth 100000 in
theorem wireBack_lifted (os : Os) (started : os.Started) (H : Type) (enc : TypeId × Value → H) (F : Stop.Interp) :
    ReturnsInHanded {} Try.checked os 6 .any ((Rows.OpenSpec.upto Rows.wireBackSpec).pre6 enc Try.prog Try.f6 Rows.wireBackUptoRow.domain false) (((Rows.OpenSpec.upto Rows.wireBackSpec).at F).post enc Try.prog Try.f6 false true false false) := by
  refine returnsInHanded_of_cond (C := Try.checked) (s := Rows.OpenSpec.upto Rows.wireBackSpec) (k := Rows.uptoSmall) rfl own started (by kernel_rfl) Try.func6
    (OpenSpec.witness (enc := enc) (C := Try.checked) (s := Rows.OpenSpec.upto Rows.wireBackSpec) (k := Rows.uptoSmall) rfl false ⟨#[], #[.int .u64 0, .string .empty, .slice none 0 0, .slice none 0 0], []⟩ 8 (by kernel_rfl) (by kernel_rfl) (by kernel_rfl)
      (x := ([.lit (.int .u64 0), .lit (.string []), .nil, .nil], [], [])) (by kernel_rfl) rfl (by kernel_rfl)) ?_
  intro W base args ds gs before hval hW _ hk _
  exact wireBack_contract H enc W base args ds gs before hval hW hk

theorem wireBack_proved : Rows.WireBackUptoSaid :=
  OpenClaim.holds_of_cond 6 Try.f6 rfl rfl rfl rfl rfl rfl rfl ⟨rfl, rfl, rfl, rfl, rfl⟩ rfl rfl rfl rfl rfl (by kernel_rfl) Try.func6 (by kernel_rfl)
    (of_decide_eq_true (by kernel_rfl)) (by unfold Func.isWrapper; first | (rw [if_pos (by decide +kernel)]; kernel_rfl) | (rw [if_neg (by decide +kernel)]; exact ⟨rfl, rfl⟩))
    (fun os started H enc _ F => wireBack_lifted os started H enc F)
#print axioms wireBack_proved
end Go.Proofs.Ytoablejghckaeaa
