/-
  THE WALKS OF THE DOCUMENT's ANSWERS Uint, Text, List, and of slices.Clone on texts.
-/
import Derived.Test.YtoablejghckaeaaWorks
namespace Go.Proofs.Ytoablejghckaeaa
open Go.RowKit

set_option maxRecDepth 100000 in
set_option maxHeartbeats 1000000 in
theorem refUint_any (n : Nat) (hn : n < 18446744073709551616) (w : World) :
    Calls Try.prog 21 #[.int .u64 (n : Int)] w fun e w' => ∃ v', e = .returned v' ∧ Own w' w.heap.size v' (Wm.putU n) ∧ Below w.heap.size w w' := by
  have Hn : Hid (n < 18446744073709551616) := hn
  clear hn
  go_enter Try.func21, Try.ntmps21
  go_wp2
  go_loopw [0, 3] (fun nn v' wr => ∃ (f m : Nat) (ys : List UInt8), nn = .int .u64 (m : Int) ∧ Own wr w.heap.size v' ys ∧ ys ++ Wm.putF f m = Wm.putU n ∧ ys.length + f = 9 ∧ m < 128 ^ f * 2 ∧ Below w.heap.size w wr)
    (fun nn _ _ => (intOf nn).toNat)
  case atStart => exact ⟨9, n, [], rfl, Own.nil _ _, rfl, rfl, by rw [Wm.pow9]; exact Hn.out, Below.refl _ _⟩
  case round =>
    obtain ⟨f, m, ys, rfl, ho, hys, hf, hm, hb⟩ := hrel
    have Hys : Hid (ys ++ Wm.putF f m = Wm.putU n) := hys
    have Hm : Hid (m < 128 ^ f * 2) := hm
    have Hf : Hid (ys.length + f = 9) := hf
    clear hys hm hf
    have Hl : Hid (ys.length ≤ 1099511627800) := by have := Hf.out; show _ ≤ _; omega
    have hbs : w.heap.size ≤ wr.heap.size := hb.size
    by_cases h : m < 128
    · go_wp2_with (at_builtin; go_must (refine wpList_append_byte wr rfl (.tmp 15) (.tmp 18) rfl w.heap.size _ ys _ (UInt8.ofNat m) ?hc rfl ho rfl Hl hbs ?_))
      case hc => rw [Wm.ofNat_toNat (by omega)]
      intro v' w' h1 h2
      go_wp2
      go_ret
      refine ⟨v', rfl, ?_, hb.trans h2⟩
      have e : Wm.putU n = ys ++ [UInt8.ofNat m] := by
        rw [← Hys.out]; cases f <;> simp [Wm.putF, h]
      rw [e]; exact h1
    · have h' : (128 : Int) ≤ (m : Int) := by omega
      have hw : IntKind.u64.wrap ((m : Int) / 128) = (m : Int) / 128 := by
        have := Wm.pow_le (f := f) (by have := Hf.out; omega) Hm.out
        exact u64_wrap_small (m / 128) (by omega)
      go_wp2_with (at_builtin; go_must (refine wpList_append_byte wr rfl (.tmp 6) (.tmp 11) rfl w.heap.size _ ys _ (UInt8.ofNat (m % 128 + 128)) ?hc rfl ho rfl Hl hbs ?_))
      case hc => rw [Wm.ofNat_toNat (by omega)]; omega
      intro v' w' h1 h2
      go_wp2
      obtain ⟨g, hg, hp, hlt⟩ := Wm.putF_step h Hm.out
      refine ⟨⟨g, m / 128, ys ++ [UInt8.ofNat (m % 128 + 128)], by go_num, by simpa using h1, ?_, ?_, hlt, hb.trans h2⟩, by simp [intOf]; omega⟩
      · rw [← Hys.out, hp]; simp
      · have := Hf.out; simp; omega

set_option maxRecDepth 100000 in
set_option maxHeartbeats 1000000 in
theorem refText_any (s : ByteArray) (hs : s.size ≤ 1099511627776) (w : World) :
    Calls Try.prog 22 #[.string s] w fun e w' => ∃ v', e = .returned v' ∧ Own w' w.heap.size v' (Wm.putT s.data.toList) ∧ Below w.heap.size w w' := by
  go_enter Try.func22, Try.ntmps22
  go_wp2_with fail
  refine (refUint_any s.size (by omega) _).mono ?_
  rintro e w1 ⟨v1, rfl, ho, hb⟩
  go_wp2
  go_loopw [3, 4] (fun v' i wr => ∃ k : Nat, k ≤ s.size ∧ i = .int .i64 (k : Int) ∧ Own wr w.heap.size v' (Wm.putU s.size ++ s.data.toList.take k) ∧ Below w.heap.size w wr)
    (fun _ i _ => s.size - (intOf i).toNat)
  case atStart => exact ⟨0, Nat.zero_le _, rfl, by simpa using ho, hb⟩
  case round =>
    obtain ⟨k, hk, rfl, hor, hbr⟩ := hrel
    have hbs : w.heap.size ≤ wr.heap.size := hbr.size
    by_cases hlt : k < s.size
    · have Hl : Hid ((Wm.putU s.size ++ s.data.toList.take k).length ≤ 1099511627800) := by
        have h2 := (Wm.putU_length s.size).2
        show (Wm.putU s.size ++ s.data.toList.take k).length ≤ _
        rw [List.length_append, List.length_take]; omega
      have HS : Hid (s.data.toList.take (k + 1) = s.data.toList.take k ++ [s[k]]) := by
        show _ = _
        rw [List.take_succ_eq_append_getElem (by rw [size_toList]; exact hlt)]; rfl
      go_wp2_with (at_builtin; go_must (refine wpList_append_byte wr rfl (.tmp 15) (.tmp 19) rfl w.heap.size _ _ _ s[k] ?hc rfl hor rfl Hl hbs ?_))
      case hc => rfl
      intro v' w' h1 h2
      go_wp2
      refine ⟨⟨k + 1, by omega, by go_num, ?_, hbr.trans h2⟩, by simp [intOf]; omega⟩
      rw [HS.out]
      simpa using h1
    · go_wp2
      go_ret
      refine ⟨_, rfl, ?_, hbr⟩
      unfold Wm.putT
      rw [size_toList]
      rwa [List.take_of_length_le (by rw [size_toList]; omega)] at hor

set_option maxRecDepth 100000 in
set_option maxHeartbeats 1000000 in
theorem refList_any (l : List ByteArray) (v : Value) (B : Nat) (w : World) (hv : Strs w B v l) (hB : B ≤ w.heap.size) (hl : (Wm.putTs (toL l)).length ≤ 1099511627000) :
    Calls Try.prog 23 #[v] w fun e w' => ∃ v', e = .returned v' ∧ Own w' w.heap.size v' (Wm.putL (toL l)) ∧ Below w.heap.size w w' := by
  obtain ⟨ad, c, rfl, _, _, hcs⟩ := hv
  have hlen := length_le_put l
  have Hl : Hid ((Wm.putTs (toL l)).length ≤ 1099511627000) := hl
  have hll : l.length ≤ 1099511627000 := by omega
  clear hl hlen
  go_enter Try.func23, Try.ntmps23
  go_wp2_with fail
  refine (refUint_any l.length (by omega) _).mono ?_
  rintro e w1 ⟨v1, rfl, ho, hb⟩
  go_wp2
  go_loopw [3, 4] (fun v' i wr => ∃ k : Nat, k ≤ l.length ∧ i = .int .i64 (k : Int) ∧ Own wr w.heap.size v' (Wm.putU l.length ++ Wm.putTs (toL (l.take k))) ∧ Below w.heap.size w wr)
    (fun _ i _ => l.length - (intOf i).toNat)
  case atStart => exact ⟨0, Nat.zero_le _, rfl, by simpa [toL, Wm.putTs] using ho, hb⟩
  case round =>
    obtain ⟨k, hk, rfl, hor, hbr⟩ := hrel
    have hbs : w.heap.size ≤ wr.heap.size := hbr.size
    by_cases hlt : k < l.length
    · obtain ⟨b, o, rfl, hbl, hc⟩ := hcs (by intro h; subst h; simp at hlt)
      have hck := (hbr.cell (p := ⟨b, o + k, none⟩) (Nat.lt_of_lt_of_le hbl hB)).trans (hc k hlt)
      have Hsz := size_le_put l k hlt
      have Hsn := toL_take_succ l k hlt
      obtain ⟨s, hs⟩ : ∃ s, s = l.getD k .empty := ⟨_, rfl⟩
      rw [← hs] at hck Hsz Hsn
      have hsz : s.size ≤ 1099511627000 := Nat.le_trans Hsz Hl.out
      have HS : Hid (toL (l.take (k + 1)) = toL (l.take k) ++ [s.data.toList]) := Hsn
      have Hxl : Hid ((Wm.putU l.length ++ Wm.putTs (toL (l.take k))).length + (Wm.putT s.data.toList).length ≤ 1099511627800) := by
        have h1 := putTs_take_le l (k + 1)
        have h2 := (Wm.putU_length l.length).2
        have h3 := Hl.out
        rw [Hsn, Wm.putTs_snoc, List.length_append] at h1
        show (Wm.putU l.length ++ Wm.putTs (toL (l.take k))).length + _ ≤ _
        rw [List.length_append]; omega
      clear hs hc Hsz Hsn hcs
      go_wp2_with fail
      refine (refText_any s (by omega) _).mono ?_
      rintro e w2 ⟨v2, rfl, ho2, hb2⟩
      have hor2 := hor.below hb2 (Nat.le_refl _)
      have hb3 := hbr.trans (hb2.mono hbs)
      go_wp2_with (at_builtin; go_must (refine wpList_append_byts rfl (.tmp 15) (.tmp 20) rfl w.heap.size w2.heap.size _ _ _ _ rfl hor2 rfl ho2.byts Hxl hb3.size ?_))
      intro v' w' h1 h2
      go_wp2
      refine ⟨⟨k + 1, by omega, by go_num, ?_, hb3.grown h2 hb3.size fun q hq => (World.ownsRow.lt hor2 q hq).1⟩, by simp [intOf]; omega⟩
      rw [HS.out, Wm.putTs_snoc]
      simpa using h1
    · go_wp2
      go_ret
      refine ⟨_, rfl, ?_, hbr⟩
      have : k = l.length := by omega
      subst this
      simpa [Wm.putL, toL_length] using hor

theorem sV_oneCell (l : List ByteArray) : ∀ u ∈ sV l, u.oneCell' = true := by
  intro u hu
  simp only [sV, List.mem_map] at hu
  obtain ⟨b, _, rfl⟩ := hu
  rfl
theorem sV_length (l : List ByteArray) : (sV l).length = l.length := by simp [sV]

/-- the cells that an append copies -/
theorem strs_news {w : World} {b o : Nat} {l : List ByteArray} (h : ∀ j, j < l.length → w.cell? ⟨b, o + j, none⟩ = some (.string (l.getD j .empty))) :
    ∀ j u, (sV l)[j]? = some u → w.cell? ((⟨b, o, none⟩ : Addr).add j) = some u := by
  intro j u hu
  have hj : j < l.length := by
    rcases Nat.lt_or_ge j l.length with h | h
    · exact h
    · rw [List.getElem?_eq_none (by rw [sV_length]; exact h)] at hu; cases hu
  have e : (⟨b, o, none⟩ : Addr).add j = ⟨b, o + j, none⟩ := by unfold Addr.add; split <;> simp_all
  rw [e, h j hj]
  simp only [sV, List.getElem?_map, List.getElem?_eq_getElem hj, Option.map_some, Option.some.injEq] at hu
  rw [← hu]
  simp [List.getD, List.getElem?_eq_getElem hj]

/-- 'append(out, l...)' on a row of the call's own, l whatever texts -/
theorem wpList_append_strs {ops : Array Oper} {rest : List Oper} {o : Oper} {a : Act} {Q : Exit → Act → World → Prop} {w : World} (hgd : o.guard = none) (s x : Operand)
    (ho : o.op = .call { callee := .builtin .append, args := #[s, x], argTypes := #[38, 38] }) (base B : Nat) (v vx : Value) (l m : List ByteArray)
    (hs : a.eval s = v) (hown : OwnS w base v l) (hx : a.eval x = vx) (hb : Strs w B vx m) (hlen : Hid (l.length + m.length ≤ 1099511627800)) (hbase : base ≤ w.heap.size)
    (h : ∀ v' w', OwnS w' base v' (l ++ m) → w.grownBy w' v.ownBlock → wpList Try.prog ops Q rest (a.put o.dst v') w') :
    wpList Try.prog ops Q (o :: rest) a w := by
  obtain ⟨i0, hi, hz0, hz1, hz2⟩ := info_parts info9
  have hl := hlen.out
  obtain ⟨ad, c, rfl, hle, hn, hcells⟩ := hb
  cases ad with
  | none =>
    have hc0 := hn rfl
    subst hc0
    have hm : m = [] := List.eq_nil_of_length_eq_zero (by omega)
    subst hm
    refine wpList_append_own_none hgd s x 38 ho base 9 i0 1 Try.underlying38 hi v l.length (sV l) hs hown hx ?_
    refine h v w ?_ (grownBy_refl w _)
    rw [List.append_nil]; exact hown
  | some ad =>
    refine wpList_append_own _ hgd s x 38 ho base 9 i0 (.string .empty) 1 16 Try.underlying38 hi hz0 hz1 hz2 rfl (by decide) v l.length (sV l) hs hown ad m.length c (sV m) hx (by rw [sV_length, Nat.mul_one]) ?_ (sV_oneCell m) ?_ ?_ hbase ?_
    · by_cases hne : m = []
      · subst hne; intro j u hu; simp [sV] at hu
      · obtain ⟨b, o', e, _, hcell⟩ := hcells hne
        simp only [Option.some.injEq] at e
        subst e
        exact strs_news hcell
    · unfold maxLen; omega
    · omega
    · intro v' w' h1 h2 _
      refine h v' w' ?_ h2
      unfold OwnS sV; rw [List.map_append, List.length_append]; exact h1

set_option maxRecDepth 100000 in
set_option maxHeartbeats 1000000 in
theorem CloneS_any (l : List ByteArray) (v : Value) (B : Nat) (w : World) (hv : Strs w B v l) (hB : B ≤ w.heap.size) (hl : l.length ≤ 1099511627776) :
    Calls Try.prog 20 #[v] w fun e w' => ∃ v', e = .returned v' ∧ OwnS w' w.heap.size v' l ∧ Below w.heap.size w w' := by
  have hv0 := hv
  obtain ⟨ad, c, rfl, _, hn, _⟩ := hv0
  cases ad with
  | none =>
    have hc0 := hn rfl
    subst hc0
    have hm : l = [] := List.eq_nil_of_length_eq_zero (by omega)
    subst hm
    have hnil := fun W : World => Lib.run_eql_slice_nil (P := Try.prog) W 38 9 none 0 0 0 0 Try.underlying38
    go_enter Try.func20, Try.ntmps20
    go_wp2
    go_ret
    exact ⟨_, rfl, OwnS.nil _ _, Below.refl _ _⟩
  | some x =>
    have Hl : Hid (([] : List ByteArray).length + l.length ≤ 1099511627800) := by show _ ≤ _; simp; omega
    clear hl
    have h0 : OwnS (w.alloc (.cells #[] 9)) w.heap.size (.slice (some ⟨w.heap.size, 0, none⟩) 0 0) [] := World.ownsRow_lit (size := 1) w #[] 0 (Nat.le_refl _) (by decide) rfl
    have hnil := fun W : World => Lib.run_eql_slice_nil (P := Try.prog) W 38 9 (some x) l.length c 0 0 Try.underlying38
    go_enter Try.func20, Try.ntmps20
    go_wp2_with (at_builtin; go_must (refine wpList_append_strs rfl (.tmp 5) (.tmp 6) rfl w.heap.size B _ _ [] l rfl h0 rfl (hv.alloc hB _) Hl (by simp) ?_))
    intro v' w' h1 h2
    go_wp2
    go_ret
    exact ⟨_, rfl, h1, ((Below.refl _ w).alloc (Nat.le_refl _) _).grown h2 (by simp) fun k hk => (World.ownsRow.lt h0 k hk).1⟩
end Go.Proofs.Ytoablejghckaeaa
