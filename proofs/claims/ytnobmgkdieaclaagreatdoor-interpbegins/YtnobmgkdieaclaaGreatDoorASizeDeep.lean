/-
  WHAT THE DOCUMENT's Size, Deep DO (for cuts that have them: ActionPrints).
-/
import Derived.Test.YtnobmgkdieaclaaGreatDoorPBs
import Derived.Test.YtnobmgkdieaclaaGreatDoorAcMath
import Derived.Laws.AppendOwnNone
namespace Go.Proofs.YtnobmgkdieaclaaGreatDoor
open Go.RowKit

set_option maxRecDepth 100000 in
set_option maxHeartbeats 1000000 in
theorem SizeT_any : ∀ (f : Ac.Fo) (v : Value) (w : World) (B : Nat), FoS w B v f → Ac.size f ≤ 1099511627 → Calls Tryz.prog 66 #[v] w fun e w' => e = .returned (.int .i64 (Ac.size f : Int)) ∧ w' = w := by
  refine Ac.fo_ind fun f ih => ?_
  intro v w B h hs
  obtain ⟨ad, c, rfl, hle⟩ := h.shape
  have hfl : f.len ≤ Ac.size f := by
    clear ih h hle hs
    induction f with
    | nil => exact Nat.le_refl _
    | cons _ _ _ _ t _ iht => rw [Ac.Fo.len, Ac.size]; omega
  have HI : Hid _ := ih
  clear ih
  go_enter Tryz.func66, Tryz.ntmps66
  go_wp2
  go_loop [3, 4] (fun n i => ∃ k m : Nat, k ≤ f.len ∧ i = .int .i64 (k : Int) ∧ n = .int .i64 (m : Int) ∧ Hid (m + Ac.size (f.drop k) = Ac.size f)) (fun _ i => f.len - (intOf i).toNat)
  case atStart => exact ⟨0, 0, Nat.zero_le _, rfl, rfl, by show _ = _; simp [Ac.Fo.drop]⟩
  case round =>
    obtain ⟨k, m, hk, rfl, rfl, HM⟩ := hrel
    by_cases hlt : k < f.len
    · have i1 : (k : Int) < (f.len : Int) := by omega
      obtain ⟨o, a, n, b, r, e⟩ := Ac.Fo.drop_lt hlt
      obtain ⟨g, og, c', aa, ac, ba, bc, e1, hg, -, -, -, c3, -, hb⟩ := h.at e hlt
      simp only [Value.slice.injEq] at e1
      obtain ⟨rfl, -, rfl⟩ := e1
      have h1 := HM.out
      rw [e, Ac.size] at h1
      have h2 := Ac.Fo.drop_next e
      have hc := HI.out k o a n b r e (.slice ba b.len bc) w B hb (by omega)
      obtain ⟨sb, hsb⟩ : ∃ sb, Ac.size b = sb := ⟨_, rfl⟩
      rw [hsb] at hc h1
      have HN : Hid (m + (1 + sb) + Ac.size (f.drop (k + 1)) = Ac.size f) := by show _ = _; rw [h2]; omega
      have b1 : (m : Int) + (1 + (sb : Int)) ≤ 1099511627 := by omega
      have b2 : (f.len : Int) ≤ 1099511627 := by omega
      clear HM h1 h2 hsb e hb hs hfl HI
      go_wp2_with fail
      refine hc.mono ?_
      rintro e w1 ⟨rfl, rfl⟩
      go_wp2
      exact ⟨⟨k + 1, m + (1 + sb), by omega, by go_num, by go_num, HN.out⟩, by simp [intOf]; omega⟩
    · obtain rfl : k = f.len := by omega
      have i1 : ¬ (f.len : Int) < (f.len : Int) := by omega
      have HF : Hid (m = Ac.size f) := by
        have := HM.out
        rwa [Ac.Fo.drop_len, Ac.size, Nat.add_zero] at this
      clear HM HI
      go_wp2
      go_ret
      rw [← HF.out]
      exact ⟨rfl, rfl⟩

set_option maxRecDepth 100000 in
set_option maxHeartbeats 1000000 in
theorem DeepT_any : ∀ (f : Ac.Fo) (v : Value) (w : World) (B : Nat), FoS w B v f → Ac.size f ≤ 1099511627 → Calls Tryz.prog 67 #[v] w fun e w' => e = .returned (.int .i64 (Ac.deep f : Int)) ∧ w' = w := by
  refine Ac.fo_ind fun f ih => ?_
  intro v w B h hs
  obtain ⟨ad, c, rfl, hle⟩ := h.shape
  have hfl : f.len ≤ Ac.size f := by
    clear ih h hle hs
    induction f with
    | nil => exact Nat.le_refl _
    | cons _ _ _ _ t _ iht => rw [Ac.Fo.len, Ac.size]; omega
  have hds := Ac.deep_size f
  have HI : Hid _ := ih
  clear ih
  go_enter Tryz.func67, Tryz.ntmps67
  go_wp2
  go_loop [3, 4] (fun n i => ∃ k m : Nat, k ≤ f.len ∧ i = .int .i64 (k : Int) ∧ n = .int .i64 (m : Int) ∧ Hid (max m (Ac.deep (f.drop k)) = Ac.deep f)) (fun _ i => f.len - (intOf i).toNat)
  case atStart => exact ⟨0, 0, Nat.zero_le _, rfl, rfl, by show _ = _; simp [Ac.Fo.drop]⟩
  case round =>
    obtain ⟨k, m, hk, rfl, rfl, HM⟩ := hrel
    have b2 : (f.len : Int) ≤ 1099511627 := by omega
    by_cases hlt : k < f.len
    · have i1 : (k : Int) < (f.len : Int) := by omega
      obtain ⟨o, a, n, b, r, e⟩ := Ac.Fo.drop_lt hlt
      obtain ⟨g, og, c', aa, ac, ba, bc, e1, hg, c0, -, -, c3, -, hb⟩ := h.at e hlt
      simp only [Value.slice.injEq] at e1
      obtain ⟨rfl, -, rfl⟩ := e1
      have h1 := HM.out
      rw [e, Ac.deep] at h1
      have h2 := Ac.Fo.drop_next e
      have hbs := Ac.size_body e
      have hc := HI.out k o a n b r e (.slice ba b.len bc) w B hb (by omega)
      have hop := OpensT_any o w
      cases ho : Ac.opens o with
      | true =>
        rw [ho] at hop h1
        rw [if_pos rfl] at h1
        obtain ⟨db, hdb⟩ : ∃ db, Ac.deep b = db := ⟨_, rfl⟩
        rw [hdb] at hc h1
        obtain ⟨m', hm'⟩ : ∃ m', max m (1 + db) = m' := ⟨_, rfl⟩
        have HN : Hid (max m' (Ac.deep (f.drop (k + 1))) = Ac.deep f) := by show _ = _; rw [h2, ← hm']; omega
        have b1 : (1 : Int) + (db : Int) ≤ 1099511627 := by omega
        have HX : Hid ((if (m : Int) < 1 + (db : Int) then 1 + (db : Int) else (m : Int)) = (m' : Int)) := by show _ = _; split <;> omega
        clear HM h1 h2 hdb e hb hs hfl HI hds ho hbs hm'
        go_wp2_with fail
        refine hop.mono ?_
        rintro e w1 ⟨rfl, rfl⟩
        go_wp2_with fail
        refine hc.mono ?_
        rintro e w2 ⟨rfl, rfl⟩
        go_wp2
        exact ⟨⟨k + 1, m', by omega, by go_num, by first | rfl | (rw [HX.out]), HN.out⟩, by simp [intOf]; omega⟩
      | false =>
        rw [ho] at hop h1
        rw [if_neg (by simp)] at h1
        have HN : Hid (max m (Ac.deep (f.drop (k + 1))) = Ac.deep f) := by show _ = _; rw [h2]; omega
        clear HM h1 h2 e hb hs hfl HI hds ho hbs hc
        go_wp2_with fail
        refine hop.mono ?_
        rintro e w1 ⟨rfl, rfl⟩
        go_wp2
        exact ⟨⟨k + 1, m, by omega, by go_num, rfl, HN.out⟩, by simp [intOf]; omega⟩
    · obtain rfl : k = f.len := by omega
      have i1 : ¬ (f.len : Int) < (f.len : Int) := by omega
      have HF : Hid (m = Ac.deep f) := by
        have := HM.out
        rw [Ac.Fo.drop_len, Ac.deep] at this
        rw [Hid]; omega
      clear HM HI
      go_wp2
      go_ret
      rw [← HF.out]
      exact ⟨rfl, rfl⟩

end Go.Proofs.YtnobmgkdieaclaaGreatDoor

namespace Go.Proofs.YtnobmgkdieaclaaGreatDoor
open Go.RowKit

theorem info9s : (Tryz.prog.info? 9).map (fun i => (i.zero, i.size, i.bytes)) = some (some (.string .empty), 1, 16) := by kernel_rfl
/-- v is a slice whose elements, in w, are the texts l; they lie below block B -/
def Strs (w : World) (B : Nat) (v : Value) (l : List ByteArray) : Prop :=
  ∃ ad c, v = .slice ad l.length c ∧ l.length ≤ c ∧ (ad = none → c = 0) ∧ (l ≠ [] → ∃ b o, ad = some ⟨b, o, none⟩ ∧ b < B ∧ ∀ j, j < l.length → w.cell? ⟨b, o + j, none⟩ = some (.string (l.getD j .empty)))
theorem Strs.below {w w' : World} {B B' : Nat} {v : Value} {l : List ByteArray} (h : Strs w B v l) (hb : Below B' w w') (hB : B ≤ B') : Strs w' B v l := by
  obtain ⟨ad, c, hv, hle, hn, h⟩ := h
  refine ⟨ad, c, hv, hle, hn, fun hne => ?_⟩
  obtain ⟨b, o, ha, hlt, hc⟩ := h hne
  exact ⟨b, o, ha, hlt, fun j hj => (hb.cell (p := ⟨b, o + j, none⟩) (Nat.lt_of_lt_of_le hlt hB)).trans (hc j hj)⟩
theorem Strs.mono {w : World} {B B' : Nat} {v : Value} {l : List ByteArray} (h : Strs w B v l) (hB : B ≤ B') : Strs w B' v l := by
  obtain ⟨ad, c, hv, hle, hn, h⟩ := h
  refine ⟨ad, c, hv, hle, hn, fun hne => ?_⟩
  obtain ⟨b, o, ha, hlt, hc⟩ := h hne
  exact ⟨b, o, ha, Nat.lt_of_lt_of_le hlt hB, hc⟩
theorem Strs.nil (w : World) (B : Nat) : Strs w B (.slice none 0 0) [] := ⟨none, 0, rfl, Nat.le_refl _, fun _ => rfl, fun h => absurd rfl h⟩

/-- texts as cells -/
def sV (l : List ByteArray) : List Value := l.map Value.string
theorem sV_one (l : List ByteArray) : ∀ u ∈ sV l, u.oneCell' = true := by
  intro u hu
  simp only [sV, List.mem_map] at hu
  obtain ⟨x, _, rfl⟩ := hu
  rfl
/-- w's row v, among the blocks from base on, holds just the texts l -/
def OwnS (w : World) (base : Nat) (v : Value) (l : List ByteArray) : Prop := w.ownsRow base 9 1 v l.length (sV l)
theorem OwnS.alloc {w : World} {base : Nat} {v : Value} {l : List ByteArray} (h : OwnS w base v l) (o : Obj) : OwnS (w.alloc o) base v l := World.ownsRow.alloc h o
theorem OwnS.nil (w : World) (base : Nat) : OwnS w base (.slice none 0 0) [] := World.ownsRow_nil w base 9 1
theorem OwnS.below {w w' : World} {base B : Nat} {v : Value} {l : List ByteArray} (h : OwnS w base v l) (hb : Below B w w') (hB : w.heap.size ≤ B) : OwnS w' base v l :=
  World.ownsRow.kept h (row := none) ⟨hb.os, hb.tape, hb.output, hb.size, fun k hk _ => hb.block k (by omega)⟩ (by cases hv : v.ownBlock <;> simp)
theorem OwnS.low {w : World} {B B' : Nat} {v : Value} {l : List ByteArray} (h : OwnS w B v l) (hB : B' ≤ B) : OwnS w B' v l := by
  refine ⟨h.1, ?_⟩
  rcases h.2 with h' | ⟨g, cap, cur, hv, hb, rest⟩
  · exact .inl h'
  · exact .inr ⟨g, cap, cur, hv, Nat.le_trans hB hb, rest⟩
/-- a row of the call's own, read -/
theorem OwnS.strs {w : World} {base : Nat} {v : Value} {l : List ByteArray} (h : OwnS w base v l) : Strs w w.heap.size v l := by
  have hlt := World.ownsRow.lt h
  have hcs := fun g hg => World.ownsRow.cells (g := g) h hg
  rcases h.2 with ⟨rfl, h0⟩ | ⟨g, cap, cur, rfl, _, _, hle, _⟩
  · refine ⟨none, 0, by rw [h0], by omega, fun _ => rfl, fun hne => ?_⟩
    exact absurd (List.eq_nil_of_length_eq_zero h0) hne
  · refine ⟨_, _, rfl, hle, (fun h => by cases h), fun _ => ⟨g, 0, rfl, (hlt g rfl).2, fun j hj => ?_⟩⟩
    have := hcs g rfl j (.string (l.getD j .empty)) (by simp [sV, List.getD, List.getElem?_eq_getElem hj])
    rwa [addr_add] at this
theorem strs_news {w : World} {b o : Nat} {l : List ByteArray} (h : ∀ j, j < l.length → w.cell? ⟨b, o + j, none⟩ = some (.string (l.getD j .empty))) :
    ∀ j u, (sV l)[j]? = some u → w.cell? ((⟨b, o, none⟩ : Addr).add j) = some u := by
  intro j u hu
  have hj : j < l.length := by
    rcases Nat.lt_or_ge j l.length with h | h
    · exact h
    · rw [List.getElem?_eq_none (by simpa [sV] using h)] at hu; cases hu
  rw [addr_add, h j hj]
  simp only [sV, List.getElem?_map, List.getElem?_eq_getElem hj, Option.map_some, Option.some.injEq] at hu
  rw [← hu]
  simp [List.getD, List.getElem?_eq_getElem hj]
/-- 'append(out, l...)' on a row of the call's own, l whatever texts -/
theorem wpList_append_strs {ops : Array Oper} {rest : List Oper} {o : Oper} {a : Act} {Q : Exit → Act → World → Prop} {w : World} (hgd : o.guard = none) (s x : Operand)
    (ho : o.op = .call { callee := .builtin .append, args := #[s, x], argTypes := #[23, 23] }) (base B : Nat) (v vx : Value) (l m : List ByteArray)
    (hs : a.eval s = v) (hown : OwnS w base v l) (hx : a.eval x = vx) (hb : Strs w B vx m) (hlen : Hid (l.length + m.length ≤ 1099511627)) (hbase : base ≤ w.heap.size)
    (h : ∀ v' w', OwnS w' base v' (l ++ m) → w.grownBy w' v.ownBlock → wpList Tryz.prog ops Q rest (a.put o.dst v') w') :
    wpList Tryz.prog ops Q (o :: rest) a w := by
  obtain ⟨i0, hi, hz0, hz1, hz2⟩ := info_parts info9s
  have hl := hlen.out
  obtain ⟨ad, c, rfl, hle, hn, hcells⟩ := hb
  cases ad with
  | none =>
    have hc0 := hn rfl
    subst hc0
    have hm : m = [] := List.eq_nil_of_length_eq_zero (by omega)
    subst hm
    refine wpList_append_own_none hgd s x 23 ho base 9 i0 1 Tryz.underlying23 hi v l.length (sV l) hs hown hx ?_
    refine h v w ?_ ⟨rfl, rfl, rfl, Nat.le_refl _, fun _ _ _ => rfl⟩
    rw [List.append_nil]; exact hown
  | some ad =>
    refine wpList_append_own _ hgd s x 23 ho base 9 i0 _ 1 16 Tryz.underlying23 hi hz0 hz1 hz2 rfl (by decide) v l.length (sV l) hs hown ad m.length c (sV m) hx (by simp [sV]) ?_ (sV_one m) ?_ ?_ hbase ?_
    · by_cases hne : m = []
      · subst hne; intro j u hu; simp [sV] at hu
      · obtain ⟨b, o', e, _, hcell⟩ := hcells hne
        simp only [Option.some.injEq] at e
        subst e
        exact strs_news hcell
    · unfold maxLen; omega
    · omega
    · intro v' w' h1 h2 _
      refine h v' w' ?_ h2
      unfold OwnS sV; rw [List.map_append, List.length_append]; exact h1
/-- a literal of one text -/
theorem strs_lit (w : World) (t : ByteArray) : Strs (w.alloc (.cells #[.string t] 9)) (w.heap.size + 1) (.slice (some ⟨w.heap.size, 0, none⟩) 1 1) [t] := by
  refine ⟨_, 1, rfl, Nat.le_refl _, (fun h => by cases h), fun _ => ⟨w.heap.size, 0, rfl, by omega, fun j hj => ?_⟩⟩
  obtain rfl : j = 0 := by simp at hj; omega
  have := heap_alloc_new w (.cells #[.string t] 9)
  simp only [World.cell?, this]
  rfl

end Go.Proofs.YtnobmgkdieaclaaGreatDoor

namespace Go.Proofs.YtnobmgkdieaclaaGreatDoor
open Go.RowKit

set_option maxRecDepth 100000 in
set_option maxHeartbeats 4000000 in
theorem Segment_any (s : ByteArray) (w : World) : Calls Tryz.prog 69 #[.string s] w fun e w' => e = .returned (.bool (Pm.seg (bs s))) ∧ w' = w := by
  have hl := bs_length s
  have hbt : s.toList = bs s := ByteArray.toList_eq s
  by_cases h1 : (s.size : Int) < 1
  · have hs := seg_no (s := bs s) (.inl (by omega))
    rw [hs]
    clear hs hl hbt
    go_enter Tryz.func69, Tryz.ntmps69
    go_wp2
    go_ret
    exact ⟨rfl, rfl⟩
  by_cases h2 : (32 : Int) < (s.size : Int)
  · have hs := seg_no (s := bs s) (.inr (.inl (by omega)))
    rw [hs]
    clear hs hl hbt
    go_enter Tryz.func69, Tryz.ntmps69
    go_wp2
    go_ret
    exact ⟨rfl, rfl⟩
  by_cases h3 : s.toList = [46]
  · have hs := seg_no (s := bs s) (.inr (.inr (.inl (hbt.symm.trans h3))))
    rw [hs]
    clear hs hl hbt
    have h3b : (s.toList == [46]) = true := by simp [h3]
    go_enter Tryz.func69, Tryz.ntmps69
    go_wp2
    go_ret
    exact ⟨rfl, rfl⟩
  by_cases h4 : s.toList = [46, 46]
  · have hs := seg_no (s := bs s) (.inr (.inr (.inr (hbt.symm.trans h4))))
    rw [hs]
    clear hs hl hbt
    have h3b : (s.toList == [46]) = false := by simp [h3]
    have h4b : (s.toList == [46, 46]) = true := by simp [h4]
    go_enter Tryz.func69, Tryz.ntmps69
    go_wp2
    go_ret
    exact ⟨rfl, rfl⟩
  have HS : Hid (Pm.seg (bs s) = (bs s).all Pm.okB) := seg_all (by omega) (by omega) (fun e => h3 (hbt.trans e)) (fun e => h4 (hbt.trans e))
  have h3b : (s.toList == [46]) = false := by simp [h3]
  have h4b : (s.toList == [46, 46]) = false := by simp [h4]
  have Hl : Hid ((bs s).length = s.size) := hl
  clear hl hbt
  go_enter Tryz.func69, Tryz.ntmps69
  go_wp2
  clear h3 h4 h3b h4b
  go_loopw [3] (fun i wr => ∃ k : Nat, k ≤ s.size ∧ i = .int .i64 (k : Int) ∧ wr = w ∧ ∀ c ∈ (bs s).take k, Pm.okB c = true) (fun i _ => s.size - (intOf i).toNat)
  case atStart => exact ⟨0, Nat.zero_le _, rfl, rfl, by simp⟩
  case round =>
    obtain ⟨k, hk, rfl, rfl, hall⟩ := hrel
    have HA : Hid _ := hall
    clear hall
    by_cases hlt : k < s.size
    · have i1 : (k : Int) < (s.size : Int) := by omega
      go_upto_region 7 with fail
      obtain ⟨x, hx⟩ : ∃ x, s[k] = x := ⟨_, rfl⟩
      rw [hx]
      have HT : Hid ((bs s).take (k + 1) = (bs s).take k ++ [x]) := by
        show _ = _
        rw [List.take_succ_eq_append_getElem (by rw [Hl.out]; exact hlt)]
        congr 2
      have HOk : Hid _ := okB_iff x
      have HN : Hid (Pm.okB x = false → (bs s).all Pm.okB = false) := fun h => by
        rw [List.all_eq_false]
        refine ⟨x, ?_, by rw [h]; simp⟩
        have : x ∈ (bs s).take (k + 1) := by rw [HT.out]; simp
        exact List.mem_of_mem_take this
      have hx2 := x.toNat_lt
      clear hx
      generalize x.toNat = X at *
      go_wp2
      all_goals (try simp only [bne_iff_ne, ne_eq, bne_eq_false_iff_eq] at *)
      all_goals first
        | (refine ⟨⟨k + 1, by omega, by go_num, trivial, fun c hc => ?_⟩, by simp [intOf]; omega⟩
           rw [HT.out] at hc
           rcases List.mem_append.1 hc with h | h
           · exact HA.out c h
           · simp at h; rw [h, HOk.out]; exact decide_eq_true (by omega))
        | (go_ret
           refine ⟨?_, rfl⟩
           rw [HS.out, HN.out (by rw [HOk.out]; exact decide_eq_false (by omega))]
           rfl)
    · obtain rfl : k = s.size := by omega
      go_wp2
      go_ret
      refine ⟨?_, rfl⟩
      rw [HS.out, List.all_eq_true.2 (fun c hc => HA.out c (by rw [List.take_of_length_le (by rw [Hl.out]; exact Nat.le_refl _)]; exact hc))]
      rfl

end Go.Proofs.YtnobmgkdieaclaaGreatDoor

namespace Go.Proofs.YtnobmgkdieaclaaGreatDoor
open Go.RowKit

/-- where Cut stands: the place k, the piece's beginning f, the pieces so far -/
structure CutAt (s : ByteArray) (k f : Nat) (l : List ByteArray) : Prop where
  le : l.length ≤ k
  go : k ≤ s.size → f ≤ k ∧ (47 : UInt8) ∉ ((bs s).drop f).take (k - f) ∧ Pm.cut (bs s) = l.map bs ++ Pm.cut ((bs s).drop f)
  fin : ¬ k ≤ s.size → l.map bs = Pm.cut (bs s)
theorem CutAt.zero (s : ByteArray) : CutAt s 0 0 [] := ⟨Nat.le_refl _, fun _ => ⟨Nat.le_refl _, by simp, by simp⟩, fun h => absurd (Nat.zero_le _) h⟩
theorem take_drop_succ (x : List UInt8) (f k : Nat) (hf : f ≤ k) (hk : k < x.length) : (x.drop f).take (k + 1 - f) = (x.drop f).take (k - f) ++ [x[k]] := by
  rw [show k + 1 - f = (k - f) + 1 by omega, List.take_succ_eq_append_getElem (by rw [List.length_drop]; omega), List.getElem_drop]
  congr 2
  congr 1
  omega
/-- another byte -/
theorem CutAt.byte {s : ByteArray} {k f : Nat} {l : List ByteArray} (h : CutAt s k f l) (hk : k < s.size) (hc : s[k] ≠ 47) : CutAt s (k + 1) f l := by
  obtain ⟨h1, h2, h3⟩ := h.go (by omega)
  refine ⟨by have := h.le; omega, fun _ => ⟨by omega, ?_, h3⟩, fun hn => absurd (by omega) hn⟩
  rw [take_drop_succ (bs s) f k h1 (by rw [bs_length]; exact hk)]
  simp only [List.mem_append, List.mem_singleton, not_or]
  exact ⟨h2, fun e => hc e.symm⟩
/-- a slash -/
theorem CutAt.slash {s : ByteArray} {k f : Nat} {l : List ByteArray} (h : CutAt s k f l) (hk : k < s.size) (hc : s[k] = 47) : CutAt s (k + 1) (k + 1) (l ++ [s.extract f k]) := by
  obtain ⟨h1, h2, h3⟩ := h.go (by omega)
  refine ⟨by have := h.le; simp; omega, fun _ => ⟨Nat.le_refl _, by simp, ?_⟩, fun hn => absurd (by omega) hn⟩
  have hkl : k < (bs s).length := by rw [bs_length]; exact hk
  have e : (bs s).drop f = ((bs s).drop f).take (k - f) ++ 47 :: (bs s).drop (k + 1) := by
    conv => lhs; rw [← List.take_append_drop (k - f) ((bs s).drop f)]
    congr 1
    rw [List.drop_drop, show f + (k - f) = k by omega, List.drop_eq_getElem_cons hkl]
    congr 1
  rw [h3, e, Pm.cut_slash, Pm.cut_plain _ h2, List.map_append, List.map_cons, List.map_nil, bs_extract]
  simp
/-- the end -/
theorem CutAt.last {s : ByteArray} {f : Nat} {l : List ByteArray} (h : CutAt s s.size f l) : CutAt s (s.size + 1) (s.size + 1) (l ++ [s.extract f s.size]) := by
  obtain ⟨h1, h2, h3⟩ := h.go (Nat.le_refl _)
  refine ⟨by have := h.le; simp; omega, fun hn => absurd hn (by omega), fun _ => ?_⟩
  have e : ((bs s).drop f).take (s.size - f) = (bs s).drop f := List.take_of_length_le (by rw [List.length_drop, bs_length]; exact Nat.le_refl _)
  rw [e] at h2
  rw [h3, Pm.cut_plain _ h2, List.map_append, List.map_cons, List.map_nil, bs_extract, e]

set_option maxRecDepth 100000 in
set_option maxHeartbeats 4000000 in
theorem Cut_any (s : ByteArray) (w : World) (hs : s.size ≤ 100000000) : Calls Tryz.prog 68 #[.string s] w fun e w' => ∃ v l, e = .returned v ∧ OwnS w' w.heap.size v l ∧ l.map bs = Pm.cut (bs s) ∧ Below w.heap.size w w' := by
  go_enter Tryz.func68, Tryz.ntmps68
  go_wp2
  go_loopw [3, 4, 5] (fun v f i wr => ∃ (k ff : Nat) (l : List ByteArray), k ≤ s.size + 1 ∧ i = .int .i64 (k : Int) ∧ f = .int .i64 (ff : Int) ∧ OwnS wr w.heap.size v l ∧ CutAt s k ff l ∧ Below w.heap.size w wr) (fun _ _ i _ => s.size + 1 - (intOf i).toNat)
  case atStart => exact ⟨0, 0, [], Nat.zero_le _, rfl, rfl, OwnS.nil _ _, CutAt.zero s, Below.refl _ _⟩
  case round =>
    obtain ⟨k, f, l, hk, rfl, rfl, hO, hC, hBe⟩ := hrel
    have HC : Hid (CutAt s k f l) := hC
    clear hC
    by_cases hle : k ≤ s.size
    · obtain ⟨hf1, -, -⟩ := HC.out.go hle
      have i1 : (k : Int) ≤ (s.size : Int) := by omega
      have i3 : (f : Int) ≤ (k : Int) := by omega
      obtain ⟨vd, vc, rfl, -⟩ := hO.strs
      by_cases he : k = s.size
      · subst he
        have i2 : ((s.size : Int) == (s.size : Int)) = true := by simp
        have HLt := strs_lit wr (s.extract f s.size)
        have hOa := OwnS.alloc hO (.cells #[.string (s.extract f s.size)] 9)
        have hBa := hBe.alloc hBe.size (.cells #[.string (s.extract f s.size)] 9)
        have Hx : Hid (l.length + [s.extract f s.size].length ≤ 1099511627) := by show _ ≤ _; have := HC.out.le; simp only [List.length_cons, List.length_nil]; omega
        go_wp2_with (at_builtin; go_must (refine wpList_append_strs rfl _ _ rfl w.heap.size (wr.heap.size + 1) _ _ l [s.extract f s.size] rfl hOa rfl HLt Hx hBa.size ?_))
        intro v' w' h1 h2
        have hB1 := hBa.grown h2 hBa.size fun g e => (World.ownsRow.lt hOa g e).1
        clear HLt hOa hBa hO hBe h2
        go_wp2
        exact ⟨⟨s.size + 1, s.size + 1, _, by omega, by go_num, by go_num, h1, HC.out.last, hB1⟩, by simp [intOf]⟩
      · have hlt : k < s.size := by omega
        have i2 : ((k : Int) == (s.size : Int)) = false := by simp; omega
        have i4 : (k : Int) < (s.size : Int) := by omega
        by_cases hc : s[k] = 47
        · have hx : ((s[k].toNat : Int) == 47) = true := by rw [hc]; rfl
          have Hc : Hid (s[k] = 47) := hc
          clear hc
          have HLt := strs_lit wr (s.extract f k)
          have hOa := OwnS.alloc hO (.cells #[.string (s.extract f k)] 9)
          have hBa := hBe.alloc hBe.size (.cells #[.string (s.extract f k)] 9)
          have Hx : Hid (l.length + [s.extract f k].length ≤ 1099511627) := by show _ ≤ _; have := HC.out.le; simp only [List.length_cons, List.length_nil]; omega
          go_wp2_with (at_builtin; go_must (refine wpList_append_strs rfl _ _ rfl w.heap.size (wr.heap.size + 1) _ _ l [s.extract f k] rfl hOa rfl HLt Hx hBa.size ?_))
          intro v' w' h1 h2
          have hB1 := hBa.grown h2 hBa.size fun g e => (World.ownsRow.lt hOa g e).1
          clear HLt hOa hBa hO hBe h2
          go_wp2
          exact ⟨⟨k + 1, k + 1, _, by omega, by go_num, by go_num, h1, HC.out.slash hlt Hc.out, hB1⟩, by simp [intOf]; omega⟩
        · have hx : ((s[k].toNat : Int) == 47) = false := by
            rw [beq_eq_false_iff_ne]
            intro h
            exact hc (UInt8.toNat_inj.1 (by have : s[k].toNat = 47 := by omega
                                            rw [this]; rfl))
          have Hc : Hid (s[k] ≠ 47) := hc
          clear hc
          go_wp2
          exact ⟨⟨k + 1, f, l, by omega, by go_num, rfl, hO, HC.out.byte hlt Hc.out, hBe⟩, by simp [intOf]; omega⟩
    · have i1 : ¬ (k : Int) ≤ (s.size : Int) := by omega
      go_wp2
      go_ret
      exact ⟨_, rfl, l, hO, HC.out.fin hle, hBe⟩

end Go.Proofs.YtnobmgkdieaclaaGreatDoor

namespace Go.Proofs.YtnobmgkdieaclaaGreatDoor
open Go.RowKit

/-- how many bytes texts have, one more for each -/
def tot (l : List ByteArray) : Nat := (l.map fun s => s.size + 1).sum
theorem tot_take (l : List ByteArray) (k : Nat) (h : k < l.length) : tot (l.take (k + 1)) = tot (l.take k) + ((l.getD k .empty).size + 1) := by
  unfold tot
  rw [List.take_succ_eq_append_getElem h, List.map_append, List.sum_append]
  simp [List.getD, List.getElem?_eq_getElem h]
theorem tot_le (l : List ByteArray) (k : Nat) : tot (l.take k) ≤ tot l := by
  unfold tot
  conv => rhs; rw [← List.take_append_drop k l, List.map_append, List.sum_append]
  omega

theorem join_take (l : List ByteArray) (k : Nat) (h : k < l.length) : Pm.join ((l.take (k + 1)).map bs) = if k = 0 then bs (l.getD k .empty) else Pm.join ((l.take k).map bs) ++ 47 :: bs (l.getD k .empty) := by
  rw [List.take_succ_eq_append_getElem h, List.map_append]
  have e : l.getD k .empty = l[k] := by simp [List.getD, List.getElem?_eq_getElem h]
  rw [e]
  by_cases hk : k = 0
  · subst hk; simp [Pm.join]
  · rw [if_neg hk, List.map_cons, List.map_nil, Pm.join_append]
    intro hn
    have := congrArg List.length hn
    rw [List.length_map, List.length_take, List.length_nil] at this
    omega
theorem join_tot (l : List ByteArray) : (Pm.join (l.map bs)).length ≤ tot l := by
  induction l with
  | nil => simp [Pm.join, tot]
  | cons a r ih =>
    cases r with
    | nil => simp [Pm.join, tot]
    | cons b r =>
      rw [List.map_cons, Pm.join_cons _ _ (by simp)]
      have : tot (a :: b :: r) = a.size + 1 + tot (b :: r) := by simp [tot]
      rw [this, List.length_append, List.length_cons, bs_length]
      omega


end Go.Proofs.YtnobmgkdieaclaaGreatDoor

namespace Go.Proofs.YtnobmgkdieaclaaGreatDoor
open Go.RowKit

theorem seg_at {l : List ByteArray} {x : List Pm.B} (h : l.map bs = x) (k : Nat) (hk : k < l.length) : x.take (k + 1) = x.take k ++ [bs (l.getD k .empty)] := by
  subst h
  rw [List.take_succ_eq_append_getElem (by simpa using hk), List.getElem_map]
  simp [List.getD, List.getElem?_eq_getElem hk]

theorem tot_join (l : List ByteArray) (h : l ≠ []) : tot l = (Pm.join (l.map bs)).length + 1 := by
  induction l with
  | nil => exact absurd rfl h
  | cons a r ih =>
    cases r with
    | nil => simp [Pm.join, tot]
    | cons b r =>
      have e : tot (a :: b :: r) = a.size + 1 + tot (b :: r) := by simp [tot]
      rw [List.map_cons, Pm.join_cons _ _ (by simp), e, ih (by simp), List.length_append, List.length_cons, bs_length]
      omega
theorem length_tot (l : List ByteArray) : l.length ≤ tot l := by
  induction l with
  | nil => simp
  | cons a r ih =>
    have e : tot (a :: r) = a.size + 1 + tot r := by simp [tot]
    rw [e, List.length_cons]
    omega
/-- the pieces of a text: how many bytes -/
theorem tot_cut {l : List ByteArray} {s : ByteArray} (h : l.map bs = Pm.cut (bs s)) : tot l = s.size + 1 ∧ l.length ≤ s.size + 1 ∧ l ≠ [] := by
  have hne : l ≠ [] := by
    rintro rfl
    exact Pm.cut_ne (bs s) h.symm
  have e : tot l = s.size + 1 := by rw [tot_join l hne, h, Pm.join_cut, bs_length]
  exact ⟨e, e ▸ length_tot l, hne⟩

set_option maxRecDepth 100000 in
set_option maxHeartbeats 4000000 in
theorem IsT_any (s : ByteArray) (w : World) : Calls Tryz.prog 49 #[.string s] w fun e w' => e = .returned (.bool (Pm.isP (bs s))) ∧ Below w.heap.size w w' := by
  by_cases h60 : s.size ≤ 60
  · have HP : Hid (Pm.isP (bs s) = (Pm.cut (bs s)).all Pm.seg) := by show _ = _; unfold Pm.isP; rw [decide_eq_true (by rw [bs_length]; exact h60), Bool.true_and]
    have i0 : (s.size : Int) ≤ 60 := by omega
    go_enter Tryz.func49, Tryz.ntmps49
    go_wp2_with fail
    refine (Cut_any s _ (by omega)).mono ?_
    rintro e w1 ⟨v, l, rfl, hO, hl, hB⟩
    obtain ⟨ad, c, rfl, hc, hn, hi⟩ := hO.strs
    have Hi : Hid _ := hi
    have HL : Hid (l.map bs = Pm.cut (bs s)) := hl
    obtain ⟨-, hlen, -⟩ := tot_cut hl
    clear hi hl hO
    go_wp2
    go_loopw [4] (fun i wr => ∃ k : Nat, k ≤ l.length ∧ i = .int .i64 (k : Int) ∧ w1 = wr ∧ ((Pm.cut (bs s)).take k).all Pm.seg = true) (fun i _ => l.length - (intOf i).toNat)
    case atStart => exact ⟨0, Nat.zero_le _, rfl, rfl, rfl⟩
    case round =>
      obtain ⟨k, hk, rfl, rfl, hall⟩ := hrel
      have HA : Hid _ := hall
      clear hall
      by_cases hlt : k < l.length
      · obtain ⟨b, o, rfl, hbl, hcs⟩ := Hi.out (by intro h; rw [h] at hlt; simp at hlt)
        have c0 := hcs k hlt
        have HT : Hid _ := seg_at HL.out k hlt
        have i1 : (k : Int) < (l.length : Int) := by omega
        generalize l.getD k .empty = x at *
        clear hcs
        go_wp2_with fail
        refine (Segment_any x _).mono ?_
        rintro e w2 ⟨rfl, rfl⟩
        by_cases hg : Pm.seg (bs x) = true
        · rw [hg]
          have HG : Hid _ := hg
          clear hg
          go_wp2
          refine ⟨⟨k + 1, by omega, by go_num, trivial, ?_⟩, by simp [intOf]; omega⟩
          rw [HT.out, List.all_append, HA.out, List.all_cons, HG.out]
          rfl
        · rw [Bool.not_eq_true] at hg
          rw [hg]
          have HG : Hid (Pm.seg (bs x) = false) := hg
          clear hg
          go_wp2
          go_ret
          refine ⟨?_, hB⟩
          have : (Pm.cut (bs s)).all Pm.seg = false := by
            rw [List.all_eq_false]
            refine ⟨bs x, ?_, by rw [HG.out]; simp⟩
            have : bs x ∈ (Pm.cut (bs s)).take (k + 1) := by rw [HT.out]; simp
            exact List.mem_of_mem_take this
          rw [HP.out, this]
          rfl
      · obtain rfl : k = l.length := by omega
        have i1 : ¬ (l.length : Int) < (l.length : Int) := by omega
        go_wp2
        go_ret
        refine ⟨?_, hB⟩
        have hT := HA.out
        rw [List.take_of_length_le (by rw [← HL.out]; simp)] at hT
        rw [HP.out, hT]
        rfl
  · have HP : Hid (Pm.isP (bs s) = false) := by show _ = _; unfold Pm.isP; rw [decide_eq_false (by rw [bs_length]; exact h60), Bool.false_and]
    have i0 : ¬ (s.size : Int) ≤ 60 := by omega
    go_enter Tryz.func49, Tryz.ntmps49
    go_wp2
    go_ret
    exact ⟨by rw [HP.out]; rfl, Below.refl _ _⟩

end Go.Proofs.YtnobmgkdieaclaaGreatDoor
