/-
  WHAT CHANGED (the document's Since).
-/
import Derived.Test.YtifolddmcibkdaaRList
namespace Go.Proofs.Ytifolddmcibkdaa
open Go.RowKit

/-- where a path stands among paths, or would stand -/
def Tm.spot (l : List ByteArray) (p : ByteArray) : Nat := (l.takeWhile fun q => Ks.kl q p).length
theorem Tm.spot_step {l : List ByteArray} {p : ByteArray} {k : Nat} (hk : k < l.length) (hall : ∀ j, j < k → Ks.kl (l.getD j .empty) p = true) (h : Ks.kl (l.getD k .empty) p = false) : Tm.spot l p = k := by
  unfold Tm.spot
  induction l generalizing k with
  | nil => simp at hk
  | cons x r ih =>
    cases k with
    | zero => rw [List.takeWhile_cons_of_neg (by simpa [List.getD] using h)]; rfl
    | succ k =>
      rw [List.takeWhile_cons_of_pos (by simpa [List.getD] using hall 0 (by omega)), List.length_cons]
      rw [ih (k := k) (by simpa using hk) (fun j hj => by simpa [List.getD] using hall (j + 1) (by omega)) (by simpa [List.getD] using h)]
theorem Tm.spot_end {l : List ByteArray} {p : ByteArray} (hall : ∀ j, j < l.length → Ks.kl (l.getD j .empty) p = true) : Tm.spot l p = l.length := by
  unfold Tm.spot
  induction l with
  | nil => rfl
  | cons x r ih =>
    rw [List.takeWhile_cons_of_pos (by simpa [List.getD] using hall 0 (by simp)), List.length_cons, List.length_cons]
    rw [ih (fun j hj => by simpa [List.getD] using hall (j + 1) (by simpa using hj))]
theorem Tm.ins_eq (l : List ByteArray) (p : ByteArray) : Tm.ins l p = if Tm.spot l p < l.length ∧ l.getD (Tm.spot l p) .empty = p then l else l.take (Tm.spot l p) ++ p :: l.drop (Tm.spot l p) := rfl
theorem Tm.ins_len (l : List ByteArray) (p : ByteArray) : (Tm.ins l p).length ≤ l.length + 1 := by
  rw [Tm.ins_eq]
  split
  · omega
  · simp only [List.length_append, List.length_take, List.length_cons, List.length_drop]; omega
/-- what is told when the changes ahead of k are gone through -/
def Tm.upto (chs : List ByteArray) (m k : Nat) : List ByteArray := ((chs.take k).drop m).foldl Tm.ins []
theorem Tm.upto_step {chs : List ByteArray} {m k : Nat} (hm : m ≤ k) (hk : k < chs.length) : Tm.upto chs m (k + 1) = Tm.ins (Tm.upto chs m k) (chs.getD k .empty) := by
  unfold Tm.upto
  rw [List.take_succ_eq_append_getElem hk, List.drop_append_of_le_length (by rw [List.length_take]; omega), List.foldl_append]
  have e : chs.getD k .empty = chs[k] := by simp [List.getD, List.getElem?_eq_getElem hk]
  rw [e]; rfl
theorem Tm.upto_len (chs : List ByteArray) (m k : Nat) : (Tm.upto chs m k).length ≤ k - m := by
  unfold Tm.upto
  have h : ∀ (l a : List ByteArray), (l.foldl Tm.ins a).length ≤ a.length + l.length := by
    intro l
    induction l with
    | nil => intro a; simp
    | cons x r ih =>
      intro a
      rw [List.foldl_cons]
      have h1 := ih (Tm.ins a x)
      have h2 := Tm.ins_len a x
      simp only [List.length_cons]; omega
  have := h ((chs.take k).drop m) []
  simp only [List.length_nil, List.length_drop, List.length_take] at this
  omega

set_option maxRecDepth 100000 in
set_option maxHeartbeats 4000000 in
theorem SinceR_any (g : Nat) (t : Tm.T) (S : List Nat) (m : Int) (w : World) (h : HasR w g t S) (hl : t.chs.length ≤ 100000000) :
    Calls Try.prog 27 #[.pointer (some ⟨g, 0, none⟩), .int .i64 m] w fun e w' => ∃ v, e = .returned (.tuple #[v, .bool (Tm.since t m).2]) ∧ StR.Own w' w.heap.size v (Tm.since t m).1 ∧ Below w.heap.size w w' := by
  obtain ⟨vf, vc, ty, hb, hty, hf, hc, rfl⟩ := h
  have gl : g < w.heap.size := (Array.getElem?_eq_some_iff.1 hb).1
  have hs := hc.sl
  obtain ⟨ad, c, rfl, hle⟩ := hs.shape
  have HR : Hid (Tm.since t m = if m < 0 ∨ (t.chs.length : Int) < m ∨ 32 < (t.chs.length : Int) - m then ([], false) else ((t.chs.drop m.toNat).foldl Tm.ins [], true)) := rfl
  have c1 := (HasR.cell0 hb).2.1
  go_enter Try.func27, Try.ntmps27
  by_cases h1 : m < 0
  · rw [if_pos (.inl h1)] at HR
    go_wp2
    go_ret2
    rw [HR.out]
    exact ⟨_, rfl, Rc.Own.nil _ _, Below.refl _ _⟩
  by_cases h2 : (t.chs.length : Int) < m
  · rw [if_pos (.inr (.inl h2))] at HR
    go_wp2
    go_ret2
    rw [HR.out]
    exact ⟨_, rfl, Rc.Own.nil _ _, Below.refl _ _⟩
  by_cases h3 : 32 < (t.chs.length : Int) - m
  · rw [if_pos (.inr (.inr h3))] at HR
    go_wp2
    go_ret2
    rw [HR.out]
    exact ⟨_, rfl, Rc.Own.nil _ _, Below.refl _ _⟩
  rw [if_neg (by omega)] at HR
  obtain ⟨mn, rfl⟩ : ∃ mn : Nat, m = (mn : Int) := ⟨m.toNat, by omega⟩
  rw [Int.toNat_natCast] at HR
  go_wp2
  go_loopw [6, 7] (fun v i wr => ∃ k : Nat, mn ≤ k ∧ k ≤ t.chs.length ∧ i = .int .i64 (k : Int) ∧ StR.Own wr w.heap.size v (Tm.upto t.chs mn k) ∧ Below w.heap.size w wr) (fun _ i _ => t.chs.length - (intOf i).toNat)
  case atStart => exact ⟨mn, Nat.le_refl _, by omega, rfl, by unfold Tm.upto; rw [List.drop_of_length_le (by rw [List.length_take]; omega)]; exact Rc.Own.nil _ _, Below.refl _ _⟩
  case round =>
    obtain ⟨k, hmk, hk, rfl, hO, hBe⟩ := hrel
    have c1 := (HasR.cell0 ((hBe.block g gl).trans hb)).2.1
    by_cases hlt : k < t.chs.length
    · obtain ⟨b, o, c', e, hb', p0⟩ := StR.at (hs.below hBe (Nat.le_refl _)) k hlt
      simp only [Value.slice.injEq] at e
      obtain ⟨rfl, -, rfl⟩ := e
      have i1 : (k : Int) < (t.chs.length : Int) := by omega
      have HST : Hid _ := Tm.upto_step hmk hlt
      have hLl := Tm.upto_len t.chs mn k
      generalize t.chs.getD k .empty = p at *
      generalize Tm.upto t.chs mn k = L at *
      obtain ⟨lb, lc, rfl, hlc⟩ := hO.sl.shape
      go_wp2
      go_loopw [9] (fun i wx => ∃ j : Nat, j ≤ L.length ∧ i = .int .i64 (j : Int) ∧ (∀ q, q < j → Ks.kl (L.getD q .empty) p = true) ∧ wx = wr) (fun i _ => L.length - (intOf i).toNat)
      case atStart => exact ⟨0, Nat.zero_le _, rfl, by simp, rfl⟩
      case round =>
        obtain ⟨j, hj, rfl, hall, rfl⟩ := hrel
        have HSP := Tm.ins_eq L p
        by_cases hjl : j < L.length
        · obtain ⟨b2, o2, c2, e2, hb2, p2⟩ := StR.at hO.sl j hjl
          simp only [Value.slice.injEq] at e2
          obtain ⟨rfl, -, rfl⟩ := e2
          have i2 : (j : Int) < (L.length : Int) := by omega
          have HE := beq_txt (L.getD j .empty) p
          have HL : Hid (∀ b, Ks.kl (L.getD j .empty) p = b → Op.bytesLess (L.getD j .empty).toList p.toList = b) := fun b hb => hb
          cases hkl : Ks.kl (L.getD j .empty) p with
          | true =>
            have q := HL.out _ hkl
            have HK : Hid (∀ q, q < j + 1 → Ks.kl (L.getD q .empty) p = true) := fun q hq => by
              by_cases e : q = j
              · subst e; exact hkl
              · exact hall q (by omega)
            clear hkl HL hall HE HSP
            generalize L.getD j .empty = x at *
            go_wp2
            exact ⟨⟨j + 1, by omega, by go_num, HK.out, trivial⟩, by simp [intOf]; omega⟩
          | false =>
            have q := HL.out _ hkl
            rw [Tm.spot_step hjl hall hkl] at HSP
            clear hkl HL
            generalize L.getD j .empty = x at *
            by_cases hx : x = p
            · rw [decide_eq_true hx] at HE
              rw [if_pos ⟨hjl, hx⟩] at HSP
              have HIn : Hid _ := HSP
              clear hx HSP hall
              go_wp2
              exact ⟨⟨k + 1, by omega, by omega, by go_num, by rw [HST.out, HIn.out]; exact hO, hBe⟩, by simp [intOf]; omega⟩
            · rw [decide_eq_false hx] at HE
              rw [if_neg (fun h => hx h.2)] at HSP
              have hins := HSP
              clear hx HSP
              have HIn : Hid _ := hins
              clear hins hall
              have hsl1 : ∀ W : World, (Instr.slice 35 (.slice (some ⟨b2, o2, none⟩) L.length lc) none (some (.int .i64 (j : Int))) none).run Try.prog W = .ok (.slice (some ⟨b2, o2, none⟩) j lc) W := fun W => StR.slice_head W (some ⟨b2, o2, none⟩) L.length lc j (by omega)
              have hs1 := hO.sl.head j hj
              have HLn : Hid (([] : List ByteArray).length + (L.take j).length ≤ 1099511627) := by show _ ≤ _; simp; omega
              have hbz := hBe.size
              go_wp2_with (at_builtin; go_must (refine StR.append rfl _ _ rfl wr.heap.size wr.heap.size _ _ [] (L.take j) rfl (Rc.Own.nil _ _) rfl hs1 HLn (Nat.le_refl _) ?_))
              intro v3 w3 hO3 hg3
              have hB3 : Below wr.heap.size wr w3 := ⟨hg3.os, hg3.tape, hg3.output, hg3.size, fun j hj => hg3.block j hj (by simp [Value.ownBlock])⟩
              clear hg3 hs1 HLn
              have hL4 := StR.lit w3 p #[.string p] rfl
              have hO4 := hO3.alloc (.cells #[.string p] 9)
              have hB4 := hB3.alloc hB3.size (.cells #[.string p] 9)
              have HLn2 : Hid ((L.take j).length + [p].length ≤ 1099511627) := by show _ ≤ _; simp; omega
              go_wp2_with (at_builtin; go_must (refine StR.append rfl _ _ rfl wr.heap.size (w3.heap.size + 1) _ _ (L.take j) [p] rfl hO4 rfl hL4 HLn2 hB4.size ?_))
              intro v5 w5 hO5 hg5
              have hB5 := hB4.grown hg5 hB4.size fun j e => (hO4.lt j e).1
              clear hg5 hL4 hO4 hB4 HLn2 hO3 hB3
              obtain ⟨A, hsl2, hA⟩ := Rc.slice_tail (hO.below hB5 (Nat.le_refl _)).sl j hj
              have hsl3 : ∀ W : World, (Instr.slice 35 (.slice (some ⟨b2, o2, none⟩) L.length lc) (some (.int .i64 (j : Int))) none none).run Try.prog W = .ok (.slice A (L.length - j) (lc - j)) W := hsl2
              have HLn3 : Hid ((L.take j ++ [p]).length + (L.drop j).length ≤ 1099511627) := by show _ ≤ _; simp; omega
              go_wp2_with (at_builtin; go_must (refine StR.append rfl _ _ rfl wr.heap.size w5.heap.size _ _ (L.take j ++ [p]) (L.drop j) rfl hO5 rfl hA HLn3 hB5.size ?_))
              intro v6 w6 hO6 hg6
              have hB6 := hB5.grown hg6 hB5.size fun j e => (hO5.lt j e).1
              obtain ⟨a6, n6, c6, rfl⟩ := hO6.isSl
              clear hg6 hA hO5 HLn3 hB5 hsl1 hsl2 hsl3 hO
              go_wp2
              exact ⟨⟨k + 1, by omega, by omega, by go_num, by rw [HST.out, HIn.out]; simpa using hO6.low hbz, hBe.trans (hB6.mono hbz)⟩, by simp [intOf]; omega⟩
        · have hjE : j = L.length := by omega
          have i2 : ¬ (j : Int) < (L.length : Int) := by omega
          rw [Tm.spot_end (by rw [← hjE]; exact hall), if_neg (by omega), ← hjE] at HSP
          have hins := HSP
          clear HSP
          have HIn : Hid _ := hins
          clear hins hall
          have hsl1 : ∀ W : World, (Instr.slice 35 (.slice lb L.length lc) none (some (.int .i64 (j : Int))) none).run Try.prog W = .ok (.slice lb j lc) W := fun W => StR.slice_head W lb L.length lc j (by omega)
          have hs1 := hO.sl.head j hj
          have HLC : Hid _ := hlc
          have HJE : Hid _ := hjE
          clear hlc hjE
          have HLn : Hid (([] : List ByteArray).length + (L.take j).length ≤ 1099511627) := by show _ ≤ _; simp; omega
          have hbz := hBe.size
          go_wp2_with (at_builtin; go_must (refine StR.append rfl _ _ rfl wr.heap.size wr.heap.size _ _ [] (L.take j) rfl (Rc.Own.nil _ _) rfl hs1 HLn (Nat.le_refl _) ?_))
          intro v3 w3 hO3 hg3
          have hB3 : Below wr.heap.size wr w3 := ⟨hg3.os, hg3.tape, hg3.output, hg3.size, fun j hj => hg3.block j hj (by simp [Value.ownBlock])⟩
          clear hg3 hs1 HLn
          have hL4 := StR.lit w3 p #[.string p] rfl
          have hO4 := hO3.alloc (.cells #[.string p] 9)
          have hB4 := hB3.alloc hB3.size (.cells #[.string p] 9)
          have HLn2 : Hid ((L.take j).length + [p].length ≤ 1099511627) := by show _ ≤ _; simp; omega
          go_wp2_with (at_builtin; go_must (refine StR.append rfl _ _ rfl wr.heap.size (w3.heap.size + 1) _ _ (L.take j) [p] rfl hO4 rfl hL4 HLn2 hB4.size ?_))
          intro v5 w5 hO5 hg5
          have hB5 := hB4.grown hg5 hB4.size fun j e => (hO4.lt j e).1
          clear hg5 hL4 hO4 hB4 HLn2 hO3 hB3
          obtain ⟨A, hsl2, hA⟩ := Rc.slice_tail (hO.below hB5 (Nat.le_refl _)).sl j hj
          have hsl3 : ∀ W : World, (Instr.slice 35 (.slice lb L.length lc) (some (.int .i64 (j : Int))) none none).run Try.prog W = .ok (.slice A (L.length - j) (lc - j)) W := hsl2
          have HLn3 : Hid ((L.take j ++ [p]).length + (L.drop j).length ≤ 1099511627) := by show _ ≤ _; simp; omega
          go_wp2_with (at_builtin; go_must (refine StR.append rfl _ _ rfl wr.heap.size w5.heap.size _ _ (L.take j ++ [p]) (L.drop j) rfl hO5 rfl hA HLn3 hB5.size ?_))
          intro v6 w6 hO6 hg6
          have hB6 := hB5.grown hg6 hB5.size fun j e => (hO5.lt j e).1
          obtain ⟨a6, n6, c6, rfl⟩ := hO6.isSl
          clear hg6 hA hO5 HLn3 hB5 hsl1 hsl2 hsl3 hO
          go_wp2
          exact ⟨⟨k + 1, by omega, by omega, by go_num, by rw [HST.out, HIn.out]; simpa using hO6.low hbz, hBe.trans (hB6.mono hbz)⟩, by simp [intOf]; omega⟩
    · obtain rfl : k = t.chs.length := by omega
      have i2 : ¬ (t.chs.length : Int) < (t.chs.length : Int) := by omega
      have e : Tm.upto t.chs mn t.chs.length = (t.chs.drop mn).foldl Tm.ins [] := by unfold Tm.upto; rw [List.take_length]
      rw [e] at hO
      go_wp2
      go_ret2
      rw [HR.out]
      exact ⟨_, rfl, hO, hBe⟩

end Go.Proofs.Ytifolddmcibkdaa
