/-
  THE WALKS OF THE DOCUMENT's two, Form.
-/
import Derived.Test.YtplfcpbjlhobeaaCKit
import Derived.Test.YtplfcpbjlhobeaaWKit
import Derived.Test.YtplfcpbjlhobeaaRRight
namespace Go.Proofs.Ytplfcpbjlhobeaa
open Go.RowKit

/-- a row of bytes that grows leaves blocks of other types as they are -/
theorem Own.box {w w' : World} {base p : Nat} {v : Value} {l : List UInt8} {cs : Array Value} {t : TypeId} {f : Nat × Nat} (h : Own w base v l) (hg : w.grownBy w' v.ownBlock) (hp : w.heap[p]? = some (.cells cs t f)) (ht : t ≠ 5) :
    w'.heap[p]? = some (.cells cs t f) := by
  refine (hg.block p (lt_of_heap hp) ?_).trans hp
  intro e
  rcases h.2 with ⟨rfl, _⟩ | ⟨g, cap, cur, rfl, _, hgg, _⟩
  · simp [Value.ownBlock] at e
  · simp only [Value.ownBlock, Option.some.injEq] at e
    subst e
    rw [hgg] at hp
    simp only [Option.some.injEq, Obj.cells.injEq] at hp
    exact ht hp.2.1.symm
theorem Own.grow {w w' W : World} {base : Nat} {v : Value} {l : List UInt8} (h : Own w base v l) (hg : w.grownBy w' v.ownBlock) (hb : Below base W w) (hB : base ≤ w.heap.size) : Below base W w' :=
  hb.grown hg hB fun k hk => (World.ownsRow.lt h k hk).1
theorem own_lit (w : World) (cs : Array Value) (l : List UInt8) (h : cs.toList = bV l) (hl : l.length ≤ 1000) : Own (w.alloc (.cells cs 5)) w.heap.size (.slice (some ⟨w.heap.size, 0, none⟩) l.length l.length) l := by
  have h1 : cs.size = l.length := by rw [← Array.length_toList, h, bV_length]
  have := World.ownsRow_lit (base := w.heap.size) (e := 5) (size := 1) w cs l.length (Nat.le_refl _) (by unfold maxLen; omega) (by omega)
  rw [h] at this
  exact this
theorem two_bytes {k : Int} (h0 : 0 ≤ k) (h1 : k ≤ 65535) : (#[Value.int .u8 (k % 256), Value.int .u8 (k / 256)] : Array Value).toList = bV (Cm.two k) := by
  obtain ⟨m, rfl⟩ := Int.eq_ofNat_of_zero_le h0
  have e1 := Wm.ofNat_toNat (n := m % 256) (by omega)
  have e2 := Wm.ofNat_toNat (n := m / 256) (by omega)
  simp only [Cm.two, bV, List.map_cons, List.map_nil, Int.toNat_natCast, e1, e2]
  rfl

set_option maxRecDepth 100000 in
theorem two_any (k : Int) (h0 : 0 ≤ k) (h1 : k ≤ 65535) (w : World) :
    Calls Try.prog 65 #[.int .i64 k] w fun e w' => ∃ v', e = .returned v' ∧ Own w' w.heap.size v' (Cm.two k) ∧ Below w.heap.size w w' := by
  go_enter Try.func65, Try.ntmps65
  go_wp2
  go_ret
  exact ⟨_, rfl, own_lit w _ (Cm.two k) (two_bytes h0 h1) (by rw [Cm.two_length]; omega), (Below.refl _ w).alloc (Nat.le_refl _) _⟩

/-- what Form asks of a node -/
def Cm.Fit (n : Cm.Nd) : Prop := (∀ i, i < n.items.length → Cm.OkK (n.items.getD i Cm.zero).key ∧ Cm.OkI n.leaf (n.items.getD i Cm.zero)) ∧ (n.leaf = false → (∀ k ∈ n.kids, Cm.KidOk k) ∧ n.kids.length = n.items.length + 1)
theorem Cm.Right.fit {n : Cm.Nd} (h : Cm.Right n) : Cm.Fit n := by
  refine ⟨fun i hi => ⟨(h.1 i hi).1, (h.1 i hi).2.2⟩, fun hl => ?_⟩
  have := h.2
  rw [hl, if_neg (by simp)] at this
  exact ⟨this.1, this.2.2⟩
theorem kid_ok {n : Cm.Nd} (h : Cm.Fit n) (hl : n.leaf = false) {i : Nat} (hi : i < n.kids.length) : 0 ≤ n.kids.getD i 0 ∧ n.kids.getD i 0 ≤ 65535 := by
  have := (h.2 hl).1 (n.kids.getD i 0) (by simp [List.getD, List.getElem?_eq_getElem hi])
  unfold Cm.KidOk at this
  omega
theorem parts_le {n : Cm.Nd} (h : Cm.Fit n) {k : Nat} (hk : k ≤ n.items.length) : (Cm.parts n k).length ≤ 130 * k := Cm.parts_length fun i hi => h.1 i (by omega)

/-- the first bytes of the form, laid -/
theorem form_head_leaf (n : Cm.Nd) (h : n.leaf = true) : Cm.head n = [1] ++ Wm.putU n.items.length := by
  unfold Cm.head; rw [h, if_pos rfl, if_pos rfl, List.append_nil]
theorem form_head_inner (n : Cm.Nd) (h : n.leaf = false) : Cm.head n = [2] ++ Wm.putU n.items.length ++ Cm.two (n.kids.getD 0 0) := by
  unfold Cm.head; rw [h, if_neg (by simp), if_neg (by simp)]

theorem part_inner (n : Cm.Nd) (h : n.leaf = false) (k : Nat) : Cm.part n.leaf (n.kids.getD (k + 1) 0) (n.items.getD k Cm.zero) = Wm.putT (n.items.getD k Cm.zero).key.data.toList ++ Cm.two (n.kids.getD (k + 1) 0) := by
  unfold Cm.part; rw [if_pos h]
theorem Own.low' {w : World} {B B' : Nat} {v : Value} {l : List UInt8} (h : Own w B v l) (hB : B' ≤ B) : Own w B' v l := by
  refine ⟨h.1, ?_⟩
  rcases h.2 with h | ⟨g, cap, cur, h1, h2, h3⟩
  · exact .inl h
  · exact .inr ⟨g, cap, cur, h1, Nat.le_trans hB h2, h3⟩

theorem part_chain (n : Cm.Nd) (h : n.leaf = true) (k : Nat) (hp : 0 < (n.items.getD k Cm.zero).page) : Cm.part n.leaf (n.kids.getD (k + 1) 0) (n.items.getD k Cm.zero) = Wm.putT (n.items.getD k Cm.zero).key.data.toList ++ (Wm.putU (2 * (n.items.getD k Cm.zero).len.toNat + 1) ++ Cm.two (n.items.getD k Cm.zero).page) := by
  unfold Cm.part; rw [if_neg (by rw [h]; simp), if_pos hp]
theorem part_value (n : Cm.Nd) (h : n.leaf = true) (k : Nat) (hp : ¬ 0 < (n.items.getD k Cm.zero).page) : Cm.part n.leaf (n.kids.getD (k + 1) 0) (n.items.getD k Cm.zero) = Wm.putT (n.items.getD k Cm.zero).key.data.toList ++ (Wm.putU (2 * (n.items.getD k Cm.zero).val.size) ++ (n.items.getD k Cm.zero).val.data.toList) := by
  unfold Cm.part; rw [if_neg (by rw [h]; simp), if_neg hp]
theorem val_small {x : Cm.It} (h : Cm.OkI true x) : x.val.size ≤ 32 := by
  unfold Cm.OkI at h
  rw [if_pos rfl] at h
  rcases h with h | h
  · exact h.2.2
  · have := h.1; omega
theorem page_small {x : Cm.It} (h : Cm.OkI true x) (hp : 0 < x.page) : x.page ≤ 65535 ∧ 1 ≤ x.len ∧ x.len ≤ 4608 := by
  unfold Cm.OkI at h
  rw [if_pos rfl] at h
  rcases h with h | h
  · have := h.1; omega
  · exact ⟨h.2.2.1, h.2.2.2⟩

set_option maxRecDepth 100000 in
set_option maxHeartbeats 4000000 in
theorem Form_inner (n : Cm.Nd) (v : Value) (B : Nat) (w : World) (hlf : n.leaf = false) (hv : NdS w B v n) (hB : B ≤ w.heap.size) (hl : n.items.length ≤ 1000000) (hf : Cm.Fit n) :
    Calls Try.prog 41 #[v] w fun e w' => ∃ v', e = .returned v' ∧ Own w' w.heap.size v' (Cm.form n) ∧ Below w.heap.size w w' := by
  obtain ⟨vi, vk, rfl, ⟨ad, c, rfl, hc, hn, hi⟩, ⟨kd, d, rfl, hd, hkn, hki⟩⟩ := hv
  have hkl := (hf.2 hlf).2
  obtain ⟨kb, ko, hkd, hkb, hkc⟩ := hki (by intro h; rw [h] at hkl; simp at hkl)
  have Hi : Hid _ := hi
  have Hkc : Hid _ := hkc
  have Hf : Hid (Cm.Fit n) := hf
  have Hlf : Hid _ := hlf
  have Hkl : Hid _ := hkl
  clear hi hki hf hkc
  subst hkd
  rw [hlf]
  clear hlf hkl
  have hk0 := kid_ok Hf.out Hlf.out (i := 0) (by have := Hkl.out; omega)
  have ck0 := Hkc.out 0 (by have := Hkl.out; omega)
  obtain ⟨k0, hk0e⟩ : ∃ k0, n.kids.getD 0 0 = k0 := ⟨_, rfl⟩
  rw [hk0e, Nat.add_zero] at ck0
  rw [hk0e] at hk0
  have Hk0 : Hid _ := hk0e
  clear hk0e
  have hU : ∀ W : World, Calls Try.prog 64 #[.int .u64 (n.items.length : Int)] W fun e w' => ∃ v', e = .returned v' ∧ Own w' W.heap.size v' (Wm.putU n.items.length) ∧ Below W.heap.size W w' := fun W => refUint_any n.items.length (by omega) W
  go_enter Try.func41, Try.ntmps41
  go_wp2_with fail
  refine (hU _).mono ?_
  rintro e w1 ⟨v1, rfl, ho1, hb1⟩
  have hbx := heap_alloc_new w (.cells #[.bool false, .slice ad n.items.length c, .slice (some ⟨kb, ko, none⟩) n.kids.length d] 28)
  have hbw := (Below.refl w.heap.size w).alloc (Nat.le_refl _) (.cells #[.bool false, .slice ad n.items.length c, .slice (some ⟨kb, ko, none⟩) n.kids.length d] 28)
  have hs0 : (w.alloc (.cells #[.bool false, .slice ad n.items.length c, .slice (some ⟨kb, ko, none⟩) n.kids.length d] 28)).heap.size = w.heap.size + 1 := by simp
  have hsz : w.heap.size ≤ (w.alloc (.cells #[.bool false, .slice ad n.items.length c, .slice (some ⟨kb, ko, none⟩) n.kids.length d] 28)).heap.size := by simp
  generalize w.alloc (.cells #[.bool false, .slice ad n.items.length c, .slice (some ⟨kb, ko, none⟩) n.kids.length d] 28) = W0 at *
  have how : Own (W0.alloc (.cells #[.int .u8 2] 5)) w.heap.size (.slice (some ⟨w.heap.size + 1, 0, none⟩) 1 1) [2] := by
    have := (own_lit W0 #[.int .u8 2] [2] rfl (by decide)).low' hsz
    rw [hs0] at this
    exact this
  have hbw2 := hbw.alloc hsz (.cells #[.int .u8 2] 5)
  have hbx2 := (((Below.refl _ W0).alloc (Nat.le_refl _) (.cells #[.int .u8 2] 5)).block w.heap.size (lt_of_heap hbx)).trans hbx
  replace how := how.below hb1 (Nat.le_refl _)
  replace hbx2 := (hb1.block w.heap.size (lt_of_heap hbx2)).trans hbx2
  replace hbw2 := hbw2.trans (hb1.mono hbw2.size)
  clear hb1
  have Hl1 : Hid (([2] : List UInt8).length + (Wm.putU n.items.length).length ≤ 1099511627800) := by have := (Wm.putU_length n.items.length).2; show _ ≤ _; simp; omega
  go_wp2_with (at_builtin; go_must (refine wpList_append_byts rfl (.tmp 11) (.tmp 16) rfl w.heap.size w1.heap.size _ _ [2] (Wm.putU n.items.length) rfl how rfl ho1.byts Hl1 hbw2.size ?_))
  intro v2 w2 ho2 hg2
  have hbx3 := how.box hg2 hbx2 (by decide)
  have hbw3 := how.grow hg2 hbw2 hbw2.size
  clear hg2 how hbx2 hbw2 hU hbx hbw ho1
  obtain ⟨n0, n1, n2⟩ := cells3_of hbx3
  replace ck0 := (hbw3.cell (p := ⟨kb, ko, none⟩) (Nat.lt_of_lt_of_le hkb hB)).trans ck0
  have i0 : (0 : Int) < (n.kids.length : Int) := by have := Hkl.out; omega
  go_wp2_with fail
  refine (two_any k0 hk0.1 hk0.2 _).mono ?_
  rintro e w3 ⟨v3, rfl, ho3, hb3⟩
  have how := ho2.below hb3 (Nat.le_refl _)
  have hbx4 := (hb3.block w.heap.size (lt_of_heap hbx3)).trans hbx3
  have hbw4 := hbw3.trans (hb3.mono hbw3.size)
  have Hl2 : Hid (([2] ++ Wm.putU n.items.length).length + (Cm.two k0).length ≤ 1099511627800) := by have := (Wm.putU_length n.items.length).2; show _ ≤ _; simp [Cm.two_length]; omega
  go_wp2_with (at_builtin; go_must (refine wpList_append_byts rfl (.tmp 21) (.tmp 26) rfl w.heap.size w3.heap.size _ _ _ (Cm.two k0) rfl how rfl ho3.byts Hl2 hbw4.size ?_))
  intro v4 w4 ho4 hg4
  have hbx5 := how.box hg4 hbx4 (by decide)
  have hbw5 := how.grow hg4 hbw4 hbw4.size
  clear hg4 how hbx4 hbw4 ho3 hb3 hbx3 hbw3 ho2 n0 n1 n2 ck0
  have HH : Hid (Cm.head n = [2] ++ Wm.putU n.items.length ++ Cm.two k0) := by show _ = _; rw [form_head_inner n Hlf.out, Hk0.out]
  replace ho4 : Own w4 w.heap.size v4 (Cm.head n) := by rw [HH.out]; simpa using ho4
  go_wp2
  go_loopw [3, 4] (fun v' i wr => ∃ k : Nat, k ≤ n.items.length ∧ i = .int .i64 (k : Int) ∧ Own wr w.heap.size v' (Cm.head n ++ Cm.parts n k) ∧ wr.heap[w.heap.size]? = some (.cells #[.bool false, .slice ad n.items.length c, .slice (some ⟨kb, ko, none⟩) n.kids.length d] 28 (0, 0)) ∧ Below w.heap.size w wr)
    (fun _ i _ => n.items.length - (intOf i).toNat)
  case atStart => exact ⟨0, Nat.zero_le _, rfl, by simpa [Cm.parts] using ho4, hbx5, hbw5⟩
  case round =>
    obtain ⟨k, hkl, rfl, hor, hbxr, hbr⟩ := hrel
    clear hbx5 hbw5 ho4
    obtain ⟨n0, n1, n2⟩ := cells3_of hbxr
    by_cases hlt : k < n.items.length
    · obtain ⟨b, o, rfl, hbl, hcs⟩ := Hi.out (by intro h; rw [h] at hlt; simp at hlt)
      have hbk := hbr.block b (Nat.lt_of_lt_of_le hbl hB)
      obtain ⟨c0, c1, c2, c3⟩ := hcs k hlt
      replace c0 := (World.cell?_of_block (a := ⟨b, o + k * 4, none⟩) hbk).trans c0
      replace c1 := (World.cell?_of_block (a := ⟨b, o + k * 4 + 1, none⟩) hbk).trans c1
      replace c2 := (World.cell?_of_block (a := ⟨b, o + k * 4 + 2, none⟩) hbk).trans c2
      replace c3 := (World.cell?_of_block (a := ⟨b, o + k * 4 + 3, none⟩) hbk).trans c3
      have hfk := (Hf.out.1 k hlt).1
      have hkk := kid_ok Hf.out Hlf.out (i := k + 1) (by have := Hkl.out; omega)
      have ck := Hkc.out (k + 1) (by have := Hkl.out; omega)
      have HP : Hid _ := Cm.parts_succ n k
      have HPi := part_inner n Hlf.out k
      have hple := parts_le Hf.out (show k ≤ n.items.length by omega)
      have hhl := Cm.head_length n
      obtain ⟨x, hx⟩ : ∃ x, n.items.getD k Cm.zero = x := ⟨_, rfl⟩
      obtain ⟨kk, hkke⟩ : ∃ kk, n.kids.getD (k + 1) 0 = kk := ⟨_, rfl⟩
      rw [hx] at c0 c1 c2 c3 hfk HPi
      rw [hkke] at hkk ck HPi
      rw [hx, hkke] at HP
      obtain ⟨xk, xv, xp, xl⟩ := x
      simp only at c0 c1 c2 c3 hfk HPi
      have HPI : Hid _ := HPi
      clear hcs hx hkke HPi
      have hxs : xk.size ≤ 64 := hfk.2
      have hxl : xk.data.toList.length = xk.size := by rw [Array.length_toList]; rfl
      have hpu := (Wm.putU_length xk.size).2
      have Hl3 : Hid ((Cm.head n ++ Cm.parts n k).length + (Wm.putT xk.data.toList).length ≤ 1099511627000) := by
        show _ ≤ _; unfold Wm.putT; rw [hxl]; simp only [List.length_append]; rw [hxl]; omega
      clear hfk hple hhl hxl hpu
      go_wp2_with fail
      refine (refText_any xk (by omega) _).mono ?_
      rintro e w5 ⟨v5, rfl, ho5, hb5⟩
      have hWb := hbr.alloc hbr.size (.cells #[.string xk, .string xv, .int .i64 xp, .int .i64 xl] 24)
      have hWn := (((Below.refl _ wr).alloc (Nat.le_refl _) (.cells #[.string xk, .string xv, .int .i64 xp, .int .i64 xl] 24)).block w.heap.size (lt_of_heap hbxr)).trans hbxr
      have how := hor.alloc (.cells #[.string xk, .string xv, .int .i64 xp, .int .i64 xl] 24)
      replace how := how.below hb5 (Nat.le_refl _)
      replace hWn := (hb5.block w.heap.size (lt_of_heap hWn)).trans hWn
      replace hWb := hWb.trans (hb5.mono hWb.size)
      clear hb5 hbr hbxr hor n0 n1 n2 c0 c1 c2 c3 hbk
      have Hl3' : Hid ((Cm.head n ++ Cm.parts n k).length + (Wm.putT xk.data.toList).length ≤ 1099511627800) := by have := Hl3.out; show _ ≤ _; omega
      go_wp2_with (at_builtin; go_must (refine wpList_append_byts rfl (.tmp 40) (.tmp 43) rfl w.heap.size w5.heap.size _ _ _ (Wm.putT xk.data.toList) rfl how rfl ho5.byts Hl3' hWb.size ?_))
      intro v6 w6 ho6 hg6
      obtain ⟨L6, hL6⟩ : ∃ L, L = Cm.head n ++ Cm.parts n k ++ Wm.putT xk.data.toList := ⟨_, rfl⟩
      replace ho6 : Own w6 w.heap.size v6 L6 := by rw [hL6]; simpa using ho6
      have HL6 : Hid _ := hL6
      clear hL6
      have hWn6 := how.box hg6 hWn (by decide)
      have hWb6 := how.grow hg6 hWb hWb.size
      clear hg6 how hWn hWb ho5
      obtain ⟨n0, n1, n2⟩ := cells3_of hWn6
      replace ck := (hWb6.cell (p := ⟨kb, ko + (k + 1), none⟩) (Nat.lt_of_lt_of_le hkb hB)).trans ck
      have i1 : (k : Int) + 1 < (n.kids.length : Int) := by have := Hkl.out; omega
      go_wp2_with fail
      refine (two_any kk hkk.1 hkk.2 _).mono ?_
      rintro e w7 ⟨v7, rfl, ho7, hb7⟩
      have how := ho6.below hb7 (Nat.le_refl _)
      have hWn7 := (hb7.block w.heap.size (lt_of_heap hWn6)).trans hWn6
      have hWb7 := hWb6.trans (hb7.mono hWb6.size)
      have Hl4 : Hid (L6.length + (Cm.two kk).length ≤ 1099511627800) := by
        have := Hl3.out; show _ ≤ _; rw [HL6.out, List.length_append, Cm.two_length]; omega
      clear hb7 ho6 hWn6 hWb6 n0 n1 n2 ck
      go_wp2_with (at_builtin; go_must (refine wpList_append_byts rfl (.tmp 61) (.tmp 68) rfl w.heap.size w7.heap.size _ _ _ (Cm.two kk) rfl how rfl ho7.byts Hl4 hWb7.size ?_))
      intro v8 w8 ho8 hg8
      have hWn8 := how.box hg8 hWn7 (by decide)
      have hWb8 := how.grow hg8 hWb7 hWb7.size
      clear hg8 how hWn7 hWb7 ho7
      go_wp2
      refine ⟨⟨k + 1, by omega, by go_num, ?_, hWn8, hWb8⟩, by simp [intOf]; omega⟩
      have e8 : Cm.head n ++ Cm.parts n (k + 1) = L6 ++ Cm.two kk := by rw [HP.out, HPI.out, HL6.out]; simp only [List.append_assoc]
      rw [e8]
      exact ho8
    · obtain rfl : k = n.items.length := by omega
      go_wp2
      go_ret
      exact ⟨_, rfl, hor, hbr⟩
end Go.Proofs.Ytplfcpbjlhobeaa
