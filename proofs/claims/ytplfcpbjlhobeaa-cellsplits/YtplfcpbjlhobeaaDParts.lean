/-
  THE WALK OF parts: may a key stand between two nodes.
-/
import Derived.Test.YtplfcpbjlhobeaaDWell
import Derived.Test.YtplfcpbjlhobeaaCHalf
namespace Go.Proofs.Ytplfcpbjlhobeaa
open Go.RowKit

/-- the key may stand between -/
def Cm.Between (a : Cm.Nd) (key : ByteArray) (b : Cm.Nd) : Prop := (∀ x ∈ a.items, Cm.kl x.key key = true) ∧ (∀ x ∈ b.items, Cm.kl x.key key = false ∧ (a.leaf = false → x.key ≠ key)) ∧ (a.leaf = false → Cm.OkK key)
instance (a : Cm.Nd) (key : ByteArray) (b : Cm.Nd) : Decidable (Cm.Between a key b) := by unfold Cm.Between; infer_instance
theorem between_iff {a b : Cm.Nd} {key : ByteArray} (ha : Cm.Right a) (hb : Cm.Right b) : Cm.Between a key b ↔ (a.leaf = false → Cm.OkK key) ∧ (0 < a.items.length → Cm.kl (a.items.getD (a.items.length - 1) Cm.zero).key key = true) ∧ (0 < b.items.length → Cm.kl (b.items.getD 0 Cm.zero).key key = false ∧ (a.leaf = false → (b.items.getD 0 Cm.zero).key ≠ key)) := by
  have gm : ∀ (l : List Cm.It) (i : Nat), i < l.length → l.getD i Cm.zero ∈ l := fun l i h => by simp [List.getD, List.getElem?_eq_getElem h]
  constructor
  · rintro ⟨h1, h2, h3⟩
    exact ⟨h3, fun h => h1 _ (gm _ _ (by omega)), fun h => h2 _ (gm _ _ h)⟩
  · rintro ⟨h1, h2, h3⟩
    refine ⟨fun x hx => ?_, fun x hx => ?_, h1⟩
    · obtain ⟨i, hi, rfl⟩ := List.mem_iff_getElem.1 hx
      have e : a.items.getD i Cm.zero = a.items[i] := by simp [List.getD, List.getElem?_eq_getElem hi]
      by_cases he : i = a.items.length - 1
      · have := h2 (by omega)
        rw [← he, e] at this
        exact this
      · have h4 := Cm.rise ha (a.items.length - 1) i (by omega) (by omega)
        rw [e] at h4
        exact Cm.kl_trans h4 (h2 (by omega))
    · obtain ⟨i, hi, rfl⟩ := List.mem_iff_getElem.1 hx
      have e : b.items.getD i Cm.zero = b.items[i] := by simp [List.getD, List.getElem?_eq_getElem hi]
      obtain ⟨h4, h5⟩ := h3 (by omega)
      by_cases he : i = 0
      · subst he
        rw [e] at h4 h5
        exact ⟨h4, h5⟩
      · have h6 := Cm.rise hb i 0 (by omega) hi
        rw [e] at h6
        refine ⟨?_, fun _ h7 => ?_⟩
        · cases h8 : Cm.kl b.items[i].key key with
          | false => rfl
          | true => rw [Cm.kl_trans h6 h8] at h4; cases h4
        · rw [h7, h4] at h6
          cases h6

set_option maxRecDepth 100000 in
set_option maxHeartbeats 4000000 in
theorem jparts_any (a b : Cm.Nd) (key : ByteArray) (va vb : Value) (B : Nat) (w : World) (ha : NdS w B va a) (hb : NdS w B vb b) (hB : B ≤ w.heap.size) (hla : a.items.length ≤ 1000000) (hlb : b.items.length ≤ 1000000) (hra : Cm.Right a) (hrb : Cm.Right b) :
    Calls Try.prog 37 #[va, .string key, vb] w fun e w' => e = .returned (.bool (decide (Cm.Between a key b))) ∧ Below w.heap.size w w' := by
  obtain ⟨R, hR⟩ : ∃ R, decide (Cm.Between a key b) = R := ⟨_, rfl⟩
  rw [hR]
  have HR : Hid (R = true ↔ (a.leaf = false → Cm.OkK key) ∧ (0 < a.items.length → Cm.kl (a.items.getD (a.items.length - 1) Cm.zero).key key = true) ∧ (0 < b.items.length → Cm.kl (b.items.getD 0 Cm.zero).key key = false ∧ (a.leaf = false → (b.items.getD 0 Cm.zero).key ≠ key))) := by
    show _ ↔ _
    rw [← hR, decide_eq_true_iff]
    exact between_iff hra hrb
  clear hR hra hrb
  obtain ⟨vai, vak, rfl, ⟨ad, ca, rfl, -, -, hia⟩, ⟨kd, da, rfl, -⟩⟩ := ha
  obtain ⟨vbi, vbk, rfl, ⟨bd, cb, rfl, -, -, hib⟩, ⟨ld, db, rfl, -⟩⟩ := hb
  have HIa : Hid (a.items ≠ [] → ∃ g o, ad = some ⟨g, o, none⟩ ∧ g < B ∧ w.cell? ⟨g, o + (a.items.length - 1) * 4, none⟩ = some (.string (a.items.getD (a.items.length - 1) Cm.zero).key)) := fun h => by
    obtain ⟨g, o, h1, h2, h3⟩ := hia h
    exact ⟨g, o, h1, h2, (h3 _ (by have := List.length_pos_iff.2 h; omega)).1⟩
  have HIb : Hid (b.items ≠ [] → ∃ g o, bd = some ⟨g, o, none⟩ ∧ g < B ∧ w.cell? ⟨g, o, none⟩ = some (.string (b.items.getD 0 Cm.zero).key)) := fun h => by
    obtain ⟨g, o, h1, h2, h3⟩ := hib h
    have := (h3 0 (List.length_pos_iff.2 h)).1
    simp only [Nat.zero_mul, Nat.add_zero] at this
    exact ⟨g, o, h1, h2, this⟩
  clear hia hib
  generalize (a.items.getD (a.items.length - 1) Cm.zero).key = ka at *
  generalize (b.items.getD 0 Cm.zero).key = kb at *
  generalize a.leaf = lf at *
  have hx0 := heap_alloc_new w (.cells #[.bool lf, .slice ad a.items.length ca, .slice kd a.kids.length da] 28)
  have hb0 := (Below.refl w.heap.size w).alloc (Nat.le_refl _) (.cells #[.bool lf, .slice ad a.items.length ca, .slice kd a.kids.length da] 28)
  have hs0 : (w.alloc (.cells #[.bool lf, .slice ad a.items.length ca, .slice kd a.kids.length da] 28)).heap.size = w.heap.size + 1 := by simp
  have hx1 := heap_alloc_new (w.alloc (.cells #[.bool lf, .slice ad a.items.length ca, .slice kd a.kids.length da] 28)) (.cells #[.bool b.leaf, .slice bd b.items.length cb, .slice ld b.kids.length db] 28)
  have hx0' := (((Below.refl _ (w.alloc (.cells #[.bool lf, .slice ad a.items.length ca, .slice kd a.kids.length da] 28))).alloc (Nat.le_refl _) (.cells #[.bool b.leaf, .slice bd b.items.length cb, .slice ld b.kids.length db] 28)).block w.heap.size (by omega)).trans hx0
  have hb1 := hb0.alloc (by omega) (.cells #[.bool b.leaf, .slice bd b.items.length cb, .slice ld b.kids.length db] 28)
  rw [hs0] at hx1
  go_enter Try.func37, Try.ntmps37
  go_upto_region 1 with fail
  generalize (w.alloc (.cells #[.bool lf, .slice ad a.items.length ca, .slice kd a.kids.length da] 28)).alloc (.cells #[.bool b.leaf, .slice bd b.items.length cb, .slice ld b.kids.length db] 28) = W at *
  clear hx0 hb0 hs0
  obtain ⟨n0, n1, n2⟩ := cells3_of hx0'
  obtain ⟨m0, m1, m2⟩ := cells3_of hx1
  have hgo : ∀ hk : (lf = false → Cm.OkK key), Hid (R = true ↔ (0 < a.items.length → Cm.kl ka key = true) ∧ (0 < b.items.length → Cm.kl kb key = false ∧ (lf = false → kb ≠ key))) := fun hk => by
    show _ ↔ _
    rw [HR.out]
    exact and_iff_right hk
  by_cases hk : lf = false ∧ ¬ Cm.OkK key
  · obtain ⟨rfl, hk⟩ := hk
    have e : Hid (R = false) := by
      show _ = _
      rw [Bool.eq_false_iff]
      intro h
      exact hk ((HR.out.1 h).1 rfl)
    have hK := isKey_any key W
    rw [decide_eq_false hk] at hK
    clear hk hgo
    go_wp2_with fail
    refine hK.mono ?_
    rintro e1 w1 ⟨rfl, hw1⟩
    rw [hw1]
    go_wp2
    go_ret
    exact ⟨by rw [e.out]; rfl, hb1⟩
  · have hk' : lf = false → Cm.OkK key := fun h => by
      rcases Classical.em (Cm.OkK key) with h1 | h1
      · exact h1
      · exact absurd ⟨h, h1⟩ hk
    have HR2 := hgo hk'
    have hK : lf = false → Calls Try.prog 60 #[.string key] W fun e w' => e = .returned (.bool true) ∧ w' = W := fun h => by
      have := isKey_any key W
      rwa [decide_eq_true (hk' h)] at this
    have HK : Hid _ := hK
    clear hk hk' hgo HR hK
    go_upto_region 2 with fail
    go_cut [12] (fun t wx => t = .bool false ∧ W = wx)
    case first =>
      cases lf
      · go_wp2_with fail
        refine (HK.out (by trivial)).mono ?_
        rintro e1 w1 ⟨rfl, hw1⟩
        rw [hw1]
        clear hw1
        go_wp2
        go_meet
        exact ⟨rfl, rfl⟩
      · go_wp2
        go_meet
        exact ⟨rfl, rfl⟩
    case rest =>
      obtain ⟨rfl, rfl⟩ := hcut
      clear HK
      have hga : ∀ g : Nat, g < B → ∀ o : Nat, W.cell? ⟨g, o, none⟩ = w.cell? ⟨g, o, none⟩ := fun g hg o => hb1.cell (p := ⟨g, o, none⟩) (Nat.lt_of_lt_of_le hg hB)
      have HGa : Hid _ := hga
      clear hga
      by_cases hla0 : 0 < a.items.length
      · obtain ⟨m, hm⟩ : ∃ m, a.items.length = m + 1 := ⟨a.items.length - 1, by omega⟩
        obtain ⟨g, o, had, hgB, hcell⟩ := HIa.out (by intro h; rw [h] at hla0; simp at hla0)
        subst had
        rw [show a.items.length - 1 = m by omega, ← HGa.out g hgB] at hcell
        have i1 : (a.items.length : Int) - 1 = (m : Int) := by omega
        have i2 : (m : Int) < (a.items.length : Int) := by omega
        have i3 : decide ((0 : Int) ≤ (m : Int)) = true := decide_eq_true (by omega)
        cases hkl : Op.bytesLess ka.toList key.toList with
        | false =>
          have e : Hid (R = false) := by
            show _ = _
            rw [Bool.eq_false_iff]
            intro h
            have h1 : Cm.kl ka key = true := (HR2.out.1 h).1 hla0
            unfold Cm.kl at h1
            rw [hkl] at h1
            cases h1
          clear hm HR2 HIa HIb
          go_wp2
          go_ret
          exact ⟨by rw [e.out]; rfl, hb1⟩
        | true =>
          have HR3 : Hid (R = true ↔ (0 < b.items.length → Cm.kl kb key = false ∧ (lf = false → kb ≠ key))) := by
            show _ ↔ _
            rw [HR2.out]
            exact and_iff_right fun _ => hkl
          clear hm HR2 HIa
          by_cases hlb0 : 0 < b.items.length
          · obtain ⟨gb, ob, hbd, hgbB, hcb⟩ := HIb.out (by intro h; rw [h] at hlb0; simp at hlb0)
            subst hbd
            rw [← HGa.out gb hgbB] at hcb
            have j1 : ((b.items.length : Int) == 0) = false := beq_eq_false_iff_ne.2 (by omega)
            have j2 : (0 : Int) < (b.items.length : Int) := by omega
            have hq := str_eq kb key
            cases hkb : Op.bytesLess kb.toList key.toList with
            | true =>
              have e : Hid (R = false) := by
                show _ = _
                rw [Bool.eq_false_iff]
                intro h
                have h1 : Cm.kl kb key = false := (HR3.out.1 h hlb0).1
                unfold Cm.kl at h1
                rw [hkb] at h1
                cases h1
              clear HR3
              cases lf
              · by_cases hke : kb = key
                · rw [decide_eq_true hke] at hq
                  go_wp2
                  go_ret
                  exact ⟨by rw [e.out]; rfl, hb1⟩
                · rw [decide_eq_false hke] at hq
                  go_wp2
                  go_ret
                  exact ⟨by rw [e.out]; rfl, hb1⟩
              · go_wp2
                go_ret
                exact ⟨by rw [e.out]; rfl, hb1⟩
            | false =>
              cases lf
              · by_cases hke : kb = key
                · have e : Hid (R = false) := by
                    show _ = _
                    rw [Bool.eq_false_iff]
                    intro h
                    exact (HR3.out.1 h hlb0).2 rfl hke
                  rw [decide_eq_true hke] at hq
                  clear HR3 hke
                  go_wp2
                  go_ret
                  exact ⟨by rw [e.out]; rfl, hb1⟩
                · have e : Hid (R = true) := HR3.out.2 fun _ => ⟨hkb, fun _ => hke⟩
                  rw [decide_eq_false hke] at hq
                  clear HR3 hke
                  go_wp2
                  go_ret
                  exact ⟨by rw [e.out]; rfl, hb1⟩
              · have e : Hid (R = true) := HR3.out.2 fun _ => ⟨hkb, fun h => by cases h⟩
                clear HR3
                go_wp2
                go_ret
                exact ⟨by rw [e.out]; rfl, hb1⟩
          · have j1 : ((b.items.length : Int) == 0) = true := beq_iff_eq.2 (by omega)
            have e : Hid (R = true) := HR3.out.2 fun h => absurd h hlb0
            clear HR3
            go_wp2
            go_ret
            exact ⟨by rw [e.out]; rfl, hb1⟩
      · have hla1 : a.items.length = 0 := by omega
        have HR3 : Hid (R = true ↔ (0 < b.items.length → Cm.kl kb key = false ∧ (lf = false → kb ≠ key))) := by
          show _ ↔ _
          rw [HR2.out]
          exact and_iff_right fun h => absurd h hla0
        have i3 : decide ((0 : Int) ≤ (a.items.length : Int) - 1) = false := decide_eq_false (by omega)
        clear HR2 HIa hla1
        by_cases hlb0 : 0 < b.items.length
        · obtain ⟨gb, ob, hbd, hgbB, hcb⟩ := HIb.out (by intro h; rw [h] at hlb0; simp at hlb0)
          subst hbd
          rw [← HGa.out gb hgbB] at hcb
          have j1 : ((b.items.length : Int) == 0) = false := beq_eq_false_iff_ne.2 (by omega)
          have j2 : (0 : Int) < (b.items.length : Int) := by omega
          have hq := str_eq kb key
          cases hkb : Op.bytesLess kb.toList key.toList with
          | true =>
            have e : Hid (R = false) := by
              show _ = _
              rw [Bool.eq_false_iff]
              intro h
              have h1 : Cm.kl kb key = false := (HR3.out.1 h hlb0).1
              unfold Cm.kl at h1
              rw [hkb] at h1
              cases h1
            clear HR3
            cases lf
            · by_cases hke : kb = key
              · rw [decide_eq_true hke] at hq
                go_wp2
                go_ret
                exact ⟨by rw [e.out]; rfl, hb1⟩
              · rw [decide_eq_false hke] at hq
                go_wp2
                go_ret
                exact ⟨by rw [e.out]; rfl, hb1⟩
            · go_wp2
              go_ret
              exact ⟨by rw [e.out]; rfl, hb1⟩
          | false =>
            cases lf
            · by_cases hke : kb = key
              · have e : Hid (R = false) := by
                  show _ = _
                  rw [Bool.eq_false_iff]
                  intro h
                  exact (HR3.out.1 h hlb0).2 rfl hke
                rw [decide_eq_true hke] at hq
                clear HR3 hke
                go_wp2
                go_ret
                exact ⟨by rw [e.out]; rfl, hb1⟩
              · have e : Hid (R = true) := HR3.out.2 fun _ => ⟨hkb, fun _ => hke⟩
                rw [decide_eq_false hke] at hq
                clear HR3 hke
                go_wp2
                go_ret
                exact ⟨by rw [e.out]; rfl, hb1⟩
            · have e : Hid (R = true) := HR3.out.2 fun _ => ⟨hkb, fun h => by cases h⟩
              clear HR3
              go_wp2
              go_ret
              exact ⟨by rw [e.out]; rfl, hb1⟩
        · have j1 : ((b.items.length : Int) == 0) = true := beq_iff_eq.2 (by omega)
          have e : Hid (R = true) := HR3.out.2 fun h => absurd h hlb0
          clear HR3
          go_wp2
          go_ret
          exact ⟨by rw [e.out]; rfl, hb1⟩

end Go.Proofs.Ytplfcpbjlhobeaa
