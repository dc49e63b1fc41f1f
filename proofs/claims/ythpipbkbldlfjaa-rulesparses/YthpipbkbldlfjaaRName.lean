/-
  WHAT THE DOCUMENT's Name, bare, mark, word DO.
-/
import Derived.Test.YthpipbkbldlfjaaRlMath
import Derived.Test.YthpipbkbldlfjaaYText
import Derived.Test.YthpipbkbldlfjaaYSame
namespace Go.Proofs.Ythpipbkbldlfjaa
open Go.RowKit

theorem big_iff (c : UInt8) : Rl.big c = decide (65 ≤ c.toNat ∧ c.toNat ≤ 90) := rfl
theorem other_iff (c : UInt8) : Rl.other c = decide (48 ≤ c.toNat ∧ c.toNat ≤ 57 ∨ c.toNat = 95) := by
  have h : ∀ n : Fin 256, Rl.other (UInt8.ofNat n.1) = decide (48 ≤ n.1 ∧ n.1 ≤ 57 ∨ n.1 = 95) := by decide +kernel
  have := h ⟨c.toNat, c.toNat_lt⟩
  simpa using this
/-- may a byte stand at this place of a name? -/
def Rl.okAt (i : Nat) (c : UInt8) : Bool := Rl.big c || (decide (i ≠ 0) && Rl.other c)
theorem Rl.name_list (t : List UInt8) : Rl.name t = true ↔ 1 ≤ t.length ∧ t.length ≤ 16 ∧ ∀ i (h : i < t.length), Rl.okAt i t[i] = true := by
  cases t with
  | nil => simp [Rl.name]
  | cons c r =>
    simp only [Rl.name, Bool.and_eq_true, List.all_eq_true, decide_eq_true_eq, List.length_cons]
    constructor
    · rintro ⟨⟨h1, h2⟩, h3⟩
      refine ⟨by omega, by omega, fun i h => ?_⟩
      cases i with
      | zero => simp [Rl.okAt, h1]
      | succ i =>
        have := h2 (r[i]'(by omega)) (List.getElem_mem _)
        simp only [Rl.okAt, List.getElem_cons_succ]
        simpa using this
    · rintro ⟨-, h2, h3⟩
      refine ⟨⟨?_, fun x hx => ?_⟩, by omega⟩
      · have := h3 0 (by omega)
        simpa [Rl.okAt] using this
      · obtain ⟨i, hi, rfl⟩ := List.getElem_of_mem hx
        have := h3 (i + 1) (by omega)
        simpa [Rl.okAt] using this
theorem Rl.name_iff (s : ByteArray) : Rl.name (bs s) = true ↔ 1 ≤ s.size ∧ s.size ≤ 16 ∧ ∀ i (h : i < s.size), Rl.okAt i s[i] = true := by
  have e := bs_length s
  rw [Rl.name_list]
  constructor
  · rintro ⟨h1, h2, h3⟩
    exact ⟨by omega, by omega, fun i h => h3 i (by omega)⟩
  · rintro ⟨h1, h2, h3⟩
    exact ⟨by omega, by omega, fun i h => h3 i (by omega)⟩

set_option maxRecDepth 100000 in
set_option maxHeartbeats 1000000 in
theorem NameT_any (s : ByteArray) (w : World) (hs : s.size ≤ 1099511627) : Calls Try.prog 17 #[.string s] w fun e w' => e = .returned (.bool (Rl.name (bs s))) ∧ w' = w := by
  have HN : Hid _ := Rl.name_iff s
  generalize Rl.name (bs s) = P at *
  go_enter Try.func17, Try.ntmps17
  by_cases h1 : 1 ≤ s.size
  · by_cases h2 : s.size ≤ 16
    · have i1 : ¬ (s.size : Int) < 1 := by omega
      have i2 : ¬ (s.size : Int) > 16 := by omega
      go_wp2
      go_loopw [3] (fun i wr => ∃ k : Nat, k ≤ s.size ∧ i = .int .i64 (k : Int) ∧ wr = w ∧ Hid (∀ i (h : i < s.size), i < k → Rl.okAt i s[i] = true)) (fun i _ => s.size - (intOf i).toNat)
      case atStart => exact ⟨0, Nat.zero_le _, rfl, rfl, fun i h hi => by omega⟩
      case round =>
        obtain ⟨k, hk, rfl, rfl, HA⟩ := hrel
        clear i1 i2
        by_cases hlt : k < s.size
        · have i3 : (k : Int) < (s.size : Int) := by omega
          have HK : Hid (Rl.okAt k s[k] = true → ∀ i (h : i < s.size), i < k + 1 → Rl.okAt i s[i] = true) := by
            intro hok i h hi
            rcases Nat.lt_or_ge i k with hik | hik
            · exact HA.out i h hik
            · obtain rfl : i = k := by omega
              exact hok
          have HF : Hid (¬ Rl.okAt k s[k] = true → P = false) := by
            intro hno
            cases hP : P with
            | false => rfl
            | true => exact absurd ((HN.out.1 hP).2.2 k hlt) hno
          have HO : Hid (Rl.okAt k s[k] = (decide (65 ≤ s[k].toNat ∧ s[k].toNat ≤ 90) || (decide (k ≠ 0) && decide (48 ≤ s[k].toNat ∧ s[k].toNat ≤ 57 ∨ s[k].toNat = 95)))) := by
            show _ = _
            unfold Rl.okAt
            rw [other_iff]
            rfl
          have hx2 := s[k].toNat_lt
          generalize Rl.okAt k s[k] = Q at *
          by_cases hk0 : k = 0
          · have e0 : ((k : Int) == 0) = true := by rw [beq_iff_eq]; omega
            have HO0 : Hid (Q = true ↔ 65 ≤ s[k].toNat ∧ s[k].toNat ≤ 90) := by
              show _ ↔ _
              rw [HO.out, decide_eq_false (p := k ≠ 0) (by simpa using hk0), Bool.false_and, Bool.or_false, decide_eq_true_eq]
            clear hk0 HO
            go_wp2
            all_goals first
              | (refine ⟨⟨k + 1, by omega, by go_num, trivial, HK.out (HO0.out.2 (by first | omega | (simp at *; omega)))⟩, by simp [intOf]; omega⟩)
              | (go_ret
                 refine ⟨?_, rfl⟩
                 rw [HF.out (fun h => by have := HO0.out.1 h; first | omega | (simp at *; omega))]
                 rfl)
              | fail
          · have e0 : ((k : Int) == 0) = false := by rw [beq_eq_false_iff_ne]; omega
            have HO0 : Hid (Q = true ↔ (65 ≤ s[k].toNat ∧ s[k].toNat ≤ 90) ∨ (48 ≤ s[k].toNat ∧ s[k].toNat ≤ 57) ∨ s[k].toNat = 95) := by
              show _ ↔ _
              rw [HO.out, decide_eq_true (p := k ≠ 0) hk0, Bool.true_and, Bool.or_eq_true, decide_eq_true_eq, decide_eq_true_eq]
            clear hk0 HO
            go_wp2
            all_goals first
              | (refine ⟨⟨k + 1, by omega, by go_num, trivial, HK.out (HO0.out.2 (by first | omega | (simp at *; omega)))⟩, by simp [intOf]; omega⟩)
              | (go_ret
                 refine ⟨?_, rfl⟩
                 rw [HF.out (fun h => by have := HO0.out.1 h; first | omega | (simp at *; omega))]
                 rfl)
              | fail
        · obtain rfl : k = s.size := by omega
          have i3 : ¬ (s.size : Int) < (s.size : Int) := by omega
          go_wp2
          go_ret
          refine ⟨?_, rfl⟩
          rw [HN.out.2 ⟨h1, h2, fun i h => HA.out i h h⟩]
          rfl
    · have i1 : ¬ (s.size : Int) < 1 := by omega
      have i2 : (s.size : Int) > 16 := by omega
      go_wp2
      go_ret
      refine ⟨?_, rfl⟩
      have : P = false := by
        cases hP : P with
        | false => rfl
        | true => exact absurd (HN.out.1 hP).2.1 h2
      rw [this]
      rfl
  · have i1 : (s.size : Int) < 1 := by omega
    go_wp2
    go_ret
    refine ⟨?_, rfl⟩
    have : P = false := by
      cases hP : P with
      | false => rfl
      | true => exact absurd (HN.out.1 hP).1 h1
    rw [this]
    rfl

end Go.Proofs.Ythpipbkbldlfjaa

namespace Go.Proofs.Ythpipbkbldlfjaa
open Go.RowKit

theorem str_list (l : List UInt8) : (str l).toList = l := by rw [ByteArray.toList_eq, str_toList]
theorem bs_list (s : ByteArray) : s.toList = bs s := by rw [ByteArray.toList_eq]
theorem beq_dec (a b : List UInt8) : (a == b) = decide (a = b) := by
  rw [Bool.eq_iff_iff, beq_iff_eq, decide_eq_true_eq]
theorem below_box (w : World) (o : Obj) : Below w.heap.size w (w.alloc o) := (Below.refl _ _).alloc (Nat.le_refl _) _

set_option maxRecDepth 100000 in
theorem bareW_any (v : Lx.V) (s : ByteArray) (w : World) : Calls Try.prog 62 #[wdV v, .string s] w fun e w' => e = .returned (.bool (Rl.isW v (bs s))) ∧ Below w.heap.size w w' := by
  have hB : ∀ o, Below w.heap.size w (w.alloc o) := below_box w
  have HI : Hid (Rl.isW v (bs s) = (!v.quoted && !v.mark && ((str v.text).toList == s.toList))) := by
    show _ = _
    unfold Rl.isW
    rw [str_list, bs_list, beq_dec]
  generalize Rl.isW v (bs s) = K at *
  obtain ⟨t, l, c, q, m⟩ := v
  simp only at HI
  unfold wdV
  simp only
  generalize (str t) = T at *
  generalize hE : (T.toList == s.toList) = E at *
  go_enter Try.func62, Try.ntmps62
  cases q <;> cases m <;> (go_wp2; go_ret; rw [HI.out]; first | exact ⟨rfl, hB _⟩ | (simp [hE]; exact hB _) | skip)

set_option maxRecDepth 100000 in
theorem markW_any (v : Lx.V) (s : ByteArray) (w : World) : Calls Try.prog 63 #[wdV v, .string s] w fun e w' => e = .returned (.bool (Rl.isM v (bs s))) ∧ Below w.heap.size w w' := by
  have hB : ∀ o, Below w.heap.size w (w.alloc o) := below_box w
  have HI : Hid (Rl.isM v (bs s) = (v.mark && ((str v.text).toList == s.toList))) := by
    show _ = _
    unfold Rl.isM
    rw [str_list, bs_list, beq_dec]
  generalize Rl.isM v (bs s) = K at *
  obtain ⟨t, l, c, q, m⟩ := v
  simp only at HI
  unfold wdV
  simp only
  generalize (str t) = T at *
  generalize hE : (T.toList == s.toList) = E at *
  go_enter Try.func63, Try.ntmps63
  cases m <;> (go_wp2; go_ret; rw [HI.out]; first | exact ⟨rfl, hB _⟩ | (simp [hE]; exact hB _) | skip)

set_option maxRecDepth 100000 in
theorem wordW_any (v : Lx.V) (b : Bool) (w : World) (hs : v.text.length ≤ 1099511627) : Calls Try.prog 73 #[wdV v, .bool b] w fun e w' => e = .returned (.bool (Rl.okW b v)) ∧ Below w.heap.size w w' := by
  have hB : ∀ o, Below w.heap.size w (w.alloc o) := below_box w
  have HI : Hid (Rl.okW b v = if v.mark = true then b && !v.quoted && (((str v.text).toList == [58]) || ((str v.text).toList == [61])) else v.quoted || Lx.plain (bs (str v.text))) := by
    show _ = _
    unfold Rl.okW
    rw [str_list, bs_str, beq_dec, beq_dec]
  have hs' : (str v.text).size ≤ 1099511627 := by rw [str_size]; exact hs
  generalize Rl.okW b v = K at *
  obtain ⟨t, l, c, q, m⟩ := v
  simp only at HI hs'
  unfold wdV
  simp only
  clear hs
  generalize (str t) = T at *
  go_enter Try.func73, Try.ntmps73
  cases m with
  | true =>
    generalize hE : (T.toList == [58]) = E at *
    generalize hF : (T.toList == [61]) = F at *
    cases b <;> cases q <;> go_wp2
    all_goals (go_ret; rw [HI.out]; first | exact ⟨rfl, hB _⟩ | (cases E <;> cases F <;> first | exact ⟨rfl, hB _⟩ | (simp at *; done)) | fail)
  | false =>
    cases q with
    | true =>
      go_wp2
      go_ret
      rw [HI.out]
      exact ⟨rfl, hB _⟩
    | false =>
      go_wp2_with fail
      refine (PlainT_any T _ hs').mono ?_
      rintro e w1 ⟨rfl, rfl⟩
      go_wp2
      go_ret
      rw [HI.out]
      exact ⟨rfl, hB _⟩

set_option maxRecDepth 100000 in
set_option maxHeartbeats 1000000 in
theorem wordsW_any (v : Value) (l : List Lx.V) (b : Bool) (w : World) (B : Nat) (h : WdR.Sl w B v l) (hBw : B ≤ w.heap.size) (hl : l.length ≤ 1099511627) (ht : ∀ u ∈ l, u.text.length ≤ 1099511627) : Calls Try.prog 44 #[v, .bool b] w fun e w' => e = .returned (.bool (l.all (Rl.okW b))) ∧ Below w.heap.size w w' := by
  obtain ⟨ad, c, rfl, hle⟩ := h.shape
  have HTX : Hid _ := ht
  clear ht
  have HT : Hid ((∀ i (h : i < l.length), Rl.okW b l[i] = true) → l.all (Rl.okW b) = true) := fun h => by
    rw [List.all_eq_true]
    intro x hx
    obtain ⟨i, hi, rfl⟩ := List.getElem_of_mem hx
    exact h i hi
  have HF : Hid (∀ i (h : i < l.length), Rl.okW b l[i] = false → l.all (Rl.okW b) = false) := fun i h hf => by
    rw [List.all_eq_false]
    exact ⟨l[i], List.getElem_mem h, by rw [hf]; simp⟩
  generalize l.all (Rl.okW b) = K at *
  go_enter Try.func44, Try.ntmps44
  go_wp2
  go_loopw [5] (fun k wr => ∃ i : Nat, i ≤ l.length ∧ k = .int .i64 (i : Int) ∧ Hid (∀ j (h : j < l.length), j < i → Rl.okW b l[j] = true) ∧ Below w.heap.size w wr) (fun k _ => l.length - (intOf k).toNat)
  case atStart => exact ⟨0, Nat.zero_le _, rfl, fun j _ h => absurd h (Nat.not_lt_zero _), Below.refl _ _⟩
  case round =>
    obtain ⟨i, hi, rfl, HA, hD⟩ := hrel
    by_cases hlt : i < l.length
    · have i1 : (i : Int) < (l.length : Int) := by omega
      obtain ⟨b2, o2, cc2, e, -, r0, r1, r2, r3, r4⟩ := WdR.at (h.below hD hBw) i hlt
      simp only [Value.slice.injEq] at e
      obtain ⟨rfl, -, rfl⟩ := e
      obtain ⟨u, hu⟩ : ∃ u, l.getD i Lx.noV = u := ⟨_, rfl⟩
      have hui : l[i] = u := by rw [← hu]; simp [List.getD, List.getElem?_eq_getElem hlt]
      rw [hu] at r0 r1 r2 r3 r4
      have htx := HTX.out u (by rw [← hui]; exact List.getElem_mem hlt)
      have HU : Hid _ := hui
      clear hu hui
      have hc := wordW_any u b wr htx
      unfold wdV at hc
      go_wp2_with fail
      refine hc.mono ?_
      rintro e w1 ⟨rfl, hB1⟩
      have hD1 : Below w.heap.size w w1 := hD.trans (hB1.mono hD.size)
      cases hg : Rl.okW b u with
      | true =>
        have HG : Hid _ := hg
        clear hg
        go_wp2
        refine ⟨⟨i + 1, by omega, by go_num, fun j h hj => ?_, hD1⟩, by simp [intOf]; omega⟩
        rcases Nat.lt_or_ge j i with hji | hji
        · exact HA.out j h hji
        · obtain rfl : j = i := by omega
          rw [HU.out]
          exact HG.out
      | false =>
        have HG : Hid _ := hg
        clear hg
        go_wp2
        go_ret
        rw [HF.out i hlt (by rw [HU.out]; exact HG.out)]
        exact ⟨rfl, hD1⟩
    · obtain rfl : i = l.length := by omega
      have i1 : ¬ (l.length : Int) < (l.length : Int) := by omega
      go_wp2
      go_ret
      rw [HT.out fun j h => HA.out j h h]
      exact ⟨rfl, hD⟩

end Go.Proofs.Ythpipbkbldlfjaa

namespace Go.Proofs.Ythpipbkbldlfjaa
open Go.RowKit

set_option maxRecDepth 100000 in
set_option maxHeartbeats 4000000 in
theorem AlikeW_any (va vb : Value) (A C : List Lx.V) (w : World) (B : Nat) (ha : WdR.Sl w B va A) (hb : WdR.Sl w B vb C) (hAl : A.length ≤ 1099511627) :
    Calls Try.prog 47 #[va, vb] w fun e w' => e = .returned (.bool (decide (A.map Rl.bw = C.map Rl.bw))) ∧ ∃ q, w' = w.drewN q := by
  obtain ⟨ad, c, rfl, hle⟩ := ha.shape
  obtain ⟨ad', c', rfl, hle'⟩ := hb.shape
  obtain ⟨D, hDD⟩ : ∃ D, decide (A.map Rl.bw = C.map Rl.bw) = D := ⟨_, rfl⟩
  rw [hDD]
  have HNE : Hid (A.map Rl.bw ≠ C.map Rl.bw → D = false) := fun h => by rw [← hDD]; exact decide_eq_false h
  have HEQ : Hid (A.map Rl.bw = C.map Rl.bw → D = true) := fun h => by rw [← hDD]; exact decide_eq_true h
  clear hDD
  go_enter Try.func47, Try.ntmps47
  by_cases hlen : A.length = C.length
  · have n1 : ((A.length : Int) != (C.length : Int)) = false := by rw [bne_eq_false_iff_eq]; omega
    have HLE : Hid _ := hlen
    clear hlen
    go_wp2
    go_loopw [5] (fun k wr => ∃ i q : Nat, i ≤ A.length ∧ k = .int .i64 (i : Int) ∧ Hid ((A.map Rl.bw).take i = (C.map Rl.bw).take i) ∧ wr = w.drewN q) (fun k _ => A.length - (intOf k).toNat)
    case atStart => exact ⟨0, 0, Nat.zero_le _, rfl, by simp [Hid], rfl⟩
    case round =>
      obtain ⟨i, q, hi, rfl, HT, rfl⟩ := hrel
      by_cases hlt : i < A.length
      · have hlt' : i < C.length := by have := HLE.out; omega
        have i1 : (i : Int) < (A.length : Int) := by omega
        have i2 : (i : Int) < (C.length : Int) := by omega
        obtain ⟨b2, o2, cc2, e, -, r0, r1, r2, r3, r4⟩ := WdR.at ha i hlt
        simp only [Value.slice.injEq] at e
        obtain ⟨rfl, -, rfl⟩ := e
        obtain ⟨b3, o3, cc3, e, -, s0, s1, s2, s3, s4⟩ := WdR.at hb i hlt'
        simp only [Value.slice.injEq] at e
        obtain ⟨rfl, -, rfl⟩ := e
        obtain ⟨u, hu⟩ : ∃ u, A.getD i Lx.noV = u := ⟨_, rfl⟩
        obtain ⟨v, hv⟩ : ∃ v, C.getD i Lx.noV = v := ⟨_, rfl⟩
        rw [hu] at r0 r1 r2 r3 r4
        rw [hv] at s0 s1 s2 s3 s4
        have hu' : A[i] = u := by rw [← hu]; simp [List.getD, List.getElem?_eq_getElem hlt]
        have hv' : C[i] = v := by rw [← hv]; simp [List.getD, List.getElem?_eq_getElem hlt']
        have HNO : Hid (Rl.bw u ≠ Rl.bw v → D = false) := fun h => HNE.out fun h2 => h (by
          have := congrArg (fun l => l[i]?) h2
          simpa only [List.getElem?_map, List.getElem?_eq_getElem hlt, List.getElem?_eq_getElem hlt', Option.map_some, Option.some.injEq, hu', hv'] using this)
        have HYES : Hid (Rl.bw u = Rl.bw v → (A.map Rl.bw).take (i + 1) = (C.map Rl.bw).take (i + 1)) := fun h => by
          refine take_more (Rl.bw Lx.noV) (by rw [List.length_map]; exact hlt) (by rw [List.length_map]; exact hlt') HT.out ?_
          simp only [List.getD, List.getElem?_map, List.getElem?_eq_getElem hlt, List.getElem?_eq_getElem hlt', Option.map_some, Option.getD_some, hu', hv', h]
        clear hu hv hu' hv'
        by_cases ht : u.text = v.text
        · rw [← ht] at s0
          by_cases hq : u.quoted = v.quoted
          · rw [← hq] at s3
            by_cases hm : u.mark = v.mark
            · rw [← hm] at s4
              have HT3 : Hid _ := HYES.out (by simp only [Rl.bw, ht, hq, hm])
              clear ht hq hm HNO HYES
              go_wp2_with fail
              go_quiet (fail)
              go_wp2
              exact ⟨⟨i + 1, _, by omega, by go_num, HT3, rfl⟩, by simp [intOf]; omega⟩
            · have HF : Hid _ := HNO.out (fun h => hm (Rl.bw_eq h).2.2)
              have m4 : (u.mark == v.mark) = false := by rw [beq_eq_false_iff_ne]; exact hm
              clear ht hq hm HNO HYES
              go_wp2_with fail
              go_quiet (fail)
              go_wp2
              go_ret
              rw [HF.out]
              exact ⟨rfl, _, World.drewN_drewN _ _ _⟩
          · have HF : Hid _ := HNO.out (fun h => hq (Rl.bw_eq h).2.1)
            have m4 : (u.quoted == v.quoted) = false := by rw [beq_eq_false_iff_ne]; exact hq
            clear ht hq HNO HYES
            go_wp2_with fail
            go_quiet (fail)
            go_wp2
            go_ret
            rw [HF.out]
            exact ⟨rfl, _, World.drewN_drewN _ _ _⟩
        · have HF : Hid _ := HNO.out (fun h => ht (Rl.bw_eq h).1)
          have m5 : ¬ (str u.text).toList = (str v.text).toList := by rw [str_list, str_list]; exact ht
          have m6 : ((str u.text).toList != (str v.text).toList) = true := by rw [bne_iff_ne]; exact m5
          have m7 : ((str u.text).toList == (str v.text).toList) = false := by rw [beq_eq_false_iff_ne]; exact m5
          clear ht HNO HYES
          go_wp2_with fail
          go_quiet (fail)
          go_wp2
          go_ret
          rw [HF.out]
          exact ⟨rfl, _, World.drewN_drewN _ _ _⟩
      · obtain rfl : i = A.length := by omega
        have i1 : ¬ (A.length : Int) < (A.length : Int) := by omega
        have HE : Hid (A.map Rl.bw = C.map Rl.bw) := by
          show _ = _
          have := HT.out
          rwa [List.take_of_length_le (by rw [List.length_map]; omega), List.take_of_length_le (by rw [List.length_map, ← HLE.out]; omega)] at this
        clear HT
        go_wp2
        go_ret
        rw [HEQ.out HE.out]
        exact ⟨rfl, _, rfl⟩
  · have n1 : ((A.length : Int) != (C.length : Int)) = true := by rw [bne_iff_ne]; omega
    have HF : Hid (D = false) := HNE.out fun h => hlen (by have := congrArg List.length h; simpa using this)
    clear hlen
    go_wp2
    go_ret
    rw [HF.out]
    exact ⟨rfl, 0, rfl⟩

end Go.Proofs.Ythpipbkbldlfjaa

namespace Go.Proofs.Ythpipbkbldlfjaa
open Go.RowKit

/-- an item as it lies in a row -/
structure RawI where
  kind : Int
  line : Int
  name : List UInt8
  ta : Option Addr
  tn : Nat
  tc : Nat
  wa : Option Addr
  wn : Nat
  wc : Nat
  ca : Option Addr
  cn : Nat
  cc : Nat
def RawI.targets (r : RawI) : Value := .slice r.ta r.tn r.tc
def RawI.words (r : RawI) : Value := .slice r.wa r.wn r.wc
def RawI.code (r : RawI) : Value := .slice r.ca r.cn r.cc
/-- rows of items as they lie -/
def ItR : Rc RawI where
  e := 33
  st := 23
  k := 6
  bytes := 104
  z := .agg #[.int .i64 0, .int .i64 0, .string .empty, .slice none 0 0, .slice none 0 0, .slice none 0 0]
  enc r := [.int .i64 r.kind, .int .i64 r.line, .string (str r.name), .slice r.ta r.tn r.tc, .slice r.wa r.wn r.wc, .slice r.ca r.cn r.cc]
  pos := by decide
  len _ := rfl
  one f u hu := by
    simp only [List.mem_cons, List.not_mem_nil, or_false] at hu
    rcases hu with rfl | rfl | rfl | rfl | rfl | rfl <;> rfl
  info := by kernel_rfl
  under := Try.underlying23
  zk := rfl
  small := by decide
/-- an item that lies here reads as this one -/
structure ItOf (w : World) (B : Nat) (r : RawI) (x : Rl.It) : Prop where
  kind : r.kind = x.kind
  line : r.line = x.line
  name : r.name = x.name
  targets : WdR.Sl w B r.targets x.targets
  words : WdR.Sl w B r.words x.words
  code : LnsS w B r.code x.code
theorem ItOf.below {w w' : World} {B B' : Nat} {r : RawI} {x : Rl.It} (h : ItOf w B r x) (hb : Below B' w w') (hB : B ≤ B') : ItOf w' B r x :=
  ⟨h.kind, h.line, h.name, h.targets.below hb hB, h.words.below hb hB, h.code.below hb hB⟩
/-- v reads as items -/
def ItsS (w : World) (B : Nat) (v : Value) (A : List Rl.It) : Prop :=
  ∃ ps : List (RawI × Rl.It), ItR.Sl w B v (ps.map Prod.fst) ∧ A = ps.map Prod.snd ∧ ∀ p ∈ ps, ItOf w B p.1 p.2
theorem ItsS.below {w w' : World} {B B' : Nat} {v : Value} {A : List Rl.It} (h : ItsS w B v A) (hb : Below B' w w') (hB : B ≤ B') : ItsS w' B v A := by
  obtain ⟨ps, h1, h2, h3⟩ := h
  exact ⟨ps, h1.below hb hB, h2, fun p hp => (h3 p hp).below hb hB⟩
theorem ItOf.mono {w : World} {B B' : Nat} {r : RawI} {x : Rl.It} (h : ItOf w B r x) (hB : B ≤ B') : ItOf w B' r x := by
  obtain ⟨ps, h1, h2, h3⟩ := h.code
  exact ⟨h.kind, h.line, h.name, h.targets.mono hB, h.words.mono hB, ps, h1.mono hB, h2, fun p hp => ⟨(h3 p hp).1, (h3 p hp).2.1, (h3 p hp).2.2.mono hB⟩⟩
theorem ItsS.mono {w : World} {B B' : Nat} {v : Value} {A : List Rl.It} (h : ItsS w B v A) (hB : B ≤ B') : ItsS w B' v A := by
  obtain ⟨ps, h1, h2, h3⟩ := h
  exact ⟨ps, h1.mono hB, h2, fun p hp => (h3 p hp).mono hB⟩
theorem ItsS.shape {w : World} {B : Nat} {v : Value} {A : List Rl.It} (h : ItsS w B v A) : ∃ ad c, v = .slice ad A.length c ∧ A.length ≤ c := by
  obtain ⟨ps, h1, rfl, -⟩ := h
  obtain ⟨ad, c, e, hc⟩ := h1.shape
  rw [List.length_map] at e hc ⊢
  exact ⟨ad, c, e, hc⟩
def Rl.noI : Rl.It := ⟨0, 0, [], [], [], []⟩
/-- an item's cells -/
def itCs (x : Rl.It) (ta : Option Addr) (tc : Nat) (wa : Option Addr) (wc : Nat) (ca : Option Addr) (cc : Nat) : Array Value :=
  #[.int .i64 x.kind, .int .i64 x.line, .string (str x.name), .slice ta x.targets.length tc, .slice wa x.words.length wc, .slice ca x.code.length cc]
/-- the cells of an item, and its rows -/
theorem ItsS.at {w : World} {B : Nat} {v : Value} {A : List Rl.It} (h : ItsS w B v A) (j : Nat) (hj : j < A.length) :
    ∃ b o c ta tc wa wc ca cc, v = .slice (some ⟨b, o, none⟩) A.length c ∧ b < B ∧
      (∀ f u, (itCs (A.getD j Rl.noI) ta tc wa wc ca cc)[f]? = some u → w.cell? ⟨b, o + j * 6 + f, none⟩ = some u) ∧
      WdR.Sl w B (.slice ta (A.getD j Rl.noI).targets.length tc) (A.getD j Rl.noI).targets ∧ WdR.Sl w B (.slice wa (A.getD j Rl.noI).words.length wc) (A.getD j Rl.noI).words ∧ LnsS w B (.slice ca (A.getD j Rl.noI).code.length cc) (A.getD j Rl.noI).code := by
  obtain ⟨ps, h1, rfl, h3⟩ := h
  rw [List.length_map] at hj
  obtain ⟨b, o, c, e, hb, hc⟩ := h1.cells j (by rw [List.length_map]; exact hj)
  have hg : (ps.map Prod.snd).getD j Rl.noI = ps[j].2 := by simp [List.getD, List.getElem?_eq_getElem hj]
  rw [hg]
  obtain ⟨k1, k2, k3, k4, k5, k6⟩ := h3 ps[j] (List.getElem_mem hj)
  obtain ⟨ta, tc, e1, -⟩ := k4.shape
  obtain ⟨wa, wc, e2, -⟩ := k5.shape
  obtain ⟨ca, cc, e3, -⟩ := k6.shape
  rw [e1] at k4
  rw [e2] at k5
  rw [e3] at k6
  refine ⟨b, o, c, ta, tc, wa, wc, ca, cc, by rw [e]; simp, hb, ?_, k4, k5, k6⟩
  intro f u hu
  have hl : f < 6 := by
    have := (Array.getElem?_eq_some_iff.1 hu).1
    simpa [itCs] using this
  have := hc f u hl (by
    rw [List.getElem_map]
    unfold RawI.targets at e1
    unfold RawI.words at e2
    unfold RawI.code at e3
    show [Value.int .i64 ps[j].1.kind, .int .i64 ps[j].1.line, .string (str ps[j].1.name), .slice ps[j].1.ta ps[j].1.tn ps[j].1.tc, .slice ps[j].1.wa ps[j].1.wn ps[j].1.wc, .slice ps[j].1.ca ps[j].1.cn ps[j].1.cc][f]? = some u
    rw [k1, k2, k3, e1, e2, e3]
    simpa [itCs] using hu)
  rw [show o + (j * ItR.k + f) = o + j * 6 + f from by show o + (j * 6 + f) = _; omega] at this
  exact this

end Go.Proofs.Ythpipbkbldlfjaa
