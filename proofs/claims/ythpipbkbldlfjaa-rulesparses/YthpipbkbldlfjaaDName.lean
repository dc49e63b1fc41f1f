/-
  WHAT THE PROGRAM's capital, digit, Name DO.
-/
import Derived.Test.YthpipbkbldlfjaaRName
import Derived.Test.YthpipbkbldlfjaaRlRead
import Derived.Deep.RegionHeld3
import Derived.Test.YthpipbkbldlfjaaKit
namespace Go.Proofs.Ythpipbkbldlfjaa
open Go.RowKit

set_option maxRecDepth 100000 in
theorem capital_any (c : UInt8) (w : World) : Calls Try.prog 35 #[.int .u8 (c.toNat : Int)] w fun e w' => e = .returned (.bool (Rl.big c)) ∧ w' = w := by
  have HB : Hid (Rl.big c = decide (65 ≤ c.toNat ∧ c.toNat ≤ 90)) := rfl
  generalize Rl.big c = b at *
  go_enter Try.func35, Try.ntmps35
  by_cases h1 : 65 ≤ c.toNat
  · have i1 : (65 : Int) ≤ (c.toNat : Int) := by omega
    by_cases h2 : c.toNat ≤ 90
    · have i2 : (c.toNat : Int) ≤ 90 := by omega
      go_wp2
      go_ret
      rw [HB.out, decide_eq_true ⟨h1, h2⟩]
      exact ⟨rfl, rfl⟩
    · have i2 : ¬ (c.toNat : Int) ≤ 90 := by omega
      go_wp2
      go_ret
      rw [HB.out, decide_eq_false (fun h => h2 h.2)]
      exact ⟨rfl, rfl⟩
  · have i1 : ¬ (65 : Int) ≤ (c.toNat : Int) := by omega
    go_wp2
    go_ret
    rw [HB.out, decide_eq_false (fun h => h1 h.1)]
    exact ⟨rfl, rfl⟩
def Rl.dig (c : UInt8) : Bool := decide (48 ≤ c.toNat ∧ c.toNat ≤ 57)
set_option maxRecDepth 100000 in
theorem digit_any (c : UInt8) (w : World) : Calls Try.prog 36 #[.int .u8 (c.toNat : Int)] w fun e w' => e = .returned (.bool (Rl.dig c)) ∧ w' = w := by
  have HB : Hid (Rl.dig c = decide (48 ≤ c.toNat ∧ c.toNat ≤ 57)) := rfl
  generalize Rl.dig c = b at *
  go_enter Try.func36, Try.ntmps36
  by_cases h1 : 48 ≤ c.toNat
  · have i1 : (48 : Int) ≤ (c.toNat : Int) := by omega
    by_cases h2 : c.toNat ≤ 57
    · have i2 : (c.toNat : Int) ≤ 57 := by omega
      go_wp2
      go_ret
      rw [HB.out, decide_eq_true ⟨h1, h2⟩]
      exact ⟨rfl, rfl⟩
    · have i2 : ¬ (c.toNat : Int) ≤ 57 := by omega
      go_wp2
      go_ret
      rw [HB.out, decide_eq_false (fun h => h2 h.2)]
      exact ⟨rfl, rfl⟩
  · have i1 : ¬ (48 : Int) ≤ (c.toNat : Int) := by omega
    go_wp2
    go_ret
    rw [HB.out, decide_eq_false (fun h => h1 h.1)]
    exact ⟨rfl, rfl⟩

theorem Rl.name_first (s : ByteArray) : Rl.name (bs s) = true ↔ ∃ h : 0 < s.size, s.size ≤ 16 ∧ Rl.big s[0] = true ∧ ∀ i (h : i < s.size), (Rl.big s[i] || Rl.other s[i]) = true := by
  rw [Rl.name_iff]
  constructor
  · rintro ⟨h1, h2, h3⟩
    refine ⟨by omega, h2, ?_, fun i h => ?_⟩
    · have := h3 0 (by omega)
      simpa [Rl.okAt] using this
    · have := h3 i h
      unfold Rl.okAt at this
      cases hb : Rl.big s[i] with
      | true => rfl
      | false =>
        rw [hb, Bool.false_or, Bool.and_eq_true] at this
        rw [this.2]; rfl
  · rintro ⟨h1, h2, h3, h4⟩
    refine ⟨by omega, h2, fun i h => ?_⟩
    unfold Rl.okAt
    by_cases hi : i = 0
    · subst hi
      rw [h3]; rfl
    · have := h4 i h
      rw [decide_eq_true hi, Bool.true_and]
      exact this

theorem other_dig (c : UInt8) : Rl.other c = (Rl.dig c || decide (c.toNat = 95)) := by
  have h : ∀ n : Fin 256, Rl.other (UInt8.ofNat n.1) = (Rl.dig (UInt8.ofNat n.1) || decide (n.1 = 95)) := by decide +kernel
  have := h ⟨c.toNat, c.toNat_lt⟩
  simpa using this

set_option maxRecDepth 100000 in
set_option maxHeartbeats 1000000 in
theorem Name_any (s : ByteArray) (w : World) : Calls Try.prog 16 #[.string s] w fun e w' => e = .returned (.bool (Rl.name (bs s))) ∧ w' = w := by
  have HN : Hid _ := Rl.name_first s
  have HNO : Hid (¬ Rl.name (bs s) = true → Rl.name (bs s) = false) := fun h => by simpa using h
  generalize Rl.name (bs s) = P at *
  go_enter Try.func16, Try.ntmps16
  by_cases h1 : 0 < s.size
  · have e0 : (s.toList == []) = false := by
      rw [beq_eq_false_iff_ne, ByteArray.toList_eq]
      intro e
      have := bs_length s
      unfold bs at this
      rw [e] at this
      simp at this
      omega
    have e1 : ¬ s.toList = [] := by rw [beq_eq_false_iff_ne] at e0; exact e0
    have e2 : s.toList.isEmpty = false := by rw [List.isEmpty_eq_false_iff]; exact e1
    by_cases h2 : s.size ≤ 16
    · have i2 : ¬ (16 : Int) < (s.size : Int) := by omega
      have i3 : (0 : Int) < (s.size : Int) := by omega
      go_wp2_with fail
      refine (capital_any s[0] _).mono ?_
      rintro e w1 ⟨rfl, rfl⟩
      cases hb : Rl.big s[0] with
      | false =>
        have HF : Hid (P = false) := HNO.out (fun h => by
          obtain ⟨_, _, h3, _⟩ := HN.out.1 h
          rw [hb] at h3
          cases h3)
        clear hb
        go_wp2
        go_ret
        rw [HF.out]
        exact ⟨rfl, rfl⟩
      | true =>
        have HB : Hid _ := hb
        clear hb e0 e1 e2
        go_wp2
        go_loopw [20] (fun i wr => ∃ k : Nat, k ≤ s.size ∧ i = .int .i64 (k : Int) ∧ wr = w1 ∧ Hid (∀ i (h : i < s.size), i < k → (Rl.big s[i] || Rl.other s[i]) = true)) (fun i _ => s.size - (intOf i).toNat)
        case atStart => exact ⟨0, Nat.zero_le _, rfl, rfl, fun i h hi => by omega⟩
        case round =>
          obtain ⟨k, hk, rfl, rfl, HA⟩ := hrel
          by_cases hlt : k < s.size
          · have i4 : (k : Int) < (s.size : Int) := by omega
            have HK : Hid ((Rl.big s[k] || Rl.other s[k]) = true → ∀ i (h : i < s.size), i < k + 1 → (Rl.big s[i] || Rl.other s[i]) = true) := by
              intro hok i h hi
              rcases Nat.lt_or_ge i k with hik | hik
              · exact HA.out i h hik
              · obtain rfl : i = k := by omega
                exact hok
            have HF : Hid ((Rl.big s[k] || Rl.other s[k]) = false → P = false) := fun hno => HNO.out fun h => by
              obtain ⟨_, _, _, h4⟩ := HN.out.1 h
              have := h4 k hlt
              rw [hno] at this
              cases this
            rw [other_dig] at HK HF
            have hcap := capital_any s[k] wr
            have hdig := digit_any s[k] wr
            cases hb : Rl.big s[k] with
            | true =>
              rw [hb] at hcap HK HF
              have HK1 : Hid _ := HK.out rfl
              clear hb HK HF
              go_wp2_with fail
              refine hcap.mono ?_
              rintro e w2 ⟨rfl, rfl⟩
              go_wp2
              exact ⟨⟨k + 1, by omega, by go_num, trivial, HK1⟩, by simp [intOf]; omega⟩
            | false =>
              rw [hb] at hcap HK HF
              cases hd : Rl.dig s[k] with
              | true =>
                rw [hd] at hdig HK HF
                have HK1 : Hid _ := HK.out rfl
                clear hb HK HF hd
                go_wp2_with fail
                refine hcap.mono ?_
                rintro e w2 ⟨rfl, rfl⟩
                go_wp2_with fail
                refine hdig.mono ?_
                rintro e w2 ⟨rfl, rfl⟩
                go_wp2
                exact ⟨⟨k + 1, by omega, by go_num, trivial, HK1⟩, by simp [intOf]; omega⟩
              | false =>
                rw [hd] at hdig HK HF
                clear hb hd
                by_cases h95 : s[k].toNat = 95
                · have HK1 : Hid _ := HK.out (by rw [h95]; rfl)
                  have n1 : ((s[k].toNat : Int) != 95) = false := by rw [bne_eq_false_iff_eq]; omega
                  clear HK HF h95
                  go_wp2_with fail
                  refine hcap.mono ?_
                  rintro e w2 ⟨rfl, rfl⟩
                  go_wp2_with fail
                  refine hdig.mono ?_
                  rintro e w2 ⟨rfl, rfl⟩
                  go_wp2
                  exact ⟨⟨k + 1, by omega, by go_num, trivial, HK1⟩, by simp [intOf]; omega⟩
                · have HF1 : Hid (P = false) := HF.out (by rw [decide_eq_false h95]; rfl)
                  have n1 : ((s[k].toNat : Int) != 95) = true := by rw [bne_iff_ne]; omega
                  clear HK HF h95
                  go_wp2_with fail
                  refine hcap.mono ?_
                  rintro e w2 ⟨rfl, rfl⟩
                  go_wp2_with fail
                  refine hdig.mono ?_
                  rintro e w2 ⟨rfl, rfl⟩
                  go_wp2
                  go_ret
                  rw [HF1.out]
                  exact ⟨rfl, rfl⟩
          · obtain rfl : k = s.size := by omega
            have i4 : ¬ (s.size : Int) < (s.size : Int) := by omega
            have HT : Hid (P = true) := HN.out.2 ⟨h1, h2, HB.out, fun i h => HA.out i h h⟩
            go_wp2
            go_ret
            rw [HT.out]
            exact ⟨rfl, rfl⟩
    · have i2 : (16 : Int) < (s.size : Int) := by omega
      have HF : Hid (P = false) := HNO.out (fun h => by
        obtain ⟨_, h3, _⟩ := HN.out.1 h
        exact h2 h3)
      go_wp2
      go_ret
      rw [HF.out]
      exact ⟨rfl, rfl⟩
  · have e0 : s = ByteArray.empty := by
      apply ByteArray.ext
      have : s.data.size = 0 := by
        have := show s.data.size = s.size from rfl
        omega
      exact Array.eq_empty_of_size_eq_zero this
    have HF : Hid (P = false) := HNO.out (fun h => by
      obtain ⟨h3, _⟩ := HN.out.1 h
      exact h1 h3)
    clear HN HNO h1
    subst e0
    go_wp2
    go_ret
    rw [HF.out]
    exact ⟨rfl, rfl⟩

theorem NameL_any (s : ByteArray) (w : World) (_hs : s.size ≤ 262144) : Calls Try.prog 16 #[.string s] w fun e w' => e = .returned (.bool (Rl.name (bs s))) ∧ Below w.heap.size w w' :=
  (Name_any s w).mono fun _ _ ⟨h1, h2⟩ => ⟨h1, by rw [h2]; exact Below.refl _ _⟩

end Go.Proofs.Ythpipbkbldlfjaa

namespace Go.Proofs.Ythpipbkbldlfjaa
open Go.RowKit

/-- two results that lie in memory -/
theorem results_two_rows {P : Program} {fn : Func} {p q : Tmp} {ty tz : TypeId} (h : fn.results = #[.cell p ty, .cell q tz]) (tmps : Array Value) (w : World) (g1 g2 : Nat) (t1 t2 : TypeId) (cs ds : Array Value) (f1 f2 : Nat × Nat) (d1 d2 : TypeDesc)
    (hp : tmps.getD p undef = .pointer (some ⟨g1, 0, none⟩)) (hq : tmps.getD q undef = .pointer (some ⟨g2, 0, none⟩)) (hg1 : w.heap[g1]? = some (.cells cs t1 f1)) (hg2 : w.heap[g2]? = some (.cells ds t2 f2))
    (hu1 : P.underlying ty = some d1) (hd1 : (match d1 with | .struct _ | .array _ _ => true | _ => false) = true) (hi1 : (P.info? ty).map (·.size) = some cs.size)
    (hu2 : P.underlying tz = some d2) (hd2 : (match d2 with | .struct _ | .array _ _ => true | _ => false) = true) (hi2 : (P.info? tz).map (·.size) = some ds.size) :
    (results fn tmps).run P w = .ok (.tuple #[.agg cs, .agg ds]) w := by
  have hp' : tmps[p]?.getD undef = .pointer (some ⟨g1, 0, none⟩) := by simpa using hp
  have hq' : tmps[q]?.getD undef = .pointer (some ⟨g2, 0, none⟩) := by simpa using hq
  simp [results, h, hp', hq', asAddr, run_loadVar_row w g1 t1 ty cs f1 d1 hg1 hu1 hd1 hi1, run_loadVar_row w g2 t2 tz ds f2 d2 hg2 hu2 hd2 hi2]

/-- an item's cells as it lies -/
def itCells (r : RawI) : Array Value := #[.int .i64 r.kind, .int .i64 r.line, .string (str r.name), .slice r.ta r.tn r.tc, .slice r.wa r.wn r.wc, .slice r.ca r.cn r.cc]
def itV (r : RawI) : Value := .agg (itCells r)
def noRaw : RawI := ⟨0, 0, [], none, 0, 0, none, 0, 0, none, 0, 0⟩
def whCs (e l c : Int) : Array Value := #[.int .i64 e, .string .empty, .int .i64 l, .int .i64 c]
/-- an item's and a place's block -/
structure Outs (W : World) (g1 g2 : Nat) (cs ds : Array Value) : Prop where
  it : W.heap[g1]? = some (.cells cs 33 (0, 0))
  wh : W.heap[g2]? = some (.cells ds 26 (0, 0))
theorem Outs.below {W W' : World} {B g1 g2 : Nat} {cs ds : Array Value} (h : Outs W g1 g2 cs ds) (hb : Below B W W') (h1 : g1 < B) (h2 : g2 < B) : Outs W' g1 g2 cs ds :=
  ⟨(hb.block g1 h1).trans h.it, (hb.block g2 h2).trans h.wh⟩
theorem set6 {W : World} {g : Nat} {t : TypeId} {x0 x1 x2 x3 x4 x5 a0 a1 a2 a3 a4 a5 : Value} (h : W.heap[g]? = some (.cells #[x0, x1, x2, x3, x4, x5] t (0, 0))) :
    ((((((W.setCell ⟨g, 0, none⟩ a0).setCell ⟨g, 1, none⟩ a1).setCell ⟨g, 2, none⟩ a2).setCell ⟨g, 3, none⟩ a3).setCell ⟨g, 4, none⟩ a4).setCell ⟨g, 5, none⟩ a5).heap[g]? = some (.cells #[a0, a1, a2, a3, a4, a5] t (0, 0)) := by
  have h0 := heap_setCell_same W g 0 _ t a0 h
  have h1 := heap_setCell_same _ g 1 _ t a1 h0
  have h2 := heap_setCell_same _ g 2 _ t a2 h1
  have h3 := heap_setCell_same _ g 3 _ t a3 h2
  have h4 := heap_setCell_same _ g 4 _ t a4 h3
  have h5 := heap_setCell_same _ g 5 _ t a5 h4
  rw [h5]
  rfl
theorem set4 {W : World} {g : Nat} {t : TypeId} {x0 x1 x2 x3 a0 a1 a2 a3 : Value} (h : W.heap[g]? = some (.cells #[x0, x1, x2, x3] t (0, 0))) :
    ((((W.setCell ⟨g, 0, none⟩ a0).setCell ⟨g, 1, none⟩ a1).setCell ⟨g, 2, none⟩ a2).setCell ⟨g, 3, none⟩ a3).heap[g]? = some (.cells #[a0, a1, a2, a3] t (0, 0)) := by
  have h0 := heap_setCell_same W g 0 _ t a0 h
  have h1 := heap_setCell_same _ g 1 _ t a1 h0
  have h2 := heap_setCell_same _ g 2 _ t a2 h1
  have h3 := heap_setCell_same _ g 3 _ t a3 h2
  rw [h3]
  rfl

set_option maxRecDepth 100000 in
set_option maxHeartbeats 1000000 in
theorem CloneW_any (l : List Lx.V) (v : Value) (B : Nat) (w : World) (hv : WdR.Sl w B v l) (hB : B ≤ w.heap.size) (hl : l.length ≤ 1099511) :
    Calls Try.prog 83 #[v] w fun e w' => ∃ v', e = .returned v' ∧ WdR.Own w' w.heap.size v' l ∧ Below w.heap.size w w' := by
  have hv0 := hv
  obtain ⟨ad, c, rfl, _, hn, _⟩ := hv0
  cases ad with
  | none =>
    have hc0 := hn rfl
    subst hc0
    have hm : l = [] := List.eq_nil_of_length_eq_zero (by omega)
    subst hm
    have hnil := fun W : World => Lib.run_eql_slice_nil (P := Try.prog) W 30 36 none 0 0 0 0 Try.underlying30
    go_enter Try.func83, Try.ntmps83
    go_wp2
    go_ret
    exact ⟨_, rfl, Rc.Own.nil _ _, Below.refl _ _⟩
  | some x =>
    have Hl : Hid (([] : List Lx.V).length + l.length ≤ 1099511627) := by show _ ≤ _; simp; omega
    clear hl
    have h0 : WdR.Own (w.alloc (.cells #[] 36)) w.heap.size (.slice (some ⟨w.heap.size, 0, none⟩) 0 0) [] := World.ownsRow_lit (size := 5) w #[] 0 (Nat.le_refl _) (by decide) rfl
    have hnil := fun W : World => Lib.run_eql_slice_nil (P := Try.prog) W 30 36 (some x) l.length c 0 0 Try.underlying30
    go_enter Try.func83, Try.ntmps83
    go_wp2_with (at_builtin; go_must (refine WdR.append rfl (.tmp 5) (.tmp 6) rfl w.heap.size B _ _ [] l rfl h0 rfl (hv.alloc hB _) Hl (by simp) ?_))
    intro v' w' h1 h2
    go_wp2
    go_ret
    exact ⟨_, rfl, h1, ((Below.refl _ w).alloc (Nat.le_refl _) _).grown h2 (by simp) fun k hk => (World.ownsRow.lt h0 k hk).1⟩
set_option maxRecDepth 100000 in
set_option maxHeartbeats 1000000 in
theorem CloneL_any (l : List RawL) (v : Value) (B : Nat) (w : World) (hv : LnR.Sl w B v l) (hB : B ≤ w.heap.size) (hl : l.length ≤ 1099511) :
    Calls Try.prog 30 #[v] w fun e w' => ∃ v', e = .returned v' ∧ LnR.Own w' w.heap.size v' l ∧ Below w.heap.size w w' := by
  have hv0 := hv
  obtain ⟨ad, c, rfl, _, hn, _⟩ := hv0
  cases ad with
  | none =>
    have hc0 := hn rfl
    subst hc0
    have hm : l = [] := List.eq_nil_of_length_eq_zero (by omega)
    subst hm
    have hnil := fun W : World => Lib.run_eql_slice_nil (P := Try.prog) W 31 48 none 0 0 0 0 Try.underlying31
    go_enter Try.func30, Try.ntmps30
    go_wp2
    go_ret
    exact ⟨_, rfl, Rc.Own.nil _ _, Below.refl _ _⟩
  | some x =>
    have Hl : Hid (([] : List RawL).length + l.length ≤ 1099511627) := by show _ ≤ _; simp; omega
    clear hl
    have h0 : LnR.Own (w.alloc (.cells #[] 48)) w.heap.size (.slice (some ⟨w.heap.size, 0, none⟩) 0 0) [] := World.ownsRow_lit (size := 3) w #[] 0 (Nat.le_refl _) (by decide) rfl
    have hnil := fun W : World => Lib.run_eql_slice_nil (P := Try.prog) W 31 48 (some x) l.length c 0 0 Try.underlying31
    go_enter Try.func30, Try.ntmps30
    go_wp2_with (at_builtin; go_must (refine LnR.append rfl (.tmp 5) (.tmp 6) rfl w.heap.size B _ _ [] l rfl h0 rfl (hv.alloc hB _) Hl (by simp) ?_))
    intro v' w' h1 h2
    go_wp2
    go_ret
    exact ⟨_, rfl, h1, ((Below.refl _ w).alloc (Nat.le_refl _) _).grown h2 (by simp) fun k hk => (World.ownsRow.lt h0 k hk).1⟩

theorem Rl.fm_drop {ws : List Lx.V} {k : Nat} (h : k < ws.length) (hm : (ws.getD k Lx.noV).mark = false) : k + Rl.fm (ws.drop k) = k + 1 + Rl.fm (ws.drop (k + 1)) := by
  rw [List.drop_eq_getElem_cons h, Rl.fm_cons]
  have e : ws.getD k Lx.noV = ws[k] := by simp [List.getD, List.getElem?_eq_getElem h]
  rw [e] at hm
  rw [hm]
  simp only [Bool.false_eq_true, if_false]
  omega
theorem Rl.fm_here {ws : List Lx.V} {k : Nat} (h : k < ws.length) (hm : (ws.getD k Lx.noV).mark = true) : Rl.fm (ws.drop k) = 0 := by
  rw [List.drop_eq_getElem_cons h, Rl.fm_cons]
  have e : ws.getD k Lx.noV = ws[k] := by simp [List.getD, List.getElem?_eq_getElem h]
  rw [e] at hm
  rw [hm]
  rfl

set_option maxRecDepth 100000 in
set_option maxHeartbeats 1000000 in
theorem firstMark_any (v : Value) (l : List Lx.V) (w : World) (B : Nat) (h : WdR.Sl w B v l) (hBw : B ≤ w.heap.size) (hl : l.length ≤ 1099511627) : Calls Try.prog 71 #[v] w fun e w' => e = .returned (.int .i64 (Rl.fm l : Int)) ∧ Below w.heap.size w w' := by
  obtain ⟨ad, c, rfl, hle⟩ := h.shape
  have HM : Hid (Rl.fm l = 0 + Rl.fm (l.drop 0)) := by show _ = _; rw [Nat.zero_add]; rfl
  generalize Rl.fm l = K at *
  go_enter Try.func71, Try.ntmps71
  go_wp2
  go_loopw [7] (fun k wr => ∃ i : Nat, i ≤ l.length ∧ k = .int .i64 (i : Int) ∧ Hid (K = i + Rl.fm (l.drop i)) ∧ Below w.heap.size w wr) (fun k _ => l.length - (intOf k).toNat)
  case atStart => exact ⟨0, Nat.zero_le _, rfl, HM, Below.refl _ _⟩
  case round =>
    obtain ⟨i, hi, rfl, HA, hD⟩ := hrel
    by_cases hlt : i < l.length
    · have i1 : (i : Int) < (l.length : Int) := by omega
      obtain ⟨b2, o2, cc2, e, -, r0, r1, r2, r3, r4⟩ := WdR.at (h.below hD hBw) i hlt
      simp only [Value.slice.injEq] at e
      obtain ⟨rfl, -, rfl⟩ := e
      have H1 : Hid ((l.getD i Lx.noV).mark = true → K = i) := fun hm => by rw [HA.out, Rl.fm_here hlt hm, Nat.add_zero]
      have H2 : Hid ((l.getD i Lx.noV).mark = false → K = i + 1 + Rl.fm (l.drop (i + 1))) := fun hm => by rw [HA.out, Rl.fm_drop hlt hm]
      clear HA
      generalize l.getD i Lx.noV = u at *
      obtain ⟨ut, ul, uc, uq, um⟩ := u
      simp only at r0 r1 r2 r3 r4 H1 H2
      have hD2 := hD.alloc hD.size (.cells #[.string (str ut), .int .i64 ul, .int .i64 uc, .bool uq, .bool um] 36)
      cases um with
      | true =>
        go_wp2
        go_ret
        rw [H1.out trivial]
        exact ⟨rfl, hD2⟩
      | false =>
        go_wp2
        exact ⟨⟨i + 1, by omega, by go_num, H2.out rfl, hD2⟩, by simp [intOf]; omega⟩
    · obtain rfl : i = l.length := by omega
      have i1 : ¬ (l.length : Int) < (l.length : Int) := by omega
      have HE : Hid (K = l.length) := by
        show _ = _
        rw [HA.out, List.drop_length]
        rfl
      go_wp2
      go_ret
      rw [HE.out]
      exact ⟨rfl, hD⟩

set_option maxRecDepth 100000 in
set_option maxHeartbeats 1000000 in
theorem rwrong_any (er : Int) (u : Lx.V) (w : World) : Calls Try.prog 52 #[.int .i64 er, wdV u] w fun e w' => e = .returned (.tuple #[itV noRaw, .agg (whCs er u.line u.col)]) ∧ Below w.heap.size w w' := by
  obtain ⟨ut, ul, uc, uq, um⟩ := u
  unfold wdV
  simp only
  go_enter Try.func52, Try.ntmps52
  go_wp2
  go_region
  go_wp2
  have hz1 : (w.alloc (.cells #[.string (str ut), .int .i64 ul, .int .i64 uc, .bool uq, .bool um] 36)).heap.size = w.heap.size + 1 := Array.size_push ..
  have hz2 : ((w.alloc (.cells #[.string (str ut), .int .i64 ul, .int .i64 uc, .bool uq, .bool um] 36)).alloc (.cells (itCells noRaw) 33)).heap.size = w.heap.size + 1 + 1 := by
    rw [← hz1]; exact Array.size_push ..
  have h1 := heap_alloc_new (w.alloc (.cells #[.string (str ut), .int .i64 ul, .int .i64 uc, .bool uq, .bool um] 36)) (.cells (itCells noRaw) 33)
  rw [hz1] at h1
  have h2 := heap_alloc_new ((w.alloc (.cells #[.string (str ut), .int .i64 ul, .int .i64 uc, .bool uq, .bool um] 36)).alloc (.cells (itCells noRaw) 33)) (.cells (whCs er ul uc) 26)
  rw [hz2] at h2
  have h3 := (Below.heap_alloc ((w.alloc (.cells #[.string (str ut), .int .i64 ul, .int .i64 uc, .bool uq, .bool um] 36)).alloc (.cells (itCells noRaw) 33)) (.cells (whCs er ul uc) 26) (w.heap.size + 1) (by omega)).trans h1
  have hB := (((below_box w (.cells #[.string (str ut), .int .i64 ul, .int .i64 uc, .bool uq, .bool um] 36)).alloc (by omega) (.cells (itCells noRaw) 33)).alloc (by omega) (.cells (whCs er ul uc) 26)).drew
  refine bodyPost_ret (results_two_rows (ty := 33) (tz := 26) rfl _ _ (w.heap.size + 1) (w.heap.size + 1 + 1) _ _ (itCells noRaw) (whCs er ul uc) _ _ _ _ rfl rfl h3 h2 Try.underlying33 rfl (by kernel_rfl) Try.underlying26 rfl (by kernel_rfl)) rfl ?_
  exact ⟨rfl, hB⟩

end Go.Proofs.Ythpipbkbldlfjaa

namespace Go.Proofs.Ythpipbkbldlfjaa
open Go.RowKit

/-- a line's value -/
def lnV (num : Int) (ind : Bool) (v : Value) : Value := .agg #[.int .i64 num, .bool ind, v]
/-- an item that was read: its rows are new -/
structure ItNew (w : World) (base : Nat) (r : RawI) (x : Rl.It) : Prop where
  kind : r.kind = x.kind
  line : r.line = x.line
  name : r.name = x.name
  targets : WdR.Own w base r.targets x.targets
  words : WdR.Own w base r.words x.words
  code : r.ca = none ∧ r.cn = 0 ∧ r.cc = 0 ∧ x.code = []
/-- how the reading of a line ends -/
def RdEnd (ws : List Lx.V) (base : Nat) (e : Ending) (w' : World) : Lx.R (Int × Nat) Rl.It → Prop
  | .bad x => e = .returned (.tuple #[itV noRaw, .agg (whCs x.1 (ws.getD x.2 Lx.noV).line (ws.getD x.2 Lx.noV).col)])
  | .ok x => ∃ r, e = .returned (.tuple #[itV r, .agg (whCs 0 0 0)]) ∧ ItNew w' base r x

/-- the world in which a line is read -/
def rdW (w : World) (num : Int) (ind : Bool) (v : Value) : World := ((w.alloc (.cells #[.int .i64 num, .bool ind, v] 48)).alloc (.cells (itCells noRaw) 33)).alloc (.cells (whCs 0 0 0) 26)
structure RdW (w Y : World) (num : Int) (ind : Bool) (v : Value) : Prop where
  num : Y.cell? ⟨w.heap.size, 0, none⟩ = some (.int .i64 num)
  ind : Y.cell? ⟨w.heap.size, 1, none⟩ = some (.bool ind)
  words : Y.cell? ⟨w.heap.size, 2, none⟩ = some v
  outs : Outs Y (w.heap.size + 1) (w.heap.size + 1 + 1) (itCells noRaw) (whCs 0 0 0)
  below : Below w.heap.size w Y
  size : Y.heap.size = w.heap.size + 3
theorem rdW_is (w : World) (num : Int) (ind : Bool) (v : Value) : RdW w (rdW w num ind v) num ind v := by
  have hz1 : (w.alloc (.cells #[.int .i64 num, .bool ind, v] 48)).heap.size = w.heap.size + 1 := Array.size_push ..
  have h0 := heap_alloc_new w (.cells #[.int .i64 num, .bool ind, v] 48)
  have h1 := heap_alloc_new (w.alloc (.cells #[.int .i64 num, .bool ind, v] 48)) (.cells (itCells noRaw) 33)
  have b1 := below_box w (.cells #[.int .i64 num, .bool ind, v] 48)
  rw [hz1] at h1
  unfold rdW
  generalize w.alloc (.cells #[.int .i64 num, .bool ind, v] 48) = W1 at *
  have hz2 : (W1.alloc (.cells (itCells noRaw) 33)).heap.size = w.heap.size + 1 + 1 := by rw [← hz1]; exact Array.size_push ..
  have b2 := b1.alloc (by omega) (.cells (itCells noRaw) 33)
  have h02 := (Below.heap_alloc W1 (.cells (itCells noRaw) 33) w.heap.size (by omega)).trans h0
  have h2 := heap_alloc_new (W1.alloc (.cells (itCells noRaw) 33)) (.cells (whCs 0 0 0) 26)
  rw [hz2] at h2
  generalize W1.alloc (.cells (itCells noRaw) 33) = W2 at *
  have h03 := (Below.heap_alloc W2 (.cells (whCs 0 0 0) 26) w.heap.size (by omega)).trans h02
  have h13 := (Below.heap_alloc W2 (.cells (whCs 0 0 0) 26) (w.heap.size + 1) (by omega)).trans h1
  refine ⟨?_, ?_, ?_, ⟨h13, h2⟩, b2.alloc (by omega) _, ?_⟩
  · simp [World.cell?, h03]
  · simp [World.cell?, h03]
  · simp [World.cell?, h03]
  · have : (W2.alloc (.cells (whCs 0 0 0) 26)).heap.size = W2.heap.size + 1 := Array.size_push ..
    omega
theorem RdW.after {w Y W : World} {num : Int} {ind : Bool} {v : Value} (h : RdW w Y num ind v) (hb : Below Y.heap.size Y W) : Outs W (w.heap.size + 1) (w.heap.size + 1 + 1) (itCells noRaw) (whCs 0 0 0) ∧ Below w.heap.size w W := by
  have hz := h.size
  exact ⟨h.outs.below hb (by omega) (by omega), h.below.trans (hb.mono (by omega))⟩
/-- both, stored -/
theorem Outs.put {W : World} {g1 g2 : Nat} {r0 : RawI} {e0 l0 c0 : Int} (h : Outs W g1 g2 (itCells r0) (whCs e0 l0 c0)) (hne : g1 ≠ g2) (r : RawI) (e l c : Int) :
    Outs ((((((((((W.setCell ⟨g1, 0, none⟩ (.int .i64 r.kind)).setCell ⟨g1, 1, none⟩ (.int .i64 r.line)).setCell ⟨g1, 2, none⟩ (.string (str r.name))).setCell ⟨g1, 3, none⟩ (.slice r.ta r.tn r.tc)).setCell ⟨g1, 4, none⟩ (.slice r.wa r.wn r.wc)).setCell ⟨g1, 5, none⟩ (.slice r.ca r.cn r.cc)).setCell ⟨g2, 0, none⟩ (.int .i64 e)).setCell ⟨g2, 1, none⟩ (.string .empty)).setCell ⟨g2, 2, none⟩ (.int .i64 l)).setCell ⟨g2, 3, none⟩ (.int .i64 c)) g1 g2 (itCells r) (whCs e l c) := by
  have h1 := h.it
  have h2 := h.wh
  unfold itCells at h1
  unfold whCs at h2
  have q1 := set6 (a0 := .int .i64 r.kind) (a1 := .int .i64 r.line) (a2 := .string (str r.name)) (a3 := .slice r.ta r.tn r.tc) (a4 := .slice r.wa r.wn r.wc) (a5 := .slice r.ca r.cn r.cc) h1
  have hne2 : g2 ≠ g1 := fun e => hne e.symm
  refine ⟨?_, set4 (x0 := .int .i64 e0) (x1 := .string .empty) (x2 := .int .i64 l0) (x3 := .int .i64 c0) ?_⟩
  · rw [heap_setCell_other _ _ _ _ hne, heap_setCell_other _ _ _ _ hne, heap_setCell_other _ _ _ _ hne, heap_setCell_other _ _ _ _ hne]
    exact q1
  · rw [heap_setCell_other _ _ _ _ hne2, heap_setCell_other _ _ _ _ hne2, heap_setCell_other _ _ _ _ hne2, heap_setCell_other _ _ _ _ hne2, heap_setCell_other _ _ _ _ hne2, heap_setCell_other _ _ _ _ hne2]
    exact h2
theorem Outs.put' {W : World} {g1 g2 : Nat} {r0 : RawI} {e0 l0 c0 : Int} (h : Outs W g1 g2 (itCells r0) (whCs e0 l0 c0)) (hne : g1 ≠ g2) (r : RawI) (e l c : Int) :
    Outs ((((((((((W.setCell ⟨g2, 0, none⟩ (.int .i64 e)).setCell ⟨g2, 1, none⟩ (.string .empty)).setCell ⟨g2, 2, none⟩ (.int .i64 l)).setCell ⟨g2, 3, none⟩ (.int .i64 c)).setCell ⟨g1, 0, none⟩ (.int .i64 r.kind)).setCell ⟨g1, 1, none⟩ (.int .i64 r.line)).setCell ⟨g1, 2, none⟩ (.string (str r.name))).setCell ⟨g1, 3, none⟩ (.slice r.ta r.tn r.tc)).setCell ⟨g1, 4, none⟩ (.slice r.wa r.wn r.wc)).setCell ⟨g1, 5, none⟩ (.slice r.ca r.cn r.cc)) g1 g2 (itCells r) (whCs e l c) := by
  have h1 := h.it
  have h2 := h.wh
  unfold itCells at h1
  unfold whCs at h2
  have q2 := set4 (a0 := .int .i64 e) (a1 := .string .empty) (a2 := .int .i64 l) (a3 := .int .i64 c) h2
  have hne2 : g2 ≠ g1 := fun e => hne e.symm
  refine ⟨set6 (x0 := .int .i64 r0.kind) (x1 := .int .i64 r0.line) (x2 := .string (str r0.name)) (x3 := .slice r0.ta r0.tn r0.tc) (x4 := .slice r0.wa r0.wn r0.wc) (x5 := .slice r0.ca r0.cn r0.cc) ?_, ?_⟩
  · rw [heap_setCell_other _ _ _ _ hne, heap_setCell_other _ _ _ _ hne, heap_setCell_other _ _ _ _ hne, heap_setCell_other _ _ _ _ hne]
    exact h1
  · rw [heap_setCell_other _ _ _ _ hne2, heap_setCell_other _ _ _ _ hne2, heap_setCell_other _ _ _ _ hne2, heap_setCell_other _ _ _ _ hne2, heap_setCell_other _ _ _ _ hne2, heap_setCell_other _ _ _ _ hne2]
    exact q2
theorem Outs.free {W : World} {g1 g2 : Nat} {cs ds : Array Value} (h : Outs W g1 g2 cs ds) : (∀ j, W.frozen? ⟨g1, j, none⟩ = false) ∧ ∀ j, W.frozen? ⟨g2, j, none⟩ = false :=
  ⟨fun j => frozen_of_row W g1 j _ _ h.it, fun j => frozen_of_row W g2 j _ _ h.wh⟩
theorem own10 {α : Type} {R : Rc α} {W : World} {base : Nat} {v : Value} {l : List α} {g1 g2 : Nat} (h : R.Own W base v l) (h1 : g1 < base) (h2 : g2 < base) (a0 a1 a2 a3 a4 a5 b0 b1 b2 b3 : Value) :
    R.Own ((((((((((W.setCell ⟨g1, 0, none⟩ a0).setCell ⟨g1, 1, none⟩ a1).setCell ⟨g1, 2, none⟩ a2).setCell ⟨g1, 3, none⟩ a3).setCell ⟨g1, 4, none⟩ a4).setCell ⟨g1, 5, none⟩ a5).setCell ⟨g2, 0, none⟩ b0).setCell ⟨g2, 1, none⟩ b1).setCell ⟨g2, 2, none⟩ b2).setCell ⟨g2, 3, none⟩ b3) base v l := by
  refine Row.turn h (S := [g1, g2]) ?_ fun g hg => ?_
  · exact (((((((((((Turn.refl _ W).set (p := ⟨g1, 0, none⟩) (by simp) a0).set (p := ⟨g1, 1, none⟩) (by simp) a1).set (p := ⟨g1, 2, none⟩) (by simp) a2).set (p := ⟨g1, 3, none⟩) (by simp) a3).set (p := ⟨g1, 4, none⟩) (by simp) a4).set (p := ⟨g1, 5, none⟩) (by simp) a5).set (p := ⟨g2, 0, none⟩) (by simp) b0).set (p := ⟨g2, 1, none⟩) (by simp) b1).set (p := ⟨g2, 2, none⟩) (by simp) b2).set (p := ⟨g2, 3, none⟩) (by simp) b3)
  · have := (World.ownsRow.lt h g hg).1
    simp only [List.mem_cons, List.not_mem_nil, or_false, not_or]
    omega
theorem Outs.cells {W : World} {g1 g2 : Nat} (h : Outs W g1 g2 (itCells noRaw) (whCs 0 0 0)) : W.cell? ⟨g1, 0, none⟩ = some (.int .i64 0) ∧ W.cell? ⟨g1, 1, none⟩ = some (.int .i64 0) ∧ W.cell? ⟨g1, 2, none⟩ = some (.string ⟨#[]⟩) ∧ W.cell? ⟨g1, 3, none⟩ = some (.slice none 0 0) ∧ W.cell? ⟨g1, 4, none⟩ = some (.slice none 0 0) ∧ W.cell? ⟨g1, 5, none⟩ = some (.slice none 0 0) ∧ W.cell? ⟨g2, 0, none⟩ = some (.int .i64 0) ∧ W.cell? ⟨g2, 1, none⟩ = some (.string ⟨#[]⟩) ∧ W.cell? ⟨g2, 2, none⟩ = some (.int .i64 0) ∧ W.cell? ⟨g2, 3, none⟩ = some (.int .i64 0) := by
  have h1 := h.it
  have h2 := h.wh
  refine ⟨?_, ?_, ?_, ?_, ?_, ?_, ?_, ?_, ?_, ?_⟩
  · rw [cell_of_row W g1 0 _ _ _ h1]; rfl
  · rw [cell_of_row W g1 1 _ _ _ h1]; rfl
  · rw [cell_of_row W g1 2 _ _ _ h1]; rfl
  · rw [cell_of_row W g1 3 _ _ _ h1]; rfl
  · rw [cell_of_row W g1 4 _ _ _ h1]; rfl
  · rw [cell_of_row W g1 5 _ _ _ h1]; rfl
  · rw [cell_of_row W g2 0 _ _ _ h2]; rfl
  · rw [cell_of_row W g2 1 _ _ _ h2]; rfl
  · rw [cell_of_row W g2 2 _ _ _ h2]; rfl
  · rw [cell_of_row W g2 3 _ _ _ h2]; rfl
theorem results_iw {fn : Func} {p q : Tmp} (h : fn.results = #[.cell p 33, .cell q 26]) (tmps : Array Value) (W : World) {g1 g2 : Nat} {r : RawI} {e l c : Int} (hO : Outs W g1 g2 (itCells r) (whCs e l c)) (hp : tmps.getD p undef = .pointer (some ⟨g1, 0, none⟩)) (hq : tmps.getD q undef = .pointer (some ⟨g2, 0, none⟩)) :
    (results fn tmps).run Try.prog W = .ok (.tuple #[itV r, .agg (whCs e l c)]) W :=
  results_two_rows h tmps W g1 g2 _ _ (itCells r) (whCs e l c) _ _ _ _ hp hq hO.it hO.wh Try.underlying33 rfl (by kernel_rfl) Try.underlying26 rfl (by kernel_rfl)
theorem below10 {w W : World} {g1 g2 : Nat} (h : Below w.heap.size w W) (h1 : w.heap.size ≤ g1) (h2 : w.heap.size ≤ g2) (a0 a1 a2 a3 a4 a5 b0 b1 b2 b3 : Value) :
    Below w.heap.size w ((((((((((W.setCell ⟨g1, 0, none⟩ a0).setCell ⟨g1, 1, none⟩ a1).setCell ⟨g1, 2, none⟩ a2).setCell ⟨g1, 3, none⟩ a3).setCell ⟨g1, 4, none⟩ a4).setCell ⟨g1, 5, none⟩ a5).setCell ⟨g2, 0, none⟩ b0).setCell ⟨g2, 1, none⟩ b1).setCell ⟨g2, 2, none⟩ b2).setCell ⟨g2, 3, none⟩ b3) :=
  (((((((((h.setCell (p := ⟨g1, 0, none⟩) h1 a0).setCell (p := ⟨g1, 1, none⟩) h1 a1).setCell (p := ⟨g1, 2, none⟩) h1 a2).setCell (p := ⟨g1, 3, none⟩) h1 a3).setCell (p := ⟨g1, 4, none⟩) h1 a4).setCell (p := ⟨g1, 5, none⟩) h1 a5).setCell (p := ⟨g2, 0, none⟩) h2 b0).setCell (p := ⟨g2, 1, none⟩) h2 b1).setCell (p := ⟨g2, 2, none⟩) h2 b2).setCell (p := ⟨g2, 3, none⟩) h2 b3
theorem below10' {w W : World} {g1 g2 : Nat} (h : Below w.heap.size w W) (h1 : w.heap.size ≤ g1) (h2 : w.heap.size ≤ g2) (a0 a1 a2 a3 a4 a5 b0 b1 b2 b3 : Value) :
    Below w.heap.size w ((((((((((W.setCell ⟨g2, 0, none⟩ b0).setCell ⟨g2, 1, none⟩ b1).setCell ⟨g2, 2, none⟩ b2).setCell ⟨g2, 3, none⟩ b3).setCell ⟨g1, 0, none⟩ a0).setCell ⟨g1, 1, none⟩ a1).setCell ⟨g1, 2, none⟩ a2).setCell ⟨g1, 3, none⟩ a3).setCell ⟨g1, 4, none⟩ a4).setCell ⟨g1, 5, none⟩ a5) :=
  (((((((((h.setCell (p := ⟨g2, 0, none⟩) h2 b0).setCell (p := ⟨g2, 1, none⟩) h2 b1).setCell (p := ⟨g2, 2, none⟩) h2 b2).setCell (p := ⟨g2, 3, none⟩) h2 b3).setCell (p := ⟨g1, 0, none⟩) h1 a0).setCell (p := ⟨g1, 1, none⟩) h1 a1).setCell (p := ⟨g1, 2, none⟩) h1 a2).setCell (p := ⟨g1, 3, none⟩) h1 a3).setCell (p := ⟨g1, 4, none⟩) h1 a4).setCell (p := ⟨g1, 5, none⟩) h1 a5

set_option maxRecDepth 100000 in
set_option maxHeartbeats 1000000 in
theorem incl0 (num : Int) (ind : Bool) (ad : Option Addr) (c : Nat) (u : Lx.V) (w : World) (B : Nat) (hW : WdR.Sl w B (.slice ad 1 c) [u]) (hBw : B ≤ w.heap.size) :
    Calls Try.prog 54 #[lnV num ind (.slice ad 1 c)] w fun e w' => RdEnd [u] w.heap.size e w' (.bad (120, 0)) ∧ Below w.heap.size w w' := by
  have hY : RdW w (((w.alloc (.cells #[.int .i64 num, .bool ind, .slice ad 1 c] 48)).alloc (.cells #[.int .i64 0, .int .i64 0, .string ⟨#[]⟩, .slice none 0 0, .slice none 0 0, .slice none 0 0] 33)).alloc (.cells #[.int .i64 0, .string ⟨#[]⟩, .int .i64 0, .int .i64 0] 26)) num ind (.slice ad 1 c) := rdW_is w num ind (.slice ad 1 c)
  unfold lnV
  go_enter Try.func54, Try.ntmps54
  go_upto_region 1 with fail
  generalize ((w.alloc (.cells #[.int .i64 num, .bool ind, .slice ad 1 c] 48)).alloc (.cells #[.int .i64 0, .int .i64 0, .string ⟨#[]⟩, .slice none 0 0, .slice none 0 0, .slice none 0 0] 33)).alloc (.cells #[.int .i64 0, .string ⟨#[]⟩, .int .i64 0, .int .i64 0] 26) = Y at hY ⊢
  have y0 := hY.num
  have y1 := hY.ind
  have y2 := hY.words
  have hWY := hW.below hY.below hBw
  obtain ⟨b, o, c', e, hb, r0, r1, r2, r3, r4⟩ := WdR.at hWY 0 (by simp)
  simp only [Value.slice.injEq] at e
  obtain ⟨rfl, -, rfl⟩ := e
  replace r0 : Y.cell? ⟨b, o, none⟩ = some (.string (str u.text)) := r0
  replace r1 : Y.cell? ⟨b, o + 1, none⟩ = some (.int .i64 u.line) := r1
  replace r2 : Y.cell? ⟨b, o + 2, none⟩ = some (.int .i64 u.col) := r2
  replace r3 : Y.cell? ⟨b, o + 3, none⟩ = some (.bool u.quoted) := r3
  replace r4 : Y.cell? ⟨b, o + 4, none⟩ = some (.bool u.mark) := r4
  have hwr := fun W => rwrong_any 120 u W
  unfold wdV at hwr
  go_wp2_with fail
  refine (hwr _).mono ?_
  rintro e w1 ⟨rfl, hB1⟩
  obtain ⟨hO1, hb1⟩ := hY.after hB1
  obtain ⟨f1, f2⟩ := hO1.free
  obtain ⟨k0, k1, k2, k3, k4, k5, l0, l1, l2, l3⟩ := hO1.cells
  have hfin := hO1.put (by omega) noRaw 120 u.line u.col
  have hbf := below10 hb1 (g1 := w.heap.size + 1) (g2 := w.heap.size + 1 + 1) (by omega) (by omega)
  unfold itV itCells whCs noRaw
  go_wp2
  refine bodyPost_ret (results_iw rfl _ _ hfin rfl rfl) rfl ?_
  exact ⟨rfl, hbf _ _ _ _ _ _ _ _ _ _⟩
set_option maxRecDepth 100000 in
set_option maxHeartbeats 1000000 in
theorem incl1 (num : Int) (ind : Bool) (ad : Option Addr) (c : Nat) (u a : Lx.V) (w : World) (B : Nat) (hW : WdR.Sl w B (.slice ad 2 c) [u, a]) (hBw : B ≤ w.heap.size) :
    Calls Try.prog 54 #[lnV num ind (.slice ad 2 c)] w fun e w' => RdEnd [u, a] w.heap.size e w' (Rl.inclOf num [a]) ∧ Below w.heap.size w w' := by
  have HR : Hid (Rl.inclOf num [a] = if a.mark = true then .bad (120, 1) else .ok ⟨2, num, [], [], [a], []⟩) := rfl
  generalize Rl.inclOf num [a] = R at *
  have hY : RdW w (((w.alloc (.cells #[.int .i64 num, .bool ind, .slice ad 2 c] 48)).alloc (.cells #[.int .i64 0, .int .i64 0, .string ⟨#[]⟩, .slice none 0 0, .slice none 0 0, .slice none 0 0] 33)).alloc (.cells #[.int .i64 0, .string ⟨#[]⟩, .int .i64 0, .int .i64 0] 26)) num ind (.slice ad 2 c) := rdW_is w num ind (.slice ad 2 c)
  unfold lnV
  go_enter Try.func54, Try.ntmps54
  go_upto_region 1 with fail
  generalize ((w.alloc (.cells #[.int .i64 num, .bool ind, .slice ad 2 c] 48)).alloc (.cells #[.int .i64 0, .int .i64 0, .string ⟨#[]⟩, .slice none 0 0, .slice none 0 0, .slice none 0 0] 33)).alloc (.cells #[.int .i64 0, .string ⟨#[]⟩, .int .i64 0, .int .i64 0] 26) = Y at hY ⊢
  have y0 := hY.num
  have y1 := hY.ind
  have y2 := hY.words
  have hWY := hW.below hY.below hBw
  obtain ⟨b, o, c', e, hb, s0, s1, s2, s3, s4⟩ := WdR.at hWY 1 (by simp)
  simp only [Value.slice.injEq] at e
  obtain ⟨rfl, -, rfl⟩ := e
  replace s0 : Y.cell? ⟨b, o + 5, none⟩ = some (.string (str a.text)) := s0
  replace s1 : Y.cell? ⟨b, o + 5 + 1, none⟩ = some (.int .i64 a.line) := s1
  replace s2 : Y.cell? ⟨b, o + 5 + 2, none⟩ = some (.int .i64 a.col) := s2
  replace s3 : Y.cell? ⟨b, o + 5 + 3, none⟩ = some (.bool a.quoted) := s3
  replace s4 : Y.cell? ⟨b, o + 5 + 4, none⟩ = some (.bool a.mark) := s4
  cases hm : a.mark with
  | true =>
    rw [hm] at s4 HR
    have hwr := fun W => rwrong_any 120 a W
    unfold wdV at hwr
    simp only [hm] at hwr; clear hm
    go_wp2_with fail
    refine (hwr _).mono ?_
    rintro e w1 ⟨rfl, hB1⟩
    obtain ⟨hO1, hb1⟩ := hY.after hB1
    obtain ⟨f1, f2⟩ := hO1.free
    obtain ⟨k0, k1, k2, k3, k4, k5, l0, l1, l2, l3⟩ := hO1.cells
    have hfin := hO1.put (by omega) noRaw 120 a.line a.col
    have hbf := below10 hb1 (g1 := w.heap.size + 1) (g2 := w.heap.size + 1 + 1) (by omega) (by omega)
    unfold itV itCells whCs noRaw
    go_wp2
    refine bodyPost_ret (results_iw rfl _ _ hfin rfl rfl) rfl ?_
    rw [HR.out]
    exact ⟨rfl, hbf _ _ _ _ _ _ _ _ _ _⟩
  | false =>
    rw [hm] at s4 HR
    clear hm
    obtain ⟨A, hsl, hT⟩ := Rc.slice_tail hWY 1 (by simp)
    have hsl' : ∀ W : World, (Instr.slice 30 (.slice (some ⟨b, o, none⟩) 2 c) (some (.int .i64 1)) none none).run Try.prog W = .ok (.slice A 1 (c - 1)) W := hsl
    have hT' : WdR.Sl Y B (.slice A 1 (c - 1)) [a] := hT
    have hz := hY.size
    have hcl := fun (W : World) (h : Below Y.heap.size Y W) => CloneW_any [a] (.slice A 1 (c - 1)) B W (hT'.below h (by omega)) (by have := h.size; omega) (by simp)
    have hYa := fun (W : World) (h : Below Y.heap.size Y W) => hY.after h
    have HZ : Hid _ := hz
    clear hsl hT hz
    have far1 : ∀ (W : World) (j : Nat) (v : Value), (W.setCell ⟨w.heap.size + 1, j, none⟩ v).cell? ⟨w.heap.size, 0, none⟩ = W.cell? ⟨w.heap.size, 0, none⟩ := fun W j v => World.cell?_setCell_far _ _ _ _ (by simp)
    have far2 : ∀ (W : World) (j : Nat) (v : Value), (W.setCell ⟨w.heap.size + 1 + 1, j, none⟩ v).cell? ⟨w.heap.size, 0, none⟩ = W.cell? ⟨w.heap.size, 0, none⟩ := fun W j v => World.cell?_setCell_far _ _ _ _ (by show w.heap.size + 1 + 1 ≠ w.heap.size; omega)
    have y0d : Y.drew.cell? ⟨w.heap.size, 0, none⟩ = some (.int .i64 num) := y0
    have hyd : Below Y.heap.size Y Y.drew := (Below.refl _ _).drew
    go_wp2_with fail
    go_region_held3 (fun X : World => X.cell? ⟨w.heap.size, 0, none⟩ = some (.int .i64 num)) (first | with_reducible exact y0 | with_reducible exact y0d | with_reducible exact y0b | (simp only [far1, far2]; with_reducible exact y0b) | fail)
      (first | (go_at_call 83; refine (hcl _ hyd).mono ?_; rintro e w2 ⟨v2, rfl, hO2, hB2⟩; obtain ⟨ad2, n2, c2, rfl⟩ := hO2.isSl; have hB3 := hyd.trans hB2; obtain ⟨hO3, hb3⟩ := hYa _ hB3; obtain ⟨f1, f2⟩ := hO3.free; obtain ⟨k0, k1, k2, k3, k4, k5, l0, l1, l2, l3⟩ := hO3.cells; have y0b : w2.cell? ⟨w.heap.size, 0, none⟩ = some (.int .i64 num) := (hB3.cell (p := ⟨w.heap.size, 0, none⟩) (by have := HZ.out; show w.heap.size < _; omega)).trans y0) | fail)
    have hfin := hO3.put (by omega) ⟨2, num, [], none, 0, 0, ad2, n2, c2, none, 0, 0⟩ 0 0 0
    have hbf := below10 hb3 (g1 := w.heap.size + 1) (g2 := w.heap.size + 1 + 1) (by omega) (by omega)
    have hO5 := own10 hO2 (g1 := w.heap.size + 1) (g2 := w.heap.size + 1 + 1) (by have := HZ.out; show _ < Y.heap.size; omega) (by have := HZ.out; show _ < Y.heap.size; omega)
    clear y0d y0b far1 far2 k0 k1 k2 k3 k4 k5 l0 l1 l2 l3
    go_wp2
    refine bodyPost_ret (results_iw rfl _ _ hfin rfl rfl) rfl ?_
    rw [HR.out]
    exact ⟨⟨_, rfl, rfl, rfl, rfl, Rc.Own.nil _ _, (hO5 _ _ _ _ _ _ _ _ _ _).low (by have := HZ.out; show _ ≤ Y.heap.size; omega), rfl, rfl, rfl, rfl⟩, hbf _ _ _ _ _ _ _ _ _ _⟩
set_option maxRecDepth 100000 in
set_option maxHeartbeats 1000000 in
theorem incl2 (num : Int) (ind : Bool) (ad : Option Addr) (c : Nat) (u a b2 : Lx.V) (r : List Lx.V) (w : World) (B : Nat) (hW : WdR.Sl w B (.slice ad (r.length + 3) c) (u :: a :: b2 :: r)) (hl : r.length ≤ 131072) (hBw : B ≤ w.heap.size) :
    Calls Try.prog 54 #[lnV num ind (.slice ad (r.length + 3) c)] w fun e w' => RdEnd (u :: a :: b2 :: r) w.heap.size e w' (Rl.inclOf num (a :: b2 :: r)) ∧ Below w.heap.size w w' := by
  have HR : Hid (Rl.inclOf num (a :: b2 :: r) = if a.mark = true then .bad (120, 1) else .bad (120, 2)) := rfl
  generalize Rl.inclOf num (a :: b2 :: r) = R at *
  obtain ⟨n, hn⟩ : ∃ n, r.length + 3 = n := ⟨_, rfl⟩
  rw [hn] at hW ⊢
  have n1 : ((n : Int) == 1) = false := by rw [beq_eq_false_iff_ne]; omega
  have n2 : (2 : Int) < (n : Int) := by omega
  have n3 : (1 : Int) < (n : Int) := by omega
  clear hn hl
  have hY : RdW w (((w.alloc (.cells #[.int .i64 num, .bool ind, .slice ad n c] 48)).alloc (.cells #[.int .i64 0, .int .i64 0, .string ⟨#[]⟩, .slice none 0 0, .slice none 0 0, .slice none 0 0] 33)).alloc (.cells #[.int .i64 0, .string ⟨#[]⟩, .int .i64 0, .int .i64 0] 26)) num ind (.slice ad n c) := rdW_is w num ind (.slice ad n c)
  unfold lnV
  go_enter Try.func54, Try.ntmps54
  go_upto_region 1 with fail
  generalize ((w.alloc (.cells #[.int .i64 num, .bool ind, .slice ad n c] 48)).alloc (.cells #[.int .i64 0, .int .i64 0, .string ⟨#[]⟩, .slice none 0 0, .slice none 0 0, .slice none 0 0] 33)).alloc (.cells #[.int .i64 0, .string ⟨#[]⟩, .int .i64 0, .int .i64 0] 26) = Y at hY ⊢
  have y0 := hY.num
  have y1 := hY.ind
  have y2 := hY.words
  have hWY := hW.below hY.below hBw
  obtain ⟨b, o, c', e, hb, s0, s1, s2, s3, s4⟩ := WdR.at hWY 1 (by simp)
  simp only [Value.slice.injEq] at e
  obtain ⟨rfl, -, rfl⟩ := e
  replace s0 : Y.cell? ⟨b, o + 5, none⟩ = some (.string (str a.text)) := s0
  replace s1 : Y.cell? ⟨b, o + 5 + 1, none⟩ = some (.int .i64 a.line) := s1
  replace s2 : Y.cell? ⟨b, o + 5 + 2, none⟩ = some (.int .i64 a.col) := s2
  replace s3 : Y.cell? ⟨b, o + 5 + 3, none⟩ = some (.bool a.quoted) := s3
  replace s4 : Y.cell? ⟨b, o + 5 + 4, none⟩ = some (.bool a.mark) := s4
  obtain ⟨b', o', c', e, -, t0, t1, t2, t3, t4⟩ := WdR.at hWY 2 (by simp)
  simp only [Value.slice.injEq, Option.some.injEq, Addr.mk.injEq, and_true] at e
  obtain ⟨⟨rfl, rfl⟩, -, -⟩ := e
  replace t0 : Y.cell? ⟨b, o + 10, none⟩ = some (.string (str b2.text)) := t0
  replace t1 : Y.cell? ⟨b, o + 10 + 1, none⟩ = some (.int .i64 b2.line) := t1
  replace t2 : Y.cell? ⟨b, o + 10 + 2, none⟩ = some (.int .i64 b2.col) := t2
  replace t3 : Y.cell? ⟨b, o + 10 + 3, none⟩ = some (.bool b2.quoted) := t3
  replace t4 : Y.cell? ⟨b, o + 10 + 4, none⟩ = some (.bool b2.mark) := t4
  cases hm : a.mark with
  | true =>
    rw [hm] at s4 HR
    have hwr := fun W => rwrong_any 120 a W
    unfold wdV at hwr
    simp only [hm] at hwr; clear hm
    go_wp2_with fail
    refine (hwr _).mono ?_
    rintro e w1 ⟨rfl, hB1⟩
    obtain ⟨hO1, hb1⟩ := hY.after hB1
    obtain ⟨f1, f2⟩ := hO1.free
    obtain ⟨k0, k1, k2, k3, k4, k5, l0, l1, l2, l3⟩ := hO1.cells
    have hfin := hO1.put (by omega) noRaw 120 a.line a.col
    have hbf := below10 hb1 (g1 := w.heap.size + 1) (g2 := w.heap.size + 1 + 1) (by omega) (by omega)
    unfold itV itCells whCs noRaw
    go_wp2
    refine bodyPost_ret (results_iw rfl _ _ hfin rfl rfl) rfl ?_
    rw [HR.out]
    exact ⟨rfl, hbf _ _ _ _ _ _ _ _ _ _⟩
  | false =>
    rw [hm] at s4 HR
    clear hm
    have hwr := fun W => rwrong_any 120 b2 W
    unfold wdV at hwr
    go_wp2_with fail
    refine (hwr _).mono ?_
    rintro e w1 ⟨rfl, hB1⟩
    obtain ⟨hO1, hb1⟩ := hY.after hB1
    obtain ⟨f1, f2⟩ := hO1.free
    obtain ⟨k0, k1, k2, k3, k4, k5, l0, l1, l2, l3⟩ := hO1.cells
    have hfin := hO1.put (by omega) noRaw 120 b2.line b2.col
    have hbf := below10 hb1 (g1 := w.heap.size + 1) (g2 := w.heap.size + 1 + 1) (by omega) (by omega)
    unfold itV itCells whCs noRaw
    go_wp2
    refine bodyPost_ret (results_iw rfl _ _ hfin rfl rfl) rfl ?_
    rw [HR.out]
    exact ⟨rfl, hbf _ _ _ _ _ _ _ _ _ _⟩
set_option maxRecDepth 100000 in
set_option maxHeartbeats 1000000 in
theorem readInclude_any (num : Int) (ind : Bool) (ad : Option Addr) (c : Nat) (u : Lx.V) (r : List Lx.V) (w : World) (B : Nat) (hW : WdR.Sl w B (.slice ad (r.length + 1) c) (u :: r)) (hBw : B ≤ w.heap.size) (hl : r.length ≤ 131072) :
    Calls Try.prog 54 #[lnV num ind (.slice ad (r.length + 1) c)] w fun e w' => RdEnd (u :: r) w.heap.size e w' (Rl.inclOf num r) ∧ Below w.heap.size w w' := by
  match r, hW, hl with
  | [], hW, _ => exact incl0 num ind ad c u w B hW hBw
  | [a], hW, _ => exact incl1 num ind ad c u a w B hW hBw
  | a :: b2 :: r, hW, hl => exact incl2 num ind ad c u a b2 r w B hW (by simp at hl; omega) hBw

end Go.Proofs.Ythpipbkbldlfjaa
