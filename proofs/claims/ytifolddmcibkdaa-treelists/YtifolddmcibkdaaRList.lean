/-
  FILES LISTED (the document's List).
-/
import Derived.Test.YtifolddmcibkdaaRAt
namespace Go.Proofs.Ytifolddmcibkdaa
open Go.RowKit

theorem StR.at {w : World} {B : Nat} {v : Value} {l : List ByteArray} (h : StR.Sl w B v l) (j : Nat) (hj : j < l.length) :
    ∃ b o c, v = .slice (some ⟨b, o, none⟩) l.length c ∧ b < B ∧ w.cell? ⟨b, o + j, none⟩ = some (.string (l.getD j .empty)) := by
  obtain ⟨b, o, c, rfl, hb, hc⟩ := h.cells j hj
  have e : l.getD j .empty = l[j] := by simp [List.getD, List.getElem?_eq_getElem hj]
  rw [e]
  have := hc 0 (.string l[j]) (by decide) rfl
  exact ⟨b, o, c, rfl, hb, by simpa [StR] using this⟩

/-- does a text begin with these bytes? -/
def Tm.begins (pre q : ByteArray) : Bool := pre.data.toList.isPrefixOf q.data.toList
theorem begins_long {pre q : ByteArray} : ((q.extract 0 pre.size).toList == pre.toList) = Tm.begins pre q := by
  rw [beq_txt]
  unfold Tm.begins
  have e : (q.extract 0 pre.size).data.toList = q.data.toList.take pre.size := by simp [ByteArray.data_extract]
  have hl : pre.data.toList.length = pre.size := by rw [Array.length_toList]; rfl
  by_cases hp : pre.data.toList <+: q.data.toList
  · rw [List.isPrefixOf_iff_prefix.2 hp, decide_eq_true]
    obtain ⟨r, hr⟩ := hp
    apply ByteArray.ext
    apply Array.toList_inj.1
    rw [e, ← hr, ← hl, List.take_left]
  · rw [decide_eq_false]
    · symm
      rw [← Bool.not_eq_true, List.isPrefixOf_iff_prefix]
      exact hp
    · intro h1
      apply hp
      rw [← h1, e]
      exact List.take_prefix _ _
theorem begins_short {pre q : ByteArray} (h : ¬ pre.size ≤ q.size) : Tm.begins pre q = false := by
  unfold Tm.begins
  rw [← Bool.not_eq_true, List.isPrefixOf_iff_prefix]
  intro hp
  have := hp.length_le
  rw [Array.length_toList, Array.length_toList] at this
  exact h this
theorem list_step (l : List Tm.Fl) (pre : ByteArray) (k : Nat) (hk : k < l.length) :
    ((l.take (k + 1)).map Tm.Fl.path).filter (Tm.begins pre) = ((l.take k).map Tm.Fl.path).filter (Tm.begins pre) ++ (if Tm.begins pre (l.getD k Tm.noFl).path = true then [(l.getD k Tm.noFl).path] else []) := by
  rw [List.take_succ_eq_append_getElem hk, List.map_append, List.filter_append]
  congr 1
  have e : l.getD k Tm.noFl = l[k] := by simp [List.getD, List.getElem?_eq_getElem hk]
  rw [e]
  simp only [List.map_cons, List.map_nil, List.filter_cons, List.filter_nil]

set_option maxRecDepth 100000 in
set_option maxHeartbeats 4000000 in
theorem ListR_any (g : Nat) (t : Tm.T) (S : List Nat) (pre : ByteArray) (w : World) (h : HasR w g t S) (hl : t.files.length ≤ 100000000) :
    Calls Try.prog 31 #[.pointer (some ⟨g, 0, none⟩), .string pre] w fun e w' => ∃ v, e = .returned v ∧ StR.Own w' w.heap.size v (Tm.list t pre) ∧ Below w.heap.size w w' := by
  obtain ⟨vf, vc, ty, hb, hty, hf, hc, rfl⟩ := h
  have gl : g < w.heap.size := (Array.getElem?_eq_some_iff.1 hb).1
  have hs := hf.sl
  obtain ⟨ad, c, rfl, hle⟩ := hs.shape
  have HLs : Hid (Tm.list t pre = (t.files.map Tm.Fl.path).filter (Tm.begins pre)) := rfl
  go_enter Try.func31, Try.ntmps31
  go_wp2
  go_loopw [5, 6] (fun v i wr => ∃ k : Nat, k ≤ t.files.length ∧ i = .int .i64 (k : Int) ∧ StR.Own wr w.heap.size v (((t.files.take k).map Tm.Fl.path).filter (Tm.begins pre)) ∧ Below w.heap.size w wr) (fun _ i _ => t.files.length - (intOf i).toNat)
  case atStart => exact ⟨0, Nat.zero_le _, rfl, Rc.Own.nil _ _, Below.refl _ _⟩
  case round =>
    obtain ⟨k, hk, rfl, hO, hBe⟩ := hrel
    obtain ⟨c0, -, -, -⟩ := HasR.cell0 ((hBe.block g gl).trans hb)
    by_cases hlt : k < t.files.length
    · obtain ⟨b, o, c', e, hb', p0, -⟩ := FlR.at (hs.below hBe (Nat.le_refl _)) k hlt
      simp only [Value.slice.injEq] at e
      obtain ⟨rfl, -, rfl⟩ := e
      have i1 : (k : Int) < (t.files.length : Int) := by omega
      have HST := list_step t.files pre k hlt
      have hll : (((t.files.take k).map Tm.Fl.path).filter (Tm.begins pre)).length ≤ 100000000 := Nat.le_trans (List.length_filter_le _ _) (by simp; omega)
      have HB1 : Hid (∀ q : ByteArray, pre.size ≤ q.size → ((q.extract 0 pre.size).toList == pre.toList) = Tm.begins pre q) := fun _ _ => begins_long
      have HB2 : Hid (∀ q : ByteArray, ¬ pre.size ≤ q.size → Tm.begins pre q = false) := fun q hq => begins_short hq
      generalize ((t.files.take k).map Tm.Fl.path).filter (Tm.begins pre) = L at *
      generalize (t.files.getD k Tm.noFl).path = x at *
      by_cases hsz : pre.size ≤ x.size
      · have q1 := HB1.out x hsz
        have i2 : (pre.size : Int) ≤ (x.size : Int) := by omega
        cases hbg : Tm.begins pre x with
        | true =>
          rw [hbg] at q1 HST
          rw [if_pos rfl] at HST
          have HS : Hid _ := HST
          clear HST HB1 HB2 hbg
          have hL4 := StR.lit wr x #[.string x] rfl
          have hO4 := hO.alloc (.cells #[.string x] 9)
          have hB4 := hBe.alloc hBe.size (.cells #[.string x] 9)
          have HLn : Hid (L.length + [x].length ≤ 1099511627) := by show _ ≤ _; simp; omega
          obtain ⟨a5, n5, c5, rfl⟩ := hO.isSl
          go_wp2_with (at_builtin; go_must (refine StR.append rfl _ _ rfl w.heap.size (wr.heap.size + 1) _ _ L [x] rfl hO4 rfl hL4 HLn hB4.size ?_))
          intro v5 w5 hO5 hg5
          have hB5 := hB4.grown hg5 hB4.size fun j e => (hO4.lt j e).1
          clear hL4 hO4 hB4 HLn hg5 hO
          go_wp2
          exact ⟨⟨k + 1, by omega, by go_num, by rw [HS.out]; exact hO5, hB5⟩, by simp [intOf]; omega⟩
        | false =>
          rw [hbg] at q1 HST
          simp only [Bool.false_eq_true, if_false, List.append_nil] at HST
          have HS : Hid _ := HST
          clear HST HB1 HB2 hbg
          go_wp2
          exact ⟨⟨k + 1, by omega, by go_num, by rw [HS.out]; exact hO, hBe⟩, by simp [intOf]; omega⟩
      · have hbg := HB2.out x hsz
        have i2 : ¬ (pre.size : Int) ≤ (x.size : Int) := by omega
        rw [hbg] at HST
        simp only [Bool.false_eq_true, if_false, List.append_nil] at HST
        have HS : Hid _ := HST
        clear HST HB1 HB2 hbg
        go_wp2
        exact ⟨⟨k + 1, by omega, by go_num, by rw [HS.out]; exact hO, hBe⟩, by simp [intOf]; omega⟩
    · obtain rfl : k = t.files.length := by omega
      have i1 : ¬ (t.files.length : Int) < (t.files.length : Int) := by omega
      rw [List.take_length] at hO
      go_wp2
      go_ret
      rw [HLs.out]
      exact ⟨_, rfl, hO, hBe⟩

end Go.Proofs.Ytifolddmcibkdaa
