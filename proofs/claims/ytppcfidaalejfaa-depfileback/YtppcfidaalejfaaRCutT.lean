/-
  THE WALK OF THE DOCUMENT's Cut.
-/
import Derived.Test.YtppcfidaalejfaaRSeg
namespace Go.Proofs.Ytppcfidaalejfaa
open Go.RowKit

/-- where Cut stands: the place k, the piece's beginning f, the pieces so far -/
structure CutAt (s : ByteArray) (k f : Nat) (l : List ByteArray) : Prop where
  le : l.length ≤ k
  go : k ≤ s.size → f ≤ k ∧ (47 : UInt8) ∉ ((bs s).drop f).take (k - f) ∧ Pm.cut (bs s) = l.map bs ++ Pm.cut ((bs s).drop f)
  fin : ¬ k ≤ s.size → l.map bs = Pm.cut (bs s)
theorem CutAt.zero (s : ByteArray) : CutAt s 0 0 [] := ⟨Nat.le_refl _, fun _ => ⟨Nat.le_refl _, by simp, by simp⟩, fun h => absurd (Nat.zero_le _) h⟩
theorem take_drop_succ (x : List UInt8) (f k : Nat) (hf : f ≤ k) (hk : k < x.length) : (x.drop f).take (k + 1 - f) = (x.drop f).take (k - f) ++ [x[k]] := by
  rw [show k + 1 - f = (k - f) + 1 by omega, List.take_succ_eq_append_getElem (by rw [List.length_drop]; omega), List.getElem_drop]
  congr 2
  congr 1
  omega
/-- another byte -/
theorem CutAt.byte {s : ByteArray} {k f : Nat} {l : List ByteArray} (h : CutAt s k f l) (hk : k < s.size) (hc : s[k] ≠ 47) : CutAt s (k + 1) f l := by
  obtain ⟨h1, h2, h3⟩ := h.go (by omega)
  refine ⟨by have := h.le; omega, fun _ => ⟨by omega, ?_, h3⟩, fun hn => absurd (by omega) hn⟩
  rw [take_drop_succ (bs s) f k h1 (by rw [bs_length]; exact hk)]
  simp only [List.mem_append, List.mem_singleton, not_or]
  exact ⟨h2, fun e => hc e.symm⟩
/-- a slash -/
theorem CutAt.slash {s : ByteArray} {k f : Nat} {l : List ByteArray} (h : CutAt s k f l) (hk : k < s.size) (hc : s[k] = 47) : CutAt s (k + 1) (k + 1) (l ++ [s.extract f k]) := by
  obtain ⟨h1, h2, h3⟩ := h.go (by omega)
  refine ⟨by have := h.le; simp; omega, fun _ => ⟨Nat.le_refl _, by simp, ?_⟩, fun hn => absurd (by omega) hn⟩
  have hkl : k < (bs s).length := by rw [bs_length]; exact hk
  have e : (bs s).drop f = ((bs s).drop f).take (k - f) ++ 47 :: (bs s).drop (k + 1) := by
    conv => lhs; rw [← List.take_append_drop (k - f) ((bs s).drop f)]
    congr 1
    rw [List.drop_drop, show f + (k - f) = k by omega, List.drop_eq_getElem_cons hkl]
    congr 1
  rw [h3, e, Pm.cut_slash, Pm.cut_plain _ h2, List.map_append, List.map_cons, List.map_nil, bs_extract]
  simp
/-- the end -/
theorem CutAt.last {s : ByteArray} {f : Nat} {l : List ByteArray} (h : CutAt s s.size f l) : CutAt s (s.size + 1) (s.size + 1) (l ++ [s.extract f s.size]) := by
  obtain ⟨h1, h2, h3⟩ := h.go (Nat.le_refl _)
  refine ⟨by have := h.le; simp; omega, fun hn => absurd hn (by omega), fun _ => ?_⟩
  have e : ((bs s).drop f).take (s.size - f) = (bs s).drop f := List.take_of_length_le (by rw [List.length_drop, bs_length]; exact Nat.le_refl _)
  rw [e] at h2
  rw [h3, Pm.cut_plain _ h2, List.map_append, List.map_cons, List.map_nil, bs_extract, e]

set_option maxRecDepth 100000 in
set_option maxHeartbeats 4000000 in
theorem Cut_any (s : ByteArray) (w : World) (hs : s.size ≤ 100000000) : Calls Try.prog 53 #[.string s] w fun e w' => ∃ v l, e = .returned v ∧ OwnS w' w.heap.size v l ∧ l.map bs = Pm.cut (bs s) ∧ Below w.heap.size w w' := by
  go_enter Try.func53, Try.ntmps53
  go_wp2
  go_loopw [3, 4, 5] (fun v f i wr => ∃ (k ff : Nat) (l : List ByteArray), k ≤ s.size + 1 ∧ i = .int .i64 (k : Int) ∧ f = .int .i64 (ff : Int) ∧ OwnS wr w.heap.size v l ∧ CutAt s k ff l ∧ Below w.heap.size w wr) (fun _ _ i _ => s.size + 1 - (intOf i).toNat)
  case atStart => exact ⟨0, 0, [], Nat.zero_le _, rfl, rfl, OwnS.nil _ _, CutAt.zero s, Below.refl _ _⟩
  case round =>
    obtain ⟨k, f, l, hk, rfl, rfl, hO, hC, hBe⟩ := hrel
    have HC : Hid (CutAt s k f l) := hC
    clear hC
    by_cases hle : k ≤ s.size
    · obtain ⟨hf1, -, -⟩ := HC.out.go hle
      have i1 : (k : Int) ≤ (s.size : Int) := by omega
      have i3 : (f : Int) ≤ (k : Int) := by omega
      obtain ⟨vd, vc, rfl, -⟩ := hO.strs
      by_cases he : k = s.size
      · subst he
        have i2 : ((s.size : Int) == (s.size : Int)) = true := by simp
        have HLt := strs_lit wr (s.extract f s.size)
        have hOa := OwnS.alloc hO (.cells #[.string (s.extract f s.size)] 9)
        have hBa := hBe.alloc hBe.size (.cells #[.string (s.extract f s.size)] 9)
        have Hx : Hid (l.length + [s.extract f s.size].length ≤ 1099511627) := by show _ ≤ _; have := HC.out.le; simp only [List.length_cons, List.length_nil]; omega
        go_wp2_with (at_builtin; go_must (refine wpList_append_strs rfl _ _ rfl w.heap.size (wr.heap.size + 1) _ _ l [s.extract f s.size] rfl hOa rfl HLt Hx hBa.size ?_))
        intro v' w' h1 h2
        have hB1 := hBa.grown h2 hBa.size fun g e => (World.ownsRow.lt hOa g e).1
        clear HLt hOa hBa hO hBe h2
        go_wp2
        exact ⟨⟨s.size + 1, s.size + 1, _, by omega, by go_num, by go_num, h1, HC.out.last, hB1⟩, by simp [intOf]⟩
      · have hlt : k < s.size := by omega
        have i2 : ((k : Int) == (s.size : Int)) = false := by simp; omega
        have i4 : (k : Int) < (s.size : Int) := by omega
        by_cases hc : s[k] = 47
        · have hx : ((s[k].toNat : Int) == 47) = true := by rw [hc]; rfl
          have Hc : Hid (s[k] = 47) := hc
          clear hc
          have HLt := strs_lit wr (s.extract f k)
          have hOa := OwnS.alloc hO (.cells #[.string (s.extract f k)] 9)
          have hBa := hBe.alloc hBe.size (.cells #[.string (s.extract f k)] 9)
          have Hx : Hid (l.length + [s.extract f k].length ≤ 1099511627) := by show _ ≤ _; have := HC.out.le; simp only [List.length_cons, List.length_nil]; omega
          go_wp2_with (at_builtin; go_must (refine wpList_append_strs rfl _ _ rfl w.heap.size (wr.heap.size + 1) _ _ l [s.extract f k] rfl hOa rfl HLt Hx hBa.size ?_))
          intro v' w' h1 h2
          have hB1 := hBa.grown h2 hBa.size fun g e => (World.ownsRow.lt hOa g e).1
          clear HLt hOa hBa hO hBe h2
          go_wp2
          exact ⟨⟨k + 1, k + 1, _, by omega, by go_num, by go_num, h1, HC.out.slash hlt Hc.out, hB1⟩, by simp [intOf]; omega⟩
        · have hx : ((s[k].toNat : Int) == 47) = false := by
            rw [beq_eq_false_iff_ne]
            intro h
            exact hc (UInt8.toNat_inj.1 (by have : s[k].toNat = 47 := by omega
                                            rw [this]; rfl))
          have Hc : Hid (s[k] ≠ 47) := hc
          clear hc
          go_wp2
          exact ⟨⟨k + 1, f, l, by omega, by go_num, rfl, hO, HC.out.byte hlt Hc.out, hBe⟩, by simp [intOf]; omega⟩
    · have i1 : ¬ (k : Int) ≤ (s.size : Int) := by omega
      go_wp2
      go_ret
      exact ⟨_, rfl, l, hO, HC.out.fin hle, hBe⟩

end Go.Proofs.Ytppcfidaalejfaa
