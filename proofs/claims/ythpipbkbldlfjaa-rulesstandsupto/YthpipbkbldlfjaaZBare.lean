/-
  strings.IndexByte; WHAT bare DOES.
-/
import Derived.Test.YthpipbkbldlfjaaXRead
import Derived.Lib.Bytealg
import Derived.Lib.IndexLaws
namespace Go.Proofs.Ythpipbkbldlfjaa
open Go.RowKit

set_option maxRecDepth 100000 in
theorem LiteIndexByte_any (s : ByteArray) (c : Int) (w : World) : Calls Try.prog 104 #[.string s, .int .u8 c] w fun e w' => e = .returned (.int .i64 (Lib.indexByte (bs s) c.toNat.toUInt8)) ∧ w' = w := by
  go_enter Try.func104, Try.ntmps104
  go_wp2
  rw [run_callFunc_extern Try.func108 (by kernel_rfl) (by kernel_rfl) (by kernel_rfl) (e := Extern.BytealgIndexByte.indexByte) (by kernel_rfl), Lib.run_indexByteString]
  simp only [Result.andThen]
  rw [Oper.upon_value]
  go_wp2
  go_ret
  exact ⟨rfl, rfl⟩
set_option maxRecDepth 100000 in
theorem IndexByte_any (s : ByteArray) (c : Int) (w : World) : Calls Try.prog 103 #[.string s, .int .u8 c] w fun e w' => e = .returned (.int .i64 (Lib.indexByte (bs s) c.toNat.toUInt8)) ∧ w' = w := by
  go_enter Try.func103, Try.ntmps103
  go_wp2_with fail
  refine (LiteIndexByte_any s c _).mono ?_
  rintro e w1 ⟨rfl, rfl⟩
  go_wp2
  go_ret
  exact ⟨rfl, rfl⟩
theorem indexByte_cases (l : List UInt8) (c : UInt8) : (Lib.indexByte l c = -1 ∧ c ∉ l) ∨ ∃ k : Nat, Lib.indexByte l c = k ∧ k < l.length ∧ l = l.take k ++ c :: l.drop (k + 1) ∧ c ∉ l.take k := by
  by_cases h : Lib.indexByte l c = -1
  · refine .inl ⟨h, fun hm => ?_⟩
    obtain ⟨k, hk, e⟩ := List.getElem_of_mem hm
    exact Lib.indexByte_none h k (by rw [List.getElem?_eq_getElem hk, e])
  · have hg := Lib.indexByte_ge l c
    obtain ⟨k, hk⟩ : ∃ k : Nat, Lib.indexByte l c = k := ⟨(Lib.indexByte l c).toNat, by omega⟩
    obtain ⟨h1, h2⟩ := Lib.indexByte_some hk
    have hlt : k < l.length := (List.getElem?_eq_some_iff.1 h1).1
    refine .inr ⟨k, hk, hlt, ?_, fun hm => ?_⟩
    · have e : l[k] = c := (List.getElem?_eq_some_iff.1 h1).2
      rw [← e, ← List.drop_eq_getElem_cons hlt, List.take_append_drop]
    · obtain ⟨j, hj, e⟩ := List.getElem_of_mem hm
      rw [List.length_take] at hj
      rw [List.getElem_take] at e
      exact h2 j (by omega) (by rw [List.getElem?_eq_getElem (by omega), e])
theorem bare_mem (c : UInt8) : Lx.bare c = decide (32 < c.toNat ∧ c.toNat ≤ 126 ∧ c ∉ ([34, 35, 58, 61, 92] : List UInt8)) := by
  unfold Lx.bare
  rw [decide_eq_decide]
  simp only [List.mem_cons, List.not_mem_nil, or_false, not_or]
  exact Iff.rfl

set_option maxRecDepth 100000 in
theorem bare_any (c : UInt8) (w : World) : Calls Try.prog 97 #[.int .u8 (c.toNat : Int)] w fun e w' => e = .returned (.bool (Lx.bare c)) ∧ w' = w := by
  have HB : Hid _ := bare_mem c
  generalize Lx.bare c = b at *
  go_enter Try.func97, Try.ntmps97
  by_cases h1 : 32 < c.toNat
  · have i1 : (32 : Int) < (c.toNat : Int) := by omega
    by_cases h2 : c.toNat ≤ 126
    · have i2 : (c.toNat : Int) ≤ 126 := by omega
      go_wp2_with fail
      refine (IndexByte_any _ _ _).mono ?_
      rintro e w1 ⟨rfl, rfl⟩
      have e1 : ((c.toNat : Int)).toNat.toUInt8 = c := by simp
      rw [e1]
      rcases indexByte_cases (bs ⟨#[34, 35, 58, 61, 92]⟩) c with ⟨e, hm⟩ | ⟨k, e, -, hm1, -⟩
      · rw [e]
        go_wp2
        go_ret
        refine ⟨?_, rfl⟩
        rw [HB.out, decide_eq_true ⟨h1, h2, hm⟩]
        rfl
      · rw [e]
        have i3 : ¬ (k : Int) < 0 := by omega
        have HM : Hid (c ∈ bs ⟨#[34, 35, 58, 61, 92]⟩) := by
          show c ∈ _
          rw [hm1]; simp
        clear hm1
        go_wp2
        go_ret
        refine ⟨?_, rfl⟩
        rw [HB.out.trans (decide_eq_false (fun h => h.2.2 HM.out))]
        rfl
    · have i2 : ¬ (c.toNat : Int) ≤ 126 := by omega
      go_wp2
      go_ret
      refine ⟨?_, rfl⟩
      rw [HB.out, decide_eq_false (fun h => h2 h.2.1)]
      rfl
  · have i1 : ¬ (32 : Int) < (c.toNat : Int) := by omega
    go_wp2
    go_ret
    refine ⟨?_, rfl⟩
    rw [HB.out, decide_eq_false (fun h => h1 h.1)]
    rfl

end Go.Proofs.Ythpipbkbldlfjaa
