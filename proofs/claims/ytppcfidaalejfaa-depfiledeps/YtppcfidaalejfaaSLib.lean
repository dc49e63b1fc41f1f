/-
  WHAT THE LIBRARY's STRINGS DO AT ONE BYTE: the inner Index, IndexByte; Cut. Each walked over its own text.
-/
import Derived.Test.YtppcfidaalejfaaPBs
import Derived.Lib.Bytealg
import Derived.Lib.IndexLaws
import Derived.BigQuiet
namespace Go.Proofs.Ytppcfidaalejfaa
open Go.RowKit

set_option maxRecDepth 100000 in
theorem LiteIndexByte_any (s : ByteArray) (c : Int) (w : World) : Calls Try.prog 68 #[.string s, .int .u8 c] w fun e w' => e = .returned (.int .i64 (Lib.indexByte (bs s) c.toNat.toUInt8)) ∧ w' = w := by
  go_enter Try.func68, Try.ntmps68
  go_wp2
  rw [run_callFunc_extern Try.func78 (by kernel_rfl) (by kernel_rfl) (by kernel_rfl) (e := Extern.BytealgIndexByte.indexByte) (by kernel_rfl), Lib.run_indexByteString]
  simp only [Result.andThen]
  rw [Oper.upon_value]
  go_wp2
  go_ret
  exact ⟨rfl, rfl⟩
set_option maxRecDepth 100000 in
theorem LiteIndex_one (s : ByteArray) (c : UInt8) (w : World) : Calls Try.prog 63 #[.string s, .string ⟨#[c]⟩] w fun e w' => e = .returned (.int .i64 (Lib.indexByte (bs s) c)) ∧ w' = w := by
  go_enter Try.func63, Try.ntmps63
  go_wp2_with (go_at_call 68; refine (LiteIndexByte_any _ _ _).mono ?_; rintro e w' ⟨rfl, rfl⟩)
  · have h : ([c] == s.toList) = true := by assumption
    go_ret
    refine ⟨?_, rfl⟩
    have e : bs s = [c] := by rw [bs, ← Lib.toList_data]; exact (beq_iff_eq.1 h).symm
    rw [e]
    simp [Lib.indexByte]
  · go_ret
    exact ⟨rfl, rfl⟩
theorem indexByte_cases (l : List UInt8) (c : UInt8) : (Lib.indexByte l c = -1 ∧ c ∉ l) ∨ ∃ k : Nat, Lib.indexByte l c = k ∧ k < l.length ∧ l = l.take k ++ c :: l.drop (k + 1) ∧ c ∉ l.take k := by
  by_cases h : Lib.indexByte l c = -1
  · refine .inl ⟨h, fun hm => ?_⟩
    obtain ⟨k, hk, e⟩ := List.getElem_of_mem hm
    exact Lib.indexByte_none h k (by rw [List.getElem?_eq_getElem hk, e])
  · have hg := Lib.indexByte_ge l c
    obtain ⟨k, hk⟩ : ∃ k : Nat, Lib.indexByte l c = k := ⟨(Lib.indexByte l c).toNat, by omega⟩
    obtain ⟨h1, h2⟩ := Lib.indexByte_some hk
    have hlt : k < l.length := (List.getElem?_eq_some_iff.1 h1).1
    refine .inr ⟨k, hk, hlt, ?_, fun hm => ?_⟩
    · have e : l[k] = c := (List.getElem?_eq_some_iff.1 h1).2
      rw [← e, ← List.drop_eq_getElem_cons hlt, List.take_append_drop]
    · obtain ⟨j, hj, e⟩ := List.getElem_of_mem hm
      rw [List.length_take] at hj
      rw [List.getElem_take] at e
      exact h2 j (by omega) (by rw [List.getElem?_eq_getElem (by omega), e])
/-- what Cut answers at one byte -/
def CutOf (c : UInt8) (s a b : ByteArray) (f : Bool) : Prop := (f = false ∧ a = s ∧ b = ByteArray.empty ∧ c ∉ bs s) ∨ (f = true ∧ bs s = bs a ++ c :: bs b ∧ c ∉ bs a)
set_option maxRecDepth 100000 in
theorem LiteCut_one (s : ByteArray) (c : UInt8) (w : World) (hs : s.size ≤ 9223372036854775807) : Calls Try.prog 56 #[.string s, .string ⟨#[c]⟩] w fun e w' => (∃ a b f, e = .returned (.tuple #[.string a, .string b, .bool f]) ∧ CutOf c s a b f) ∧ Below w.heap.size w w' := by
  rcases indexByte_cases (bs s) c with ⟨h1, h2⟩ | ⟨k, h1, hk, h2, h3⟩
  · go_enter Try.func56, Try.ntmps56
    go_wp2_with (go_at_call 63; refine (LiteIndex_one _ _ _).mono ?_; rintro e w' ⟨rfl, rfl⟩; rw [h1])
    go_ret3
    exact ⟨⟨_, _, _, rfl, .inl ⟨rfl, rfl, rfl, h2⟩⟩, Below.refl _ _⟩
  · rw [bs_length] at hk
    have c1 : (0 : Int) ≤ ↑k := by omega
    have c2 : (↑k : Int) ≤ ↑s.size := by omega
    have c3 : (0 : Int) ≤ ↑k + 1 := by omega
    have c4 : (↑k + 1 : Int) ≤ ↑s.size := by omega
    go_enter Try.func56, Try.ntmps56
    go_wp2_with (go_at_call 63; refine (LiteIndex_one _ _ _).mono ?_; rintro e w' ⟨rfl, rfl⟩; rw [h1])
    go_quiet (fail)
    go_wp2
    go_ret3
    refine ⟨⟨_, _, _, rfl, .inr ⟨rfl, ?_, ?_⟩⟩, ?_⟩
    · rw [bs_extract, bs_extract, List.drop_zero, Nat.sub_zero, List.take_of_length_le (i := s.size - (k + 1)) (by rw [List.length_drop, bs_length]; omega)]
      exact h2
    · rw [bs_extract, List.drop_zero, Nat.sub_zero]
      exact h3
    · exact below_drewN (Below.refl _ _) _
set_option maxRecDepth 100000 in
theorem Cut_one (s : ByteArray) (c : UInt8) (w : World) (hs : s.size ≤ 9223372036854775807) : Calls Try.prog 42 #[.string s, .string ⟨#[c]⟩] w fun e w' => (∃ a b f, e = .returned (.tuple #[.string a, .string b, .bool f]) ∧ CutOf c s a b f) ∧ Below w.heap.size w w' := by
  go_enter Try.func42, Try.ntmps42
  go_wp2_with fail
  refine (LiteCut_one s c _ hs).mono ?_
  rintro e w1 ⟨⟨a, b, f, rfl, h⟩, hB⟩
  go_wp2
  go_ret3
  exact ⟨⟨_, _, _, rfl, h⟩, hB⟩
end Go.Proofs.Ytppcfidaalejfaa
