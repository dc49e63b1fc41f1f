/-
  WHAT THE LIBRARY's STRINGS DO AT ONE BYTE: the inner Index, IndexByte; Cut. Each walked over its own text.
-/
import Derived.Test.YtnobmgkdieaclaaGreatDoorPBs
import Derived.Lib.Bytealg
import Derived.Lib.IndexLaws
import Derived.BigQuiet
import Derived.Shelf.Strings.Builder1
import Derived.Test.YtnobmgkdieaclaaGreatDoorProg
import Derived.Shelf.Strings.Builder2
import Derived.Shelf.Strings.Count
import Derived.Shelf.Strings.OnBuilder
import Derived.Lib.ReplaceLaws
import Derived.Lib.SlicesS
import Derived.Deep.LoopGhost
import Derived.Test.YtnobmgkdieaclaaGreatDoorIbMay
import Derived.Test.YtnobmgkdieaclaaGreatDoorALineR
namespace Go.Proofs.YtnobmgkdieaclaaGreatDoor
open Go.RowKit

set_option maxRecDepth 100000 in
theorem LiteIndexByte_any (s : ByteArray) (c : Int) (w : World) : Calls Tryz.prog 111 #[.string s, .int .u8 c] w fun e w' => e = .returned (.int .i64 (Lib.indexByte (bs s) c.toNat.toUInt8)) ∧ w' = w := by
  go_enter Tryz.func111, Tryz.ntmps111
  go_wp2
  rw [run_callFunc_extern Tryz.func125 (by kernel_rfl) (by kernel_rfl) (by kernel_rfl) (e := Extern.BytealgIndexByte.indexByte) (by kernel_rfl), Lib.run_indexByteString]
  simp only [Result.andThen]
  rw [Oper.upon_value]
  go_wp2
  go_ret
  exact ⟨rfl, rfl⟩
set_option maxRecDepth 100000 in
theorem LiteIndex_one (s : ByteArray) (c : UInt8) (w : World) : Calls Tryz.prog 94 #[.string s, .string ⟨#[c]⟩] w fun e w' => e = .returned (.int .i64 (Lib.indexByte (bs s) c)) ∧ w' = w := by
  go_enter Tryz.func94, Tryz.ntmps94
  go_wp2_with (go_at_call 111; refine (LiteIndexByte_any _ _ _).mono ?_; rintro e w' ⟨rfl, rfl⟩)
  · have h : ([c] == s.toList) = true := by assumption
    go_ret
    refine ⟨?_, rfl⟩
    have e : bs s = [c] := by rw [bs, ← Lib.toList_data]; exact (beq_iff_eq.1 h).symm
    rw [e]
    simp [Lib.indexByte]
  · go_ret
    exact ⟨rfl, rfl⟩
theorem indexByte_cases (l : List UInt8) (c : UInt8) : (Lib.indexByte l c = -1 ∧ c ∉ l) ∨ ∃ k : Nat, Lib.indexByte l c = k ∧ k < l.length ∧ l = l.take k ++ c :: l.drop (k + 1) ∧ c ∉ l.take k := by
  by_cases h : Lib.indexByte l c = -1
  · refine .inl ⟨h, fun hm => ?_⟩
    obtain ⟨k, hk, e⟩ := List.getElem_of_mem hm
    exact Lib.indexByte_none h k (by rw [List.getElem?_eq_getElem hk, e])
  · have hg := Lib.indexByte_ge l c
    obtain ⟨k, hk⟩ : ∃ k : Nat, Lib.indexByte l c = k := ⟨(Lib.indexByte l c).toNat, by omega⟩
    obtain ⟨h1, h2⟩ := Lib.indexByte_some hk
    have hlt : k < l.length := (List.getElem?_eq_some_iff.1 h1).1
    refine .inr ⟨k, hk, hlt, ?_, fun hm => ?_⟩
    · have e : l[k] = c := (List.getElem?_eq_some_iff.1 h1).2
      rw [← e, ← List.drop_eq_getElem_cons hlt, List.take_append_drop]
    · obtain ⟨j, hj, e⟩ := List.getElem_of_mem hm
      rw [List.length_take] at hj
      rw [List.getElem_take] at e
      exact h2 j (by omega) (by rw [List.getElem?_eq_getElem (by omega), e])
/-- what Cut answers at one byte -/
def CutOf (c : UInt8) (s a b : ByteArray) (f : Bool) : Prop := (f = false ∧ a = s ∧ b = ByteArray.empty ∧ c ∉ bs s) ∨ (f = true ∧ bs s = bs a ++ c :: bs b ∧ c ∉ bs a)
set_option maxRecDepth 100000 in
theorem LiteCut_one (s : ByteArray) (c : UInt8) (w : World) (hs : s.size ≤ 9223372036854775807) : Calls Tryz.prog 85 #[.string s, .string ⟨#[c]⟩] w fun e w' => (∃ a b f, e = .returned (.tuple #[.string a, .string b, .bool f]) ∧ CutOf c s a b f) ∧ Below w.heap.size w w' := by
  rcases indexByte_cases (bs s) c with ⟨h1, h2⟩ | ⟨k, h1, hk, h2, h3⟩
  · go_enter Tryz.func85, Tryz.ntmps85
    go_wp2_with (go_at_call 94; refine (LiteIndex_one _ _ _).mono ?_; rintro e w' ⟨rfl, rfl⟩; rw [h1])
    go_ret3
    exact ⟨⟨_, _, _, rfl, .inl ⟨rfl, rfl, rfl, h2⟩⟩, Below.refl _ _⟩
  · rw [bs_length] at hk
    have c1 : (0 : Int) ≤ ↑k := by omega
    have c2 : (↑k : Int) ≤ ↑s.size := by omega
    have c3 : (0 : Int) ≤ ↑k + 1 := by omega
    have c4 : (↑k + 1 : Int) ≤ ↑s.size := by omega
    go_enter Tryz.func85, Tryz.ntmps85
    go_wp2_with (go_at_call 94; refine (LiteIndex_one _ _ _).mono ?_; rintro e w' ⟨rfl, rfl⟩; rw [h1])
    go_quiet (fail)
    go_wp2
    go_ret3
    refine ⟨⟨_, _, _, rfl, .inr ⟨rfl, ?_, ?_⟩⟩, ?_⟩
    · rw [bs_extract, bs_extract, List.drop_zero, Nat.sub_zero, List.take_of_length_le (i := s.size - (k + 1)) (by rw [List.length_drop, bs_length]; omega)]
      exact h2
    · rw [bs_extract, List.drop_zero, Nat.sub_zero]
      exact h3
    · exact below_drewN (Below.refl _ _) _
set_option maxRecDepth 100000 in
theorem Cut_one (s : ByteArray) (c : UInt8) (w : World) (hs : s.size ≤ 9223372036854775807) : Calls Tryz.prog 60 #[.string s, .string ⟨#[c]⟩] w fun e w' => (∃ a b f, e = .returned (.tuple #[.string a, .string b, .bool f]) ∧ CutOf c s a b f) ∧ Below w.heap.size w w' := by
  go_enter Tryz.func60, Tryz.ntmps60
  go_wp2_with fail
  refine (LiteCut_one s c _ hs).mono ?_
  rintro e w1 ⟨⟨a, b, f, rfl, h⟩, hB⟩
  go_wp2
  go_ret3
  exact ⟨⟨_, _, _, rfl, h⟩, hB⟩
end Go.Proofs.YtnobmgkdieaclaaGreatDoor

namespace Go.Proofs.YtnobmgkdieaclaaGreatDoor
open Go.RowKit

set_option maxRecDepth 100000 in
theorem Index_one (s : ByteArray) (c : UInt8) (w : World) : Calls Tryz.prog 129 #[.string s, .string ⟨#[c]⟩] w fun e w' => e = .returned (.int .i64 (Lib.indexByte (bs s) c)) ∧ w' = w := by
  go_enter Tryz.func129, Tryz.ntmps129
  go_wp2_with fail
  refine (LiteIndex_one _ _ _).mono ?_
  rintro e w1 ⟨rfl, rfl⟩
  go_wp2
  go_ret
  exact ⟨rfl, rfl⟩
end Go.Proofs.YtnobmgkdieaclaaGreatDoor

namespace Go.Proofs
open Go.Shelf
def Tryz.lays166_ren : Go.Shelf.Ren := ⟨fun | 166 => 132 | 240 => 145 | 276 => 154 | n => n, fun | 70 => 154 | 3 => 3 | 0 => 0 | 4 => 4 | 9 => 9 | 20 => 20 | 72 => 156 | 37 => 78 | 75 => 158 | 80 => 144 | 164 => 176 | 5 => 5 | n => n, fun | n => n⟩
theorem Tryz.lays166 : Go.Proofs.Lays.n166 Tryz.prog Tryz.lays166_ren := {
  mixed := by kernel_rfl
  f166 := Tryz.func132.trans (congrArg some (by kernel_rfl))
  f240 := Tryz.func145.trans (congrArg some (by kernel_rfl))
  f276 := Tryz.func154.trans (congrArg some (by kernel_rfl))
  t0 := Tryz.underlying0
  a0 := Tryz.isAgg0
  z0 := Tryz.sizeOf0
  v0 := Tryz.zeroValue0
  t3 := Tryz.underlying3
  a3 := Tryz.isAgg3
  z3 := Tryz.sizeOf3
  v3 := Tryz.zeroValue3
  t4 := Tryz.underlying4
  a4 := Tryz.isAgg4
  z4 := Tryz.sizeOf4
  v4 := Tryz.zeroValue4
  t9 := Tryz.underlying9
  a9 := Tryz.isAgg9
  z9 := Tryz.sizeOf9
  v9 := Tryz.zeroValue9
  t20 := Tryz.underlying20
  a20 := Tryz.isAgg20
  z20 := Tryz.sizeOf20
  v20 := Tryz.zeroValue20
  t37 := Tryz.underlying78
  a37 := Tryz.isAgg78
  z37 := Tryz.sizeOf78
  v37 := Tryz.zeroValue78
  t70 := Tryz.underlying154
  a70 := Tryz.isAgg154
  z70 := Tryz.sizeOf154
  v70 := Tryz.zeroValue154
  t72 := Tryz.underlying156
  a72 := Tryz.isAgg156
  z72 := Tryz.sizeOf156
  v72 := Tryz.zeroValue156
  t75 := Tryz.underlying158
  a75 := Tryz.isAgg158
  z75 := Tryz.sizeOf158
  v75 := Tryz.zeroValue158
  t164 := Tryz.underlying176
  a164 := Tryz.isAgg176
  z164 := Tryz.sizeOf176
  v164 := Tryz.zeroValue176 }
theorem Tryz.Builder_Extra_166 : Builder.Extra Tryz.prog Tryz.lays166_ren := {
  sizeBuilder := by kernel_rfl
  liesBuilder := by kernel_rfl
  t5 := Tryz.underlying5
  a5 := Tryz.isAgg5
  z5 := Tryz.sizeOf5
  v5 := Tryz.zeroValue5
  infoByte := by kernel_rfl
  cellsByte := by kernel_rfl
  sizeByte := by kernel_rfl
  neB5 := by decide }
def Tryz.lays167_ren : Go.Shelf.Ren := ⟨fun | 167 => 134 | 240 => 145 | 276 => 154 | n => n, fun | 70 => 154 | 3 => 3 | 0 => 0 | 4 => 4 | 9 => 9 | 20 => 20 | 72 => 156 | 37 => 78 | 75 => 158 | 80 => 144 | 164 => 176 | 5 => 5 | n => n, fun | n => n⟩
theorem Tryz.lays167 : Go.Proofs.Lays.n167 Tryz.prog Tryz.lays167_ren := {
  mixed := by kernel_rfl
  f167 := Tryz.func134.trans (congrArg some (by kernel_rfl))
  f240 := Tryz.func145.trans (congrArg some (by kernel_rfl))
  f276 := Tryz.func154.trans (congrArg some (by kernel_rfl))
  t0 := Tryz.underlying0
  a0 := Tryz.isAgg0
  z0 := Tryz.sizeOf0
  v0 := Tryz.zeroValue0
  t4 := Tryz.underlying4
  a4 := Tryz.isAgg4
  z4 := Tryz.sizeOf4
  v4 := Tryz.zeroValue4
  t5 := Tryz.underlying5
  a5 := Tryz.isAgg5
  z5 := Tryz.sizeOf5
  v5 := Tryz.zeroValue5
  t9 := Tryz.underlying9
  a9 := Tryz.isAgg9
  z9 := Tryz.sizeOf9
  v9 := Tryz.zeroValue9
  t20 := Tryz.underlying20
  a20 := Tryz.isAgg20
  z20 := Tryz.sizeOf20
  v20 := Tryz.zeroValue20
  t37 := Tryz.underlying78
  a37 := Tryz.isAgg78
  z37 := Tryz.sizeOf78
  v37 := Tryz.zeroValue78
  t70 := Tryz.underlying154
  a70 := Tryz.isAgg154
  z70 := Tryz.sizeOf154
  v70 := Tryz.zeroValue154
  t72 := Tryz.underlying156
  a72 := Tryz.isAgg156
  z72 := Tryz.sizeOf156
  v72 := Tryz.zeroValue156
  t75 := Tryz.underlying158
  a75 := Tryz.isAgg158
  z75 := Tryz.sizeOf158
  v75 := Tryz.zeroValue158
  t164 := Tryz.underlying176
  a164 := Tryz.isAgg176
  z164 := Tryz.sizeOf176
  v164 := Tryz.zeroValue176 }
theorem Tryz.Builder_Extra_167 : Builder.Extra Tryz.prog Tryz.lays167_ren := {
  sizeBuilder := by kernel_rfl
  liesBuilder := by kernel_rfl
  t5 := Tryz.underlying5
  a5 := Tryz.isAgg5
  z5 := Tryz.sizeOf5
  v5 := Tryz.zeroValue5
  infoByte := by kernel_rfl
  cellsByte := by kernel_rfl
  sizeByte := by kernel_rfl
  neB5 := by decide }
def Tryz.lays169_ren : Go.Shelf.Ren := ⟨fun | 169 => 133 | n => n, fun | 70 => 154 | 9 => 9 | 0 => 0 | 72 => 156 | 37 => 78 | 127 => 174 | 3 => 3 | 5 => 5 | n => n, fun | n => n⟩
theorem Tryz.lays169 : Go.Proofs.Lays.n169 Tryz.prog Tryz.lays169_ren := {
  mixed := by kernel_rfl
  f169 := Tryz.func133.trans (congrArg some (by kernel_rfl))
  t0 := Tryz.underlying0
  a0 := Tryz.isAgg0
  z0 := Tryz.sizeOf0
  v0 := Tryz.zeroValue0
  t3 := Tryz.underlying3
  a3 := Tryz.isAgg3
  z3 := Tryz.sizeOf3
  v3 := Tryz.zeroValue3
  t9 := Tryz.underlying9
  a9 := Tryz.isAgg9
  z9 := Tryz.sizeOf9
  v9 := Tryz.zeroValue9
  t37 := Tryz.underlying78
  a37 := Tryz.isAgg78
  z37 := Tryz.sizeOf78
  v37 := Tryz.zeroValue78
  t70 := Tryz.underlying154
  a70 := Tryz.isAgg154
  z70 := Tryz.sizeOf154
  v70 := Tryz.zeroValue154
  t72 := Tryz.underlying156
  a72 := Tryz.isAgg156
  z72 := Tryz.sizeOf156
  v72 := Tryz.zeroValue156
  t127 := Tryz.underlying174
  a127 := Tryz.isAgg174
  z127 := Tryz.sizeOf174
  v127 := Tryz.zeroValue174 }
theorem Tryz.Builder_Extra_169 : Builder.Extra Tryz.prog Tryz.lays169_ren := {
  sizeBuilder := by kernel_rfl
  liesBuilder := by kernel_rfl
  t5 := Tryz.underlying5
  a5 := Tryz.isAgg5
  z5 := Tryz.sizeOf5
  v5 := Tryz.zeroValue5
  infoByte := by kernel_rfl
  cellsByte := by kernel_rfl
  sizeByte := by kernel_rfl
  neB5 := by decide }
end Go.Proofs

namespace Go.Proofs
open Go.Shelf
def Tryz.lays165_ren : Go.Shelf.Ren := ⟨fun | 165 => 131 | 240 => 145 | 241 => 146 | 276 => 154 | 277 => 155 | n => n, fun | 70 => 154 | 3 => 3 | 0 => 0 | 4 => 4 | 9 => 9 | 20 => 20 | 72 => 156 | 37 => 78 | 164 => 176 | 5 => 5 | n => n, fun | n => n⟩
theorem Tryz.lays165 : Go.Proofs.Lays.n165 Tryz.prog Tryz.lays165_ren := {
  mixed := by kernel_rfl
  f165 := Tryz.func131.trans (congrArg some (by kernel_rfl))
  f240 := Tryz.func145.trans (congrArg some (by kernel_rfl))
  f241 := Tryz.func146.trans (congrArg some (by kernel_rfl))
  f276 := Tryz.func154.trans (congrArg some (by kernel_rfl))
  f277 := Tryz.func155.trans (congrArg some (by kernel_rfl))
  t0 := Tryz.underlying0
  a0 := Tryz.isAgg0
  z0 := Tryz.sizeOf0
  v0 := Tryz.zeroValue0
  t3 := Tryz.underlying3
  a3 := Tryz.isAgg3
  z3 := Tryz.sizeOf3
  v3 := Tryz.zeroValue3
  t4 := Tryz.underlying4
  a4 := Tryz.isAgg4
  z4 := Tryz.sizeOf4
  v4 := Tryz.zeroValue4
  t9 := Tryz.underlying9
  a9 := Tryz.isAgg9
  z9 := Tryz.sizeOf9
  v9 := Tryz.zeroValue9
  t20 := Tryz.underlying20
  a20 := Tryz.isAgg20
  z20 := Tryz.sizeOf20
  v20 := Tryz.zeroValue20
  t37 := Tryz.underlying78
  a37 := Tryz.isAgg78
  z37 := Tryz.sizeOf78
  v37 := Tryz.zeroValue78
  t70 := Tryz.underlying154
  a70 := Tryz.isAgg154
  z70 := Tryz.sizeOf154
  v70 := Tryz.zeroValue154
  t72 := Tryz.underlying156
  a72 := Tryz.isAgg156
  z72 := Tryz.sizeOf156
  v72 := Tryz.zeroValue156
  t164 := Tryz.underlying176
  a164 := Tryz.isAgg176
  z164 := Tryz.sizeOf176
  v164 := Tryz.zeroValue176 }
theorem Tryz.Builder_Extra_165 : Builder.Extra Tryz.prog Tryz.lays165_ren := {
  sizeBuilder := by kernel_rfl
  liesBuilder := by kernel_rfl
  t5 := Tryz.underlying5
  a5 := Tryz.isAgg5
  z5 := Tryz.sizeOf5
  v5 := Tryz.zeroValue5
  infoByte := by kernel_rfl
  cellsByte := by kernel_rfl
  sizeByte := by kernel_rfl
  neB5 := by decide }
def Tryz.lays138_ren : Go.Shelf.Ren := ⟨fun | 138 => 115 | 195 => 127 | 218 => 128 | 143 => 129 | 219 => 94 | 217 => 111 | 225 => 112 | 224 => 113 | 267 => 114 | 266 => 125 | 314 => 126 | n => n, fun | 9 => 9 | 3 => 3 | 4 => 4 | 5 => 5 | 0 => 0 | 46 => 142 | 146 => 150 | 51 => 149 | n => n, fun | 1 => 1 | n => n⟩
theorem Tryz.lays138 : Go.Proofs.Lays.n138 Tryz.prog Tryz.lays138_ren := {
  mixed := by kernel_rfl
  f138 := Tryz.func115.trans (congrArg some (by kernel_rfl))
  f143 := Tryz.func129.trans (congrArg some (by kernel_rfl))
  f195 := Tryz.func127.trans (congrArg some (by kernel_rfl))
  f217 := Tryz.func111.trans (congrArg some (by kernel_rfl))
  f218 := Tryz.func128.trans (congrArg some (by kernel_rfl))
  f219 := Tryz.func94.trans (congrArg some (by kernel_rfl))
  f224 := Tryz.func113.trans (congrArg some (by kernel_rfl))
  f225 := Tryz.func112.trans (congrArg some (by kernel_rfl))
  f266 := Tryz.func125.trans (congrArg some (by kernel_rfl))
  f267 := Tryz.func114.trans (congrArg some (by kernel_rfl))
  f314 := Tryz.func126.trans (congrArg some (by kernel_rfl))
  t0 := Tryz.underlying0
  a0 := Tryz.isAgg0
  z0 := Tryz.sizeOf0
  v0 := Tryz.zeroValue0
  t3 := Tryz.underlying3
  a3 := Tryz.isAgg3
  z3 := Tryz.sizeOf3
  v3 := Tryz.zeroValue3
  t4 := Tryz.underlying4
  a4 := Tryz.isAgg4
  z4 := Tryz.sizeOf4
  v4 := Tryz.zeroValue4
  t5 := Tryz.underlying5
  a5 := Tryz.isAgg5
  z5 := Tryz.sizeOf5
  v5 := Tryz.zeroValue5
  t9 := Tryz.underlying9
  a9 := Tryz.isAgg9
  z9 := Tryz.sizeOf9
  v9 := Tryz.zeroValue9
  t46 := Tryz.underlying142
  a46 := Tryz.isAgg142
  z46 := Tryz.sizeOf142
  v46 := Tryz.zeroValue142
  t51 := Tryz.underlying149
  a51 := Tryz.isAgg149
  z51 := Tryz.sizeOf149
  v51 := Tryz.zeroValue149
  t146 := Tryz.underlying150
  a146 := Tryz.isAgg150
  z146 := Tryz.sizeOf150
  v146 := Tryz.zeroValue150
  g1 := by kernel_rfl }
def Tryz.lays156_ren : Go.Shelf.Ren := ⟨fun | 156 => 117 | 165 => 131 | 166 => 132 | 169 => 133 | 240 => 145 | 241 => 146 | 276 => 154 | 277 => 155 | n => n, fun | 31 => 23 | 9 => 9 | 3 => 3 | 4 => 4 | 0 => 0 | 20 => 20 | 72 => 156 | 76 => 159 | 70 => 154 | 37 => 78 | 75 => 158 | 127 => 174 | 164 => 176 | 5 => 5 | 80 => 144 | n => n, fun | n => n⟩
theorem Tryz.lays156 : Go.Proofs.Lays.n156 Tryz.prog Tryz.lays156_ren := {
  mixed := by kernel_rfl
  f156 := Tryz.func117.trans (congrArg some (by kernel_rfl))
  f165 := Tryz.func131.trans (congrArg some (by kernel_rfl))
  f166 := Tryz.func132.trans (congrArg some (by kernel_rfl))
  f169 := Tryz.func133.trans (congrArg some (by kernel_rfl))
  f240 := Tryz.func145.trans (congrArg some (by kernel_rfl))
  f241 := Tryz.func146.trans (congrArg some (by kernel_rfl))
  f276 := Tryz.func154.trans (congrArg some (by kernel_rfl))
  f277 := Tryz.func155.trans (congrArg some (by kernel_rfl))
  t0 := Tryz.underlying0
  a0 := Tryz.isAgg0
  z0 := Tryz.sizeOf0
  v0 := Tryz.zeroValue0
  t3 := Tryz.underlying3
  a3 := Tryz.isAgg3
  z3 := Tryz.sizeOf3
  v3 := Tryz.zeroValue3
  t4 := Tryz.underlying4
  a4 := Tryz.isAgg4
  z4 := Tryz.sizeOf4
  v4 := Tryz.zeroValue4
  t9 := Tryz.underlying9
  a9 := Tryz.isAgg9
  z9 := Tryz.sizeOf9
  v9 := Tryz.zeroValue9
  t20 := Tryz.underlying20
  a20 := Tryz.isAgg20
  z20 := Tryz.sizeOf20
  v20 := Tryz.zeroValue20
  t31 := Tryz.underlying23
  a31 := Tryz.isAgg23
  z31 := Tryz.sizeOf23
  v31 := Tryz.zeroValue23
  t37 := Tryz.underlying78
  a37 := Tryz.isAgg78
  z37 := Tryz.sizeOf78
  v37 := Tryz.zeroValue78
  t70 := Tryz.underlying154
  a70 := Tryz.isAgg154
  z70 := Tryz.sizeOf154
  v70 := Tryz.zeroValue154
  t72 := Tryz.underlying156
  a72 := Tryz.isAgg156
  z72 := Tryz.sizeOf156
  v72 := Tryz.zeroValue156
  t75 := Tryz.underlying158
  a75 := Tryz.isAgg158
  z75 := Tryz.sizeOf158
  v75 := Tryz.zeroValue158
  t76 := Tryz.underlying159
  a76 := Tryz.isAgg159
  z76 := Tryz.sizeOf159
  v76 := Tryz.zeroValue159
  t127 := Tryz.underlying174
  a127 := Tryz.isAgg174
  z127 := Tryz.sizeOf174
  v127 := Tryz.zeroValue174
  t164 := Tryz.underlying176
  a164 := Tryz.isAgg176
  z164 := Tryz.sizeOf176
  v164 := Tryz.zeroValue176 }
theorem Tryz.Builder_Extra_156 : Builder.Extra Tryz.prog Tryz.lays156_ren := {
  sizeBuilder := by kernel_rfl
  liesBuilder := by kernel_rfl
  t5 := Tryz.underlying5
  a5 := Tryz.isAgg5
  z5 := Tryz.sizeOf5
  v5 := Tryz.zeroValue5
  infoByte := by kernel_rfl
  cellsByte := by kernel_rfl
  sizeByte := by kernel_rfl
  neB5 := by decide }
end Go.Proofs

namespace Go.Proofs.YtnobmgkdieaclaaGreatDoor
open Go.RowKit Go.Shelf

/-- each c in l is x -/
def flat (c : UInt8) (x l : List UInt8) : List UInt8 := l.flatMap fun b => if b = c then x else [b]
theorem flat_none {c : UInt8} {x : List UInt8} : ∀ {l : List UInt8}, c ∉ l → flat c x l = l
  | [], _ => rfl
  | b :: r, h => by
    have h1 : b ≠ c := fun e => h (by simp [e])
    have h2 := flat_none (c := c) (x := x) (l := r) (fun hm => h (by simp [hm]))
    unfold flat at h2 ⊢
    rw [List.flatMap_cons, h2, if_neg h1]
    rfl
theorem flat_self {c : UInt8} : ∀ (l : List UInt8), flat c [c] l = l
  | [] => rfl
  | b :: r => by
    have h2 := flat_self (c := c) r
    unfold flat at h2 ⊢
    rw [List.flatMap_cons, h2]
    by_cases h : b = c
    · rw [if_pos h, h]; rfl
    · rw [if_neg h]; rfl
theorem flat_hit {c : UInt8} {x l : List UInt8} {k : Nat} (e : l = l.take k ++ c :: l.drop (k + 1)) (h : c ∉ l.take k) : flat c x l = l.take k ++ x ++ flat c x (l.drop (k + 1)) := by
  have h2 := flat_none (x := x) h
  unfold flat at h2 ⊢
  conv => lhs; rw [e]
  rw [List.flatMap_append, h2, List.flatMap_cons, if_pos rfl, List.append_assoc]
theorem flat_len (c : UInt8) (x : List UInt8) : ∀ l : List UInt8, (flat c x l).length ≤ l.length * (x.length + 1)
  | [] => by simp [flat]
  | b :: r => by
    have h2 := flat_len c x r
    unfold flat at h2 ⊢
    rw [List.flatMap_cons, List.length_append, List.length_cons, Nat.add_mul, Nat.one_mul]
    have : (if b = c then x else [b]).length ≤ x.length + 1 := by split <;> simp
    omega
theorem count_hit {c : UInt8} {l : List UInt8} {k : Nat} (e : l = l.take k ++ c :: l.drop (k + 1)) (h : c ∉ l.take k) : l.count c = 1 + (l.drop (k + 1)).count c := by
  conv => lhs; rw [e]
  rw [List.count_append, List.count_eq_zero.2 h, List.count_cons_self]
  omega

theorem mul_small {K n : Nat} (hK : K ≤ 10000) (hn : n ≤ 10000) : K * n ≤ 100000000 := Nat.le_trans (Nat.mul_le_mul hK hn) (by decide)
theorem grow_at (S K n : Nat) (hS : S ≤ 10000) (hK : K ≤ S) (hn : n ≤ 10000) : wrap64 ((S : Int) + wrap64 ((K : Int) * ((n : Int) - 1))) = ((S + K * n - K : Nat) : Int) := by
  have h := mul_small (K := K) (n := n) (by omega) hn
  have e : (K : Int) * ((n : Int) - 1) = ((K * n : Nat) : Int) - (K : Int) := by rw [Int.mul_sub, Int.mul_one]; push_cast; rfl
  rw [e]
  generalize K * n = A at *
  unfold wrap64
  omega
theorem grow_le (S K n : Nat) (hS : S ≤ 10000) (hK : K ≤ S) (hn : n ≤ 10000) : S + K * n - K ≤ 281474976710656 := by
  have h := mul_small (K := K) (n := n) (by omega) hn
  omega
set_option maxRecDepth 100000 in
theorem Count_one (s : ByteArray) (c : UInt8) (w : World) : Calls Tryz.prog 115 #[.string s, .string ⟨#[c]⟩] w fun e w' => e = .returned (.int .i64 ((bs s).count c : Int)) ∧ w' = w := Any.strings_Count_one Tryz.lays138 s c w

set_option maxRecDepth 1000000 in
set_option maxHeartbeats 16000000 in
theorem Replace_one (c : UInt8) (s x : ByteArray) (w : World) (hs : s.size ≤ 10000) (hx : x.size ≤ 10000) : Calls Tryz.prog 130 #[.string s, .string ⟨#[c]⟩, .string x, .int .i64 (-1)] w fun e w' => ∃ t, e = .returned (.string t) ∧ bs t = flat c (bs x) (bs s) ∧ Below w.heap.size w w' := by
  have hbt : x.toList = bs x := ByteArray.toList_eq x
  by_cases h1 : bs x = [c]
  · have q1 : ([c] == x.toList) = true := by rw [hbt, h1]; simp
    have HE : Hid (flat c (bs x) (bs s) = bs s) := by show _ = _; rw [h1]; exact flat_self _
    clear h1 hbt
    go_enter Tryz.func130, Tryz.ntmps130
    go_wp2
    go_ret
    exact ⟨_, rfl, HE.out.symm, Below.refl _ _⟩
  have q1 : ([c] == x.toList) = false := by rw [hbt]; exact beq_false_of_ne (fun e => h1 e.symm)
  clear h1 hbt
  have hC := Count_one s c
  obtain ⟨K, hK⟩ : ∃ K, (bs s).count c = K := ⟨_, rfl⟩
  have HK : Hid _ := hK
  rw [hK] at hC
  clear hK
  by_cases h0 : K = 0
  · subst h0
    have HE : Hid (flat c (bs x) (bs s) = bs s) := flat_none (List.count_eq_zero.1 HK.out)
    go_enter Tryz.func130, Tryz.ntmps130
    go_wp2_with fail
    refine (hC _).mono ?_
    rintro e w1 ⟨rfl, rfl⟩
    go_wp2
    go_ret
    exact ⟨_, rfl, HE.out.symm, Below.refl _ _⟩
  have hcz : ((K : Int) == 0) = false := by simp; omega
  have hKs : K ≤ s.size := by
    have := HK.out
    rw [← this, ← bs_length]
    exact List.count_le_length
  go_enter Tryz.func130, Tryz.ntmps130
  go_wp2_with fail
  refine (hC _).mono ?_
  rintro e w1 ⟨rfl, rfl⟩
  clear hC
  go_wp2_with fail
  rw [grow_at s.size K x.size (by omega) (by omega) (by omega)]
  refine (Any.Builder_Grow_fresh Tryz.lays165 Tryz.Builder_Extra_165 w1.heap.size w1.heap.size _ _ (Nat.le_refl _) (heap_alloc_new w1 _) (by simp) (grow_le s.size K x.size (by omega) (by omega) (by omega))).mono ?_
  rintro e w2 ⟨rfl, hb0, hb1⟩
  have H1 : Hid (Lib.IsBuilder 156 5 w1.heap.size w1.heap.size (Lib.byteCells []) w2) := Or.inr hb0
  have Hb1 : Hid (Below w1.heap.size w1 w2) := ((Below.refl w1.heap.size w1).alloc (Nat.le_refl _) _).trans hb1
  clear hb0 hb1
  go_wp2_with fail
  go_loopg [11, 53] K (fun g s11 s53 wx => ∃ (i start : Nat) (acc : List UInt8), s53 = .int .i64 i ∧ s11 = .int .i64 start ∧ i + g = K ∧ start ≤ s.size ∧
      Hid (Lib.IsBuilder 156 5 w1.heap.size w1.heap.size (Lib.byteCells acc) wx) ∧ Hid (Below w1.heap.size w1 wx) ∧ Hid (acc ++ flat c (bs x) ((bs s).drop start) = flat c (bs x) (bs s)) ∧ Hid (((bs s).drop start).count c = g))
  case atStart => exact ⟨0, 0, [], rfl, rfl, by omega, Nat.zero_le _, H1, Hb1, by show _ = _; simp, by show _ = _; rw [List.drop_zero]; exact HK.out⟩
  case round =>
    obtain ⟨i, start, acc, rfl, rfl, hig, hst, HB, HW, HR, HG⟩ := hrel
    have hBw : w1.heap.size ≤ wr.heap.size := HW.out.size
    have c2 : (start : Int) ≤ (s.size : Int) := by omega
    have hlen : acc.length + (flat c (bs x) ((bs s).drop start)).length ≤ 200000000 := by
      have h1 := congrArg List.length HR.out
      rw [List.length_append] at h1
      have h2 := flat_len c (bs x) (bs s)
      rw [bs_length, bs_length] at h2
      have h3 : s.size * (x.size + 1) ≤ 10000 * 10001 := Nat.mul_le_mul hs (by omega)
      omega
    have hacc : acc.length ≤ 200000000 := by omega
    clear hlen
    cases gk with
    | zero =>
      have hiK : ¬ ((i : Int) < (K : Int)) := by omega
      go_wp2_with fail
      refine (Any.Builder_WriteString Tryz.lays166 Tryz.Builder_Extra_166 w1.heap.size w1.heap.size _ _ wr HB.out (by rw [Lib.byteCells_length, ByteArray.size_extract]; omega) hBw).mono ?_
      rintro e w3 ⟨rfl, h3, hb3⟩
      rw [Lib.strCells_eq, Lib.extract_to_end, ← Lib.byteCells_append] at h3
      have hfin : acc ++ (bs s).drop start = flat c (bs x) (bs s) := by
        rw [← HR.out, flat_none (List.count_eq_zero.1 HG.out)]
      have H3 : Hid (Lib.IsBuilder 156 5 w1.heap.size w1.heap.size (Lib.byteCells (flat c (bs x) (bs s))) w3) := by
        refine Or.inr ?_
        rw [← hfin]
        exact h3
      have Hb3 : Hid (Below w1.heap.size w1 w3) := HW.out.trans hb3
      have hBw3 : w1.heap.size ≤ w3.heap.size := Hb3.out.size
      clear h3 hb3 hfin
      go_wp2_with fail
      refine (Any.Builder_String_any Tryz.lays169 Tryz.Builder_Extra_169 w1.heap.size w1.heap.size _ w3 H3.out hBw3).mono ?_
      rintro e w5 ⟨rfl, hb5⟩
      have Hb5 : Hid (Below w1.heap.size w1 w5) := Hb3.out.trans hb5
      clear hb5
      go_wp2
      go_ret
      exact ⟨_, rfl, by simp, Hb5.out⟩
    | succ g =>
      have hiK : (i : Int) < (K : Int) := by omega
      obtain ⟨j, hj, hj2, hj3, hj4⟩ : ∃ k : Nat, Lib.indexByte ((bs s).drop start) c = k ∧ k < ((bs s).drop start).length ∧ (bs s).drop start = ((bs s).drop start).take k ++ c :: ((bs s).drop start).drop (k + 1) ∧ c ∉ ((bs s).drop start).take k := by
        rcases indexByte_cases ((bs s).drop start) c with ⟨-, h2⟩ | h
        · exfalso
          have := HG.out
          rw [List.count_eq_zero.2 h2] at this
          omega
        · exact h
      have Hcnt : Hid (((bs s).drop (start + j + 1)).count c = g) := by
        have h1 := count_hit hj3 hj4
        rw [HG.out, List.drop_drop, ← Nat.add_assoc] at h1
        show _ = _
        omega
      have Hrep : Hid (acc ++ ((bs s).drop start).take j ++ bs x ++ flat c (bs x) ((bs s).drop (start + j + 1)) = flat c (bs x) (bs s)) := by
        have h1 := flat_hit (x := bs x) hj3 hj4
        rw [List.drop_drop, ← Nat.add_assoc] at h1
        show _ = _
        rw [← HR.out, h1]
        simp only [List.append_assoc]
      rw [List.length_drop, bs_length] at hj2
      have hroom : start + j + 1 ≤ s.size := by omega
      have c3 : (start : Int) ≤ (start : Int) + (j : Int) := by omega
      have c4 : (start : Int) + (j : Int) ≤ (s.size : Int) := by omega
      have Hn : Hid (Lib.byteCells acc ++ Lib.strCells (s.extract start (start + j)) ++ Lib.strCells x = Lib.byteCells (acc ++ ((bs s).drop start).take j ++ bs x)) := by
        show _ = _
        rw [Lib.strCells_eq, Lib.strCells_eq, Lib.extract_data, Nat.add_sub_cancel_left, ← Lib.byteCells_append, ← Lib.byteCells_append]
      have hIx := Index_one (s.extract start s.size) c
      rw [show bs (s.extract start s.size) = (bs s).drop start by rw [bs_extract, List.take_of_length_le (by rw [List.length_drop, bs_length]; exact Nat.le_refl _)], hj] at hIx
      clear hj hj3 hj4 HR
      go_wp2_with fail
      refine (hIx _).mono ?_
      rintro e w2' ⟨rfl, rfl⟩
      clear hIx
      go_wp2_with fail
      refine (Any.Builder_WriteString Tryz.lays166 Tryz.Builder_Extra_166 w1.heap.size w1.heap.size _ (s.extract start (start + j)) _ HB.out (by rw [Lib.byteCells_length, ByteArray.size_extract]; omega) hBw).mono ?_
      rintro e w3 ⟨rfl, h3, hb3⟩
      have hBw3 : w1.heap.size ≤ w3.heap.size := Nat.le_trans hBw hb3.size
      have H3 : Hid _ := h3
      have Hb3 : Hid _ := hb3
      clear h3 hb3
      go_wp2_with fail
      refine (Any.Builder_WriteString Tryz.lays166 Tryz.Builder_Extra_166 w1.heap.size w1.heap.size _ x w3 (Or.inr H3.out) (by rw [List.length_append, Lib.byteCells_length, Lib.strCells_length, ByteArray.size_extract]; omega) hBw3).mono ?_
      rintro e w4 ⟨rfl, h4, hb4⟩
      rw [Hn.out] at h4
      have H4 : Hid (Lib.IsBuilder 156 5 w1.heap.size w1.heap.size _ w4) := Or.inr h4
      have Hb4 : Hid (Below w1.heap.size w1 w4) := (HW.out.trans Hb3.out).trans hb4
      clear h4 hb4
      go_wp2
      go_roundg g
      case measure => omega
      case rel => exact ⟨i + 1, start + j + 1, _, by first | rfl | (simp; unfold wrap64; omega), by first | rfl | simp | (simp; unfold wrap64; omega), by omega, by omega, H4, Hb4, Hrep, Hcnt⟩
set_option maxRecDepth 100000 in
theorem ReplaceAll_one (c : UInt8) (s x : ByteArray) (w : World) (hs : s.size ≤ 10000) (hx : x.size ≤ 10000) : Calls Tryz.prog 116 #[.string s, .string ⟨#[c]⟩, .string x] w fun e w' => ∃ t, e = .returned (.string t) ∧ bs t = flat c (bs x) (bs s) ∧ Below w.heap.size w w' := by
  go_enter Tryz.func116, Tryz.ntmps116
  go_wp2_with fail
  refine (Replace_one c s x _ hs hx).mono ?_
  rintro e w1 ⟨t, rfl, ht, hB⟩
  go_wp2
  go_ret
  exact ⟨_, rfl, ht, hB⟩
end Go.Proofs.YtnobmgkdieaclaaGreatDoor

namespace Go.Proofs.YtnobmgkdieaclaaGreatDoor
open Go.RowKit Go.Shelf

theorem told_flat (line w : List UInt8) : Ip.told line w = flat 64 line w := rfl
theorem joinW_lib : ∀ ws : List (List UInt8), Lib.join ws [32] = Ip.joinW ws
  | [] => rfl
  | [w] => Lib.join_one w [32]
  | w :: v :: r => by
    rw [Ip.joinW, ← joinW_lib (v :: r)]
    · simp [Lib.join]
    · simp
/-- how many bytes words have, with the blanks -/
def Ip.joinLen (ws : List (List UInt8)) : Nat := (Ip.joinW ws).length

set_option maxRecDepth 100000 in
theorem Join_any (ws : List (List UInt8)) (v : Value) (w : World) (B : Nat) (h : TxR.Sl w B v ws) (hB : B ≤ w.heap.size) (hs : (Ip.joinW ws).length ≤ 10000) (hn : ws.length ≤ 1099511627) :
    Calls Tryz.prog 117 #[v, .string ⟨#[32]⟩] w fun e w' => e = .returned (.string (str (Ip.joinW ws))) ∧ Below w.heap.size w w' := by
  obtain ⟨ad, c, rfl, hle, hn0, hc⟩ := h
  cases ws with
  | nil =>
    refine (Any.strings_Join_none Tryz.lays156 Tryz.Builder_Extra_156 ad c ⟨#[32]⟩ w).mono ?_
    rintro e w' ⟨rfl, rfl⟩
    exact ⟨rfl, Below.refl _ _⟩
  | cons a r =>
    obtain ⟨b, o, rfl, hb, hcell⟩ := hc (by simp)
    have e1 : (((a :: r).map str).map fun x => x.data.toList) = a :: r := by
      rw [List.map_map]
      conv => rhs; rw [← List.map_id (a :: r)]
      apply List.map_congr_left
      intro x _
      simp [str]
    have e2 : Lib.join (((a :: r).map str).map fun x => x.data.toList) (ByteArray.mk #[32]).data.toList = Ip.joinW (a :: r) := by rw [e1]; exact joinW_lib _
    have hl : ((a :: r).map str).length = (a :: r).length := List.length_map ..
    have := Any.strings_Join Tryz.lays156 Tryz.Builder_Extra_156 b o c ((a :: r).map str) ⟨#[32]⟩ w (by
      intro j x hx
      rw [List.getElem?_map] at hx
      cases hj : (a :: r)[j]? with
      | none => rw [hj] at hx; cases hx
      | some y =>
        rw [hj] at hx
        simp only [Option.map_some, Option.some.injEq] at hx
        subst hx
        refine hcell j _ ?_
        have hlt := (List.getElem?_eq_some_iff.1 hj).1
        have hv := TxR.vals_get (a :: r) j 0 hlt (by decide)
        rw [show j * TxR.k + 0 = j by show j * 1 + 0 = j; omega] at hv
        rw [hv]
        have : (a :: r)[j] = y := (List.getElem?_eq_some_iff.1 hj).2
        rw [this]
        rfl) (by omega) (by rw [hl]; omega) (by rw [hl]; exact hle) (by rw [e2]; omega)
    rw [hl, e2] at this
    exact this.mono fun e w' h => h

set_option maxRecDepth 100000 in
theorem asTold_any (line : List UInt8) (ws : List (List UInt8)) (v : Value) (w : World) (B : Nat) (h : TxR.Sl w B v ws) (hB : B ≤ w.heap.size) (hs : (Ip.joinW ws).length ≤ 10000) (hn : ws.length ≤ 1099511627) (hl : line.length ≤ 10000) :
    Calls Tryz.prog 101 #[.string (str line), v] w fun e w' => e = .returned (.string (str (Ip.words line ws))) ∧ Below w.heap.size w w' := by
  have hJ := Join_any ws v w B h hB hs hn
  have hR := fun W => ReplaceAll_one 64 (str (Ip.joinW ws)) (str line) W (by rw [str_size]; exact hs) (by rw [str_size]; exact hl)
  have hR2 : ∀ W, Calls Tryz.prog 116 #[.string (str (Ip.joinW ws)), .string ⟨#[64]⟩, .string (str line)] W fun e w' => e = .returned (.string (str (Ip.words line ws))) ∧ Below W.heap.size W w' := by
    intro W
    refine (hR W).mono ?_
    rintro e w' ⟨t, rfl, ht, hb⟩
    refine ⟨?_, hb⟩
    have : t = str (Ip.words line ws) := by
      rw [← str_of t]
      show str (bs t) = _
      rw [ht]
      simp [bs, str, Ip.words, told_flat]
    rw [this]
  clear hR hs hn hl h
  generalize str (Ip.joinW ws) = J at *
  generalize str (Ip.words line ws) = R at *
  generalize str line = L at *
  go_enter Tryz.func101, Tryz.ntmps101
  go_wp2_with (first | (go_at_call 117; refine hJ.mono ?_; rintro e w1 ⟨rfl, hb1⟩) | (go_at_call 116; refine (hR2 _).mono ?_; rintro e w2 ⟨rfl, hb2⟩) | fail)
  go_ret
  exact ⟨rfl, hb1.trans (hb2.mono hb1.size)⟩

end Go.Proofs.YtnobmgkdieaclaaGreatDoor
