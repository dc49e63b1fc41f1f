/-
  WHAT FILES OF RULES SAY AT THEIR LIMITS. No program here.
-/
import Derived.Test.YthpipbkbldlfjaaRAns
namespace Go.Proofs.Ythpipbkbldlfjaa.Rl
open Lx

theorem lx0 : lex [108, 101, 116, 32, 65, 66, 67, 68, 69, 70, 71, 72, 73, 74, 75, 76, 77, 78, 79, 80, 32, 61, 32, 49] = .ok [⟨0, false, [⟨[108, 101, 116], 0, false, false⟩, ⟨[65, 66, 67, 68, 69, 70, 71, 72, 73, 74, 75, 76, 77, 78, 79, 80], 4, false, false⟩, ⟨[61], 21, false, true⟩, ⟨[49], 23, false, false⟩]⟩] := by
  simp [Lx.lex, Lx.bytes, Lx.lns, Lx.line, Lx.rd, Lx.R.andThen, Lx.R.map, Lx.bare]
theorem ends0 : ∃ A, answer [108, 101, 116, 32, 65, 66, 67, 68, 69, 70, 71, 72, 73, 74, 75, 76, 77, 78, 79, 80, 32, 61, 32, 49] = .ok A := by
  rw [answer, if_neg (by decide), lx0]
  exact ⟨_, rfl⟩
theorem lx1 : lex [108, 101, 116, 32, 65, 66, 67, 68, 69, 70, 71, 72, 73, 74, 75, 76, 77, 78, 79, 80, 81, 32, 61, 32, 49] = .ok [⟨0, false, [⟨[108, 101, 116], 0, false, false⟩, ⟨[65, 66, 67, 68, 69, 70, 71, 72, 73, 74, 75, 76, 77, 78, 79, 80, 81], 4, false, false⟩, ⟨[61], 22, false, true⟩, ⟨[49], 24, false, false⟩]⟩] := by
  simp [Lx.lex, Lx.bytes, Lx.lns, Lx.line, Lx.rd, Lx.R.andThen, Lx.R.map, Lx.bare]
theorem ends1 : answer [108, 101, 116, 32, 65, 66, 67, 68, 69, 70, 71, 72, 73, 74, 75, 76, 77, 78, 79, 80, 81, 32, 61, 32, 49] = .bad (121, 1, 4) := by
  rw [answer, if_neg (by decide), lx1]
  rfl
theorem lx2 : lex [120, 10, 34] = .bad 2 := by
  simp [Lx.lex, Lx.bytes, Lx.lns, Lx.line, Lx.rd, Lx.quo, Lx.R.andThen, Lx.R.map, Lx.bare]
theorem ends2 : answer [120, 10, 34] = .bad (6, 2, 0) := by
  rw [answer, if_neg (by decide), lx2]
  rfl
theorem lx3 : lex [108, 101, 116, 32, 120, 10, 108, 101, 116] = .ok [⟨0, false, [⟨[108, 101, 116], 0, false, false⟩, ⟨[120], 4, false, false⟩]⟩, ⟨6, false, [⟨[108, 101, 116], 6, false, false⟩]⟩] := by
  simp [Lx.lex, Lx.bytes, Lx.lns, Lx.line, Lx.rd, Lx.R.andThen, Lx.R.map, Lx.bare]
theorem ends3 : answer [108, 101, 116, 32, 120, 10, 108, 101, 116] = .bad (121, 1, 4) := by
  rw [answer, if_neg (by decide), lx3]
  rfl
theorem lx4 : lex [108, 101, 116, 32, 88, 32, 58, 32, 49] = .ok [⟨0, false, [⟨[108, 101, 116], 0, false, false⟩, ⟨[88], 4, false, false⟩, ⟨[58], 6, false, true⟩, ⟨[49], 8, false, false⟩]⟩] := by
  simp [Lx.lex, Lx.bytes, Lx.lns, Lx.line, Lx.rd, Lx.R.andThen, Lx.R.map, Lx.bare]
theorem ends4 : answer [108, 101, 116, 32, 88, 32, 58, 32, 49] = .bad (120, 1, 6) := by
  rw [answer, if_neg (by decide), lx4]
  rfl
theorem lx5 : lex [108, 101, 116, 32, 88, 32, 61, 32, 49, 10, 9, 120] = .ok [⟨0, false, [⟨[108, 101, 116], 0, false, false⟩, ⟨[88], 4, false, false⟩, ⟨[61], 6, false, true⟩, ⟨[49], 8, false, false⟩]⟩, ⟨10, true, [⟨[120], 11, false, false⟩]⟩] := by
  simp [Lx.lex, Lx.bytes, Lx.lns, Lx.line, Lx.rd, Lx.R.andThen, Lx.R.map, Lx.bare]
theorem ends5 : answer [108, 101, 116, 32, 88, 32, 61, 32, 49, 10, 9, 120] = .bad (120, 2, 1) := by
  rw [answer, if_neg (by decide), lx5]
  rfl
theorem lx6 : lex [105, 110, 99, 108, 117, 100, 101, 32, 97, 10, 9, 120] = .ok [⟨0, false, [⟨[105, 110, 99, 108, 117, 100, 101], 0, false, false⟩, ⟨[97], 8, false, false⟩]⟩, ⟨10, true, [⟨[120], 11, false, false⟩]⟩] := by
  simp [Lx.lex, Lx.bytes, Lx.lns, Lx.line, Lx.rd, Lx.R.andThen, Lx.R.map, Lx.bare]
theorem ends6 : answer [105, 110, 99, 108, 117, 100, 101, 32, 97, 10, 9, 120] = .bad (120, 2, 1) := by
  rw [answer, if_neg (by decide), lx6]
  rfl
theorem lx7 : lex [9, 120] = .ok [⟨0, true, [⟨[120], 1, false, false⟩]⟩] := by
  simp [Lx.lex, Lx.bytes, Lx.lns, Lx.line, Lx.rd, Lx.R.andThen, Lx.R.map, Lx.bare]
theorem ends7 : answer [9, 120] = .bad (120, 1, 1) := by
  rw [answer, if_neg (by decide), lx7]
  rfl
theorem lx8 : lex [114, 117, 108, 101, 32, 97, 32, 58, 32, 98, 32, 58, 32, 99] = .ok [⟨0, false, [⟨[114, 117, 108, 101], 0, false, false⟩, ⟨[97], 5, false, false⟩, ⟨[58], 7, false, true⟩, ⟨[98], 9, false, false⟩, ⟨[58], 11, false, true⟩, ⟨[99], 13, false, false⟩]⟩] := by
  simp [Lx.lex, Lx.bytes, Lx.lns, Lx.line, Lx.rd, Lx.R.andThen, Lx.R.map, Lx.bare]
theorem ends8 : answer [114, 117, 108, 101, 32, 97, 32, 58, 32, 98, 32, 58, 32, 99] = .bad (120, 1, 11) := by
  rw [answer, if_neg (by decide), lx8]
  rfl
theorem lx9 : lex [114, 117, 108, 101, 32, 97, 32, 58, 32, 98, 32, 61, 32, 99] = .ok [⟨0, false, [⟨[114, 117, 108, 101], 0, false, false⟩, ⟨[97], 5, false, false⟩, ⟨[58], 7, false, true⟩, ⟨[98], 9, false, false⟩, ⟨[61], 11, false, true⟩, ⟨[99], 13, false, false⟩]⟩] := by
  simp [Lx.lex, Lx.bytes, Lx.lns, Lx.line, Lx.rd, Lx.R.andThen, Lx.R.map, Lx.bare]
theorem ends9 : answer [114, 117, 108, 101, 32, 97, 32, 58, 32, 98, 32, 61, 32, 99] = .bad (120, 1, 11) := by
  rw [answer, if_neg (by decide), lx9]
  rfl
theorem lx10 : lex [108, 101, 116, 32, 88, 32, 61, 32, 97, 32, 58, 32, 98] = .ok [⟨0, false, [⟨[108, 101, 116], 0, false, false⟩, ⟨[88], 4, false, false⟩, ⟨[61], 6, false, true⟩, ⟨[97], 8, false, false⟩, ⟨[58], 10, false, true⟩, ⟨[98], 12, false, false⟩]⟩] := by
  simp [Lx.lex, Lx.bytes, Lx.lns, Lx.line, Lx.rd, Lx.R.andThen, Lx.R.map, Lx.bare]
theorem ends10 : answer [108, 101, 116, 32, 88, 32, 61, 32, 97, 32, 58, 32, 98] = .bad (120, 1, 10) := by
  rw [answer, if_neg (by decide), lx10]
  rfl
theorem lx11 : lex [105, 110, 99, 108, 117, 100, 101, 32, 58] = .ok [⟨0, false, [⟨[105, 110, 99, 108, 117, 100, 101], 0, false, false⟩, ⟨[58], 8, false, true⟩]⟩] := by
  simp [Lx.lex, Lx.bytes, Lx.lns, Lx.line, Lx.rd, Lx.R.andThen, Lx.R.map, Lx.bare]
theorem ends11 : answer [105, 110, 99, 108, 117, 100, 101, 32, 58] = .bad (120, 1, 8) := by
  rw [answer, if_neg (by decide), lx11]
  rfl
theorem lx12 : lex [105, 110, 99, 108, 117, 100, 101, 32, 97, 32, 98] = .ok [⟨0, false, [⟨[105, 110, 99, 108, 117, 100, 101], 0, false, false⟩, ⟨[97], 8, false, false⟩, ⟨[98], 10, false, false⟩]⟩] := by
  simp [Lx.lex, Lx.bytes, Lx.lns, Lx.line, Lx.rd, Lx.R.andThen, Lx.R.map, Lx.bare]
theorem ends12 : answer [105, 110, 99, 108, 117, 100, 101, 32, 97, 32, 98] = .bad (120, 1, 10) := by
  rw [answer, if_neg (by decide), lx12]
  rfl
theorem lx13 : lex [114, 117, 108, 101, 32, 97, 32, 61, 32, 98] = .ok [⟨0, false, [⟨[114, 117, 108, 101], 0, false, false⟩, ⟨[97], 5, false, false⟩, ⟨[61], 7, false, true⟩, ⟨[98], 9, false, false⟩]⟩] := by
  simp [Lx.lex, Lx.bytes, Lx.lns, Lx.line, Lx.rd, Lx.R.andThen, Lx.R.map, Lx.bare]
theorem ends13 : answer [114, 117, 108, 101, 32, 97, 32, 61, 32, 98] = .bad (120, 1, 7) := by
  rw [answer, if_neg (by decide), lx13]
  rfl
theorem lx14 : lex [114, 117, 108, 101, 32, 58, 32, 98] = .ok [⟨0, false, [⟨[114, 117, 108, 101], 0, false, false⟩, ⟨[58], 5, false, true⟩, ⟨[98], 7, false, false⟩]⟩] := by
  simp [Lx.lex, Lx.bytes, Lx.lns, Lx.line, Lx.rd, Lx.R.andThen, Lx.R.map, Lx.bare]
theorem ends14 : answer [114, 117, 108, 101, 32, 58, 32, 98] = .bad (120, 1, 5) := by
  rw [answer, if_neg (by decide), lx14]
  rfl
theorem lx15 : lex [108, 101, 116, 32, 88, 32, 49] = .ok [⟨0, false, [⟨[108, 101, 116], 0, false, false⟩, ⟨[88], 4, false, false⟩, ⟨[49], 6, false, false⟩]⟩] := by
  simp [Lx.lex, Lx.bytes, Lx.lns, Lx.line, Lx.rd, Lx.R.andThen, Lx.R.map, Lx.bare]
theorem ends15 : answer [108, 101, 116, 32, 88, 32, 49] = .bad (120, 1, 6) := by
  rw [answer, if_neg (by decide), lx15]
  rfl
theorem lx16 : lex [34, 108, 101, 116, 34, 32, 88, 32, 61, 32, 49] = .ok [⟨0, false, [⟨[108, 101, 116], 0, true, false⟩, ⟨[88], 6, false, false⟩, ⟨[61], 8, false, true⟩, ⟨[49], 10, false, false⟩]⟩] := by
  simp [Lx.lex, Lx.bytes, Lx.lns, Lx.line, Lx.rd, Lx.quo, Lx.R.andThen, Lx.R.map, Lx.bare]
theorem ends16 : answer [34, 108, 101, 116, 34, 32, 88, 32, 61, 32, 49] = .bad (120, 1, 0) := by
  rw [answer, if_neg (by decide), lx16]
  rfl
theorem ends_none : answer [] = .ok [] := by
  have h : lex [] = .ok [] := by simp [Lx.lex, Lx.bytes, Lx.lns]
  rw [answer, if_neg (by decide), h]
  rfl

end Go.Proofs.Ythpipbkbldlfjaa.Rl
