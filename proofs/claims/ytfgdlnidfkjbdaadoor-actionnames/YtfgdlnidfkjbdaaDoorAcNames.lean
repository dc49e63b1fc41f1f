/-
  ActionNames: what the lines read as.
-/
import Derived.Test.YtfgdlnidfkjbdaaDoorAcLand
namespace Go.Proofs.YtfgdlnidfkjbdaaDoor
namespace Ac

def upLine : List (List UInt8) := [[117, 112, 112, 101, 114]]
def rpLine : List (List UInt8) := [[114, 101, 112, 101, 97, 116], [49]]
def enLine : List (List UInt8) := [[101, 110, 100]]
def many (k : Nat) : List (List (List UInt8)) := List.replicate k upLine
def rps (k : Nat) : List (List (List UInt8)) := List.replicate k rpLine
def ens (k : Nat) : List (List (List UInt8)) := List.replicate k enLine
theorem many_succ (k : Nat) : many (k + 1) = many k ++ [upLine] := List.replicate_succ'
theorem rps_succ (k : Nat) : rps (k + 1) = rps k ++ [rpLine] := List.replicate_succ'
theorem ens_succ (k : Nat) : ens (k + 1) = ens k ++ [enLine] := List.replicate_succ'
def rnLines (s : List UInt8) : List (List (List UInt8)) := [[[114, 101, 112, 101, 97, 116], s], enLine]
/-- did the reading go well, how many statements are there, how deep are they -/
def okLen (ls : List (List (List UInt8))) : Option (Nat × Nat × Nat × Nat) := match parse ls with
  | .ok f => some (f.len, deepL f, ht f, size f)
  | .bad _ => none
def badAt (ls : List (List (List UInt8))) : Option (Int × Nat) := match parse ls with
  | .ok _ => none
  | .bad x => some x
theorem okLen_is {ls : List (List (List UInt8))} {a b c d : Nat} (h : okLen ls = some (a, b, c, d)) : ∃ f, parse ls = .ok f ∧ f.len = a ∧ deepL f = b ∧ ht f = c ∧ size f = d := by
  unfold okLen at h
  cases hp : parse ls with
  | bad x => rw [hp] at h; cases h
  | ok f =>
    rw [hp] at h
    simp only [Option.some.injEq, Prod.mk.injEq] at h
    exact ⟨f, rfl, h⟩
theorem badAt_is {ls : List (List (List UInt8))} {e : Int} {j : Nat} (h : badAt ls = some (e, j)) : parse ls = .bad (e, j) := by
  unfold badAt at h
  cases hp : parse ls with
  | ok f => rw [hp] at h; cases h
  | bad x => rw [hp] at h; simp only [Option.some.injEq] at h; rw [h]
set_option maxRecDepth 100000 in
theorem nm_a : okLen (many 256) = some (256, 0, 1, 256) := by kernel_rfl
set_option maxRecDepth 100000 in
theorem nm_b : badAt (many 256 ++ [upLine]) = some (3, 256) := by kernel_rfl
set_option maxRecDepth 100000 in
theorem nm_c : okLen (rps 8 ++ ens 8) = some (1, 8, 8, 8) := by kernel_rfl
theorem nm_d : badAt ([rpLine] ++ (rps 8 ++ ens 8 ++ [enLine])) = some (132, 8) := by kernel_rfl
theorem nm_e : okLen (rnLines [49, 48, 48, 48]) = some (1, 1, 1, 1) := by kernel_rfl
theorem nm_f : badAt (rnLines [49, 48, 48, 49]) = some (130, 0) := by kernel_rfl
theorem nm_g : badAt (rnLines [48, 48]) = some (130, 0) := by kernel_rfl
theorem nm_h : badAt [[[114, 101, 112, 101, 97, 116], [50]]] = some (131, 1) := by kernel_rfl

end Ac
end Go.Proofs.YtfgdlnidfkjbdaaDoor
