/-
  No cell of these rows narrows 'for every input' (looked for: loops, veiled, ifaces, maps, wideKeys, modest, calm, conditions, laid).
  DERIVED. THE GIVEN ROWS OF THIS SEAT. 9 by the template 'for every input the law returns true; each argument reads behind the call as it read before'; 0 by the template 'total and deterministic' (their statements: YthpipbkbldlfjaaTotals.lean).
  GIVEN WITH THE SEED: the statements are not yours to turn. If you find one false, say at which input.
  Laid BY PROGRAM, IN A SANDBOX (cutbox-rows.mjs): the forced cells as the released guide's own fill.sh prints them over the translation b08df520c73f7f9e… (all of the seat's roots in one cut). By AI agents, Wed Nov 11 2026. No macro, syntax, notation, axiom, sorry.
-/
import Derived.Test.YthpipbkbldlfjaaChecked
import GoSem.Claim
import GoSem.ClaimJoined
import GoSem.ClaimMapViews
import Derived.JoinedTies
import Derived.KernelRfl
namespace Go.Proofs.Ythpipbkbldlfjaa
/- THE CELL 'sum', in the pinned program and in every row, IS THE sha256 OF THE DUMP (.gsa) THAT YthpipbkbldlfjaaProg.lean LOADS. Nothing in Lean hashes anything: it is a label: what it is worth is what the hold of that sum in a sandbox is worth. -/
noncomputable def Try.pinned : Pinned := { name := "ythpipbkbldlfjaa", sum := "b08df520c73f7f9e401f7150ee13bcaf4e742cc9640413c27be5c49c08ade2c0", checked := Try.checked }
namespace Rows
def none {H : Type} : Left H := { results := [], args := [] }

/-- 'brickyardlaw12.RulesParses': WHATEVER THE INPUT: true; the input reads as it did. -/
def rulesParsesSpec : ChangeSpec := { name := "rulesParses", fn := fun _ => fun
  | [d] => { results := [.lit (.bool true)], args := [d] }
  | _ => none }
def rulesParsesRow : OpenClaim := { program := "ythpipbkbldlfjaa", sum := "b08df520c73f7f9e401f7150ee13bcaf4e742cc9640413c27be5c49c08ade2c0", func := "brickyard/brickyardlaw12.RulesParses", spec := "rulesParses", inPlace := ["internal/bytealg.IndexByteString", "internal/bytealg.CountString", "internal/bytealg.IndexString"], unfollowed := true, recurses := true, named := ["internal/bytealg.MaxLen"], apart := false }
def RulesParsesSaid : Prop := rulesParsesRow.holds Try.pinned (OpenSpec.ofChange rulesParsesSpec)

/-- ITS FALSE NEIGHBOUR: 'it returns false'. Refute it at one input. -/
def rulesParsesWrong : ChangeSpec := { name := "rulesParses", fn := fun _ => fun
  | [d] => { results := [.lit (.bool false)], args := [d] }
  | _ => none }
def RulesParsesWrongFalsely : Prop := rulesParsesRow.holds Try.pinned (OpenSpec.ofChange rulesParsesWrong)

/-- 'brickyardlaw12.RulesNames': WHATEVER THE INPUT: true; the input reads as it did. -/
def rulesNamesSpec : ChangeSpec := { name := "rulesNames", fn := fun _ => fun
  | [d] => { results := [.lit (.bool true)], args := [d] }
  | _ => none }
def rulesNamesRow : OpenClaim := { program := "ythpipbkbldlfjaa", sum := "b08df520c73f7f9e401f7150ee13bcaf4e742cc9640413c27be5c49c08ade2c0", func := "brickyard/brickyardlaw12.RulesNames", spec := "rulesNames", inPlace := ["internal/bytealg.IndexByteString", "internal/bytealg.CountString", "internal/bytealg.IndexString"], unfollowed := true, recurses := true, named := ["internal/bytealg.MaxLen"], apart := false }
def RulesNamesSaid : Prop := rulesNamesRow.holds Try.pinned (OpenSpec.ofChange rulesNamesSpec)

/-- ITS FALSE NEIGHBOUR: 'it returns false'. Refute it at one input. -/
def rulesNamesWrong : ChangeSpec := { name := "rulesNames", fn := fun _ => fun
  | [d] => { results := [.lit (.bool false)], args := [d] }
  | _ => none }
def RulesNamesWrongFalsely : Prop := rulesNamesRow.holds Try.pinned (OpenSpec.ofChange rulesNamesWrong)

/-- 'brickyardlaw12.RulesPrints': WHATEVER THE INPUT: true; the input reads as it did. -/
def rulesPrintsSpec : ChangeSpec := { name := "rulesPrints", fn := fun _ => fun
  | [d] => { results := [.lit (.bool true)], args := [d] }
  | _ => none }
def rulesPrintsRow : OpenClaim := { program := "ythpipbkbldlfjaa", sum := "b08df520c73f7f9e401f7150ee13bcaf4e742cc9640413c27be5c49c08ade2c0", func := "brickyard/brickyardlaw12.RulesPrints", spec := "rulesPrints", inPlace := ["internal/bytealg.IndexByteString", "internal/bytealg.CountString", "internal/bytealg.IndexString", "internal/abi.NoEscape"], unfollowed := true, recurses := true, named := ["internal/bytealg.MaxLen"], apart := false }
def RulesPrintsSaid : Prop := rulesPrintsRow.holds Try.pinned (OpenSpec.ofChange rulesPrintsSpec)

/-- ITS FALSE NEIGHBOUR: 'it returns false'. Refute it at one input. -/
def rulesPrintsWrong : ChangeSpec := { name := "rulesPrints", fn := fun _ => fun
  | [d] => { results := [.lit (.bool false)], args := [d] }
  | _ => none }
def RulesPrintsWrongFalsely : Prop := rulesPrintsRow.holds Try.pinned (OpenSpec.ofChange rulesPrintsWrong)

/-- 'brickyardlaw12.RulesSame': WHATEVER THE INPUT: true; the input reads as it did. -/
def rulesSameSpec : ChangeSpec := { name := "rulesSame", fn := fun _ => fun
  | [d1, d2] => { results := [.lit (.bool true)], args := [d1, d2] }
  | _ => none }
def rulesSameRow : OpenClaim := { program := "ythpipbkbldlfjaa", sum := "b08df520c73f7f9e401f7150ee13bcaf4e742cc9640413c27be5c49c08ade2c0", func := "brickyard/brickyardlaw12.RulesSame", spec := "rulesSame", inPlace := ["internal/bytealg.IndexByteString", "internal/bytealg.CountString", "internal/bytealg.IndexString"], unfollowed := true, recurses := true, named := ["internal/bytealg.MaxLen"], apart := false }
def RulesSameSaid : Prop := rulesSameRow.holds Try.pinned (OpenSpec.ofChange rulesSameSpec)

/-- ITS FALSE NEIGHBOUR: 'it returns false'. Refute it at one input. -/
def rulesSameWrong : ChangeSpec := { name := "rulesSame", fn := fun _ => fun
  | [d1, d2] => { results := [.lit (.bool false)], args := [d1, d2] }
  | _ => none }
def RulesSameWrongFalsely : Prop := rulesSameRow.holds Try.pinned (OpenSpec.ofChange rulesSameWrong)

/-- 'brickyardlaw12.RulesBack': WHATEVER THE INPUT: true; the input reads as it did. -/
def rulesBackSpec : ChangeSpec := { name := "rulesBack", fn := fun _ => fun
  | [d] => { results := [.lit (.bool true)], args := [d] }
  | _ => none }
def rulesBackRow : OpenClaim := { program := "ythpipbkbldlfjaa", sum := "b08df520c73f7f9e401f7150ee13bcaf4e742cc9640413c27be5c49c08ade2c0", func := "brickyard/brickyardlaw12.RulesBack", spec := "rulesBack", inPlace := ["internal/bytealg.IndexByteString", "internal/bytealg.CountString", "internal/bytealg.IndexString", "internal/abi.NoEscape"], unfollowed := true, recurses := true, named := ["internal/bytealg.MaxLen"], apart := false }
def RulesBackSaid : Prop := rulesBackRow.holds Try.pinned (OpenSpec.ofChange rulesBackSpec)

/-- ITS FALSE NEIGHBOUR: 'it returns false'. Refute it at one input. -/
def rulesBackWrong : ChangeSpec := { name := "rulesBack", fn := fun _ => fun
  | [d] => { results := [.lit (.bool false)], args := [d] }
  | _ => none }
def RulesBackWrongFalsely : Prop := rulesBackRow.holds Try.pinned (OpenSpec.ofChange rulesBackWrong)

/-- 'brickyardlaw12.RulesOne': WHATEVER THE INPUT: true; the input reads as it did. -/
def rulesOneSpec : ChangeSpec := { name := "rulesOne", fn := fun _ => fun
  | [d1, d2] => { results := [.lit (.bool true)], args := [d1, d2] }
  | _ => none }
def rulesOneRow : OpenClaim := { program := "ythpipbkbldlfjaa", sum := "b08df520c73f7f9e401f7150ee13bcaf4e742cc9640413c27be5c49c08ade2c0", func := "brickyard/brickyardlaw12.RulesOne", spec := "rulesOne", inPlace := ["internal/bytealg.IndexByteString", "internal/bytealg.CountString", "internal/bytealg.IndexString", "internal/abi.NoEscape"], unfollowed := true, recurses := true, named := ["internal/bytealg.MaxLen"], apart := false }
def RulesOneSaid : Prop := rulesOneRow.holds Try.pinned (OpenSpec.ofChange rulesOneSpec)

/-- ITS FALSE NEIGHBOUR: 'it returns false'. Refute it at one input. -/
def rulesOneWrong : ChangeSpec := { name := "rulesOne", fn := fun _ => fun
  | [d1, d2] => { results := [.lit (.bool false)], args := [d1, d2] }
  | _ => none }
def RulesOneWrongFalsely : Prop := rulesOneRow.holds Try.pinned (OpenSpec.ofChange rulesOneWrong)

/-- 'brickyardlaw12.RulesTwo': WHATEVER THE INPUT: true; the input reads as it did. -/
def rulesTwoSpec : ChangeSpec := { name := "rulesTwo", fn := fun _ => fun
  | [d1, d2] => { results := [.lit (.bool true)], args := [d1, d2] }
  | _ => none }
def rulesTwoRow : OpenClaim := { program := "ythpipbkbldlfjaa", sum := "b08df520c73f7f9e401f7150ee13bcaf4e742cc9640413c27be5c49c08ade2c0", func := "brickyard/brickyardlaw12.RulesTwo", spec := "rulesTwo", inPlace := ["internal/bytealg.IndexByteString", "internal/bytealg.CountString", "internal/bytealg.IndexString"], unfollowed := true, recurses := true, named := ["internal/bytealg.MaxLen"], apart := false }
def RulesTwoSaid : Prop := rulesTwoRow.holds Try.pinned (OpenSpec.ofChange rulesTwoSpec)

/-- ITS FALSE NEIGHBOUR: 'it returns false'. Refute it at one input. -/
def rulesTwoWrong : ChangeSpec := { name := "rulesTwo", fn := fun _ => fun
  | [d1, d2] => { results := [.lit (.bool false)], args := [d1, d2] }
  | _ => none }
def RulesTwoWrongFalsely : Prop := rulesTwoRow.holds Try.pinned (OpenSpec.ofChange rulesTwoWrong)

/-- 'brickyardlaw12.RulesStands': WHATEVER THE INPUT: true; the input reads as it did. -/
def rulesStandsSpec : ChangeSpec := { name := "rulesStands", fn := fun _ => fun
  | [d] => { results := [.lit (.bool true)], args := [d] }
  | _ => none }
def rulesStandsRow : OpenClaim := { program := "ythpipbkbldlfjaa", sum := "b08df520c73f7f9e401f7150ee13bcaf4e742cc9640413c27be5c49c08ade2c0", func := "brickyard/brickyardlaw12.RulesStands", spec := "rulesStands", inPlace := ["internal/bytealg.IndexByteString", "internal/bytealg.CountString", "internal/bytealg.IndexString"], unfollowed := true, recurses := true, named := ["internal/bytealg.MaxLen"], apart := false }
def RulesStandsSaid : Prop := rulesStandsRow.holds Try.pinned (OpenSpec.ofChange rulesStandsSpec)

/-- ITS FALSE NEIGHBOUR: 'it returns false'. Refute it at one input. -/
def rulesStandsWrong : ChangeSpec := { name := "rulesStands", fn := fun _ => fun
  | [d] => { results := [.lit (.bool false)], args := [d] }
  | _ => none }
def RulesStandsWrongFalsely : Prop := rulesStandsRow.holds Try.pinned (OpenSpec.ofChange rulesStandsWrong)

/-- 'brickyardlaw12.RulesEnds': WHATEVER THE INPUT: true; the input reads as it did. -/
def rulesEndsSpec : ChangeSpec := { name := "rulesEnds", fn := fun _ => fun
  | [] => { results := [.lit (.bool true)], args := [] }
  | _ => none }
def rulesEndsRow : OpenClaim := { program := "ythpipbkbldlfjaa", sum := "b08df520c73f7f9e401f7150ee13bcaf4e742cc9640413c27be5c49c08ade2c0", func := "brickyard/brickyardlaw12.RulesEnds", spec := "rulesEnds", inPlace := ["internal/bytealg.IndexByteString", "internal/bytealg.CountString", "internal/bytealg.IndexString"], unfollowed := true, recurses := true, named := ["internal/bytealg.MaxLen"], apart := false }
def RulesEndsSaid : Prop := rulesEndsRow.holds Try.pinned (OpenSpec.ofChange rulesEndsSpec)

/-- ITS FALSE NEIGHBOUR: 'it returns false'. Refute it at one input. -/
def rulesEndsWrong : ChangeSpec := { name := "rulesEnds", fn := fun _ => fun
  | [] => { results := [.lit (.bool false)], args := [] }
  | _ => none }
def RulesEndsWrongFalsely : Prop := rulesEndsRow.holds Try.pinned (OpenSpec.ofChange rulesEndsWrong)

/- THE SECOND FORM. 'bulk': how many values and letters a reading holds, each counted each time it is reached (what is shared counts as often as it is met; a slice's spare places count too). A statement '..UptoSaid' is the law's where the arguments, and the package variables that the reading takes, are together of bulk at most 1048576: NARROWER than '..Said'. Prove '..Said' where nothing that the law and all that it calls make is longer than what came in: it says more and counts as full. Else prove '..UptoSaid'. A law counts once. -/
mutual
def uptoBulk {H : Type} : DataW H → Nat
  | .lit (.string bytes) => bytes.length + 1
  | .lit _ => 1
  | .nil => 1
  | .ptr d => uptoBulk d + 1
  | .slice elems spare => uptoBulkAll elems + uptoBulkAll spare + 1
  | .agg parts => uptoBulkAll parts + 1
  | .iface _ d => uptoBulk d + 1
  | .map entries => uptoBulkEntries entries + 1
  | .held _ => 1
def uptoBulkAll {H : Type} : List (DataW H) → Nat
  | [] => 0
  | d :: r => uptoBulk d + uptoBulkAll r
def uptoBulkEntries {H : Type} : List (Lit × DataW H) → Nat
  | [] => 0
  | x :: r => uptoBulkEntry x + uptoBulkEntries r
def uptoBulkEntry {H : Type} : Lit × DataW H → Nat
  | (.string bytes, d) => bytes.length + uptoBulk d + 1
  | (_, d) => uptoBulk d + 1
 end
def uptoSmall : (H : Type) → List (DataW H) → Bool := fun _ ds => decide (uptoBulkAll ds ≤ 1048576)
def OpenSpec.upto (s : _root_.Go.ChangeSpec) : _root_.Go.OpenSpec := { _root_.Go.OpenSpec.ofChange s with cond := some uptoSmall }

/-- 'brickyardlaw12.RulesParses', WHERE WHAT IT READS IS OF BULK AT MOST 1048576: true; the input reads as it did. -/
def rulesParsesUptoRow : OpenClaim := { program := "ythpipbkbldlfjaa", sum := "b08df520c73f7f9e401f7150ee13bcaf4e742cc9640413c27be5c49c08ade2c0", func := "brickyard/brickyardlaw12.RulesParses", spec := "rulesParses", inPlace := ["internal/bytealg.IndexByteString", "internal/bytealg.CountString", "internal/bytealg.IndexString"], unfollowed := true, recurses := true, named := ["internal/bytealg.MaxLen"], apart := false, narrowed := true }
def RulesParsesUptoSaid : Prop := rulesParsesUptoRow.holds Try.pinned (OpenSpec.upto rulesParsesSpec)

/-- 'brickyardlaw12.RulesNames', WHERE WHAT IT READS IS OF BULK AT MOST 1048576: true; the input reads as it did. -/
def rulesNamesUptoRow : OpenClaim := { program := "ythpipbkbldlfjaa", sum := "b08df520c73f7f9e401f7150ee13bcaf4e742cc9640413c27be5c49c08ade2c0", func := "brickyard/brickyardlaw12.RulesNames", spec := "rulesNames", inPlace := ["internal/bytealg.IndexByteString", "internal/bytealg.CountString", "internal/bytealg.IndexString"], unfollowed := true, recurses := true, named := ["internal/bytealg.MaxLen"], apart := false, narrowed := true }
def RulesNamesUptoSaid : Prop := rulesNamesUptoRow.holds Try.pinned (OpenSpec.upto rulesNamesSpec)

/-- 'brickyardlaw12.RulesPrints', WHERE WHAT IT READS IS OF BULK AT MOST 1048576: true; the input reads as it did. -/
def rulesPrintsUptoRow : OpenClaim := { program := "ythpipbkbldlfjaa", sum := "b08df520c73f7f9e401f7150ee13bcaf4e742cc9640413c27be5c49c08ade2c0", func := "brickyard/brickyardlaw12.RulesPrints", spec := "rulesPrints", inPlace := ["internal/bytealg.IndexByteString", "internal/bytealg.CountString", "internal/bytealg.IndexString", "internal/abi.NoEscape"], unfollowed := true, recurses := true, named := ["internal/bytealg.MaxLen"], apart := false, narrowed := true }
def RulesPrintsUptoSaid : Prop := rulesPrintsUptoRow.holds Try.pinned (OpenSpec.upto rulesPrintsSpec)

/-- 'brickyardlaw12.RulesSame', WHERE WHAT IT READS IS OF BULK AT MOST 1048576: true; the input reads as it did. -/
def rulesSameUptoRow : OpenClaim := { program := "ythpipbkbldlfjaa", sum := "b08df520c73f7f9e401f7150ee13bcaf4e742cc9640413c27be5c49c08ade2c0", func := "brickyard/brickyardlaw12.RulesSame", spec := "rulesSame", inPlace := ["internal/bytealg.IndexByteString", "internal/bytealg.CountString", "internal/bytealg.IndexString"], unfollowed := true, recurses := true, named := ["internal/bytealg.MaxLen"], apart := false, narrowed := true }
def RulesSameUptoSaid : Prop := rulesSameUptoRow.holds Try.pinned (OpenSpec.upto rulesSameSpec)

/-- 'brickyardlaw12.RulesBack', WHERE WHAT IT READS IS OF BULK AT MOST 1048576: true; the input reads as it did. -/
def rulesBackUptoRow : OpenClaim := { program := "ythpipbkbldlfjaa", sum := "b08df520c73f7f9e401f7150ee13bcaf4e742cc9640413c27be5c49c08ade2c0", func := "brickyard/brickyardlaw12.RulesBack", spec := "rulesBack", inPlace := ["internal/bytealg.IndexByteString", "internal/bytealg.CountString", "internal/bytealg.IndexString", "internal/abi.NoEscape"], unfollowed := true, recurses := true, named := ["internal/bytealg.MaxLen"], apart := false, narrowed := true }
def RulesBackUptoSaid : Prop := rulesBackUptoRow.holds Try.pinned (OpenSpec.upto rulesBackSpec)

/-- 'brickyardlaw12.RulesOne', WHERE WHAT IT READS IS OF BULK AT MOST 1048576: true; the input reads as it did. -/
def rulesOneUptoRow : OpenClaim := { program := "ythpipbkbldlfjaa", sum := "b08df520c73f7f9e401f7150ee13bcaf4e742cc9640413c27be5c49c08ade2c0", func := "brickyard/brickyardlaw12.RulesOne", spec := "rulesOne", inPlace := ["internal/bytealg.IndexByteString", "internal/bytealg.CountString", "internal/bytealg.IndexString", "internal/abi.NoEscape"], unfollowed := true, recurses := true, named := ["internal/bytealg.MaxLen"], apart := false, narrowed := true }
def RulesOneUptoSaid : Prop := rulesOneUptoRow.holds Try.pinned (OpenSpec.upto rulesOneSpec)

/-- 'brickyardlaw12.RulesTwo', WHERE WHAT IT READS IS OF BULK AT MOST 1048576: true; the input reads as it did. -/
def rulesTwoUptoRow : OpenClaim := { program := "ythpipbkbldlfjaa", sum := "b08df520c73f7f9e401f7150ee13bcaf4e742cc9640413c27be5c49c08ade2c0", func := "brickyard/brickyardlaw12.RulesTwo", spec := "rulesTwo", inPlace := ["internal/bytealg.IndexByteString", "internal/bytealg.CountString", "internal/bytealg.IndexString"], unfollowed := true, recurses := true, named := ["internal/bytealg.MaxLen"], apart := false, narrowed := true }
def RulesTwoUptoSaid : Prop := rulesTwoUptoRow.holds Try.pinned (OpenSpec.upto rulesTwoSpec)

/-- 'brickyardlaw12.RulesStands', WHERE WHAT IT READS IS OF BULK AT MOST 1048576: true; the input reads as it did. -/
def rulesStandsUptoRow : OpenClaim := { program := "ythpipbkbldlfjaa", sum := "b08df520c73f7f9e401f7150ee13bcaf4e742cc9640413c27be5c49c08ade2c0", func := "brickyard/brickyardlaw12.RulesStands", spec := "rulesStands", inPlace := ["internal/bytealg.IndexByteString", "internal/bytealg.CountString", "internal/bytealg.IndexString"], unfollowed := true, recurses := true, named := ["internal/bytealg.MaxLen"], apart := false, narrowed := true }
def RulesStandsUptoSaid : Prop := rulesStandsUptoRow.holds Try.pinned (OpenSpec.upto rulesStandsSpec)

/-- 'brickyardlaw12.RulesEnds', WHERE WHAT IT READS IS OF BULK AT MOST 1048576: true; the input reads as it did. -/
def rulesEndsUptoRow : OpenClaim := { program := "ythpipbkbldlfjaa", sum := "b08df520c73f7f9e401f7150ee13bcaf4e742cc9640413c27be5c49c08ade2c0", func := "brickyard/brickyardlaw12.RulesEnds", spec := "rulesEnds", inPlace := ["internal/bytealg.IndexByteString", "internal/bytealg.CountString", "internal/bytealg.IndexString"], unfollowed := true, recurses := true, named := ["internal/bytealg.MaxLen"], apart := false, narrowed := true }
def RulesEndsUptoSaid : Prop := rulesEndsUptoRow.holds Try.pinned (OpenSpec.upto rulesEndsSpec)

end Rows
end Go.Proofs.Ythpipbkbldlfjaa
