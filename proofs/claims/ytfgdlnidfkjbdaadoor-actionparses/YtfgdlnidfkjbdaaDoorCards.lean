/-
  DERIVED. GIVEN WITH THE SEED: THE CARDS: each row of YtfgdlnidfkjbdaaDoorRows.lean that lists a variable, with what it lists TIED to the program's text (the seventh form; the later family's looks); each row that meets fmt, with fmt's text TOLD by the authors' own Lean function (tested against real Go, not proved from fmt's source: count such statements apart). THE CARD IS WHAT COUNTS. Prove the row's statement (the work); the ties are given (YtfgdlnidfkjbdaaDoorTie.lean); close each card by the builder's one call (the guide's Derived/Test/ToyasCard.lean, 'card_holds'). Laid BY PROGRAM, IN A SANDBOX (cutbox-door.mjs). By AI agents, Wed Nov 11 2026. No macro, syntax, notation, axiom, sorry.
-/
import Derived.Test.YtfgdlnidfkjbdaaDoorRows
import GoSem.ClaimSeven
namespace Go.Proofs.YtfgdlnidfkjbdaaDoor
namespace Rows

/-- THE TIED CARD OF 'brickyardlaw13.ActionParses'. -/
def actionParsesCard : Claim7 := { stood := { row := actionParsesRow, standIns := [], harness := (true, "70a48ca3f13314e294fc3a16a10b130c80d3609fa1f98abdc6e242e05f05b2dd"), looks := true }, kinds := [], alts := [], laidByText := true, laidKinds := [.data, .data, .data, .sentinel, .sentinel, .data], laidTests := true, laidLooks := .later }
def ActionParsesCardSaid : Prop := Claim7.holds Tryd.pinned (.plain (OpenSpec.ofChange actionParsesSpec)) actionParsesCard

/-- THE TIED CARD OF 'brickyardlaw13.ActionSame'. -/
def actionSameCard : Claim7 := { stood := { row := actionSameRow, standIns := [], harness := (true, "70a48ca3f13314e294fc3a16a10b130c80d3609fa1f98abdc6e242e05f05b2dd"), looks := true }, kinds := [], alts := [], laidByText := true, laidKinds := [.data, .data, .data, .sentinel, .sentinel, .data], laidTests := true, laidLooks := .later }
def ActionSameCardSaid : Prop := Claim7.holds Tryd.pinned (.plain (OpenSpec.ofChange actionSameSpec)) actionSameCard

/-- THE TIED CARD OF 'brickyardlaw13.ActionBack'. -/
def actionBackCard : Claim7 := { stood := { row := actionBackRow, standIns := [], harness := (true, "70a48ca3f13314e294fc3a16a10b130c80d3609fa1f98abdc6e242e05f05b2dd"), looks := true }, kinds := [], alts := [], laidByText := true, laidKinds := [.data, .data, .data, .sentinel, .sentinel, .data], laidTests := true, laidLooks := .later }
def ActionBackCardSaid : Prop := Claim7.holds Tryd.pinned (.plain (OpenSpec.ofChange actionBackSpec)) actionBackCard

/-- THE TIED CARD OF 'brickyardlaw13.ActionJoins'. -/
def actionJoinsCard : Claim7 := { stood := { row := actionJoinsRow, standIns := [], harness := (true, "70a48ca3f13314e294fc3a16a10b130c80d3609fa1f98abdc6e242e05f05b2dd"), looks := true }, kinds := [], alts := [], laidByText := true, laidKinds := [.data, .data, .data, .sentinel, .sentinel, .data], laidTests := true, laidLooks := .later }
def ActionJoinsCardSaid : Prop := Claim7.holds Tryd.pinned (.plain (OpenSpec.ofChange actionJoinsSpec)) actionJoinsCard

/-- THE TIED CARD OF 'brickyardlaw13.ActionCut'. -/
def actionCutCard : Claim7 := { stood := { row := actionCutRow, standIns := [], harness := (true, "70a48ca3f13314e294fc3a16a10b130c80d3609fa1f98abdc6e242e05f05b2dd"), looks := true }, kinds := [], alts := [], laidByText := true, laidKinds := [.data, .data, .data, .sentinel, .sentinel, .data], laidTests := true, laidLooks := .later }
def ActionCutCardSaid : Prop := Claim7.holds Tryd.pinned (.plain (OpenSpec.ofChange actionCutSpec)) actionCutCard

/-- THE TIED CARD OF 'brickyardlaw13.ActionNames'. -/
def actionNamesCard : Claim7 := { stood := { row := actionNamesRow, standIns := [], harness := (true, "70a48ca3f13314e294fc3a16a10b130c80d3609fa1f98abdc6e242e05f05b2dd"), looks := true }, kinds := [], alts := [], laidByText := true, laidKinds := [.data, .data, .data, .sentinel, .sentinel, .data], laidTests := true, laidLooks := .later }
def ActionNamesCardSaid : Prop := Claim7.holds Tryd.pinned (.plain (OpenSpec.ofChange actionNamesSpec)) actionNamesCard

/-- THE SECOND FORM's CARD OF 'brickyardlaw13.ActionParses'. -/
def actionParsesUptoCard : Claim7 := { stood := { row := actionParsesUptoRow, standIns := [], harness := (true, "70a48ca3f13314e294fc3a16a10b130c80d3609fa1f98abdc6e242e05f05b2dd"), looks := true }, kinds := [], alts := [], laidByText := true, laidKinds := [.data, .data, .data, .sentinel, .sentinel, .data], laidTests := true, laidLooks := .later }
def ActionParsesUptoCardSaid : Prop := Claim7.holds Tryd.pinned (.plain (OpenSpec.upto actionParsesSpec)) actionParsesUptoCard

/-- THE SECOND FORM's CARD OF 'brickyardlaw13.ActionSame'. -/
def actionSameUptoCard : Claim7 := { stood := { row := actionSameUptoRow, standIns := [], harness := (true, "70a48ca3f13314e294fc3a16a10b130c80d3609fa1f98abdc6e242e05f05b2dd"), looks := true }, kinds := [], alts := [], laidByText := true, laidKinds := [.data, .data, .data, .sentinel, .sentinel, .data], laidTests := true, laidLooks := .later }
def ActionSameUptoCardSaid : Prop := Claim7.holds Tryd.pinned (.plain (OpenSpec.upto actionSameSpec)) actionSameUptoCard

/-- THE SECOND FORM's CARD OF 'brickyardlaw13.ActionBack'. -/
def actionBackUptoCard : Claim7 := { stood := { row := actionBackUptoRow, standIns := [], harness := (true, "70a48ca3f13314e294fc3a16a10b130c80d3609fa1f98abdc6e242e05f05b2dd"), looks := true }, kinds := [], alts := [], laidByText := true, laidKinds := [.data, .data, .data, .sentinel, .sentinel, .data], laidTests := true, laidLooks := .later }
def ActionBackUptoCardSaid : Prop := Claim7.holds Tryd.pinned (.plain (OpenSpec.upto actionBackSpec)) actionBackUptoCard

/-- THE SECOND FORM's CARD OF 'brickyardlaw13.ActionJoins'. -/
def actionJoinsUptoCard : Claim7 := { stood := { row := actionJoinsUptoRow, standIns := [], harness := (true, "70a48ca3f13314e294fc3a16a10b130c80d3609fa1f98abdc6e242e05f05b2dd"), looks := true }, kinds := [], alts := [], laidByText := true, laidKinds := [.data, .data, .data, .sentinel, .sentinel, .data], laidTests := true, laidLooks := .later }
def ActionJoinsUptoCardSaid : Prop := Claim7.holds Tryd.pinned (.plain (OpenSpec.upto actionJoinsSpec)) actionJoinsUptoCard

/-- THE SECOND FORM's CARD OF 'brickyardlaw13.ActionCut'. -/
def actionCutUptoCard : Claim7 := { stood := { row := actionCutUptoRow, standIns := [], harness := (true, "70a48ca3f13314e294fc3a16a10b130c80d3609fa1f98abdc6e242e05f05b2dd"), looks := true }, kinds := [], alts := [], laidByText := true, laidKinds := [.data, .data, .data, .sentinel, .sentinel, .data], laidTests := true, laidLooks := .later }
def ActionCutUptoCardSaid : Prop := Claim7.holds Tryd.pinned (.plain (OpenSpec.upto actionCutSpec)) actionCutUptoCard

/-- THE SECOND FORM's CARD OF 'brickyardlaw13.ActionNames'. -/
def actionNamesUptoCard : Claim7 := { stood := { row := actionNamesUptoRow, standIns := [], harness := (true, "70a48ca3f13314e294fc3a16a10b130c80d3609fa1f98abdc6e242e05f05b2dd"), looks := true }, kinds := [], alts := [], laidByText := true, laidKinds := [.data, .data, .data, .sentinel, .sentinel, .data], laidTests := true, laidLooks := .later }
def ActionNamesUptoCardSaid : Prop := Claim7.holds Tryd.pinned (.plain (OpenSpec.upto actionNamesSpec)) actionNamesUptoCard
end Rows
end Go.Proofs.YtfgdlnidfkjbdaaDoor
