/-
  DERIVED. GIVEN WITH THE SEED: THE CARDS: each row of YtnobmgkdieaclaaGreatDoorRows.lean that lists a variable, with what it lists TIED to the program's text (the seventh form; the later family's looks); each row that meets fmt, with fmt's text TOLD by the authors' own Lean function (tested against real Go, not proved from fmt's source: count such statements apart). THE CARD IS WHAT COUNTS. Prove the row's statement (the work); the ties are given (YtnobmgkdieaclaaGreatDoorTie.lean); close each card by the builder's one call (the guide's Derived/Test/ToyasCard.lean, 'card_holds'). Laid BY PROGRAM, IN A SANDBOX (cutbox-door.mjs). By AI agents, Wed Nov 11 2026. No macro, syntax, notation, axiom, sorry.
-/
import Derived.Test.YtnobmgkdieaclaaGreatDoorRows
import GoSem.ClaimSeven
namespace Go.Proofs.YtnobmgkdieaclaaGreatDoor
namespace Rows

/-- THE TIED CARD OF 'brickyardlaw14.InterpBegins'. -/
def interpBeginsCard : Claim7 := { stood := { row := interpBeginsRow, standIns := [], harness := (true, "8e2504c8ee8bb200c65a624ef5fff7b401bcab17240e8f1d5e9d6e71b43dcea8"), looks := true }, kinds := [], alts := [], laidByText := true, laidKinds := [.data, .data, .data, .data, .data, .pinned], laidTests := true, laidLooks := .later }
def InterpBeginsCardSaid : Prop := Claim7.holds Tryz.pinned (.plain (OpenSpec.ofChange interpBeginsSpec)) interpBeginsCard

/-- THE TIED CARD OF 'brickyardlaw14.InterpPlays'. -/
def interpPlaysCard : Claim7 := { stood := { row := interpPlaysRow, standIns := [], harness := (true, "8e2504c8ee8bb200c65a624ef5fff7b401bcab17240e8f1d5e9d6e71b43dcea8"), looks := true }, kinds := [], alts := [], laidByText := true, laidKinds := [.data, .data, .data, .data, .data, .pinned], laidTests := true, laidLooks := .later }
def InterpPlaysCardSaid : Prop := Claim7.holds Tryz.pinned (.plain (OpenSpec.ofChange interpPlaysSpec)) interpPlaysCard

/-- THE TIED CARD OF 'brickyardlaw14.InterpDoes'. -/
def interpDoesCard : Claim7 := { stood := { row := interpDoesRow, standIns := [], harness := (true, "8e2504c8ee8bb200c65a624ef5fff7b401bcab17240e8f1d5e9d6e71b43dcea8"), looks := true }, kinds := [], alts := [], laidByText := true, laidKinds := [.data, .data, .data, .data, .data, .pinned], laidTests := true, laidLooks := .later }
def InterpDoesCardSaid : Prop := Claim7.holds Tryz.pinned (.plain (OpenSpec.ofChange interpDoesSpec)) interpDoesCard

/-- THE TIED CARD OF 'brickyardlaw14.InterpNone'. -/
def interpNoneCard : Claim7 := { stood := { row := interpNoneRow, standIns := [], harness := (true, "8e2504c8ee8bb200c65a624ef5fff7b401bcab17240e8f1d5e9d6e71b43dcea8"), looks := true }, kinds := [], alts := [], laidByText := true, laidKinds := [.data, .data, .data, .data, .data, .pinned], laidTests := true, laidLooks := .later }
def InterpNoneCardSaid : Prop := Claim7.holds Tryz.pinned (.plain (OpenSpec.ofChange interpNoneSpec)) interpNoneCard

/-- THE TIED CARD OF 'brickyardlaw14.InterpResumes'. -/
def interpResumesCard : Claim7 := { stood := { row := interpResumesRow, standIns := [], harness := (true, "8e2504c8ee8bb200c65a624ef5fff7b401bcab17240e8f1d5e9d6e71b43dcea8"), looks := true }, kinds := [], alts := [], laidByText := true, laidKinds := [.data, .data, .data, .data, .data, .pinned], laidTests := true, laidLooks := .later }
def InterpResumesCardSaid : Prop := Claim7.holds Tryz.pinned (.plain (OpenSpec.ofChange interpResumesSpec)) interpResumesCard

/-- THE TIED CARD OF 'brickyardlaw14.InterpAsks'. -/
def interpAsksCard : Claim7 := { stood := { row := interpAsksRow, standIns := [], harness := (true, "8e2504c8ee8bb200c65a624ef5fff7b401bcab17240e8f1d5e9d6e71b43dcea8"), looks := true }, kinds := [], alts := [], laidByText := true, laidKinds := [.data, .data, .data, .data, .data, .pinned], laidTests := true, laidLooks := .later }
def InterpAsksCardSaid : Prop := Claim7.holds Tryz.pinned (.plain (OpenSpec.ofChange interpAsksSpec)) interpAsksCard

/-- THE TIED CARD OF 'brickyardlaw14.InterpFuel'. -/
def interpFuelCard : Claim7 := { stood := { row := interpFuelRow, standIns := [], harness := (true, "8e2504c8ee8bb200c65a624ef5fff7b401bcab17240e8f1d5e9d6e71b43dcea8"), looks := true }, kinds := [], alts := [], laidByText := true, laidKinds := [.data, .data, .data, .data, .data, .pinned], laidTests := true, laidLooks := .later }
def InterpFuelCardSaid : Prop := Claim7.holds Tryz.pinned (.plain (OpenSpec.ofChange interpFuelSpec)) interpFuelCard

/-- THE TIED CARD OF 'brickyardlaw14.InterpLines'. -/
def interpLinesCard : Claim7 := { stood := { row := interpLinesRow, standIns := [], harness := (true, "8e2504c8ee8bb200c65a624ef5fff7b401bcab17240e8f1d5e9d6e71b43dcea8"), looks := true }, kinds := [], alts := [], laidByText := true, laidKinds := [.data, .data, .data, .data, .data, .pinned], laidTests := true, laidLooks := .later }
def InterpLinesCardSaid : Prop := Claim7.holds Tryz.pinned (.plain (OpenSpec.ofChange interpLinesSpec)) interpLinesCard

/-- THE TIED CARD OF 'brickyardlaw14.InterpNames'. -/
def interpNamesCard : Claim7 := { stood := { row := interpNamesRow, standIns := [], harness := (true, "8e2504c8ee8bb200c65a624ef5fff7b401bcab17240e8f1d5e9d6e71b43dcea8"), looks := true }, kinds := [], alts := [], laidByText := true, laidKinds := [.data, .data, .data, .data, .data, .pinned], laidTests := true, laidLooks := .later }
def InterpNamesCardSaid : Prop := Claim7.holds Tryz.pinned (.plain (OpenSpec.ofChange interpNamesSpec)) interpNamesCard

/-- THE SECOND FORM's CARD OF 'brickyardlaw14.InterpBegins'. -/
def interpBeginsUptoCard : Claim7 := { stood := { row := interpBeginsUptoRow, standIns := [], harness := (true, "8e2504c8ee8bb200c65a624ef5fff7b401bcab17240e8f1d5e9d6e71b43dcea8"), looks := true }, kinds := [], alts := [], laidByText := true, laidKinds := [.data, .data, .data, .data, .data, .pinned], laidTests := true, laidLooks := .later }
def InterpBeginsUptoCardSaid : Prop := Claim7.holds Tryz.pinned (.plain (OpenSpec.upto interpBeginsSpec)) interpBeginsUptoCard

/-- THE SECOND FORM's CARD OF 'brickyardlaw14.InterpPlays'. -/
def interpPlaysUptoCard : Claim7 := { stood := { row := interpPlaysUptoRow, standIns := [], harness := (true, "8e2504c8ee8bb200c65a624ef5fff7b401bcab17240e8f1d5e9d6e71b43dcea8"), looks := true }, kinds := [], alts := [], laidByText := true, laidKinds := [.data, .data, .data, .data, .data, .pinned], laidTests := true, laidLooks := .later }
def InterpPlaysUptoCardSaid : Prop := Claim7.holds Tryz.pinned (.plain (OpenSpec.upto interpPlaysSpec)) interpPlaysUptoCard

/-- THE SECOND FORM's CARD OF 'brickyardlaw14.InterpDoes'. -/
def interpDoesUptoCard : Claim7 := { stood := { row := interpDoesUptoRow, standIns := [], harness := (true, "8e2504c8ee8bb200c65a624ef5fff7b401bcab17240e8f1d5e9d6e71b43dcea8"), looks := true }, kinds := [], alts := [], laidByText := true, laidKinds := [.data, .data, .data, .data, .data, .pinned], laidTests := true, laidLooks := .later }
def InterpDoesUptoCardSaid : Prop := Claim7.holds Tryz.pinned (.plain (OpenSpec.upto interpDoesSpec)) interpDoesUptoCard

/-- THE SECOND FORM's CARD OF 'brickyardlaw14.InterpNone'. -/
def interpNoneUptoCard : Claim7 := { stood := { row := interpNoneUptoRow, standIns := [], harness := (true, "8e2504c8ee8bb200c65a624ef5fff7b401bcab17240e8f1d5e9d6e71b43dcea8"), looks := true }, kinds := [], alts := [], laidByText := true, laidKinds := [.data, .data, .data, .data, .data, .pinned], laidTests := true, laidLooks := .later }
def InterpNoneUptoCardSaid : Prop := Claim7.holds Tryz.pinned (.plain (OpenSpec.upto interpNoneSpec)) interpNoneUptoCard

/-- THE SECOND FORM's CARD OF 'brickyardlaw14.InterpResumes'. -/
def interpResumesUptoCard : Claim7 := { stood := { row := interpResumesUptoRow, standIns := [], harness := (true, "8e2504c8ee8bb200c65a624ef5fff7b401bcab17240e8f1d5e9d6e71b43dcea8"), looks := true }, kinds := [], alts := [], laidByText := true, laidKinds := [.data, .data, .data, .data, .data, .pinned], laidTests := true, laidLooks := .later }
def InterpResumesUptoCardSaid : Prop := Claim7.holds Tryz.pinned (.plain (OpenSpec.upto interpResumesSpec)) interpResumesUptoCard

/-- THE SECOND FORM's CARD OF 'brickyardlaw14.InterpAsks'. -/
def interpAsksUptoCard : Claim7 := { stood := { row := interpAsksUptoRow, standIns := [], harness := (true, "8e2504c8ee8bb200c65a624ef5fff7b401bcab17240e8f1d5e9d6e71b43dcea8"), looks := true }, kinds := [], alts := [], laidByText := true, laidKinds := [.data, .data, .data, .data, .data, .pinned], laidTests := true, laidLooks := .later }
def InterpAsksUptoCardSaid : Prop := Claim7.holds Tryz.pinned (.plain (OpenSpec.upto interpAsksSpec)) interpAsksUptoCard

/-- THE SECOND FORM's CARD OF 'brickyardlaw14.InterpFuel'. -/
def interpFuelUptoCard : Claim7 := { stood := { row := interpFuelUptoRow, standIns := [], harness := (true, "8e2504c8ee8bb200c65a624ef5fff7b401bcab17240e8f1d5e9d6e71b43dcea8"), looks := true }, kinds := [], alts := [], laidByText := true, laidKinds := [.data, .data, .data, .data, .data, .pinned], laidTests := true, laidLooks := .later }
def InterpFuelUptoCardSaid : Prop := Claim7.holds Tryz.pinned (.plain (OpenSpec.upto interpFuelSpec)) interpFuelUptoCard

/-- THE SECOND FORM's CARD OF 'brickyardlaw14.InterpLines'. -/
def interpLinesUptoCard : Claim7 := { stood := { row := interpLinesUptoRow, standIns := [], harness := (true, "8e2504c8ee8bb200c65a624ef5fff7b401bcab17240e8f1d5e9d6e71b43dcea8"), looks := true }, kinds := [], alts := [], laidByText := true, laidKinds := [.data, .data, .data, .data, .data, .pinned], laidTests := true, laidLooks := .later }
def InterpLinesUptoCardSaid : Prop := Claim7.holds Tryz.pinned (.plain (OpenSpec.upto interpLinesSpec)) interpLinesUptoCard

/-- THE SECOND FORM's CARD OF 'brickyardlaw14.InterpNames'. -/
def interpNamesUptoCard : Claim7 := { stood := { row := interpNamesUptoRow, standIns := [], harness := (true, "8e2504c8ee8bb200c65a624ef5fff7b401bcab17240e8f1d5e9d6e71b43dcea8"), looks := true }, kinds := [], alts := [], laidByText := true, laidKinds := [.data, .data, .data, .data, .data, .pinned], laidTests := true, laidLooks := .later }
def InterpNamesUptoCardSaid : Prop := Claim7.holds Tryz.pinned (.plain (OpenSpec.upto interpNamesSpec)) interpNamesUptoCard
end Rows
end Go.Proofs.YtnobmgkdieaclaaGreatDoor
