/-
  DERIVED. GIVEN WITH THE SEED: THE CARDS: each row of YtkjffifdlckljaaDoorRows.lean that lists a variable, with what it lists TIED to the program's text (the seventh form; the later family's looks); each row that meets fmt, with fmt's text TOLD by the authors' own Lean function (tested against real Go, not proved from fmt's source: count such statements apart). THE CARD IS WHAT COUNTS. Prove the row's statement (the work); the ties are given (YtkjffifdlckljaaDoorTie.lean); close each card by the builder's one call (the guide's Derived/Test/ToyasCard.lean, 'card_holds'). Laid BY PROGRAM, IN A SANDBOX (cutbox-door.mjs). By AI agents, Wed Nov 11 2026. No macro, syntax, notation, axiom, sorry.
-/
import Derived.Test.YtkjffifdlckljaaDoorRows
import GoSem.ClaimSeven
namespace Go.Proofs.YtkjffifdlckljaaDoor
namespace Rows

/-- THE TIED CARD OF 'laws.FnExactGetCbor'. -/
def fnExactGetCborCard : Claim7 := { stood := { row := fnExactGetCborRow, standIns := [], harness := (true, "d385c18a305b8a57dd7618acf41032ee8431bdb383911916039cc449a8f2b7c5"), looks := true }, kinds := [], alts := [], laidByText := true, laidKinds := [.data, .data, .pinned], laidTests := true, laidLooks := .later }
def FnExactGetCborCardSaid : Prop := Claim7.holds Tryd.pinned (.plain (OpenSpec.ofChange fnExactGetCborSpec)) fnExactGetCborCard

/-- THE TIED CARD OF 'laws.FnExactLoose'. -/
def fnExactLooseCard : Claim7 := { stood := { row := fnExactLooseRow, standIns := [], harness := (true, "d385c18a305b8a57dd7618acf41032ee8431bdb383911916039cc449a8f2b7c5"), looks := true }, kinds := [], alts := [], laidByText := true, laidKinds := [.data, .data, .pinned], laidTests := true, laidLooks := .later }
def FnExactLooseCardSaid : Prop := Claim7.holds Tryd.pinned (.plain (OpenSpec.ofChange fnExactLooseSpec)) fnExactLooseCard

/-- THE TIED CARD OF 'laws.FnExactBegins'. -/
def fnExactBeginsCard : Claim7 := { stood := { row := fnExactBeginsRow, standIns := [], harness := (true, "d385c18a305b8a57dd7618acf41032ee8431bdb383911916039cc449a8f2b7c5"), looks := true }, kinds := [], alts := [], laidByText := true, laidKinds := [.handle, .data, .sentinel], laidTests := true, laidLooks := .later }
def FnExactBeginsCardSaid : Prop := Claim7.holds Tryd.pinned (.plain (OpenSpec.ofChange fnExactBeginsSpec)) fnExactBeginsCard

/-- THE TIED CARD OF 'laws.FnExactPutPath'. -/
def fnExactPutPathCard : Claim7 := { stood := { row := fnExactPutPathRow, standIns := [], harness := (true, "d385c18a305b8a57dd7618acf41032ee8431bdb383911916039cc449a8f2b7c5"), looks := true }, kinds := [], alts := [], laidByText := true, laidKinds := [.data, .pinned], laidTests := true, laidLooks := .later }
def FnExactPutPathCardSaid : Prop := Claim7.holds Tryd.pinned (.plain (OpenSpec.ofChange fnExactPutPathSpec)) fnExactPutPathCard

/-- THE TIED CARD OF 'laws.FnExactGetPath'. -/
def fnExactGetPathCard : Claim7 := { stood := { row := fnExactGetPathRow, standIns := [], harness := (true, "d385c18a305b8a57dd7618acf41032ee8431bdb383911916039cc449a8f2b7c5"), looks := true }, kinds := [], alts := [], laidByText := true, laidKinds := [.data, .pinned], laidTests := true, laidLooks := .later }
def FnExactGetPathCardSaid : Prop := Claim7.holds Tryd.pinned (.plain (OpenSpec.ofChange fnExactGetPathSpec)) fnExactGetPathCard

/-- THE TIED CARD OF 'laws.FnExactPaths'. -/
def fnExactPathsCard : Claim7 := { stood := { row := fnExactPathsRow, standIns := [], harness := (true, "d385c18a305b8a57dd7618acf41032ee8431bdb383911916039cc449a8f2b7c5"), looks := true }, kinds := [], alts := [], laidByText := true, laidKinds := [.data, .data, .data, .data, .pinned], laidTests := true, laidLooks := .later }
def FnExactPathsCardSaid : Prop := Claim7.holds Tryd.pinned (.plain (OpenSpec.ofChange fnExactPathsSpec)) fnExactPathsCard

/-- THE SECOND FORM's CARD OF 'laws.FnExactGetCbor'. -/
def fnExactGetCborUptoCard : Claim7 := { stood := { row := fnExactGetCborUptoRow, standIns := [], harness := (true, "d385c18a305b8a57dd7618acf41032ee8431bdb383911916039cc449a8f2b7c5"), looks := true }, kinds := [], alts := [], laidByText := true, laidKinds := [.data, .data, .pinned], laidTests := true, laidLooks := .later }
def FnExactGetCborUptoCardSaid : Prop := Claim7.holds Tryd.pinned (.plain (OpenSpec.upto fnExactGetCborSpec)) fnExactGetCborUptoCard

/-- THE SECOND FORM's CARD OF 'laws.FnExactLoose'. -/
def fnExactLooseUptoCard : Claim7 := { stood := { row := fnExactLooseUptoRow, standIns := [], harness := (true, "d385c18a305b8a57dd7618acf41032ee8431bdb383911916039cc449a8f2b7c5"), looks := true }, kinds := [], alts := [], laidByText := true, laidKinds := [.data, .data, .pinned], laidTests := true, laidLooks := .later }
def FnExactLooseUptoCardSaid : Prop := Claim7.holds Tryd.pinned (.plain (OpenSpec.upto fnExactLooseSpec)) fnExactLooseUptoCard

/-- THE SECOND FORM's CARD OF 'laws.FnExactBegins'. -/
def fnExactBeginsUptoCard : Claim7 := { stood := { row := fnExactBeginsUptoRow, standIns := [], harness := (true, "d385c18a305b8a57dd7618acf41032ee8431bdb383911916039cc449a8f2b7c5"), looks := true }, kinds := [], alts := [], laidByText := true, laidKinds := [.handle, .data, .sentinel], laidTests := true, laidLooks := .later }
def FnExactBeginsUptoCardSaid : Prop := Claim7.holds Tryd.pinned (.plain (OpenSpec.upto fnExactBeginsSpec)) fnExactBeginsUptoCard

/-- THE SECOND FORM's CARD OF 'laws.FnExactPutPath'. -/
def fnExactPutPathUptoCard : Claim7 := { stood := { row := fnExactPutPathUptoRow, standIns := [], harness := (true, "d385c18a305b8a57dd7618acf41032ee8431bdb383911916039cc449a8f2b7c5"), looks := true }, kinds := [], alts := [], laidByText := true, laidKinds := [.data, .pinned], laidTests := true, laidLooks := .later }
def FnExactPutPathUptoCardSaid : Prop := Claim7.holds Tryd.pinned (.plain (OpenSpec.upto fnExactPutPathSpec)) fnExactPutPathUptoCard

/-- THE SECOND FORM's CARD OF 'laws.FnExactGetPath'. -/
def fnExactGetPathUptoCard : Claim7 := { stood := { row := fnExactGetPathUptoRow, standIns := [], harness := (true, "d385c18a305b8a57dd7618acf41032ee8431bdb383911916039cc449a8f2b7c5"), looks := true }, kinds := [], alts := [], laidByText := true, laidKinds := [.data, .pinned], laidTests := true, laidLooks := .later }
def FnExactGetPathUptoCardSaid : Prop := Claim7.holds Tryd.pinned (.plain (OpenSpec.upto fnExactGetPathSpec)) fnExactGetPathUptoCard

/-- THE SECOND FORM's CARD OF 'laws.FnExactPaths'. -/
def fnExactPathsUptoCard : Claim7 := { stood := { row := fnExactPathsUptoRow, standIns := [], harness := (true, "d385c18a305b8a57dd7618acf41032ee8431bdb383911916039cc449a8f2b7c5"), looks := true }, kinds := [], alts := [], laidByText := true, laidKinds := [.data, .data, .data, .data, .pinned], laidTests := true, laidLooks := .later }
def FnExactPathsUptoCardSaid : Prop := Claim7.holds Tryd.pinned (.plain (OpenSpec.upto fnExactPathsSpec)) fnExactPathsUptoCard
end Rows
end Go.Proofs.YtkjffifdlckljaaDoor
