/-
  DERIVED. GIVEN WITH THE SEED: THE CARDS: each row of YtnaghafmpncdkaaDoorRows.lean that lists a variable, with what it lists TIED to the program's text (the seventh form; the later family's looks); each row that meets fmt, with fmt's text TOLD by the authors' own Lean function (tested against real Go, not proved from fmt's source: count such statements apart). THE CARD IS WHAT COUNTS. Prove the row's statement (the work); the ties are given (YtnaghafmpncdkaaDoorTie.lean); close each card by the builder's one call (the guide's Derived/Test/ToyasCard.lean, 'card_holds'). Laid BY PROGRAM, IN A SANDBOX (cutbox-door.mjs). By AI agents, Wed Nov 11 2026. No macro, syntax, notation, axiom, sorry.
-/
import Derived.Test.YtnaghafmpncdkaaDoorRows
import GoSem.ClaimSeven
namespace Go.Proofs.YtnaghafmpncdkaaDoor
namespace Rows

/-- THE TIED CARD OF 'laws.FnExactGetCbor'. -/
def fnExactGetCborCard : Claim7 := { stood := { row := fnExactGetCborRow, standIns := [], harness := (true, "db69e4eaa30e673bec0c488451ef7f5d5fbe687e478f840cfb073da3d87c1564"), looks := true }, kinds := [], alts := [], laidByText := true, laidKinds := [.data, .data, .pinned], laidTests := true, laidLooks := .later }
def FnExactGetCborCardSaid : Prop := Claim7.holds Tryd.pinned (.plain (OpenSpec.ofChange fnExactGetCborSpec)) fnExactGetCborCard

/-- THE TIED CARD OF 'laws.FnExactLoose'. -/
def fnExactLooseCard : Claim7 := { stood := { row := fnExactLooseRow, standIns := [], harness := (true, "db69e4eaa30e673bec0c488451ef7f5d5fbe687e478f840cfb073da3d87c1564"), looks := true }, kinds := [], alts := [], laidByText := true, laidKinds := [.data, .data, .pinned], laidTests := true, laidLooks := .later }
def FnExactLooseCardSaid : Prop := Claim7.holds Tryd.pinned (.plain (OpenSpec.ofChange fnExactLooseSpec)) fnExactLooseCard

/-- THE TIED CARD OF 'laws.FnExactBegins'. -/
def fnExactBeginsCard : Claim7 := { stood := { row := fnExactBeginsRow, standIns := [], harness := (true, "db69e4eaa30e673bec0c488451ef7f5d5fbe687e478f840cfb073da3d87c1564"), looks := true }, kinds := [], alts := [], laidByText := true, laidKinds := [.handle, .data, .sentinel], laidTests := true, laidLooks := .later }
def FnExactBeginsCardSaid : Prop := Claim7.holds Tryd.pinned (.plain (OpenSpec.ofChange fnExactBeginsSpec)) fnExactBeginsCard

/-- THE TIED CARD OF 'laws.FnExactAt'. -/
def fnExactAtCard : Claim7 := { stood := { row := fnExactAtRow, standIns := [], harness := (true, "db69e4eaa30e673bec0c488451ef7f5d5fbe687e478f840cfb073da3d87c1564"), looks := true }, kinds := [], alts := [], laidByText := true, laidKinds := [.data, .data, .data, .sentinel, .sentinel], laidTests := true, laidLooks := .later }
def FnExactAtCardSaid : Prop := Claim7.holds Tryd.pinned (.plain (OpenSpec.ofChange fnExactAtSpec)) fnExactAtCard

/-- THE SECOND FORM's CARD OF 'laws.FnExactGetCbor'. -/
def fnExactGetCborUptoCard : Claim7 := { stood := { row := fnExactGetCborUptoRow, standIns := [], harness := (true, "db69e4eaa30e673bec0c488451ef7f5d5fbe687e478f840cfb073da3d87c1564"), looks := true }, kinds := [], alts := [], laidByText := true, laidKinds := [.data, .data, .pinned], laidTests := true, laidLooks := .later }
def FnExactGetCborUptoCardSaid : Prop := Claim7.holds Tryd.pinned (.plain (OpenSpec.upto fnExactGetCborSpec)) fnExactGetCborUptoCard

/-- THE SECOND FORM's CARD OF 'laws.FnExactLoose'. -/
def fnExactLooseUptoCard : Claim7 := { stood := { row := fnExactLooseUptoRow, standIns := [], harness := (true, "db69e4eaa30e673bec0c488451ef7f5d5fbe687e478f840cfb073da3d87c1564"), looks := true }, kinds := [], alts := [], laidByText := true, laidKinds := [.data, .data, .pinned], laidTests := true, laidLooks := .later }
def FnExactLooseUptoCardSaid : Prop := Claim7.holds Tryd.pinned (.plain (OpenSpec.upto fnExactLooseSpec)) fnExactLooseUptoCard

/-- THE SECOND FORM's CARD OF 'laws.FnExactBegins'. -/
def fnExactBeginsUptoCard : Claim7 := { stood := { row := fnExactBeginsUptoRow, standIns := [], harness := (true, "db69e4eaa30e673bec0c488451ef7f5d5fbe687e478f840cfb073da3d87c1564"), looks := true }, kinds := [], alts := [], laidByText := true, laidKinds := [.handle, .data, .sentinel], laidTests := true, laidLooks := .later }
def FnExactBeginsUptoCardSaid : Prop := Claim7.holds Tryd.pinned (.plain (OpenSpec.upto fnExactBeginsSpec)) fnExactBeginsUptoCard

/-- THE SECOND FORM's CARD OF 'laws.FnExactAt'. -/
def fnExactAtUptoCard : Claim7 := { stood := { row := fnExactAtUptoRow, standIns := [], harness := (true, "db69e4eaa30e673bec0c488451ef7f5d5fbe687e478f840cfb073da3d87c1564"), looks := true }, kinds := [], alts := [], laidByText := true, laidKinds := [.data, .data, .data, .sentinel, .sentinel], laidTests := true, laidLooks := .later }
def FnExactAtUptoCardSaid : Prop := Claim7.holds Tryd.pinned (.plain (OpenSpec.upto fnExactAtSpec)) fnExactAtUptoCard
end Rows
end Go.Proofs.YtnaghafmpncdkaaDoor
