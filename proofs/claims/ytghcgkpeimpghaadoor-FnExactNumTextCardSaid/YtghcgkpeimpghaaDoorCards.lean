/-
  DERIVED. GIVEN WITH THE SEED: THE CARDS: each row of YtghcgkpeimpghaaDoorRows.lean that lists a variable, with what it lists TIED to the program's text (the seventh form; the later family's looks); each row that meets fmt, with fmt's text TOLD by the authors' own Lean function (tested against real Go, not proved from fmt's source: count such statements apart). THE CARD IS WHAT COUNTS. Prove the row's statement (the work); the ties are given (YtghcgkpeimpghaaDoorTie.lean); close each card by the builder's one call (the guide's Derived/Test/ToyasCard.lean, 'card_holds'). Laid BY PROGRAM, IN A SANDBOX (cutbox-door.mjs). By AI agents, Wed Nov 11 2026. No macro, syntax, notation, axiom, sorry.
-/
import Derived.Test.YtghcgkpeimpghaaDoorRows
import GoSem.ClaimSeven
namespace Go.Proofs.YtghcgkpeimpghaaDoor
namespace Rows

/-- THE TIED CARD OF 'laws.FnExactNumText'. -/
def fnExactNumTextCard : Claim7 := { stood := { row := fnExactNumTextRow, standIns := [], harness := (true, "529bbb246e524c8198c7a59cfc018f2e586c7ed882e8b7aea4dc5db8ba16e30d"), looks := true }, kinds := [], alts := [], laidByText := true, laidKinds := [.data, .data, .data], laidTests := true, laidLooks := .later }
def FnExactNumTextCardSaid : Prop := Claim7.holds Tryd.pinned (.plain (OpenSpec.ofChange fnExactNumTextSpec)) fnExactNumTextCard

/-- THE TIED CARD OF 'laws.FnExactGetCbor'. -/
def fnExactGetCborCard : Claim7 := { stood := { row := fnExactGetCborRow, standIns := [], harness := (true, "529bbb246e524c8198c7a59cfc018f2e586c7ed882e8b7aea4dc5db8ba16e30d"), looks := true }, kinds := [], alts := [], laidByText := true, laidKinds := [.data, .data, .pinned], laidTests := true, laidLooks := .later }
def FnExactGetCborCardSaid : Prop := Claim7.holds Tryd.pinned (.plain (OpenSpec.ofChange fnExactGetCborSpec)) fnExactGetCborCard

/-- THE TIED CARD OF 'laws.FnExactLoose'. -/
def fnExactLooseCard : Claim7 := { stood := { row := fnExactLooseRow, standIns := [], harness := (true, "529bbb246e524c8198c7a59cfc018f2e586c7ed882e8b7aea4dc5db8ba16e30d"), looks := true }, kinds := [], alts := [], laidByText := true, laidKinds := [.data, .data, .pinned], laidTests := true, laidLooks := .later }
def FnExactLooseCardSaid : Prop := Claim7.holds Tryd.pinned (.plain (OpenSpec.ofChange fnExactLooseSpec)) fnExactLooseCard

/-- THE SECOND FORM's CARD OF 'laws.FnExactNumText'. -/
def fnExactNumTextUptoCard : Claim7 := { stood := { row := fnExactNumTextUptoRow, standIns := [], harness := (true, "529bbb246e524c8198c7a59cfc018f2e586c7ed882e8b7aea4dc5db8ba16e30d"), looks := true }, kinds := [], alts := [], laidByText := true, laidKinds := [.data, .data, .data], laidTests := true, laidLooks := .later }
def FnExactNumTextUptoCardSaid : Prop := Claim7.holds Tryd.pinned (.plain (OpenSpec.upto fnExactNumTextSpec)) fnExactNumTextUptoCard

/-- THE SECOND FORM's CARD OF 'laws.FnExactGetCbor'. -/
def fnExactGetCborUptoCard : Claim7 := { stood := { row := fnExactGetCborUptoRow, standIns := [], harness := (true, "529bbb246e524c8198c7a59cfc018f2e586c7ed882e8b7aea4dc5db8ba16e30d"), looks := true }, kinds := [], alts := [], laidByText := true, laidKinds := [.data, .data, .pinned], laidTests := true, laidLooks := .later }
def FnExactGetCborUptoCardSaid : Prop := Claim7.holds Tryd.pinned (.plain (OpenSpec.upto fnExactGetCborSpec)) fnExactGetCborUptoCard

/-- THE SECOND FORM's CARD OF 'laws.FnExactLoose'. -/
def fnExactLooseUptoCard : Claim7 := { stood := { row := fnExactLooseUptoRow, standIns := [], harness := (true, "529bbb246e524c8198c7a59cfc018f2e586c7ed882e8b7aea4dc5db8ba16e30d"), looks := true }, kinds := [], alts := [], laidByText := true, laidKinds := [.data, .data, .pinned], laidTests := true, laidLooks := .later }
def FnExactLooseUptoCardSaid : Prop := Claim7.holds Tryd.pinned (.plain (OpenSpec.upto fnExactLooseSpec)) fnExactLooseUptoCard
end Rows
end Go.Proofs.YtghcgkpeimpghaaDoor
