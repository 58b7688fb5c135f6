/-
  DERIVED. GIVEN WITH THE SEED: THE CARDS: each row of YtnfbjcpoealkoaaGreatDoorRows.lean that lists a variable, with what it lists TIED to the program's text (the seventh form; the later family's looks); each row that meets fmt, with fmt's text TOLD by the authors' own Lean function (tested against real Go, not proved from fmt's source: count such statements apart). THE CARD IS WHAT COUNTS. Prove the row's statement (the work); the ties are given (YtnfbjcpoealkoaaGreatDoorTie.lean); close each card by the builder's one call (the guide's Derived/Test/ToyasCard.lean, 'card_holds'). Laid BY PROGRAM, IN A SANDBOX (cutbox-door.mjs). By AI agents, Wed Nov 11 2026. No macro, syntax, notation, axiom, sorry.
-/
import Derived.Test.YtnfbjcpoealkoaaGreatDoorRows
import GoSem.ClaimSeven
namespace Go.Proofs.YtnfbjcpoealkoaaGreatDoor
namespace Rows

/-- THE TIED CARD OF 'laws.FnFeed'. -/
def fnFeedCard : Claim7 := { stood := { row := fnFeedRow, standIns := [], harness := (true, "29757f894e822aac9b3fdb66278f550feb84535ae3ebd424110bd3e706e01a87"), looks := true }, kinds := [], alts := [], laidByText := true, laidKinds := [.data, .handle, .data, .data, .sentinel, .pinned], laidTests := true, laidLooks := .later }
def FnFeedCardSaid : Prop := Claim7.holds Tryz.pinned (.plain (OpenSpec.ofChange fnFeedSpec)) fnFeedCard

/-- THE TIED CARD OF 'laws.FnExactReadNum'. -/
def fnExactReadNumCard : Claim7 := { stood := { row := fnExactReadNumRow, standIns := [], harness := (true, "29757f894e822aac9b3fdb66278f550feb84535ae3ebd424110bd3e706e01a87"), looks := true }, kinds := [], alts := [], laidByText := true, laidKinds := [.data, .data, .data, .data, .sentinel, .sentinel, .pinned], laidTests := true, laidLooks := .later }
def FnExactReadNumCardSaid : Prop := Claim7.holds Tryz.pinned (.plain (OpenSpec.ofChange fnExactReadNumSpec)) fnExactReadNumCard

/-- THE TIED CARD OF 'laws.FnExactPutJson'. -/
def fnExactPutJsonCard : Claim7 := { stood := { row := fnExactPutJsonRow, standIns := [], harness := (true, "29757f894e822aac9b3fdb66278f550feb84535ae3ebd424110bd3e706e01a87"), looks := true }, kinds := [], alts := [], laidByText := true, laidKinds := [.data, .data, .data, .data, .data, .data, .pinned], laidTests := true, laidLooks := .later }
def FnExactPutJsonCardSaid : Prop := Claim7.holds Tryz.pinned (.plain (OpenSpec.ofChange fnExactPutJsonSpec)) fnExactPutJsonCard

/-- THE TIED CARD OF 'laws.FnExactPretty'. -/
def fnExactPrettyCard : Claim7 := { stood := { row := fnExactPrettyRow, standIns := [], harness := (true, "29757f894e822aac9b3fdb66278f550feb84535ae3ebd424110bd3e706e01a87"), looks := true }, kinds := [], alts := [], laidByText := true, laidKinds := [.data, .data, .data, .data, .data, .data, .pinned], laidTests := true, laidLooks := .later }
def FnExactPrettyCardSaid : Prop := Claim7.holds Tryz.pinned (.plain (OpenSpec.ofChange fnExactPrettySpec)) fnExactPrettyCard

/-- THE TIED CARD OF 'laws.FnExactPush'. -/
def fnExactPushCard : Claim7 := { stood := { row := fnExactPushRow, standIns := [], harness := (true, "29757f894e822aac9b3fdb66278f550feb84535ae3ebd424110bd3e706e01a87"), looks := true }, kinds := [], alts := [], laidByText := true, laidKinds := [.data, .handle, .data, .data, .sentinel, .pinned], laidTests := true, laidLooks := .later }
def FnExactPushCardSaid : Prop := Claim7.holds Tryz.pinned (.plain (OpenSpec.ofChange fnExactPushSpec)) fnExactPushCard

/-- THE TIED CARD OF 'laws.FnExactPushAll'. -/
def fnExactPushAllCard : Claim7 := { stood := { row := fnExactPushAllRow, standIns := [], harness := (true, "29757f894e822aac9b3fdb66278f550feb84535ae3ebd424110bd3e706e01a87"), looks := true }, kinds := [], alts := [], laidByText := true, laidKinds := [.data, .handle, .data, .data, .sentinel, .pinned], laidTests := true, laidLooks := .later }
def FnExactPushAllCardSaid : Prop := Claim7.holds Tryz.pinned (.plain (OpenSpec.ofChange fnExactPushAllSpec)) fnExactPushAllCard

/-- THE SECOND FORM's CARD OF 'laws.FnFeed'. -/
def fnFeedUptoCard : Claim7 := { stood := { row := fnFeedUptoRow, standIns := [], harness := (true, "29757f894e822aac9b3fdb66278f550feb84535ae3ebd424110bd3e706e01a87"), looks := true }, kinds := [], alts := [], laidByText := true, laidKinds := [.data, .handle, .data, .data, .sentinel, .pinned], laidTests := true, laidLooks := .later }
def FnFeedUptoCardSaid : Prop := Claim7.holds Tryz.pinned (.plain (OpenSpec.upto fnFeedSpec)) fnFeedUptoCard

/-- THE SECOND FORM's CARD OF 'laws.FnExactReadNum'. -/
def fnExactReadNumUptoCard : Claim7 := { stood := { row := fnExactReadNumUptoRow, standIns := [], harness := (true, "29757f894e822aac9b3fdb66278f550feb84535ae3ebd424110bd3e706e01a87"), looks := true }, kinds := [], alts := [], laidByText := true, laidKinds := [.data, .data, .data, .data, .sentinel, .sentinel, .pinned], laidTests := true, laidLooks := .later }
def FnExactReadNumUptoCardSaid : Prop := Claim7.holds Tryz.pinned (.plain (OpenSpec.upto fnExactReadNumSpec)) fnExactReadNumUptoCard

/-- THE SECOND FORM's CARD OF 'laws.FnExactPutJson'. -/
def fnExactPutJsonUptoCard : Claim7 := { stood := { row := fnExactPutJsonUptoRow, standIns := [], harness := (true, "29757f894e822aac9b3fdb66278f550feb84535ae3ebd424110bd3e706e01a87"), looks := true }, kinds := [], alts := [], laidByText := true, laidKinds := [.data, .data, .data, .data, .data, .data, .pinned], laidTests := true, laidLooks := .later }
def FnExactPutJsonUptoCardSaid : Prop := Claim7.holds Tryz.pinned (.plain (OpenSpec.upto fnExactPutJsonSpec)) fnExactPutJsonUptoCard

/-- THE SECOND FORM's CARD OF 'laws.FnExactPretty'. -/
def fnExactPrettyUptoCard : Claim7 := { stood := { row := fnExactPrettyUptoRow, standIns := [], harness := (true, "29757f894e822aac9b3fdb66278f550feb84535ae3ebd424110bd3e706e01a87"), looks := true }, kinds := [], alts := [], laidByText := true, laidKinds := [.data, .data, .data, .data, .data, .data, .pinned], laidTests := true, laidLooks := .later }
def FnExactPrettyUptoCardSaid : Prop := Claim7.holds Tryz.pinned (.plain (OpenSpec.upto fnExactPrettySpec)) fnExactPrettyUptoCard

/-- THE SECOND FORM's CARD OF 'laws.FnExactPush'. -/
def fnExactPushUptoCard : Claim7 := { stood := { row := fnExactPushUptoRow, standIns := [], harness := (true, "29757f894e822aac9b3fdb66278f550feb84535ae3ebd424110bd3e706e01a87"), looks := true }, kinds := [], alts := [], laidByText := true, laidKinds := [.data, .handle, .data, .data, .sentinel, .pinned], laidTests := true, laidLooks := .later }
def FnExactPushUptoCardSaid : Prop := Claim7.holds Tryz.pinned (.plain (OpenSpec.upto fnExactPushSpec)) fnExactPushUptoCard

/-- THE SECOND FORM's CARD OF 'laws.FnExactPushAll'. -/
def fnExactPushAllUptoCard : Claim7 := { stood := { row := fnExactPushAllUptoRow, standIns := [], harness := (true, "29757f894e822aac9b3fdb66278f550feb84535ae3ebd424110bd3e706e01a87"), looks := true }, kinds := [], alts := [], laidByText := true, laidKinds := [.data, .handle, .data, .data, .sentinel, .pinned], laidTests := true, laidLooks := .later }
def FnExactPushAllUptoCardSaid : Prop := Claim7.holds Tryz.pinned (.plain (OpenSpec.upto fnExactPushAllSpec)) fnExactPushAllUptoCard
end Rows
end Go.Proofs.YtnfbjcpoealkoaaGreatDoor
