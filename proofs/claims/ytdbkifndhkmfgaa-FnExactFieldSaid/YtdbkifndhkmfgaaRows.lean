/-
  NARROWER THAN 'FOR EVERY INPUT', by the rows' own cells (each row's printed sentence says how): FnExactStrings: loops · FnExactField: loops · FnExactCborFits: loops.
  DERIVED. THE GIVEN ROWS OF THIS SEAT. 5 by the template 'for every input the law returns true; each argument reads behind the call as it read before'; 0 by the template 'total and deterministic' (their statements: YtdbkifndhkmfgaaTotals.lean).
  GIVEN WITH THE SEED: the statements are not yours to turn. If you find one false, say at which input.
  Laid BY PROGRAM, IN A SANDBOX (cutbox-rows.mjs): the forced cells as the released guide's own fill.sh prints them over the translation 811b909daf6a011c… (all of the seat's roots in one cut). By AI agents, Wed Nov 11 2026. No macro, syntax, notation, axiom, sorry.
-/
import Derived.Test.YtdbkifndhkmfgaaChecked
import GoSem.Claim
import GoSem.ClaimJoined
import GoSem.ClaimMapViews
import Derived.JoinedTies
import Derived.KernelRfl
namespace Go.Proofs.Ytdbkifndhkmfgaa
/- THE CELL 'sum', in the pinned program and in every row, IS THE sha256 OF THE DUMP (.gsa) THAT YtdbkifndhkmfgaaProg.lean LOADS. Nothing in Lean hashes anything: it is a label: what it is worth is what the hold of that sum in a sandbox is worth. -/
noncomputable def Try.pinned : Pinned := { name := "ytdbkifndhkmfgaa", sum := "811b909daf6a011cfc07212d19f9c3d3f65620819db53c8a0be6cc92d09e2897", checked := Try.checked }
namespace Rows
def none {H : Type} : Left H := { results := [], args := [] }

/-- 'laws.FnExactPutHead': WHATEVER THE INPUT: true; the input reads as it did. -/
def fnExactPutHeadSpec : ChangeSpec := { name := "fnExactPutHead", fn := fun _ => fun
  | [d1, d2] => { results := [.lit (.bool true)], args := [d1, d2] }
  | _ => none }
def fnExactPutHeadRow : OpenClaim := { program := "ytdbkifndhkmfgaa", sum := "811b909daf6a011cfc07212d19f9c3d3f65620819db53c8a0be6cc92d09e2897", func := "loop.example/g00421/laws.FnExactPutHead", spec := "fnExactPutHead", apart := false }
def FnExactPutHeadSaid : Prop := fnExactPutHeadRow.holds Try.pinned (OpenSpec.ofChange fnExactPutHeadSpec)

/-- ITS FALSE NEIGHBOUR: 'it returns false'. Refute it at one input. -/
def fnExactPutHeadWrong : ChangeSpec := { name := "fnExactPutHead", fn := fun _ => fun
  | [d1, d2] => { results := [.lit (.bool false)], args := [d1, d2] }
  | _ => none }
def FnExactPutHeadWrongFalsely : Prop := fnExactPutHeadRow.holds Try.pinned (OpenSpec.ofChange fnExactPutHeadWrong)

/-- 'laws.FnExactGetHead': WHATEVER THE INPUT: true; the input reads as it did. -/
def fnExactGetHeadSpec : ChangeSpec := { name := "fnExactGetHead", fn := fun _ => fun
  | [d1, d2] => { results := [.lit (.bool true)], args := [d1, d2] }
  | _ => none }
def fnExactGetHeadRow : OpenClaim := { program := "ytdbkifndhkmfgaa", sum := "811b909daf6a011cfc07212d19f9c3d3f65620819db53c8a0be6cc92d09e2897", func := "loop.example/g00421/laws.FnExactGetHead", spec := "fnExactGetHead", apart := false }
def FnExactGetHeadSaid : Prop := fnExactGetHeadRow.holds Try.pinned (OpenSpec.ofChange fnExactGetHeadSpec)

/-- ITS FALSE NEIGHBOUR: 'it returns false'. Refute it at one input. -/
def fnExactGetHeadWrong : ChangeSpec := { name := "fnExactGetHead", fn := fun _ => fun
  | [d1, d2] => { results := [.lit (.bool false)], args := [d1, d2] }
  | _ => none }
def FnExactGetHeadWrongFalsely : Prop := fnExactGetHeadRow.holds Try.pinned (OpenSpec.ofChange fnExactGetHeadWrong)

/-- 'laws.FnExactStrings': WHATEVER THE INPUT: true; the input reads as it did. -/
def fnExactStringsSpec : ChangeSpec := { name := "fnExactStrings", fn := fun _ => fun
  | [d] => { results := [.lit (.bool true)], args := [d] }
  | _ => none }
def fnExactStringsRow : OpenClaim := { program := "ytdbkifndhkmfgaa", sum := "811b909daf6a011cfc07212d19f9c3d3f65620819db53c8a0be6cc92d09e2897", func := "loop.example/g00421/laws.FnExactStrings", spec := "fnExactStrings", unfollowed := true, recurses := true, loops := true, apart := false }
def FnExactStringsSaid : Prop := fnExactStringsRow.holds Try.pinned (OpenSpec.ofChange fnExactStringsSpec)

/-- ITS FALSE NEIGHBOUR: 'it returns false'. Refute it at one input. -/
def fnExactStringsWrong : ChangeSpec := { name := "fnExactStrings", fn := fun _ => fun
  | [d] => { results := [.lit (.bool false)], args := [d] }
  | _ => none }
def FnExactStringsWrongFalsely : Prop := fnExactStringsRow.holds Try.pinned (OpenSpec.ofChange fnExactStringsWrong)

/-- 'laws.FnExactField': WHATEVER THE INPUT: true; the input reads as it did. -/
def fnExactFieldSpec : ChangeSpec := { name := "fnExactField", fn := fun _ => fun
  | [d1, d2] => { results := [.lit (.bool true)], args := [d1, d2] }
  | _ => none }
def fnExactFieldRow : OpenClaim := { program := "ytdbkifndhkmfgaa", sum := "811b909daf6a011cfc07212d19f9c3d3f65620819db53c8a0be6cc92d09e2897", func := "loop.example/g00421/laws.FnExactField", spec := "fnExactField", unfollowed := true, recurses := true, loops := true, apart := false }
def FnExactFieldSaid : Prop := fnExactFieldRow.holds Try.pinned (OpenSpec.ofChange fnExactFieldSpec)

/-- ITS FALSE NEIGHBOUR: 'it returns false'. Refute it at one input. -/
def fnExactFieldWrong : ChangeSpec := { name := "fnExactField", fn := fun _ => fun
  | [d1, d2] => { results := [.lit (.bool false)], args := [d1, d2] }
  | _ => none }
def FnExactFieldWrongFalsely : Prop := fnExactFieldRow.holds Try.pinned (OpenSpec.ofChange fnExactFieldWrong)

/-- 'laws.FnExactCborFits': WHATEVER THE INPUT: true; the input reads as it did. -/
def fnExactCborFitsSpec : ChangeSpec := { name := "fnExactCborFits", fn := fun _ => fun
  | [d] => { results := [.lit (.bool true)], args := [d] }
  | _ => none }
def fnExactCborFitsRow : OpenClaim := { program := "ytdbkifndhkmfgaa", sum := "811b909daf6a011cfc07212d19f9c3d3f65620819db53c8a0be6cc92d09e2897", func := "loop.example/g00421/laws.FnExactCborFits", spec := "fnExactCborFits", unfollowed := true, recurses := true, loops := true, apart := false }
def FnExactCborFitsSaid : Prop := fnExactCborFitsRow.holds Try.pinned (OpenSpec.ofChange fnExactCborFitsSpec)

/-- ITS FALSE NEIGHBOUR: 'it returns false'. Refute it at one input. -/
def fnExactCborFitsWrong : ChangeSpec := { name := "fnExactCborFits", fn := fun _ => fun
  | [d] => { results := [.lit (.bool false)], args := [d] }
  | _ => none }
def FnExactCborFitsWrongFalsely : Prop := fnExactCborFitsRow.holds Try.pinned (OpenSpec.ofChange fnExactCborFitsWrong)

/- THE SECOND FORM. 'bulk': how many values and letters a reading holds, each counted each time it is reached (what is shared counts as often as it is met; a slice's spare places count too). A statement '..UptoSaid' is the law's where the arguments, and the package variables that the reading takes, are together of bulk at most 1048576: NARROWER than '..Said'. Prove '..Said' where nothing that the law and all that it calls make is longer than what came in: it says more and counts as full. Else prove '..UptoSaid'. A law counts once. -/
mutual
def uptoBulk {H : Type} : DataW H → Nat
  | .lit (.string bytes) => bytes.length + 1
  | .lit _ => 1
  | .nil => 1
  | .ptr d => uptoBulk d + 1
  | .slice elems spare => uptoBulkAll elems + uptoBulkAll spare + 1
  | .agg parts => uptoBulkAll parts + 1
  | .iface _ d => uptoBulk d + 1
  | .map entries => uptoBulkEntries entries + 1
  | .held _ => 1
def uptoBulkAll {H : Type} : List (DataW H) → Nat
  | [] => 0
  | d :: r => uptoBulk d + uptoBulkAll r
def uptoBulkEntries {H : Type} : List (Lit × DataW H) → Nat
  | [] => 0
  | x :: r => uptoBulkEntry x + uptoBulkEntries r
def uptoBulkEntry {H : Type} : Lit × DataW H → Nat
  | (.string bytes, d) => bytes.length + uptoBulk d + 1
  | (_, d) => uptoBulk d + 1
 end
def uptoSmall : (H : Type) → List (DataW H) → Bool := fun _ ds => decide (uptoBulkAll ds ≤ 1048576)
def OpenSpec.upto (s : _root_.Go.ChangeSpec) : _root_.Go.OpenSpec := { _root_.Go.OpenSpec.ofChange s with cond := some uptoSmall }

/-- 'laws.FnExactPutHead', WHERE WHAT IT READS IS OF BULK AT MOST 1048576: true; the input reads as it did. -/
def fnExactPutHeadUptoRow : OpenClaim := { program := "ytdbkifndhkmfgaa", sum := "811b909daf6a011cfc07212d19f9c3d3f65620819db53c8a0be6cc92d09e2897", func := "loop.example/g00421/laws.FnExactPutHead", spec := "fnExactPutHead", apart := false, narrowed := true }
def FnExactPutHeadUptoSaid : Prop := fnExactPutHeadUptoRow.holds Try.pinned (OpenSpec.upto fnExactPutHeadSpec)

/-- 'laws.FnExactGetHead', WHERE WHAT IT READS IS OF BULK AT MOST 1048576: true; the input reads as it did. -/
def fnExactGetHeadUptoRow : OpenClaim := { program := "ytdbkifndhkmfgaa", sum := "811b909daf6a011cfc07212d19f9c3d3f65620819db53c8a0be6cc92d09e2897", func := "loop.example/g00421/laws.FnExactGetHead", spec := "fnExactGetHead", apart := false, narrowed := true }
def FnExactGetHeadUptoSaid : Prop := fnExactGetHeadUptoRow.holds Try.pinned (OpenSpec.upto fnExactGetHeadSpec)

/-- 'laws.FnExactStrings', WHERE WHAT IT READS IS OF BULK AT MOST 1048576: true; the input reads as it did. -/
def fnExactStringsUptoRow : OpenClaim := { program := "ytdbkifndhkmfgaa", sum := "811b909daf6a011cfc07212d19f9c3d3f65620819db53c8a0be6cc92d09e2897", func := "loop.example/g00421/laws.FnExactStrings", spec := "fnExactStrings", unfollowed := true, recurses := true, loops := true, apart := false, narrowed := true }
def FnExactStringsUptoSaid : Prop := fnExactStringsUptoRow.holds Try.pinned (OpenSpec.upto fnExactStringsSpec)

/-- 'laws.FnExactField', WHERE WHAT IT READS IS OF BULK AT MOST 1048576: true; the input reads as it did. -/
def fnExactFieldUptoRow : OpenClaim := { program := "ytdbkifndhkmfgaa", sum := "811b909daf6a011cfc07212d19f9c3d3f65620819db53c8a0be6cc92d09e2897", func := "loop.example/g00421/laws.FnExactField", spec := "fnExactField", unfollowed := true, recurses := true, loops := true, apart := false, narrowed := true }
def FnExactFieldUptoSaid : Prop := fnExactFieldUptoRow.holds Try.pinned (OpenSpec.upto fnExactFieldSpec)

/-- 'laws.FnExactCborFits', WHERE WHAT IT READS IS OF BULK AT MOST 1048576: true; the input reads as it did. -/
def fnExactCborFitsUptoRow : OpenClaim := { program := "ytdbkifndhkmfgaa", sum := "811b909daf6a011cfc07212d19f9c3d3f65620819db53c8a0be6cc92d09e2897", func := "loop.example/g00421/laws.FnExactCborFits", spec := "fnExactCborFits", unfollowed := true, recurses := true, loops := true, apart := false, narrowed := true }
def FnExactCborFitsUptoSaid : Prop := fnExactCborFitsUptoRow.holds Try.pinned (OpenSpec.upto fnExactCborFitsSpec)

end Rows
end Go.Proofs.Ytdbkifndhkmfgaa
