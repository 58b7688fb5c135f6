/-
  NARROWER THAN 'FOR EVERY INPUT', by the rows' own cells (each row's printed sentence says how): FnExactCompare: loops · FnExactSame: loops · FnExactWhole: loops · FnExactCompareNum: loops · FnExactStrings: loops · FnExactField: loops · FnExactJsonFits: loops.
  DERIVED. THE GIVEN ROWS OF THIS SEAT. 9 by the template 'for every input the law returns true; each argument reads behind the call as it read before'; 0 by the template 'total and deterministic' (their statements: YtlkfaehfkapfnaaTotals.lean).
  GIVEN WITH THE SEED: the statements are not yours to turn. If you find one false, say at which input.
  Laid BY PROGRAM, IN A SANDBOX (cutbox-rows.mjs): the forced cells as the released guide's own fill.sh prints them over the translation 44dbf5f66f9b66e0… (all of the seat's roots in one cut). By AI agents, Wed Nov 11 2026. No macro, syntax, notation, axiom, sorry.
-/
import Derived.Test.YtlkfaehfkapfnaaChecked
import GoSem.Claim
import GoSem.ClaimJoined
import GoSem.ClaimMapViews
import Derived.JoinedTies
import Derived.KernelRfl
namespace Go.Proofs.Ytlkfaehfkapfnaa
/- THE CELL 'sum', in the pinned program and in every row, IS THE sha256 OF THE DUMP (.gsa) THAT YtlkfaehfkapfnaaProg.lean LOADS. Nothing in Lean hashes anything: it is a label: what it is worth is what the hold of that sum in a sandbox is worth. -/
noncomputable def Try.pinned : Pinned := { name := "ytlkfaehfkapfnaa", sum := "44dbf5f66f9b66e0dfdbf7b96512f74c5e89ca2cc716f64c7f58c36baf5dfd5c", checked := Try.checked }
namespace Rows
def none {H : Type} : Left H := { results := [], args := [] }

/-- 'laws.FnExactCompare': WHATEVER THE INPUT: true; the input reads as it did. -/
def fnExactCompareSpec : ChangeSpec := { name := "fnExactCompare", fn := fun _ => fun
  | [d1, d2] => { results := [.lit (.bool true)], args := [d1, d2] }
  | _ => none }
def fnExactCompareRow : OpenClaim := { program := "ytlkfaehfkapfnaa", sum := "44dbf5f66f9b66e0dfdbf7b96512f74c5e89ca2cc716f64c7f58c36baf5dfd5c", func := "loop.example/g00421/laws.FnExactCompare", spec := "fnExactCompare", unfollowed := true, recurses := true, loops := true, apart := false }
def FnExactCompareSaid : Prop := fnExactCompareRow.holds Try.pinned (OpenSpec.ofChange fnExactCompareSpec)

/-- ITS FALSE NEIGHBOUR: 'it returns false'. Refute it at one input. -/
def fnExactCompareWrong : ChangeSpec := { name := "fnExactCompare", fn := fun _ => fun
  | [d1, d2] => { results := [.lit (.bool false)], args := [d1, d2] }
  | _ => none }
def FnExactCompareWrongFalsely : Prop := fnExactCompareRow.holds Try.pinned (OpenSpec.ofChange fnExactCompareWrong)

/-- 'laws.FnExactSame': WHATEVER THE INPUT: true; the input reads as it did. -/
def fnExactSameSpec : ChangeSpec := { name := "fnExactSame", fn := fun _ => fun
  | [d1, d2] => { results := [.lit (.bool true)], args := [d1, d2] }
  | _ => none }
def fnExactSameRow : OpenClaim := { program := "ytlkfaehfkapfnaa", sum := "44dbf5f66f9b66e0dfdbf7b96512f74c5e89ca2cc716f64c7f58c36baf5dfd5c", func := "loop.example/g00421/laws.FnExactSame", spec := "fnExactSame", unfollowed := true, recurses := true, loops := true, apart := false }
def FnExactSameSaid : Prop := fnExactSameRow.holds Try.pinned (OpenSpec.ofChange fnExactSameSpec)

/-- ITS FALSE NEIGHBOUR: 'it returns false'. Refute it at one input. -/
def fnExactSameWrong : ChangeSpec := { name := "fnExactSame", fn := fun _ => fun
  | [d1, d2] => { results := [.lit (.bool false)], args := [d1, d2] }
  | _ => none }
def FnExactSameWrongFalsely : Prop := fnExactSameRow.holds Try.pinned (OpenSpec.ofChange fnExactSameWrong)

/-- 'laws.FnExactBlanks': WHATEVER THE INPUT: true; the input reads as it did. -/
def fnExactBlanksSpec : ChangeSpec := { name := "fnExactBlanks", fn := fun _ => fun
  | [d] => { results := [.lit (.bool true)], args := [d] }
  | _ => none }
def fnExactBlanksRow : OpenClaim := { program := "ytlkfaehfkapfnaa", sum := "44dbf5f66f9b66e0dfdbf7b96512f74c5e89ca2cc716f64c7f58c36baf5dfd5c", func := "loop.example/g00421/laws.FnExactBlanks", spec := "fnExactBlanks", apart := false }
def FnExactBlanksSaid : Prop := fnExactBlanksRow.holds Try.pinned (OpenSpec.ofChange fnExactBlanksSpec)

/-- ITS FALSE NEIGHBOUR: 'it returns false'. Refute it at one input. -/
def fnExactBlanksWrong : ChangeSpec := { name := "fnExactBlanks", fn := fun _ => fun
  | [d] => { results := [.lit (.bool false)], args := [d] }
  | _ => none }
def FnExactBlanksWrongFalsely : Prop := fnExactBlanksRow.holds Try.pinned (OpenSpec.ofChange fnExactBlanksWrong)

/-- 'laws.FnExactNorm': WHATEVER THE INPUT: true; the input reads as it did. -/
def fnExactNormSpec : ChangeSpec := { name := "fnExactNorm", fn := fun _ => fun
  | [d1, d2] => { results := [.lit (.bool true)], args := [d1, d2] }
  | _ => none }
def fnExactNormRow : OpenClaim := { program := "ytlkfaehfkapfnaa", sum := "44dbf5f66f9b66e0dfdbf7b96512f74c5e89ca2cc716f64c7f58c36baf5dfd5c", func := "loop.example/g00421/laws.FnExactNorm", spec := "fnExactNorm", unfollowed := true, recurses := true, apart := false }
def FnExactNormSaid : Prop := fnExactNormRow.holds Try.pinned (OpenSpec.ofChange fnExactNormSpec)

/-- ITS FALSE NEIGHBOUR: 'it returns false'. Refute it at one input. -/
def fnExactNormWrong : ChangeSpec := { name := "fnExactNorm", fn := fun _ => fun
  | [d1, d2] => { results := [.lit (.bool false)], args := [d1, d2] }
  | _ => none }
def FnExactNormWrongFalsely : Prop := fnExactNormRow.holds Try.pinned (OpenSpec.ofChange fnExactNormWrong)

/-- 'laws.FnExactWhole': WHATEVER THE INPUT: true; the input reads as it did. -/
def fnExactWholeSpec : ChangeSpec := { name := "fnExactWhole", fn := fun _ => fun
  | [d] => { results := [.lit (.bool true)], args := [d] }
  | _ => none }
def fnExactWholeRow : OpenClaim := { program := "ytlkfaehfkapfnaa", sum := "44dbf5f66f9b66e0dfdbf7b96512f74c5e89ca2cc716f64c7f58c36baf5dfd5c", func := "loop.example/g00421/laws.FnExactWhole", spec := "fnExactWhole", unfollowed := true, recurses := true, loops := true, apart := false }
def FnExactWholeSaid : Prop := fnExactWholeRow.holds Try.pinned (OpenSpec.ofChange fnExactWholeSpec)

/-- ITS FALSE NEIGHBOUR: 'it returns false'. Refute it at one input. -/
def fnExactWholeWrong : ChangeSpec := { name := "fnExactWhole", fn := fun _ => fun
  | [d] => { results := [.lit (.bool false)], args := [d] }
  | _ => none }
def FnExactWholeWrongFalsely : Prop := fnExactWholeRow.holds Try.pinned (OpenSpec.ofChange fnExactWholeWrong)

/-- 'laws.FnExactCompareNum': WHATEVER THE INPUT: true; the input reads as it did. -/
def fnExactCompareNumSpec : ChangeSpec := { name := "fnExactCompareNum", fn := fun _ => fun
  | [d1, d2] => { results := [.lit (.bool true)], args := [d1, d2] }
  | _ => none }
def fnExactCompareNumRow : OpenClaim := { program := "ytlkfaehfkapfnaa", sum := "44dbf5f66f9b66e0dfdbf7b96512f74c5e89ca2cc716f64c7f58c36baf5dfd5c", func := "loop.example/g00421/laws.FnExactCompareNum", spec := "fnExactCompareNum", unfollowed := true, recurses := true, loops := true, apart := false }
def FnExactCompareNumSaid : Prop := fnExactCompareNumRow.holds Try.pinned (OpenSpec.ofChange fnExactCompareNumSpec)

/-- ITS FALSE NEIGHBOUR: 'it returns false'. Refute it at one input. -/
def fnExactCompareNumWrong : ChangeSpec := { name := "fnExactCompareNum", fn := fun _ => fun
  | [d1, d2] => { results := [.lit (.bool false)], args := [d1, d2] }
  | _ => none }
def FnExactCompareNumWrongFalsely : Prop := fnExactCompareNumRow.holds Try.pinned (OpenSpec.ofChange fnExactCompareNumWrong)

/-- 'laws.FnExactStrings': WHATEVER THE INPUT: true; the input reads as it did. -/
def fnExactStringsSpec : ChangeSpec := { name := "fnExactStrings", fn := fun _ => fun
  | [d] => { results := [.lit (.bool true)], args := [d] }
  | _ => none }
def fnExactStringsRow : OpenClaim := { program := "ytlkfaehfkapfnaa", sum := "44dbf5f66f9b66e0dfdbf7b96512f74c5e89ca2cc716f64c7f58c36baf5dfd5c", func := "loop.example/g00421/laws.FnExactStrings", spec := "fnExactStrings", unfollowed := true, recurses := true, loops := true, apart := false }
def FnExactStringsSaid : Prop := fnExactStringsRow.holds Try.pinned (OpenSpec.ofChange fnExactStringsSpec)

/-- ITS FALSE NEIGHBOUR: 'it returns false'. Refute it at one input. -/
def fnExactStringsWrong : ChangeSpec := { name := "fnExactStrings", fn := fun _ => fun
  | [d] => { results := [.lit (.bool false)], args := [d] }
  | _ => none }
def FnExactStringsWrongFalsely : Prop := fnExactStringsRow.holds Try.pinned (OpenSpec.ofChange fnExactStringsWrong)

/-- 'laws.FnExactField': WHATEVER THE INPUT: true; the input reads as it did. -/
def fnExactFieldSpec : ChangeSpec := { name := "fnExactField", fn := fun _ => fun
  | [d1, d2] => { results := [.lit (.bool true)], args := [d1, d2] }
  | _ => none }
def fnExactFieldRow : OpenClaim := { program := "ytlkfaehfkapfnaa", sum := "44dbf5f66f9b66e0dfdbf7b96512f74c5e89ca2cc716f64c7f58c36baf5dfd5c", func := "loop.example/g00421/laws.FnExactField", spec := "fnExactField", unfollowed := true, recurses := true, loops := true, apart := false }
def FnExactFieldSaid : Prop := fnExactFieldRow.holds Try.pinned (OpenSpec.ofChange fnExactFieldSpec)

/-- ITS FALSE NEIGHBOUR: 'it returns false'. Refute it at one input. -/
def fnExactFieldWrong : ChangeSpec := { name := "fnExactField", fn := fun _ => fun
  | [d1, d2] => { results := [.lit (.bool false)], args := [d1, d2] }
  | _ => none }
def FnExactFieldWrongFalsely : Prop := fnExactFieldRow.holds Try.pinned (OpenSpec.ofChange fnExactFieldWrong)

/-- 'laws.FnExactJsonFits': WHATEVER THE INPUT: true; the input reads as it did. -/
def fnExactJsonFitsSpec : ChangeSpec := { name := "fnExactJsonFits", fn := fun _ => fun
  | [d] => { results := [.lit (.bool true)], args := [d] }
  | _ => none }
def fnExactJsonFitsRow : OpenClaim := { program := "ytlkfaehfkapfnaa", sum := "44dbf5f66f9b66e0dfdbf7b96512f74c5e89ca2cc716f64c7f58c36baf5dfd5c", func := "loop.example/g00421/laws.FnExactJsonFits", spec := "fnExactJsonFits", unfollowed := true, recurses := true, loops := true, apart := false }
def FnExactJsonFitsSaid : Prop := fnExactJsonFitsRow.holds Try.pinned (OpenSpec.ofChange fnExactJsonFitsSpec)

/-- ITS FALSE NEIGHBOUR: 'it returns false'. Refute it at one input. -/
def fnExactJsonFitsWrong : ChangeSpec := { name := "fnExactJsonFits", fn := fun _ => fun
  | [d] => { results := [.lit (.bool false)], args := [d] }
  | _ => none }
def FnExactJsonFitsWrongFalsely : Prop := fnExactJsonFitsRow.holds Try.pinned (OpenSpec.ofChange fnExactJsonFitsWrong)

/- THE SECOND FORM. 'bulk': how many values and letters a reading holds, each counted each time it is reached (what is shared counts as often as it is met; a slice's spare places count too). A statement '..UptoSaid' is the law's where the arguments, and the package variables that the reading takes, are together of bulk at most 1048576: NARROWER than '..Said'. Prove '..Said' where nothing that the law and all that it calls make is longer than what came in: it says more and counts as full. Else prove '..UptoSaid'. A law counts once. -/
mutual
def uptoBulk {H : Type} : DataW H → Nat
  | .lit (.string bytes) => bytes.length + 1
  | .lit _ => 1
  | .nil => 1
  | .ptr d => uptoBulk d + 1
  | .slice elems spare => uptoBulkAll elems + uptoBulkAll spare + 1
  | .agg parts => uptoBulkAll parts + 1
  | .iface _ d => uptoBulk d + 1
  | .map entries => uptoBulkEntries entries + 1
  | .held _ => 1
def uptoBulkAll {H : Type} : List (DataW H) → Nat
  | [] => 0
  | d :: r => uptoBulk d + uptoBulkAll r
def uptoBulkEntries {H : Type} : List (Lit × DataW H) → Nat
  | [] => 0
  | x :: r => uptoBulkEntry x + uptoBulkEntries r
def uptoBulkEntry {H : Type} : Lit × DataW H → Nat
  | (.string bytes, d) => bytes.length + uptoBulk d + 1
  | (_, d) => uptoBulk d + 1
 end
def uptoSmall : (H : Type) → List (DataW H) → Bool := fun _ ds => decide (uptoBulkAll ds ≤ 1048576)
def OpenSpec.upto (s : _root_.Go.ChangeSpec) : _root_.Go.OpenSpec := { _root_.Go.OpenSpec.ofChange s with cond := some uptoSmall }

/-- 'laws.FnExactCompare', WHERE WHAT IT READS IS OF BULK AT MOST 1048576: true; the input reads as it did. -/
def fnExactCompareUptoRow : OpenClaim := { program := "ytlkfaehfkapfnaa", sum := "44dbf5f66f9b66e0dfdbf7b96512f74c5e89ca2cc716f64c7f58c36baf5dfd5c", func := "loop.example/g00421/laws.FnExactCompare", spec := "fnExactCompare", unfollowed := true, recurses := true, loops := true, apart := false, narrowed := true }
def FnExactCompareUptoSaid : Prop := fnExactCompareUptoRow.holds Try.pinned (OpenSpec.upto fnExactCompareSpec)

/-- 'laws.FnExactSame', WHERE WHAT IT READS IS OF BULK AT MOST 1048576: true; the input reads as it did. -/
def fnExactSameUptoRow : OpenClaim := { program := "ytlkfaehfkapfnaa", sum := "44dbf5f66f9b66e0dfdbf7b96512f74c5e89ca2cc716f64c7f58c36baf5dfd5c", func := "loop.example/g00421/laws.FnExactSame", spec := "fnExactSame", unfollowed := true, recurses := true, loops := true, apart := false, narrowed := true }
def FnExactSameUptoSaid : Prop := fnExactSameUptoRow.holds Try.pinned (OpenSpec.upto fnExactSameSpec)

/-- 'laws.FnExactBlanks', WHERE WHAT IT READS IS OF BULK AT MOST 1048576: true; the input reads as it did. -/
def fnExactBlanksUptoRow : OpenClaim := { program := "ytlkfaehfkapfnaa", sum := "44dbf5f66f9b66e0dfdbf7b96512f74c5e89ca2cc716f64c7f58c36baf5dfd5c", func := "loop.example/g00421/laws.FnExactBlanks", spec := "fnExactBlanks", apart := false, narrowed := true }
def FnExactBlanksUptoSaid : Prop := fnExactBlanksUptoRow.holds Try.pinned (OpenSpec.upto fnExactBlanksSpec)

/-- 'laws.FnExactNorm', WHERE WHAT IT READS IS OF BULK AT MOST 1048576: true; the input reads as it did. -/
def fnExactNormUptoRow : OpenClaim := { program := "ytlkfaehfkapfnaa", sum := "44dbf5f66f9b66e0dfdbf7b96512f74c5e89ca2cc716f64c7f58c36baf5dfd5c", func := "loop.example/g00421/laws.FnExactNorm", spec := "fnExactNorm", unfollowed := true, recurses := true, apart := false, narrowed := true }
def FnExactNormUptoSaid : Prop := fnExactNormUptoRow.holds Try.pinned (OpenSpec.upto fnExactNormSpec)

/-- 'laws.FnExactWhole', WHERE WHAT IT READS IS OF BULK AT MOST 1048576: true; the input reads as it did. -/
def fnExactWholeUptoRow : OpenClaim := { program := "ytlkfaehfkapfnaa", sum := "44dbf5f66f9b66e0dfdbf7b96512f74c5e89ca2cc716f64c7f58c36baf5dfd5c", func := "loop.example/g00421/laws.FnExactWhole", spec := "fnExactWhole", unfollowed := true, recurses := true, loops := true, apart := false, narrowed := true }
def FnExactWholeUptoSaid : Prop := fnExactWholeUptoRow.holds Try.pinned (OpenSpec.upto fnExactWholeSpec)

/-- 'laws.FnExactCompareNum', WHERE WHAT IT READS IS OF BULK AT MOST 1048576: true; the input reads as it did. -/
def fnExactCompareNumUptoRow : OpenClaim := { program := "ytlkfaehfkapfnaa", sum := "44dbf5f66f9b66e0dfdbf7b96512f74c5e89ca2cc716f64c7f58c36baf5dfd5c", func := "loop.example/g00421/laws.FnExactCompareNum", spec := "fnExactCompareNum", unfollowed := true, recurses := true, loops := true, apart := false, narrowed := true }
def FnExactCompareNumUptoSaid : Prop := fnExactCompareNumUptoRow.holds Try.pinned (OpenSpec.upto fnExactCompareNumSpec)

/-- 'laws.FnExactStrings', WHERE WHAT IT READS IS OF BULK AT MOST 1048576: true; the input reads as it did. -/
def fnExactStringsUptoRow : OpenClaim := { program := "ytlkfaehfkapfnaa", sum := "44dbf5f66f9b66e0dfdbf7b96512f74c5e89ca2cc716f64c7f58c36baf5dfd5c", func := "loop.example/g00421/laws.FnExactStrings", spec := "fnExactStrings", unfollowed := true, recurses := true, loops := true, apart := false, narrowed := true }
def FnExactStringsUptoSaid : Prop := fnExactStringsUptoRow.holds Try.pinned (OpenSpec.upto fnExactStringsSpec)

/-- 'laws.FnExactField', WHERE WHAT IT READS IS OF BULK AT MOST 1048576: true; the input reads as it did. -/
def fnExactFieldUptoRow : OpenClaim := { program := "ytlkfaehfkapfnaa", sum := "44dbf5f66f9b66e0dfdbf7b96512f74c5e89ca2cc716f64c7f58c36baf5dfd5c", func := "loop.example/g00421/laws.FnExactField", spec := "fnExactField", unfollowed := true, recurses := true, loops := true, apart := false, narrowed := true }
def FnExactFieldUptoSaid : Prop := fnExactFieldUptoRow.holds Try.pinned (OpenSpec.upto fnExactFieldSpec)

/-- 'laws.FnExactJsonFits', WHERE WHAT IT READS IS OF BULK AT MOST 1048576: true; the input reads as it did. -/
def fnExactJsonFitsUptoRow : OpenClaim := { program := "ytlkfaehfkapfnaa", sum := "44dbf5f66f9b66e0dfdbf7b96512f74c5e89ca2cc716f64c7f58c36baf5dfd5c", func := "loop.example/g00421/laws.FnExactJsonFits", spec := "fnExactJsonFits", unfollowed := true, recurses := true, loops := true, apart := false, narrowed := true }
def FnExactJsonFitsUptoSaid : Prop := fnExactJsonFitsUptoRow.holds Try.pinned (OpenSpec.upto fnExactJsonFitsSpec)

end Rows
end Go.Proofs.Ytlkfaehfkapfnaa
