/-
  The tables of unicode/utf8 as a row of this seat lists them, where the seat has ValidString and no DecodeRuneInString.
-/
import Derived.Test.YtkjffifdlckljaaDoorRows
import Derived.Test.YtkjffifdlckljaaDoorShelfText
import Derived.Lib.LaidU8T
import Derived.PinnedBridge
import Derived.Below
import Derived.WalkKit
namespace Go.Proofs.YtkjffifdlckljaaDoor.tabsT
open Go.Lib Go.RowKit
theorem extra : U8Extra Tryd.prog Tryd.lays196_ren := ⟨by kernel_rfl, by kernel_rfl, by kernel_rfl, by kernel_rfl, by kernel_rfl, by kernel_rfl, by kernel_rfl⟩
theorem accept_eq : Rows.laid_unicode_utf8_acceptRanges = acceptData := by kernel_rfl
theorem first_eq : Rows.laid_unicode_utf8_first = firstData := Pinned.utf8First_eq
theorem utf8 {l : List (String × DataW Unit)} {w : World} (hL : laidMet Tryd.prog l w) (h1 : ("unicode/utf8.first", Rows.laid_unicode_utf8_first) ∈ l) (h2 : ("unicode/utf8.acceptRanges", Rows.laid_unicode_utf8_acceptRanges) ∈ l) : Lib.Utf8Tabs 4 5 w :=
  utf8Tabs_of_readsT (P := Tryd.prog) (ρ := Tryd.lays196_ren) (U8Types.of196 Tryd.lays196) extra (first_eq ▸ laidMet.reads hL h1) (accept_eq ▸ laidMet.reads hL h2)
end Go.Proofs.YtkjffifdlckljaaDoor.tabsT
