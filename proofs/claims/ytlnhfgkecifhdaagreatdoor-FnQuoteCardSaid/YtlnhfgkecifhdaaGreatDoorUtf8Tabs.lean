/-
  The tables of unicode/utf8 as a row of this seat lists them: what the library's contracts ask of the world.
-/
import Derived.Test.YtlnhfgkecifhdaaGreatDoorRows
import Derived.Test.YtlnhfgkecifhdaaGreatDoorShelfSign
import Derived.Lib.LaidU8
import Derived.PinnedBridge
import Derived.Below
import Derived.WalkKit
namespace Go.Proofs.YtlnhfgkecifhdaaGreatDoor.tabs
open Go.Lib Go.RowKit
theorem extra : U8Extra Tryz.prog Tryz.lays197_ren := ⟨by kernel_rfl, by kernel_rfl, by kernel_rfl, by kernel_rfl, by kernel_rfl, by kernel_rfl, by kernel_rfl⟩
theorem accept_eq : Rows.laid_unicode_utf8_acceptRanges = acceptData := by kernel_rfl
theorem first_eq : Rows.laid_unicode_utf8_first = firstData := Pinned.utf8First_eq
theorem utf8 {l : List (String × DataW Unit)} {w : World} (hL : laidMet Tryz.prog l w) (h1 : ("unicode/utf8.first", Rows.laid_unicode_utf8_first) ∈ l) (h2 : ("unicode/utf8.acceptRanges", Rows.laid_unicode_utf8_acceptRanges) ∈ l) : Lib.Utf8Tabs 1 2 w :=
  utf8Tabs_of_reads (P := Tryz.prog) (ρ := Tryz.lays197_ren) { Tryz.lays197 with } extra (first_eq ▸ laidMet.reads hL h1) (accept_eq ▸ laidMet.reads hL h2)
theorem below {w w' : World} (h : Lib.Utf8Tabs 1 2 w) (hb : Below w.heap.size w w') : Lib.Utf8Tabs 1 2 w' := by
  refine ⟨fun c hc => ?_, fun i hi => ⟨?_, ?_⟩⟩
  · have := h.1 c hc
    rw [hb.cell (World.block_lt_of_cell? w _ this)]; exact this
  · have := (h.2 i hi).1
    rw [hb.cell (World.block_lt_of_cell? w _ this)]; exact this
  · have := (h.2 i hi).2
    rw [hb.cell (World.block_lt_of_cell? w _ this)]; exact this
end Go.Proofs.YtlnhfgkecifhdaaGreatDoor.tabs
