/-
  A slice of strings that a call has made, and what it reads as.
-/
import Derived.Test.YthjholhjkahdkaaRows
import Derived.Test.YthjholhjkahdkaaOwn
import Derived.WalkKit
import Derived.ProofKit
import Derived.OpenShut
import Derived.WalkLawsBesides
import Derived.Deep.QuietTactic
import Derived.BigQuiet
import Derived.Deep.RegionWith
import Derived.Lib.Hide
namespace Go.Proofs.Ythjholhjkahdkaa.strs
open Go.ChangeShapes Go.WideShapes Go.ChangeAt Go.RowKit
set_option maxRecDepth 100000

def encS (b : ByteArray) : Value := .string b
theorem oneS (x : ByteArray) : (encS x).oneCell' = true := rfl

/-- A slice of strings that reads as l. -/
structure ReadS (w : World) (v : Value) (l : List ByteArray) (a : Option Addr) (c : Nat) (g : Nat) : Prop where
  val : v = .slice a l.length c
  adr : 0 < l.length → a = some ⟨g, 0, none⟩
  cell : ∀ j (h : j < l.length), w.cell? ⟨g, j, none⟩ = some (.string l[j])
theorem readS_of {w : World} {base : Nat} {v : Value} {l : List ByteArray} (h : OwnL w base 9 encS v l) : ∃ a c g, ReadS w v l a c g := by
  rcases h.2 with ⟨rfl, hn⟩ | ⟨g, cap, cur, rfl, hb, hg, hc, hm, hs, ht⟩
  · exact ⟨none, 0, 0, by rw [hn], fun h0 => by omega, fun j hj => by omega⟩
  · exact ⟨_, cap, g, rfl, fun _ => rfl, fun j hj => h.cell j hj⟩

theorem ownL_store {w : World} {base g cap : Nat} {l : List ByteArray} (h : OwnL w base 9 encS (.slice (some ⟨g, 0, none⟩) l.length cap) l) (j : Nat) (x : ByteArray) :
    OwnL (w.setCell ⟨g, j, none⟩ (.string x)) base 9 encS (.slice (some ⟨g, 0, none⟩) l.length cap) (l.set j x) ∧ w.grownBy (w.setCell ⟨g, j, none⟩ (.string x)) (some g) := by
  obtain ⟨h1, h2⟩ := World.ownsRow.stored h j (.string x)
  refine ⟨?_, h2⟩
  unfold OwnL
  rw [List.length_set, List.map_set]
  exact h1
theorem grown_of_below {w w1 w' : World} {row : Option Nat} (hg : w.grownBy w1 row) (hb : Below w1.heap.size w1 w') : w.grownBy w' row :=
  hg.trans ⟨hb.os, hb.tape, hb.output, hb.size, fun k hk _ => hb.block k hk⟩

end Go.Proofs.Ythjholhjkahdkaa.strs
