/-
  Plain: what a loop over heads has come to.
-/
import Derived.Test.YtnaghafmpncdkaaDoorBegPlain
namespace Go.Proofs.YtnaghafmpncdkaaDoor.beg
open Go.Proofs.YtnaghafmpncdkaaDoor.head

/-- What a loop over values has come to. -/
def Part (s : ByteArray) (f : Nat → Nat → Int × Int) (N : Nat) (R : Int × Int) (k : Nat) (r l : Int) : Prop :=
  -2 ≤ r ∧ r ≤ s.size ∧ ((0 ≤ r ∧ 0 ≤ l ∧ l ≤ 2000 ∧ R = loopW f (N - k) r l) ∨ (r < 0 ∧ R = (r, l)))
theorem Part.start {s : ByteArray} {f : Nat → Nat → Int × Int} {N X : Nat} {L : Int} (hX : X ≤ s.size) (h0 : 0 ≤ L) (hL : L ≤ 2000) : Part s f N (loopW f N X L) 0 X L :=
  ⟨by omega, by omega, .inl ⟨by omega, h0, hL, rfl⟩⟩
theorem Part.step {s : ByteArray} {f : Nat → Nat → Int × Int} {N k : Nat} {R : Int × Int} {r l : Nat} (hf : Good s f) (h : Part s f N R k r l) (hk : k < N) : Part s f N R (k + 1) (f r l).1 (f r l).2 := by
  obtain ⟨h1, h2, h3 | h3⟩ := h
  · obtain ⟨g1, g2, g3, g4⟩ := h3
    obtain ⟨q1, q2, q3, q4⟩ := hf r l (by omega)
    rw [show N - k = (N - (k + 1)) + 1 by omega, loopW, Int.toNat_natCast, Int.toNat_natCast] at g4
    refine ⟨q4, by omega, ?_⟩
    by_cases hx : (f r l).1 < 0
    · rw [if_pos hx] at g4
      exact .inr ⟨hx, g4⟩
    · rw [if_neg hx] at g4
      exact .inl ⟨by omega, by omega, by omega, g4⟩
  · omega
theorem Part.done {s : ByteArray} {f : Nat → Nat → Int × Int} {N k : Nat} {R : Int × Int} {r l : Int} (h : Part s f N R k r l) (hx : k = N ∨ r < 0) : R = (r, l) := by
  obtain ⟨h1, h2, ⟨g1, g2, g3, g4⟩ | ⟨g1, g2⟩⟩ := h
  · rcases hx with rfl | hx
    · rw [g4, Nat.sub_self, loopW]
    · omega
  · exact g2
end Go.Proofs.YtnaghafmpncdkaaDoor.beg
