/-
  The contract of strings.Clone at this seat.
-/
import Derived.Test.YtkjffifdlckljaaDoorShelfSign
