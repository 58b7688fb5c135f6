/-
  Contracts of Go's library at this seat: all of them stand in one text.
-/
import Derived.Test.YtlnhfgkecifhdaaGreatDoorShelfSign
