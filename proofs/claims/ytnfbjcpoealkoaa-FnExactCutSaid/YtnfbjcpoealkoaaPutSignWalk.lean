/-
  What spec.PutSign and impl.PutSign return, for every int: the UTF-8 encoding of a code point, or the empty string. No condition.
-/
import Derived.Test.YtnfbjcpoealkoaaRows
import Derived.Test.YtnfbjcpoealkoaaSignFacts
import Derived.WalkKit
import Derived.ProofKit
import Derived.OpenShut
import Derived.WalkLawsBesides
import Derived.Laws.Rows
import Derived.Laws.OwnMore
import Derived.Deep.Draws
import Derived.Below
namespace Go.Proofs.Ytnfbjcpoealkoaa.putSign
open Go.ChangeShapes Go.WideShapes Go.ChangeAt Go.RowKit
open Go.Proofs.Ytnfbjcpoealkoaa.sign

theorem conv_new (w : World) (xs : List Int) (k : Nat) (hk : xs.length = k) :
    (convert 41 9 (.slice (some ⟨w.heap.size, 0, none⟩) k k)).run Try.prog (w.alloc (.cells (xs.map (Value.int .u8)).toArray 5)) = .ok (.string (strOfNums xs)) (w.alloc (.cells (xs.map (Value.int .u8)).toArray 5)) := by
  refine run_convert_bytes_arg _ _ _ Try.underlying41 Try.underlying5 _ _ _ _ xs hk ?_ _ Try.underlying9
  intro i hi
  have hi' : i < xs.length := by omega
  rw [Nat.zero_add, cell_of_row _ _ i _ _ (0, 0) (heap_alloc_new w _)]
  simp [List.getElem?_eq_getElem hi']

theorem conv1 (a : Int) (w : World) : (convert 41 9 (.slice (some ⟨w.heap.size, 0, none⟩) 1 1)).run Try.prog (w.alloc (.cells #[.int .u8 a] 5)) = .ok (.string (strOfNums [a])) (w.alloc (.cells #[.int .u8 a] 5)) :=
  conv_new w [a] 1 rfl
theorem conv2 (a b : Int) (w : World) : (convert 41 9 (.slice (some ⟨w.heap.size, 0, none⟩) 2 2)).run Try.prog (w.alloc (.cells #[.int .u8 a, .int .u8 b] 5)) = .ok (.string (strOfNums [a, b])) (w.alloc (.cells #[.int .u8 a, .int .u8 b] 5)) :=
  conv_new w [a, b] 2 rfl
theorem conv3 (a b c : Int) (w : World) : (convert 41 9 (.slice (some ⟨w.heap.size, 0, none⟩) 3 3)).run Try.prog (w.alloc (.cells #[.int .u8 a, .int .u8 b, .int .u8 c] 5)) = .ok (.string (strOfNums [a, b, c])) (w.alloc (.cells #[.int .u8 a, .int .u8 b, .int .u8 c] 5)) :=
  conv_new w [a, b, c] 3 rfl
theorem conv4 (a b c d : Int) (w : World) : (convert 41 9 (.slice (some ⟨w.heap.size, 0, none⟩) 4 4)).run Try.prog (w.alloc (.cells #[.int .u8 a, .int .u8 b, .int .u8 c, .int .u8 d] 5)) = .ok (.string (strOfNums [a, b, c, d])) (w.alloc (.cells #[.int .u8 a, .int .u8 b, .int .u8 c, .int .u8 d] 5)) :=
  conv_new w [a, b, c, d] 4 rfl

theorem ret_string {a b : ByteArray} (h : a = b) : Ending.returned (.string a) = .returned (.string b) := by rw [h]
theorem wrapand (n : Int) : wrap64 (128 + n % 64) % 256 = 128 + n % 64 := by unfold wrap64; omega

end Go.Proofs.Ytnfbjcpoealkoaa.putSign
