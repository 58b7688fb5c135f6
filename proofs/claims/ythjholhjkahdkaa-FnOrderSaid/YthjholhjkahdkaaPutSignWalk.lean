/-
  What spec.PutSign and impl.PutSign return, for every int: the UTF-8 encoding of a code point, or the empty string. No condition.
-/
import Derived.Test.YthjholhjkahdkaaRows
import Derived.Test.YthjholhjkahdkaaSignFacts
import Derived.WalkKit
import Derived.ProofKit
import Derived.OpenShut
import Derived.WalkLawsBesides
import Derived.Laws.Rows
import Derived.Laws.OwnMore
import Derived.Deep.Draws
import Derived.Below
namespace Go.Proofs.Ythjholhjkahdkaa.putSign
open Go.ChangeShapes Go.WideShapes Go.ChangeAt Go.RowKit
open Go.Proofs.Ythjholhjkahdkaa.sign

theorem conv_new (w : World) (xs : List Int) (k : Nat) (hk : xs.length = k) :
    (convert 22 9 (.slice (some ⟨w.heap.size, 0, none⟩) k k)).run Try.prog (w.alloc (.cells (xs.map (Value.int .u8)).toArray 5)) = .ok (.string (strOfNums xs)) (w.alloc (.cells (xs.map (Value.int .u8)).toArray 5)) := by
  refine run_convert_bytes_arg _ _ _ Try.underlying22 Try.underlying5 _ _ _ _ xs hk ?_ _ Try.underlying9
  intro i hi
  have hi' : i < xs.length := by omega
  rw [Nat.zero_add, cell_of_row _ _ i _ _ (0, 0) (heap_alloc_new w _)]
  simp [List.getElem?_eq_getElem hi']

theorem conv1 (a : Int) (w : World) : (convert 22 9 (.slice (some ⟨w.heap.size, 0, none⟩) 1 1)).run Try.prog (w.alloc (.cells #[.int .u8 a] 5)) = .ok (.string (strOfNums [a])) (w.alloc (.cells #[.int .u8 a] 5)) :=
  conv_new w [a] 1 rfl
theorem conv2 (a b : Int) (w : World) : (convert 22 9 (.slice (some ⟨w.heap.size, 0, none⟩) 2 2)).run Try.prog (w.alloc (.cells #[.int .u8 a, .int .u8 b] 5)) = .ok (.string (strOfNums [a, b])) (w.alloc (.cells #[.int .u8 a, .int .u8 b] 5)) :=
  conv_new w [a, b] 2 rfl
theorem conv3 (a b c : Int) (w : World) : (convert 22 9 (.slice (some ⟨w.heap.size, 0, none⟩) 3 3)).run Try.prog (w.alloc (.cells #[.int .u8 a, .int .u8 b, .int .u8 c] 5)) = .ok (.string (strOfNums [a, b, c])) (w.alloc (.cells #[.int .u8 a, .int .u8 b, .int .u8 c] 5)) :=
  conv_new w [a, b, c] 3 rfl
theorem conv4 (a b c d : Int) (w : World) : (convert 22 9 (.slice (some ⟨w.heap.size, 0, none⟩) 4 4)).run Try.prog (w.alloc (.cells #[.int .u8 a, .int .u8 b, .int .u8 c, .int .u8 d] 5)) = .ok (.string (strOfNums [a, b, c, d])) (w.alloc (.cells #[.int .u8 a, .int .u8 b, .int .u8 c, .int .u8 d] 5)) :=
  conv_new w [a, b, c, d] 4 rfl

theorem ret_string {a b : ByteArray} (h : a = b) : Ending.returned (.string a) = .returned (.string b) := by rw [h]
theorem wrapand (n : Int) : wrap64 (128 + n % 64) % 256 = 128 + n % 64 := by unfold wrap64; omega

theorem spec_1 (n : Int) (w : World) (h0 : 0 ≤ n) (h1 : n < 128) :
    Calls Try.prog 65 #[.int .i64 n] w fun e w' => e = .returned (.string (Utf8.encode n)) ∧ Below w.heap.size w w' := by
  have c1 := conv1
  go_enter Try.func65, Try.ntmps65
  go_wp2
  go_ret
  exact ⟨ret_string (enc1 h0 h1), (Below.refl _ _).alloc (Nat.le_refl _) _⟩
theorem spec_2 (n : Int) (w : World) (h0 : 128 ≤ n) (h1 : n < 2048) :
    Calls Try.prog 65 #[.int .i64 n] w fun e w' => e = .returned (.string (Utf8.encode n)) ∧ Below w.heap.size w w' := by
  have c1 := conv2
  go_enter Try.func65, Try.ntmps65
  go_wp2
  go_ret
  exact ⟨ret_string (by rw [i64_and63, wrapand]; exact enc2 h0 h1), (Below.refl _ _).alloc (Nat.le_refl _) _⟩
theorem spec_3 (n : Int) (w : World) (h0 : 2048 ≤ n) (h1 : n < 65536) (hn : n < 55296 ∨ 57343 < n) :
    Calls Try.prog 65 #[.int .i64 n] w fun e w' => e = .returned (.string (Utf8.encode n)) ∧ Below w.heap.size w w' := by
  have hv := valid_of (n := n) (by omega)
  have c1 := conv3
  rcases hn with hn | hn
  all_goals
    go_enter Try.func65, Try.ntmps65
    go_wp2
    go_ret
    exact ⟨ret_string (by rw [i64_and63, i64_and63, wrapand, wrapand]; exact enc3 h0 h1 hv), (Below.refl _ _).alloc (Nat.le_refl _) _⟩
theorem spec_4 (n : Int) (w : World) (h0 : 65536 ≤ n) (h1 : n ≤ 1114111) :
    Calls Try.prog 65 #[.int .i64 n] w fun e w' => e = .returned (.string (Utf8.encode n)) ∧ Below w.heap.size w w' := by
  have c1 := conv4
  go_enter Try.func65, Try.ntmps65
  go_wp2
  go_ret
  exact ⟨ret_string (by rw [i64_and63, i64_and63, i64_and63, wrapand, wrapand, wrapand]; exact enc4 h0 h1), (Below.refl _ _).alloc (Nat.le_refl _) _⟩
theorem spec_0 (n : Int) (w : World) (h : n < 0 ∨ (55296 ≤ n ∧ n ≤ 57343) ∨ 1114111 < n) :
    Calls Try.prog 65 #[.int .i64 n] w fun e w' => e = .returned (.string ⟨#[]⟩) ∧ Below w.heap.size w w' := by
  rcases h with h | h | h
  all_goals
    go_enter Try.func65, Try.ntmps65
    go_wp2
    go_ret
    exact ⟨rfl, Below.refl _ _⟩

theorem spec_any (n : Int) (w : World) :
    Calls Try.prog 65 #[.int .i64 n] w fun e w' => e = .returned (.string (putSign n)) ∧ Below w.heap.size w w' := by
  by_cases h : (0 ≤ n ∧ n < 55296) ∨ (57343 < n ∧ n ≤ 1114111)
  · have e : putSign n = Utf8.encode n := by unfold putSign; rw [if_pos (valid_of h)]
    rw [e]
    by_cases h1 : n < 128
    · exact spec_1 n w (by omega) h1
    by_cases h2 : n < 2048
    · exact spec_2 n w (by omega) h2
    by_cases h3 : n < 65536
    · exact spec_3 n w (by omega) h3 (by omega)
    · exact spec_4 n w (by omega) (by omega)
  · have h' : n < 0 ∨ (55296 ≤ n ∧ n ≤ 57343) ∨ 1114111 < n := by omega
    have e : putSign n = ⟨#[]⟩ := by unfold putSign; rw [invalid_of h']; rfl
    rw [e]
    exact spec_0 n w h'

end Go.Proofs.Ythjholhjkahdkaa.putSign
