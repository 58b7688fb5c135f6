/-
  What impl.GetHead returns: the head at a place of a text if it is the shortest form.
-/
import Derived.Test.YtnaghafmpncdkaaDoorGetHeadShort
import Derived.Test.YtnaghafmpncdkaaDoorGetHeadSpec2
namespace Go.Proofs.YtnaghafmpncdkaaDoor.head
open Go.ChangeShapes Go.WideShapes Go.ChangeAt Go.RowKit
set_option maxRecDepth 100000
variable {T : TypeId} {xs : List Value}

def badAt (s : ByteArray) (i : Int) : Bool := decide (i < 0) || decide ((s.size : Int) < i)
/-- What is to be told of what getHead has read. -/
structure Tells (s : ByteArray) (i : Int) (m n : Nat) (o : Bool) (j : Int) (bad : Bool) : Prop where
  yes : (bad || o || decide (j - i ≠ (headL m n).length)) = false → getHead s i = ((m : Int), n, j)
  no : (bad || o || decide (j - i ≠ (headL m n).length)) = true → getHead s i = (-1, 0, -1)
theorem get_no {s : ByteArray} {i : Int} (h : ¬ (0 ≤ i ∧ anyOk s i.toNat)) : getHead s i = (-1, 0, -1) := by unfold getHead; rw [if_neg (fun h' => h ⟨h'.1, h'.2.1⟩)]
theorem tells_bad {s : ByteArray} {i : Int} (h : ¬ (0 ≤ i ∧ anyOk s i.toNat)) (m n : Nat) (o : Bool) (j : Int) : Tells s i m n o j true := ⟨fun h => by simp at h, fun _ => get_no h⟩
theorem tells_any {W w' : World} {b : Nat} {s : ByteArray} {i m n : Nat} {o : Bool} {j : Int} {bad : Bool} (h : HeadRet T xs W w' b s i m n o j bad) : Tells s i m n o j bad := by
  by_cases hk : anyOk s i
  · obtain ⟨rfl, rfl, rfl, rfl, rfl⟩ := h.yes hk
    have e : ((false || false) || decide ((i : Int) + 1 + many s i - i ≠ ((headL (maj s i) (num s i)).length : Int))) = decide (¬ short s i) := by
      simp only [Bool.false_or, ne_eq]
      congr 1
      apply propext
      unfold short
      constructor <;> (intro h1 h2; apply h1; omega)
    refine ⟨fun ht => ?_, fun ht => ?_⟩
    · rw [e] at ht
      have hs : short s i := by simpa using ht
      unfold getHead
      rw [Int.toNat_natCast, if_pos ⟨by omega, hk, hs⟩]
    · rw [e] at ht
      have hs : ¬ short s i := by simpa using ht
      unfold getHead
      rw [Int.toNat_natCast, if_neg (fun h' => hs h'.2.2)]
  · have hg : getHead s i = (-1, 0, -1) := get_no (fun h' => hk (by simpa using h'.2))
    refine ⟨fun ht => ?_, fun _ => hg⟩
    rcases h.no hk with rfl | rfl <;> simp at ht
theorem get_c (s : ByteArray) (i : Int) (b : Nat) (hs : s.size ≤ 1048576) (W : World) (h : Rd T xs W b s i (badAt s i)) :
    Calls Tryd.prog 80 #[.pointer (some ⟨b, 0, none⟩)] W fun e w' => ∃ m n o j bad, e = .returned (hd m n o) ∧ HRet T xs W w' b s i (Tells s i) m n o j bad := by
  by_cases h0 : i < 0 ∨ (s.size : Int) < i
  · have eb : badAt s i = true := by unfold badAt; simpa using h0
    have hn : ¬ (0 ≤ i ∧ anyOk s i.toNat) := fun h' => by have := h'.2.1; omega
    rw [eb] at h
    refine (head_none s i b true W h (fun W h => take_bad s i 1 b W h)).mono ?_
    rintro e w' ⟨rfl, hr⟩
    exact ⟨0, 0, false, i, true, rfl, ⟨hr, by omega, by omega, by unfold wrap64; omega, tells_bad hn _ _ _ _⟩⟩
  · have eb : badAt s i = false := by unfold badAt; simpa using h0
    obtain ⟨k, rfl⟩ : ∃ k : Nat, i = k := ⟨i.toNat, by omega⟩
    rw [eb] at h
    by_cases hk : k < s.size
    · refine (head_any s k b W hs h hk).mono ?_
      rintro e w' ⟨m, n, o, j, bad, rfl, hr⟩
      have := hr.j0
      have := hr.j1
      exact ⟨m, n, o, j, bad, rfl, ⟨hr.ret, hr.m_lt, hr.n_lt, by unfold wrap64; omega, tells_any hr⟩⟩
    · have hn : ¬ (0 ≤ (k : Int) ∧ anyOk s (k : Int).toNat) := fun h' => by have := h'.2.1; simp at this; omega
      refine (head_none s k b false W h (fun W h => take_far s k 1 b W hs h (by omega) (by omega))).mono ?_
      rintro e w' ⟨rfl, hr⟩
      exact ⟨0, 0, false, k, true, rfl, ⟨hr, by omega, by omega, by unfold wrap64; omega, tells_bad hn _ _ _ _⟩⟩

theorem cells3 (W : World) (a b c : Value) (T : TypeId) : (W.alloc (.cells #[a, b, c] T)).cell? ⟨W.heap.size, 0, none⟩ = some a ∧ (W.alloc (.cells #[a, b, c] T)).cell? ⟨W.heap.size, 1, none⟩ = some b ∧ (W.alloc (.cells #[a, b, c] T)).cell? ⟨W.heap.size, 2, none⟩ = some c := by
  have h := heap_alloc_new W (.cells #[a, b, c] T)
  exact ⟨cell_of_row _ _ 0 _ _ (0, 0) h, cell_of_row _ _ 1 _ _ (0, 0) h, cell_of_row _ _ 2 _ _ (0, 0) h⟩
set_option maxHeartbeats 1000000 in
theorem reader_any (s : ByteArray) (i : Int) (W : World) (hs : s.size ≤ 1048576) :
    Calls Tryd.prog 26 #[.string s, .int .i64 i] W fun e w' => e = .returned (.agg #[.string s, .int .i64 i, .bool (badAt s i)]) ∧ Below W.heap.size W w' := by
  unfold badAt
  go_enter Tryd.func26, Tryd.ntmps26
  go_wp2
  all_goals first
    | (obtain ⟨k0, k1, k2⟩ := cells3 W (.string s) (.int .i64 i) (.bool true) 50
       refine bodyPost_ret (v := .agg #[.string s, .int .i64 i, .bool true]) (by simp [results, Tryd.results26, go_sem, k0, k1, k2]; done) rfl ?_
       exact ⟨rfl, (Below.refl _ _).alloc (Nat.le_refl _) _⟩)
    | (obtain ⟨k0, k1, k2⟩ := cells3 W (.string s) (.int .i64 i) (.bool (decide (i < 0) || decide ((s.size : Int) < i))) 50
       refine bodyPost_ret (v := .agg #[.string s, .int .i64 i, .bool (decide (i < 0) || decide ((s.size : Int) < i))]) (by simp [results, Tryd.results26, go_sem, k0, k1, k2]; done) rfl ?_
       exact ⟨rfl, (Below.refl _ _).alloc (Nat.le_refl _) _⟩)
theorem Rd.new (W : World) (s : ByteArray) (i : Int) (bad : Bool) : Rd 50 [] (W.alloc (.cells #[.string s, .int .i64 i, .bool bad] 50)) W.heap.size s i bad := ⟨heap_alloc_new W _⟩
end Go.Proofs.YtnaghafmpncdkaaDoor.head
