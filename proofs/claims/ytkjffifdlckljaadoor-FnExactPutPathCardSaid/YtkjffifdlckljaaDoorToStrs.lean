/-
  What the laws' helpers szStringS and toStringS return: what is left behind the texts of an argument; its texts in memory of its own.
-/
import Derived.Test.YtkjffifdlckljaaDoorStrRead
import Derived.Laws.MakeOwn
import Derived.SliceStrings
import Derived.Laws.OwnMore
namespace Go.Proofs.YtkjffifdlckljaaDoor.strs
open Go.ChangeShapes Go.WideShapes Go.ChangeAt Go.RowKit
set_option maxRecDepth 100000

/-- The argument reads as l. -/
structure ArgS (w : World) (a : Option Addr) (l : List ByteArray) : Prop where
  cell : ∀ j (h : j < l.length), ∃ x, a = some x ∧ w.cell? (x.add j) = some (.string l[j])
  wf : ∀ j (h : j < l.length), l[j].size ≤ 9223372036854775807
/-- What comes in as a slice of texts. -/
def IsStrs (w : World) (a : Option Addr) (len cap : Nat) (ss : List ByteArray) : Prop :=
  (a = none ∧ len = 0 ∧ cap = 0 ∧ ss = []) ∨
  ∃ x, a = some x ∧ len ≤ cap ∧ cap ≤ maxLen ∧ ss.length = cap ∧ (∀ i, i < ss.length → w.cell? (x.add i) = some (.string (ss.getD i ByteArray.empty))) ∧ ∀ s ∈ ss, s.size ≤ maxLen
theorem arg_of {w : World} {a : Option Addr} {len cap : Nat} {ss : List ByteArray} (h : IsStrs w a len cap ss) : ArgS w a (ss.take len) ∧ (ss.take len).length = len ∧ len ≤ 9223372036854775807 := by
  rcases h with ⟨rfl, rfl, rfl, rfl⟩ | ⟨x, rfl, hc, hm, hz, hcell, hwf⟩
  · exact ⟨⟨fun j h => by simp at h, fun j h => by simp at h⟩, rfl, by omega⟩
  · have hl : (ss.take len).length = len := by simp; omega
    unfold maxLen at hm
    refine ⟨⟨fun j h => ⟨x, rfl, ?_⟩, fun j h => ?_⟩, hl, by omega⟩
    · have hj : j < ss.length := by omega
      rw [hcell j hj, List.getD_eq_getElem?_getD, List.getElem?_eq_getElem hj]
      simp
    · have hj : j < ss.length := by omega
      have := hwf ss[j] (List.getElem_mem hj)
      rw [List.getElem_take]
      unfold maxLen at this
      omega
/-- How many bytes. -/
def sizes : List ByteArray → Nat
  | [] => 0
  | s :: l => s.size + sizes l
theorem sizes_append (a b : List ByteArray) : sizes (a ++ b) = sizes a + sizes b := by
  induction a with
  | nil => simp [sizes]
  | cons s a ih => rw [List.cons_append, sizes, sizes, ih]; omega
theorem sizes_take (l : List ByteArray) (j : Nat) (h : j < l.length) : sizes (l.take (j + 1)) = sizes (l.take j) + l[j].size := by
  rw [List.take_succ_eq_append_getElem h, sizes_append]; rfl
theorem sizes_le (l : List ByteArray) (j : Nat) : sizes (l.take j) ≤ sizes l := by
  have := sizes_append (l.take j) (l.drop j)
  rw [List.take_append_drop] at this
  omega
theorem size_le (l : List ByteArray) (j : Nat) (h : j < l.length) : l[j].size ≤ sizes l := by
  have h1 := sizes_take l j h
  have h2 := sizes_le l (j + 1)
  omega
def lot (l : List ByteArray) : Nat := l.length + sizes l
def leftS (L z : Nat) : Int := if z ≤ L then ((L - z : Nat) : Int) else -1
theorem infoS : (Tryd.prog.info? 9).map (fun i => (i.zero, i.size, i.bytes)) = some (some (.string ⟨#[]⟩), 1, 16) := by kernel_rfl

set_option maxHeartbeats 2000000 in
theorem sz_any (w : World) (a : Option Addr) (cap : Nat) (l : List ByteArray) (hl : l.length ≤ 9223372036854775807) (h : ArgS w a l) (w' : World) (hb : Below w.heap.size w w') (L : Nat) (hL : L ≤ 1048576) :
    Calls Tryd.prog 18 #[.slice a l.length cap, .int .i64 (L : Int)] w' fun e w'' => e = .returned (.int .i64 (leftS L (lot l))) ∧ Below w'.heap.size w' w'' := by
  have HC := Lib.hid h.cell
  have HF := Lib.hid h.wf
  have HB := Lib.hid hb
  clear h hb
  by_cases h0 : l.length ≤ L
  · have h0' : ¬ (L : Int) - (l.length : Int) < 0 := by omega
    go_enter Tryd.func18, Tryd.ntmps18
    go_wp2
    go_loopw [1, 5] (fun q i wr => ∃ (j r : Nat), j ≤ l.length ∧ i = .int .i64 j ∧ q = .int .i64 (r : Int) ∧ r ≤ L ∧ Hid (L = r + l.length + sizes (l.take j)) ∧ Hid (Below w'.heap.size w' wr)) (fun _ i _ => l.length - (intOf i).toNat)
    case atStart => exact ⟨0, L - l.length, by omega, rfl, by congr 1; omega, by omega, by simp [Hid, sizes]; omega, Below.refl _ _⟩
    case round =>
      obtain ⟨j, r, hj, rfl, rfl, hr, HZ, HW⟩ := hrel
      by_cases hlt : j < l.length
      · have hj0 : (0 : Int) ≤ (j : Int) := by omega
        have hj1 : (j : Int) < (l.length : Int) := by omega
        obtain ⟨x, rfl, hx⟩ := HC.out j hlt
        have hwf := HF.out j hlt
        have HT := Lib.hid (sizes_take l j hlt)
        have HLE := Lib.hid (sizes_le l (j + 1))
        have hx2 : wr.cell? (x.add j) = some (.string l[j]) := by
          have hlb := World.block_lt_of_cell? w _ hx
          rw [(HW.out.cell (Nat.lt_of_lt_of_le hlb HB.out.size)), HB.out.cell hlb]
          exact hx
        clear hx HC HF
        generalize l[j] = s at *
        have w0 : -9223372036854775808 ≤ (r : Int) - (s.size : Int) := by omega
        by_cases hz : s.size ≤ r
        · have hnn : ¬ (r : Int) - (s.size : Int) < 0 := by omega
          go_wp2
          go_roundw
          case rel => exact ⟨j + 1, r - s.size, by omega, by go_num, by congr 1; omega, by omega, by have := HZ.out; have := HT.out; unfold Hid; omega, HW⟩
          case measure => simp [intOf]; omega
        · have hnn : (r : Int) - (s.size : Int) < 0 := by omega
          have hr2 : Hid (leftS L (lot l) = -1) := by
            have := HZ.out; have := HT.out; have := HLE.out
            unfold leftS lot Hid; rw [if_neg (by omega)]
          go_wp2
          go_ret
          exact ⟨by rw [hr2.out]; rfl, HW.out⟩
      · have hj1 : ¬ (j : Int) < (l.length : Int) := by omega
        have e : j = l.length := by omega
        subst e
        have hr2 : Hid (leftS L (lot l) = (r : Int)) := by
          have := HZ.out
          rw [List.take_length] at this
          unfold leftS lot Hid; rw [if_pos (by omega)]; omega
        go_wp2
        go_ret
        exact ⟨by rw [hr2.out]; rfl, HW.out⟩
  · have h0' : (L : Int) - (l.length : Int) < 0 := by omega
    have hr2 : Hid (leftS L (lot l) = -1) := by
      unfold leftS lot Hid; rw [if_neg (by omega)]
    go_enter Tryd.func18, Tryd.ntmps18
    go_wp2
    go_ret
    exact ⟨by rw [hr2.out]; rfl, Below.refl _ _⟩

theorem make_any (n : Nat) (hn : n ≤ 1048576) (w : World) : (Instr.makeSlice 33 (.int .i64 (n : Int)) (.int .i64 (n : Int))).run Tryd.prog w = .ok (.slice (some ⟨w.heap.size, 0, none⟩) n n) (w.alloc (.cells (madeCells #[.string ⟨#[]⟩] n) 9)) := by
  obtain ⟨i0, hi0, hz0, hz1, hz2⟩ := info_parts infoS
  have h := run_make (P := Tryd.prog) w 33 9 i0 _ Tryd.underlying33 hi0 hz0 .i64 .i64 (n : Int) (n : Int) (by omega) (by omega) (by rw [hz2]; omega) (by omega)
  rw [hz1] at h
  simpa [Value.cells] using h
def part (l : List ByteArray) (k : Nat) : List ByteArray := l.take k ++ List.replicate (l.length - k) ⟨#[]⟩
theorem part_len (l : List ByteArray) (k : Nat) (h : k ≤ l.length) : (part l k).length = l.length := by simp [part]; omega
theorem part_zero (l : List ByteArray) : part l 0 = List.replicate l.length ⟨#[]⟩ := by simp [part]
theorem part_all (l : List ByteArray) : part l l.length = l := by simp [part]
theorem part_set (l : List ByteArray) (k : Nat) (h : k < l.length) : (part l k).set k l[k] = part l (k + 1) := by
  unfold part
  have e : (l.take k).length = k := by simp; omega
  rw [List.set_append_right _ _ (by omega), e, Nat.sub_self, show l.length - k = (l.length - (k + 1)) + 1 by omega, List.replicate_succ, List.set_cons_zero, List.take_succ_eq_append_getElem h, List.append_assoc]
  rfl
set_option maxHeartbeats 2000000 in
theorem to_any (w : World) (a : Option Addr) (cap : Nat) (l : List ByteArray) (hl : l.length ≤ 1048576) (h : ArgS w a l) (w' : World) (hb : Below w.heap.size w w') :
    Calls Tryd.prog 20 #[.slice a l.length cap] w' fun e w'' => ∃ v, e = .returned v ∧ OwnL w'' w'.heap.size 9 encS v l ∧ Below w'.heap.size w' w'' := by
  have HC := Lib.hid h.cell
  have HB := Lib.hid hb
  have hmk := make_any l.length hl w'
  have h0 : OwnL (w'.alloc (.cells (madeCells #[.string ⟨#[]⟩] l.length) 9)) w'.heap.size 9 encS (.slice (some ⟨w'.heap.size, 0, none⟩) l.length l.length) (part l 0) := by
    have := OwnL.of_block (base := w'.heap.size) (e := 9) (enc := encS) (l := part l 0) w'.heap.size _ (Nat.le_refl _) (heap_alloc_new w' (.cells (madeCells #[.string ⟨#[]⟩] l.length) 9)) (by rw [toList_madeCells_one, part_zero]; simp [encS]) (by rw [part_len _ _ (Nat.zero_le _)]; unfold maxLen; omega)
    rw [part_len _ _ (Nat.zero_le _)] at this
    exact this
  have H0 := Lib.hid h0
  clear h hb h0
  go_enter Tryd.func20, Tryd.ntmps20
  go_wp2
  go_loopw [4] (fun i wr => ∃ k : Nat, k ≤ l.length ∧ i = .int .i64 k ∧ Hid (OwnL wr w'.heap.size 9 encS (.slice (some ⟨w'.heap.size, 0, none⟩) l.length l.length) (part l k)) ∧ Hid (Below w'.heap.size w' wr)) (fun i _ => l.length - (intOf i).toNat)
  case atStart => exact ⟨0, Nat.zero_le _, rfl, H0, (Below.refl _ _).alloc (Nat.le_refl _) _⟩
  case round =>
    clear hmk H0
    obtain ⟨k, hk', rfl, HO, HW⟩ := hrel
    by_cases hlt : k < l.length
    · have hk0 : (0 : Int) ≤ (k : Int) := by omega
      have hk1 : (k : Int) < (l.length : Int) := by omega
      obtain ⟨x, rfl, hx⟩ := HC.out k hlt
      obtain ⟨z, hz, HZ⟩ : ∃ z, w.cell? (x.add k) = some (.string z) ∧ Hid (l[k] = z) := ⟨_, hx, rfl⟩
      have hz2 : wr.cell? (x.add k) = some (.string z) := by
        have hlb := World.block_lt_of_cell? w _ hz
        rw [(HW.out.cell (Nat.lt_of_lt_of_le hlb HB.out.size)), HB.out.cell hlb]
        exact hz
      have hpl := part_len l k hk'
      have hown' : OwnL wr w'.heap.size 9 encS (.slice (some ⟨w'.heap.size, 0, none⟩) (part l k).length l.length) (part l k) := by rw [hpl]; exact HO.out
      obtain ⟨y, hcell⟩ : ∃ y, wr.cell? ⟨w'.heap.size, k, none⟩ = some y := ⟨_, hown'.cell k (by omega)⟩
      have hfrz : wr.frozen? ⟨w'.heap.size, k, none⟩ = false := World.ownsRow.frozenAt hown' k
      have hst := ownL_store hown' k z
      rw [← HZ.out, part_set l k hlt, hpl, HZ.out] at hst
      have HST := Lib.hid hst
      have HB2 := Lib.hid (HW.out.grown hst.2 HW.out.size (fun j hj => by injection hj with hj; omega))
      clear hst hown' HO HW hpl hx hz HC HB
      go_wp2
      go_roundw
      case rel => exact ⟨k + 1, by omega, by go_num, HST.out.1, HB2⟩
      case measure => simp [intOf]; omega
    · have hk1 : ¬ (k : Int) < (l.length : Int) := by omega
      have e : k = l.length := by omega
      subst e
      rw [part_all] at HO
      clear HC HB
      go_wp2
      go_ret
      exact ⟨_, rfl, HO.out, HW.out⟩
end Go.Proofs.YtkjffifdlckljaaDoor.strs
