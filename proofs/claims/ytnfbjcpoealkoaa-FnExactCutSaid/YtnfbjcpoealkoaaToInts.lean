/-
  What the laws' helper toIntS returns: the ints of an argument in memory of its own.
-/
import Derived.Test.YtnfbjcpoealkoaaIntS
import Derived.Laws.MakeOwn
import Derived.Laws.OwnMore
namespace Go.Proofs.Ytnfbjcpoealkoaa.ints
open Go.ChangeShapes Go.WideShapes Go.ChangeAt Go.RowKit
set_option maxRecDepth 100000

/-- The argument reads as l. -/
structure ArgI (w : World) (a : Option Addr) (l : List Int) : Prop where
  cell : ∀ j (h : j < l.length), ∃ x, a = some x ∧ w.cell? (x.add j) = some (.int .i64 l[j])
  wf : ∀ j (h : j < l.length), -9223372036854775808 ≤ l[j] ∧ l[j] ≤ 9223372036854775807
theorem infoI : (Try.prog.info? 3).map (fun i => (i.zero, i.size, i.bytes)) = some (some (.int .i64 0), 1, 8) := by kernel_rfl
theorem make_any (n : Nat) (hn : n ≤ 1048576) (w : World) : (Instr.makeSlice 29 (.int .i64 (n : Int)) (.int .i64 (n : Int))).run Try.prog w = .ok (.slice (some ⟨w.heap.size, 0, none⟩) n n) (w.alloc (.cells (madeCells #[.int .i64 0] n) 3)) := by
  obtain ⟨i0, hi0, hz0, hz1, hz2⟩ := info_parts infoI
  have h := run_make (P := Try.prog) w 29 3 i0 _ Try.underlying29 hi0 hz0 .i64 .i64 (n : Int) (n : Int) (by omega) (by omega) (by rw [hz2]; omega) (by omega)
  rw [hz1] at h
  simpa [Value.cells] using h
def part (l : List Int) (k : Nat) : List Int := l.take k ++ List.replicate (l.length - k) 0
theorem part_len (l : List Int) (k : Nat) (h : k ≤ l.length) : (part l k).length = l.length := by simp [part]; omega
theorem part_zero (l : List Int) : part l 0 = List.replicate l.length 0 := by simp [part]
theorem part_all (l : List Int) : part l l.length = l := by simp [part]
theorem part_set (l : List Int) (k : Nat) (h : k < l.length) : (part l k).set k l[k] = part l (k + 1) := by
  unfold part
  have e : (l.take k).length = k := by simp; omega
  rw [List.set_append_right _ _ (by omega), e, Nat.sub_self, show l.length - k = (l.length - (k + 1)) + 1 by omega, List.replicate_succ, List.set_cons_zero, List.take_succ_eq_append_getElem h, List.append_assoc]
  rfl
set_option maxHeartbeats 2000000 in
theorem to_any (w : World) (a : Option Addr) (cap : Nat) (l : List Int) (hl : l.length ≤ 1048576) (h : ArgI w a l) (w' : World) (hb : Below w.heap.size w w') :
    Calls Try.prog 11 #[.slice a l.length cap] w' fun e w'' => ∃ v, e = .returned v ∧ OwnL w'' w'.heap.size 3 encI v l ∧ Below w'.heap.size w' w'' := by
  have HC := Lib.hid h.cell
  have HB := Lib.hid hb
  have hmk := make_any l.length hl w'
  have h0 : OwnL (w'.alloc (.cells (madeCells #[.int .i64 0] l.length) 3)) w'.heap.size 3 encI (.slice (some ⟨w'.heap.size, 0, none⟩) l.length l.length) (part l 0) := by
    have := OwnL.of_block (base := w'.heap.size) (e := 3) (enc := encI) (l := part l 0) w'.heap.size _ (Nat.le_refl _) (heap_alloc_new w' (.cells (madeCells #[.int .i64 0] l.length) 3)) (by rw [toList_madeCells_one, part_zero]; simp [encI]) (by rw [part_len _ _ (Nat.zero_le _)]; unfold maxLen; omega)
    rw [part_len _ _ (Nat.zero_le _)] at this
    exact this
  have H0 := Lib.hid h0
  clear h hb h0
  go_enter Try.func11, Try.ntmps11
  go_wp2
  go_loopw [4] (fun i wr => ∃ k : Nat, k ≤ l.length ∧ i = .int .i64 k ∧ Hid (OwnL wr w'.heap.size 3 encI (.slice (some ⟨w'.heap.size, 0, none⟩) l.length l.length) (part l k)) ∧ Hid (Below w'.heap.size w' wr)) (fun i _ => l.length - (intOf i).toNat)
  case atStart => exact ⟨0, Nat.zero_le _, rfl, H0, (Below.refl _ _).alloc (Nat.le_refl _) _⟩
  case round =>
    clear hmk H0
    obtain ⟨k, hk', rfl, HO, HW⟩ := hrel
    by_cases hlt : k < l.length
    · have hk0 : (0 : Int) ≤ (k : Int) := by omega
      have hk1 : (k : Int) < (l.length : Int) := by omega
      obtain ⟨x, rfl, hx⟩ := HC.out k hlt
      obtain ⟨z, hz, HZ⟩ : ∃ z, w.cell? (x.add k) = some (.int .i64 z) ∧ Hid (l[k] = z) := ⟨_, hx, rfl⟩
      have hz2 : wr.cell? (x.add k) = some (.int .i64 z) := by
        have hlb := World.block_lt_of_cell? w _ hz
        rw [(HW.out.cell (Nat.lt_of_lt_of_le hlb HB.out.size)), HB.out.cell hlb]
        exact hz
      have hpl := part_len l k hk'
      have hown' : OwnL wr w'.heap.size 3 encI (.slice (some ⟨w'.heap.size, 0, none⟩) (part l k).length l.length) (part l k) := by rw [hpl]; exact HO.out
      obtain ⟨y, hcell⟩ : ∃ y, wr.cell? ⟨w'.heap.size, k, none⟩ = some y := ⟨_, hown'.cell k (by omega)⟩
      have hfrz : wr.frozen? ⟨w'.heap.size, k, none⟩ = false := World.ownsRow.frozenAt hown' k
      have hst := ownL_store hown' k z
      rw [← HZ.out, part_set l k hlt, hpl, HZ.out] at hst
      have HST := Lib.hid hst
      have HB2 := Lib.hid (HW.out.grown hst.2 HW.out.size (fun j hj => by injection hj with hj; omega))
      clear hst hown' HO HW hpl hx hz HC HB
      go_wp2
      go_roundw
      case rel => exact ⟨k + 1, by omega, by go_num, HST.out.1, HB2⟩
      case measure => simp [intOf]; omega
    · have hk1 : ¬ (k : Int) < (l.length : Int) := by omega
      have e : k = l.length := by omega
      subst e
      rw [part_all] at HO
      clear HC HB
      go_wp2
      go_ret
      exact ⟨_, rfl, HO.out, HW.out⟩
end Go.Proofs.Ytnfbjcpoealkoaa.ints
