/-
  What the reader of bytes does: take, bigEndian, readerAt.
-/
import Derived.Test.YtnaghafmpncdkaaDoorHeadWalk
import Derived.Test.YtnaghafmpncdkaaDoorValOwn
namespace Go.Proofs.YtnaghafmpncdkaaDoor.head
open Go.ChangeShapes Go.WideShapes Go.ChangeAt Go.RowKit
set_option maxRecDepth 100000
variable {T : TypeId} {xs : List Value}

/-- A reader's block (of type T): its text, the index up to which it was read, whether something did not fit; what else its block holds. -/
structure Rd (T : TypeId) (xs : List Value) (W : World) (b : Nat) (s : ByteArray) (i : Int) (bad : Bool) : Prop where
  row : W.heap[b]? = some (.cells (List.toArray (.string s :: .int .i64 i :: .bool bad :: xs)) T (0, 0))
theorem Rd.c0 {W : World} {b : Nat} {s : ByteArray} {i : Int} {bad : Bool} (h : Rd T xs W b s i bad) : W.cell? ⟨b, 0, none⟩ = some (.string s) := (cell_of_row W b 0 _ _ (0, 0) h.row).trans (by simp)
theorem Rd.c1 {W : World} {b : Nat} {s : ByteArray} {i : Int} {bad : Bool} (h : Rd T xs W b s i bad) : W.cell? ⟨b, 1, none⟩ = some (.int .i64 i) := (cell_of_row W b 1 _ _ (0, 0) h.row).trans (by simp)
theorem Rd.c2 {W : World} {b : Nat} {s : ByteArray} {i : Int} {bad : Bool} (h : Rd T xs W b s i bad) : W.cell? ⟨b, 2, none⟩ = some (.bool bad) := (cell_of_row W b 2 _ _ (0, 0) h.row).trans (by simp)
theorem Rd.fr {W : World} {b : Nat} {s : ByteArray} {i : Int} {bad : Bool} (h : Rd T xs W b s i bad) (o : Nat) : W.frozen? ⟨b, o, none⟩ = false := frozen_of_row W b o _ _ h.row
theorem Rd.lt {W : World} {b : Nat} {s : ByteArray} {i : Int} {bad : Bool} (h : Rd T xs W b s i bad) : b < W.heap.size := (Array.getElem?_eq_some_iff.1 h.row).1
theorem Rd.drew {W : World} {b : Nat} {s : ByteArray} {i : Int} {bad : Bool} (h : Rd T xs W b s i bad) : Rd T xs W.drew b s i bad := ⟨h.row⟩
theorem Rd.behind {W W' : World} {b B : Nat} {s : ByteArray} {i : Int} {bad : Bool} (h : Rd T xs W b s i bad) (hb : Below B W W') (hB : b < B) : Rd T xs W' b s i bad := ⟨(hb.block _ hB).trans h.row⟩
/-- What a call on the reader leaves: no other old block is changed. -/
structure RdRet (T : TypeId) (xs : List Value) (W w' : World) (b : Nat) (s : ByteArray) (i : Int) (bad : Bool) : Prop where
  rd : Rd T xs w' b s i bad
  only : W.grownBy w' (some b)
theorem RdRet.drew {W w' : World} {b : Nat} {s : ByteArray} {i : Int} {bad : Bool} (h : RdRet T xs W w' b s i bad) : RdRet T xs W w'.drew b s i bad := ⟨h.rd.drew, ⟨h.only.os, h.only.tape, h.only.output, h.only.size, h.only.block⟩⟩
theorem RdRet.trans {W w1 w2 : World} {b : Nat} {s : ByteArray} {i j : Int} {bad bad' : Bool} (h : RdRet T xs W w1 b s i bad) (k : RdRet T xs w1 w2 b s j bad') : RdRet T xs W w2 b s j bad' :=
  ⟨k.rd, ⟨k.only.os.trans h.only.os, k.only.tape.trans h.only.tape, k.only.output.trans h.only.output, Nat.le_trans h.only.size k.only.size, fun x hx hn => (k.only.block x (Nat.lt_of_lt_of_le hx h.only.size) hn).trans (h.only.block x hx hn)⟩⟩
theorem RdRet.below {W w' : World} {b : Nat} {s : ByteArray} {i : Int} {bad : Bool} (h : RdRet T xs W w' b s i bad) (hb : b < W.heap.size) : Below b W w' :=
  ⟨h.only.os, h.only.tape, h.only.output, h.only.size, fun k hk => h.only.block k (by omega) (fun e => by injection e with e; omega)⟩
theorem set_only (W : World) (b o : Nat) (v : Value) : W.grownBy (W.setCell ⟨b, o, none⟩ v) (some b) :=
  ⟨rfl, rfl, rfl, by rw [val.set_size]; exact Nat.le_refl _, fun k _ hk => val.blk_other v (fun e => hk (by rw [e]))⟩
theorem Rd.spoil {W : World} {b : Nat} {s : ByteArray} {i : Int} {bad : Bool} (h : Rd T xs W b s i bad) : RdRet T xs W (W.setCell ⟨b, 2, none⟩ (.bool true)) b s i true :=
  ⟨⟨by have := val.blk_set (o := 2) h.row (.bool true); simpa using this⟩, set_only W b 2 _⟩
theorem Rd.move {W : World} {b : Nat} {s : ByteArray} {i : Int} {bad : Bool} (h : Rd T xs W b s i bad) (j : Int) : RdRet T xs W (W.setCell ⟨b, 1, none⟩ (.int .i64 j)) b s j bad :=
  ⟨⟨by have := val.blk_set (o := 1) h.row (.int .i64 j); simpa using this⟩, set_only W b 1 _⟩

set_option maxHeartbeats 1000000 in
theorem take_bad (s : ByteArray) (i : Int) (n b : Nat) (W : World) (h : Rd T xs W b s i true) :
    Calls Tryd.prog 104 #[.pointer (some ⟨b, 0, none⟩), .int .u64 n] W fun e w' => e = .returned (.string ⟨#[]⟩) ∧ RdRet T xs W w' b s i true := by
  have c0 := h.c0
  have c1 := h.c1
  have c2 := h.c2
  have f2 := h.fr 2
  have HR := Lib.hid h.spoil
  clear h
  go_enter Tryd.func104, Tryd.ntmps104
  go_wp2
  go_region
  all_goals go_wp2
  all_goals go_ret
  all_goals exact ⟨rfl, HR.out.drew⟩
set_option maxHeartbeats 1000000 in
theorem take_far (s : ByteArray) (i n b : Nat) (W : World) (hs : s.size ≤ 1048576) (h : Rd T xs W b s i false) (hi : i ≤ s.size) (hn : s.size - i < n) :
    Calls Tryd.prog 104 #[.pointer (some ⟨b, 0, none⟩), .int .u64 n] W fun e w' => e = .returned (.string ⟨#[]⟩) ∧ RdRet T xs W w' b s i true := by
  have c0 := h.c0
  have c1 := h.c1
  have c2 := h.c2
  have f2 := h.fr 2
  have HR := Lib.hid h.spoil
  have hx : (s.size : Int) - i < n := by omega
  have hy : (0 : Int) ≤ (s.size : Int) - i := by omega
  clear h
  go_enter Tryd.func104, Tryd.ntmps104
  go_wp2
  go_region
  all_goals go_wp2
  all_goals go_ret
  all_goals exact ⟨rfl, HR.out.drew⟩
set_option maxHeartbeats 1000000 in
theorem take_yes (s : ByteArray) (i n b : Nat) (W : World) (hs : s.size ≤ 1048576) (h : Rd T xs W b s i false) (hi : i + n ≤ s.size) :
    Calls Tryd.prog 104 #[.pointer (some ⟨b, 0, none⟩), .int .u64 n] W fun e w' => e = .returned (.string (s.extract i (i + n))) ∧ RdRet T xs W w' b s ((i : Int) + n) false := by
  have c0 := h.c0
  have c1 := h.c1
  have c2 := h.c2
  have f1 := h.fr 1
  have HR := Lib.hid (h.move ((i : Int) + n))
  have hx : (n : Int) ≤ (s.size : Int) - i := by omega
  have hy : (0 : Int) ≤ (s.size : Int) - i := by omega
  clear h
  go_enter Tryd.func104, Tryd.ntmps104
  go_wp2
  go_region
  all_goals go_wp2
  all_goals
    have q1 : (i : Int) ≤ (i : Int) + n := by omega
    have q2 : (i : Int) + n ≤ (s.size : Int) := by omega
    have q3 : (0 : Int) ≤ (i : Int) := by omega
    have q4 : ((i : Int) + n).toNat = i + n := by omega
    go_region
    all_goals go_wp2
    all_goals go_ret
    all_goals exact ⟨by first | rfl | (rw [q4]), HR.out.drew.drew⟩
theorem wrap_u64 (n : Int) (h0 : 0 ≤ n) (h1 : n < 2 ^ 64) : IntKind.u64.wrap n = n := by
  simp [IntKind.wrap, IntKind.bits, IntKind.signed]
  omega
theorem or_join (N c : Nat) (hN : N < 72057594037927936) (hc : c < 256) : bits .or .u64 ((N : Int) * 256) (IntKind.u64.wrap (c : Int)) = ((256 * N + c : Nat) : Int) := by
  rw [wrap_u64 (c : Int) (by omega) (by omega), bits_join .u64 64 (by decide) wrap_u64 8 _ _ (by omega) (by omega) (by omega) (by omega) (by omega) (by omega)]
  omega
set_option maxHeartbeats 1000000 in
theorem big_end (l : List UInt8) (W : World) (hl : l.length ≤ 8) :
    Calls Tryd.prog 105 #[.string ⟨l.toArray⟩] W fun e w' => e = .returned (.int .u64 (beN l)) ∧ W = w' := by
  go_enter Tryd.func105, Tryd.ntmps105
  go_wp2
  go_loop [3, 7] (fun x y => ∃ k N : Nat, y = .int .i64 k ∧ x = .int .u64 N ∧ k ≤ l.length ∧ Hid (N = beN (l.take k))) (fun _ y => l.length - (intOf y).toNat)
  case atStart => exact ⟨0, 0, rfl, rfl, Nat.zero_le _, by simp [Hid, beN]⟩
  case round =>
    obtain ⟨k, N, rfl, rfl, hk, HN⟩ := hrel
    by_cases hlt : k < l.length
    · have hN : N < 72057594037927936 := by
        have h1 := beN_lt (l.take k)
        rw [← HN.out, List.length_take, Nat.min_eq_left hk] at h1
        have : 256 ^ k ≤ 256 ^ 7 := Nat.pow_le_pow_right (by omega) (by omega)
        omega
      have k0 : (0 : Int) ≤ (k : Int) := by omega
      have k1 : (k : Int) < (l.length : Int) := by omega
      go_wp2
      exact ⟨⟨k + 1, 256 * N + l[k].toNat, by go_num, congrArg (Value.int .u64) (or_join N l[k].toNat hN l[k].toNat_lt), by omega, by unfold Hid; rw [List.take_succ_eq_append_getElem hlt, beN_snoc, ← HN.out]⟩, by simp [intOf]; omega⟩
    · have k1 : ¬ (k : Int) < (l.length : Int) := by omega
      have HF : Hid (N = beN l) := by unfold Hid; rw [HN.out, List.take_of_length_le (by omega)]
      clear HN
      go_wp2
      go_ret
      exact ⟨by rw [HF.out]; rfl, rfl⟩

end Go.Proofs.YtnaghafmpncdkaaDoor.head
