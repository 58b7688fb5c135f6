/-
  The state of impl's reader of CBOR, what a call on it leaves; numbers and words.
-/
import Derived.Test.YtnaghafmpncdkaaDoorGetCborJ28
import Derived.Test.YtnaghafmpncdkaaDoorGetCborJ5
import Derived.Shelf.LaysM
import Derived.Shelf.Strconv.Clone
import Derived.Test.YtnaghafmpncdkaaDoorProg
import Derived.Deep.RegionHeld3
import Derived.Deep.Cut
namespace Go.Proofs.YtnaghafmpncdkaaDoor.cbor
open Go.ChangeShapes Go.WideShapes Go.ChangeAt Go.RowKit
open Go.Proofs.YtnaghafmpncdkaaDoor.val Go.Proofs.YtnaghafmpncdkaaDoor.head
set_option maxRecDepth 100000

/-- The reader's block: c values begun; not loose. -/
abbrev CR (W : World) (b : Nat) (s : ByteArray) (i : Int) (bad : Bool) (c : Int) : Prop := Rd 53 [.bool false, .int .i64 c] W b s i bad
abbrev CRet (W w' : World) (b : Nat) (s : ByteArray) (i : Int) (bad : Bool) (c : Int) : Prop := RdRet 53 [.bool false, .int .i64 c] W w' b s i bad
theorem CR.c3 {W : World} {b : Nat} {s : ByteArray} {i : Int} {bad : Bool} {c : Int} (h : CR W b s i bad c) : W.cell? ⟨b, 3, none⟩ = some (.bool false) := (cell_of_row W b 3 _ _ (0, 0) h.row).trans (by simp)
theorem CR.c4 {W : World} {b : Nat} {s : ByteArray} {i : Int} {bad : Bool} {c : Int} (h : CR W b s i bad c) : W.cell? ⟨b, 4, none⟩ = some (.int .i64 c) := (cell_of_row W b 4 _ _ (0, 0) h.row).trans (by simp)
theorem CR.count {W : World} {b : Nat} {s : ByteArray} {i : Int} {bad : Bool} {c : Int} (h : CR W b s i bad c) (c' : Int) : CRet W (W.setCell ⟨b, 4, none⟩ (.int .i64 c')) b s i bad c' :=
  ⟨⟨by have := val.blk_set (o := 4) h.row (.int .i64 c'); simpa using this⟩, set_only W b 4 _⟩
theorem _root_.Go.Proofs.YtnaghafmpncdkaaDoor.head.Rd.drewN {T : TypeId} {xs : List Value} {W : World} {b : Nat} {s : ByteArray} {i : Int} {bad : Bool} (h : Rd T xs W b s i bad) (n : Nat) : Rd T xs (W.drewN n) b s i bad := ⟨h.row⟩
theorem CRet.refl {W : World} {b : Nat} {s : ByteArray} {i : Int} {bad : Bool} {c : Int} (h : CR W b s i bad c) : CRet W W b s i bad c := ⟨h, World.grownBy.refl _ _⟩
theorem only_trans {W w1 w2 : World} {b : Nat} (h : W.grownBy w1 (some b)) (k : w1.grownBy w2 (some b)) : W.grownBy w2 (some b) :=
  ⟨k.os.trans h.os, k.tape.trans h.tape, k.output.trans h.output, Nat.le_trans h.size k.size, fun x hx hn => (k.block x (Nat.lt_of_lt_of_le hx h.size) hn).trans (h.block x hx hn)⟩
theorem only_below {W w1 w2 : World} {b : Nat} (h : W.grownBy w1 (some b)) (k : Below w1.heap.size w1 w2) : W.grownBy w2 (some b) :=
  ⟨k.os.trans h.os, k.tape.trans h.tape, k.output.trans h.output, Nat.le_trans h.size k.size, fun x hx hn => (k.block x (Nat.lt_of_lt_of_le hx h.size)).trans (h.block x hx hn)⟩
theorem only_of {W w1 : World} {b : Nat} (k : Below W.heap.size W w1) : W.grownBy w1 (some b) := ⟨k.os, k.tape, k.output, k.size, fun x hx _ => k.block x hx⟩
theorem only_out {W w' : World} {b : Nat} {o : Obj} (h : (W.alloc o).grownBy w' (some b)) : W.grownBy w' (some b) := only_trans (only_of ((Below.refl _ _).alloc (Nat.le_refl _) o)) h

/-- A value in new memory; of what was, the reader's block alone is written. -/
structure FreshO (W w' : World) (b : Nat) (t : LT) : Prop where
  tr : Tr w' t
  new : ∀ k, k ∈ t.blks → W.heap.size ≤ k
  nodup : t.blks.Nodup
  only : W.grownBy w' (some b)
theorem FreshO.leaf {W w' : World} {b : Nat} {k n e : Int} {s : ByteArray} (hk : InI k) (hn : InI n) (he : InI e) (hs : s.size ≤ 9223372036854775807) (ho : W.grownBy w' (some b)) : FreshO W w' b (.mk k n e s none 0 []) :=
  ⟨.nil hk hn he hs, fun k hk => by simp [LT.blks, LT.blksL] at hk, by simp [LT.blks, LT.blksL], ho⟩
def leaf (k n : Int) (s : ByteArray) : Value := .agg #[.int .i64 k, .int .i64 n, .int .i64 0, .string s, .slice none 0 0]
theorem cells5 (W : World) (a b c d e : Value) (T : TypeId) : (W.alloc (.cells #[a, b, c, d, e] T)).cell? ⟨W.heap.size, 0, none⟩ = some a ∧ (W.alloc (.cells #[a, b, c, d, e] T)).cell? ⟨W.heap.size, 1, none⟩ = some b ∧ (W.alloc (.cells #[a, b, c, d, e] T)).cell? ⟨W.heap.size, 2, none⟩ = some c ∧ (W.alloc (.cells #[a, b, c, d, e] T)).cell? ⟨W.heap.size, 3, none⟩ = some d ∧ (W.alloc (.cells #[a, b, c, d, e] T)).cell? ⟨W.heap.size, 4, none⟩ = some e := by
  have h := heap_alloc_new W (.cells #[a, b, c, d, e] T)
  exact ⟨cell_of_row _ _ 0 _ _ (0, 0) h, cell_of_row _ _ 1 _ _ (0, 0) h, cell_of_row _ _ 2 _ _ (0, 0) h, cell_of_row _ _ 3 _ _ (0, 0) h, cell_of_row _ _ 4 _ _ (0, 0) h⟩
/-- A head as an argument in a block. -/
theorem hbox (W : World) (m n : Int) (o : Bool) : Below W.heap.size W (W.alloc (.cells #[.int .i64 m, .int .u64 n, .bool o] 87)) := (Below.refl _ _).alloc (Nat.le_refl _) _

set_option maxHeartbeats 1000000 in
theorem nat_yes (m n b : Nat) (W : World) (hn : n ≤ 9223372036854775807) :
    Calls Tryd.prog 53 #[.pointer (some ⟨b, 0, none⟩), .agg #[.int .i64 m, .int .u64 n, .bool false]] W fun r w' => r = .returned (leaf 3 n ⟨#[]⟩) ∧ Below W.heap.size W w' := by
  have h1 : ¬ (9223372036854775807 : Int) < (n : Int) := by omega
  have HB := Lib.hid (hbox W m n false)
  go_enter Tryd.func53, Tryd.ntmps53
  go_wp2
  obtain ⟨k0, k1, k2, k3, k4⟩ := cells5 (W.alloc (.cells #[.int .i64 m, .int .u64 n, .bool false] 87)) (.int .i64 3) (.int .i64 n) (.int .i64 0) (.string ⟨#[]⟩) (.slice none 0 0) 24
  simp only [World.size_alloc] at k0 k1 k2 k3 k4
  refine bodyPost_ret (v := leaf 3 n ⟨#[]⟩) (by simp [results, Tryd.results53, go_sem, k0, k1, k2, k3, k4, leaf]) rfl ?_
  exact ⟨rfl, HB.out.alloc (by simp) _⟩
set_option maxHeartbeats 1000000 in
theorem nat_no (m n b : Nat) (s : ByteArray) (i c : Int) (W : World) (hn : 9223372036854775807 < n) (hn2 : n < 18446744073709551616) (h : CR W b s i false c) :
    Calls Tryd.prog 53 #[.pointer (some ⟨b, 0, none⟩), .agg #[.int .i64 m, .int .u64 n, .bool false]] W fun r w' => r = .returned (leaf 0 0 ⟨#[]⟩) ∧ CRet W w' b s i true c := by
  have h1 : (9223372036854775807 : Int) < (n : Int) := by omega
  have hlt := h.lt
  have c2 := h.c2
  have f2 := h.fr 2
  have HS := Lib.hid ((h.spoil.more (.cells #[.int .i64 m, .int .u64 n, .bool false] 87)).more (.cells #[.int .i64 0, .int .i64 0, .int .i64 0, .string ⟨#[]⟩, .slice none 0 0] 24))
  clear h
  go_enter Tryd.func53, Tryd.ntmps53
  go_wp2
  obtain ⟨k0, k1, k2, k3, k4⟩ := cells5 ((W.setCell ⟨b, 2, none⟩ (.bool true)).alloc (.cells #[.int .i64 m, .int .u64 n, .bool false] 87)) (.int .i64 0) (.int .i64 0) (.int .i64 0) (.string ⟨#[]⟩) (.slice none 0 0) 24
  simp only [World.size_alloc, val.set_size] at k0 k1 k2 k3 k4
  refine bodyPost_ret (v := leaf 0 0 ⟨#[]⟩) (by simp [results, Tryd.results53, go_sem, k0, k1, k2, k3, k4, leaf]) rfl ?_
  exact ⟨rfl, HS.out⟩
end Go.Proofs.YtnaghafmpncdkaaDoor.cbor
/-
  Contracts of Go's library at this seat's program: each a theorem that the kit proves over any program, laid here at this one.
-/
namespace Go.Proofs
open Go.Shelf
def Tryd.laysM316_ren : Go.Shelf.Ren := ⟨fun | 316 => 100 | n => n, fun | 9 => 9 | 3 => 3 | 4 => 4 | 37 => 109 | 0 => 0 | 127 => 164 | 5 => 5 | n => n, fun | n => n⟩
theorem Tryd.laysM316 : Go.Proofs.LaysM.n316 Tryd.prog Tryd.laysM316_ren := {
  mixed := by kernel_rfl
  f316 := Tryd.func100.trans (congrArg some (by kernel_rfl))
  t0 := Tryd.underlying0
  a0 := Tryd.isAgg0
  z0 := Tryd.sizeOf0
  v0 := Tryd.zeroValue0
  t3 := Tryd.underlying3
  a3 := Tryd.isAgg3
  z3 := Tryd.sizeOf3
  v3 := Tryd.zeroValue3
  t4 := Tryd.underlying4
  a4 := Tryd.isAgg4
  z4 := Tryd.sizeOf4
  v4 := Tryd.zeroValue4
  t9 := Tryd.underlying9
  a9 := Tryd.isAgg9
  z9 := Tryd.sizeOf9
  v9 := Tryd.zeroValue9
  t37 := Tryd.underlying109
  a37 := Tryd.isAgg109
  z37 := Tryd.sizeOf109
  v37 := Tryd.zeroValue109
  t127 := Tryd.underlying164
  a127 := Tryd.isAgg164
  z127 := Tryd.sizeOf164
  v127 := Tryd.zeroValue164
  t5 := Tryd.underlying5
  a5 := Tryd.isAgg5
  z5 := Tryd.sizeOf5
  v5 := Tryd.zeroValue5
  i0 := by kernel_rfl
  i3 := by kernel_rfl
  i4 := by kernel_rfl
  i5 := by kernel_rfl
  i9 := by kernel_rfl
  i37 := by kernel_rfl
  i127 := by kernel_rfl }
open Go.RowKit in
/-- internal/stringslite.Clone (what strings.Clone calls): "Clone returns a fresh copy of s.": THE SAME BYTES. Of what was there nothing has turned (a new row is laid, and frozen, where s is not empty). (LAID: no walk: one application.) -/
theorem Tryd.stringslite_Clone (s : ByteArray) (w : World) (hlim : s.size ≤ 281474976710656) :
    Calls Tryd.prog 100 #[.string s] w fun e w' => e = .returned (.string s) ∧ Below w.heap.size w w' := Any.stringslite_Clone Tryd.laysM316 s w hlim
end Go.Proofs
/-
  Contracts of Go's library at this seat's program (one import).
-/

/-
  impl's reader of CBOR behind the head of a number, a text, bytes.
-/
namespace Go.Proofs.YtnaghafmpncdkaaDoor.cbor
open Go.ChangeShapes Go.WideShapes Go.ChangeAt Go.RowKit
open Go.Proofs.YtnaghafmpncdkaaDoor.val Go.Proofs.YtnaghafmpncdkaaDoor.head
set_option maxRecDepth 100000

/-- The five cells of a block. -/
structure V5 (W : World) (N : Nat) (a b c d e : Value) : Prop where
  row : W.heap[N]? = some (.cells #[a, b, c, d, e] 24 (0, 0))
theorem V5.c {W : World} {N : Nat} {a b c d e : Value} (h : V5 W N a b c d e) : W.cell? ⟨N, 0, none⟩ = some a ∧ W.cell? ⟨N, 1, none⟩ = some b ∧ W.cell? ⟨N, 2, none⟩ = some c ∧ W.cell? ⟨N, 3, none⟩ = some d ∧ W.cell? ⟨N, 4, none⟩ = some e ∧ ∀ x, W.frozen? ⟨N, x, none⟩ = false :=
  ⟨cell_of_row _ _ 0 _ _ (0, 0) h.row, cell_of_row _ _ 1 _ _ (0, 0) h.row, cell_of_row _ _ 2 _ _ (0, 0) h.row, cell_of_row _ _ 3 _ _ (0, 0) h.row, cell_of_row _ _ 4 _ _ (0, 0) h.row, fun x => frozen_of_row W N x _ _ h.row⟩
theorem V5.new (W : World) (a b c d e : Value) : V5 (W.alloc (.cells #[a, b, c, d, e] 24)) W.heap.size a b c d e := ⟨heap_alloc_new W _⟩
theorem V5.only {W w' : World} {N b : Nat} {x0 x1 x2 x3 x4 : Value} (h : V5 W N x0 x1 x2 x3 x4) (hg : W.grownBy w' (some b)) (hb : N ≠ b) : V5 w' N x0 x1 x2 x3 x4 :=
  ⟨(hg.block N (Array.getElem?_eq_some_iff.1 h.row).1 (fun e => hb (by injection e))).trans h.row⟩
theorem V5.behind {W w' : World} {N : Nat} {x0 x1 x2 x3 x4 : Value} (h : V5 W N x0 x1 x2 x3 x4) (hb : Below W.heap.size W w') : V5 w' N x0 x1 x2 x3 x4 := ⟨(hb.block N (Array.getElem?_eq_some_iff.1 h.row).1).trans h.row⟩

def put5v (w : World) (N : Nat) (a b c d e : Value) : World := ((((w.setCell ⟨N, 0, none⟩ a).setCell ⟨N, 1, none⟩ b).setCell ⟨N, 2, none⟩ c).setCell ⟨N, 3, none⟩ d).setCell ⟨N, 4, none⟩ e
theorem V5.put {W : World} {N : Nat} {x0 x1 x2 x3 x4 : Value} (h : V5 W N x0 x1 x2 x3 x4) (a b c d e : Value) : V5 (put5v W N a b c d e) N a b c d e := by
  have h0 := val.blk_set (o := 0) h.row a
  have h1 := val.blk_set (o := 1) h0 b
  have h2 := val.blk_set (o := 2) h1 c
  have h3 := val.blk_set (o := 3) h2 d
  have h4 := val.blk_set (o := 4) h3 e
  exact ⟨h4⟩
theorem put5v_size (W : World) (N : Nat) (a b c d e : Value) : (put5v W N a b c d e).heap.size = W.heap.size := by unfold put5v; rw [val.set_size, val.set_size, val.set_size, val.set_size, val.set_size]
theorem put5v_other (W : World) (N k : Nat) (a b c d e : Value) (h : k ≠ N) : (put5v W N a b c d e).heap[k]? = W.heap[k]? := by unfold put5v; rw [val.blk_other _ h, val.blk_other _ h, val.blk_other _ h, val.blk_other _ h, val.blk_other _ h]
theorem put5v_below {w W : World} {B N : Nat} (h : Below B w W) (hN : B ≤ N) (a b c d e : Value) : Below B w (put5v W N a b c d e) := by
  unfold put5v
  exact ((((h.setCell (p := ⟨N, 0, none⟩) hN _).setCell (p := ⟨N, 1, none⟩) hN _).setCell (p := ⟨N, 2, none⟩) hN _).setCell (p := ⟨N, 3, none⟩) hN _).setCell (p := ⟨N, 4, none⟩) hN _
theorem only_set {W w1 : World} {b N o : Nat} (h : W.grownBy w1 (some b)) (hN : W.heap.size ≤ N) (v : Value) : W.grownBy (w1.setCell ⟨N, o, none⟩ v) (some b) :=
  ⟨h.os, h.tape, h.output, by rw [val.set_size]; exact h.size, fun k h1 h2 => (val.blk_other v (by omega)).trans (h.block k h1 h2)⟩
theorem ret_put {W w1 : World} {b N : Nat} {s : ByteArray} {J c : Int} {bad : Bool} (h : CRet W w1 b s J bad c) (hN : W.heap.size ≤ N) (hb : b < W.heap.size) (x0 x1 x2 x3 x4 : Value) : CRet W (put5v w1 N x0 x1 x2 x3 x4) b s J bad c := by
  refine ⟨⟨(put5v_other w1 N b x0 x1 x2 x3 x4 (by omega)).trans h.rd.row⟩, ?_⟩
  unfold put5v
  exact only_set (only_set (only_set (only_set (only_set h.only hN _) hN _) hN _) hN _) hN _
theorem Hd.onlyH {W W' w' : World} {N b : Nat} {m n : Int} {o : Bool} (h : Hd W N m n o) (hg : W'.grownBy w' (some b)) (e : W'.heap = W.heap) (hb : N ≠ b) : Hd w' N m n o := by
  have h' : Hd W' N m n o := by unfold Hd at h ⊢; rw [e]; exact h
  exact h'.only hg hb
theorem Hd.behindH {W W' w' : World} {N : Nat} {m n : Int} {o : Bool} (h : Hd W N m n o) (hb : Below W'.heap.size W' w') (e : W'.heap = W.heap) : Hd w' N m n o := by
  have h' : Hd W' N m n o := by unfold Hd at h ⊢; rw [e]; exact h
  exact Hd.behind h' hb

set_option maxHeartbeats 1000000 in
theorem neg_yes (m n b : Nat) (W : World) (hn : n ≤ 9223372036854775807) :
    Calls Tryd.prog 54 #[.pointer (some ⟨b, 0, none⟩), .agg #[.int .i64 m, .int .u64 n, .bool false]] W fun r w' => r = .returned (leaf 3 (-1 - n) ⟨#[]⟩) ∧ Below W.heap.size W w' := by
  have C := Lib.hid (fun W => nat_yes m n b W hn)
  have HB := Lib.hid (hbox W m n false)
  have hw : IntKind.i64.wrap (-1 - (n : Int)) = -1 - n := by rw [IntKind.wrap_i64]; omega
  clear hn
  unfold leaf at C
  go_enter Tryd.func54, Tryd.ntmps54
  go_wp2_with fail
  with_reducible refine (C.out _).mono ?_
  rintro r w1 ⟨rfl, hb⟩
  have HR := Lib.hid ((V5.new (W.alloc (.cells #[.int .i64 m, .int .u64 n, .bool false] 87)) (.int .i64 0) (.int .i64 0) (.int .i64 0) (.string ⟨#[]⟩) (.slice none 0 0)).behind hb)
  have hz := hb.size
  replace HB := Lib.hid (below_of2 (HB.out.alloc (by simp) _) hb)
  rw [show (W.alloc (.cells #[.int .i64 m, .int .u64 n, .bool false] 87)).heap.size = W.heap.size + 1 by simp] at HR
  simp only [World.size_alloc] at hz
  go_upto_region 2 with (fail)
  have HN : Hid (V5 (w1.alloc (.cells #[.int .i64 3, .int .i64 n, .int .i64 0, .string ⟨#[]⟩, .slice none 0 0] 24)) w1.heap.size (.int .i64 3) (.int .i64 n) (.int .i64 0) (.string ⟨#[]⟩) (.slice none 0 0)) := V5.new _ _ _ _ _ _
  replace HR := Lib.hid (HR.out.behind ((Below.refl _ w1).alloc (Nat.le_refl _) (.cells #[.int .i64 3, .int .i64 n, .int .i64 0, .string ⟨#[]⟩, .slice none 0 0] 24)))
  replace HB := Lib.hid (HB.out.alloc HB.out.size (.cells #[.int .i64 3, .int .i64 n, .int .i64 0, .string ⟨#[]⟩, .slice none 0 0] 24))
  generalize w1.alloc (.cells #[.int .i64 3, .int .i64 n, .int .i64 0, .string ⟨#[]⟩, .slice none 0 0] 24) = WA at *
  generalize w1.heap.size = N at *
  clear hb C
  have hne : W.heap.size + 1 ≠ N := by omega
  obtain ⟨r0, r1, r2, r3, r4, rf⟩ := HN.out.c
  have HB2 : Hid (Below W.heap.size W (WA.setCell ⟨N, 1, none⟩ (.int .i64 (-1 - n)))) := HB.out.setCell (p := ⟨N, 1, none⟩) (by show W.heap.size ≤ N; omega) _
  have HN2 : Hid (V5 (WA.setCell ⟨N, 1, none⟩ (.int .i64 (-1 - n))) N (.int .i64 3) (.int .i64 (-1 - n)) (.int .i64 0) (.string ⟨#[]⟩) (.slice none 0 0)) := ⟨val.blk_set (o := 1) HN.out.row _⟩
  have HR2 : Hid (V5 (WA.setCell ⟨N, 1, none⟩ (.int .i64 (-1 - n))) (W.heap.size + 1) (.int .i64 0) (.int .i64 0) (.int .i64 0) (.string ⟨#[]⟩) (.slice none 0 0)) := ⟨(val.blk_other _ hne).trans HR.out.row⟩
  clear HN HR HB
  go_upto_region 3 with (fail)
  generalize WA.setCell ⟨N, 1, none⟩ (.int .i64 (-1 - n)) = WB at *
  clear r0 r1 r2 r3 r4 rf
  obtain ⟨r0, r1, r2, r3, r4, rf⟩ := HN2.out.c
  obtain ⟨q0, q1, q2, q3, q4, qf⟩ := HR2.out.c
  have HF := Lib.hid (HR2.out.put (.int .i64 3) (.int .i64 (-1 - n)) (.int .i64 0) (.string ⟨#[]⟩) (.slice none 0 0))
  have HBF := Lib.hid (put5v_below HB2.out (N := W.heap.size + 1) (by omega) (.int .i64 3) (.int .i64 (-1 - n)) (.int .i64 0) (.string ⟨#[]⟩) (.slice none 0 0))
  obtain ⟨k0, k1, k2, k3, k4, _⟩ := HF.out.c
  clear HN2 HR2 HB2
  unfold put5v at k0 k1 k2 k3 k4 HBF
  generalize hz : -1 - (n : Int) = z at *
  go_wp2
  refine bodyPost_ret (v := leaf 3 z ⟨#[]⟩) (by simp [results, Tryd.results54, go_sem, k0, k1, k2, k3, k4, leaf]) rfl ?_
  exact ⟨by rw [hz], HBF.out⟩
theorem clone_any (s : ByteArray) (w : World) (hs : s.size ≤ 281474976710656) :
    Calls Tryd.prog 73 #[.string s] w fun e w' => e = .returned (.string s) ∧ Below w.heap.size w w' := by
  have C := Lib.hid (Tryd.stringslite_Clone s w hs)
  go_enter Tryd.func73, Tryd.ntmps73
  go_wp2_with fail
  with_reducible refine C.out.mono ?_
  rintro e w1 ⟨rfl, hb⟩
  go_wp2
  go_ret
  exact ⟨rfl, hb⟩
theorem ret_undrew {W w' : World} {b : Nat} {s : ByteArray} {i c : Int} {bad : Bool} {o : Obj} (h : CRet (W.alloc o).drew w' b s i bad c) (hb : b < W.heap.size) : CRet W w' b s i bad c :=
  RdRet.out (o := o) ⟨h.rd, ⟨h.only.os, h.only.tape, h.only.output, h.only.size, h.only.block⟩⟩ hb
set_option maxHeartbeats 2000000 in
theorem str_any (m n b : Nat) (s F : ByteArray) (i c J : Int) (bad : Bool) (W : World) (h : CR W b s i false c) (hF : F.size ≤ 1048576)
    (CT : ∀ W, CR W b s i false c → Calls Tryd.prog 104 #[.pointer (some ⟨b, 0, none⟩), .int .u64 n] W fun e w' => e = .returned (.string F) ∧ CRet W w' b s J bad c) :
    Calls Tryd.prog 81 #[.pointer (some ⟨b, 0, none⟩), .agg #[.int .i64 m, .int .u64 n, .bool false]] W fun r w' => r = .returned (.string F) ∧ CRet W w' b s J bad c := by
  have hlt := h.lt
  have CC := Lib.hid (fun W => clone_any F W (by omega))
  have HH := Lib.hid (Hd.new W m n false)
  have HA := Lib.hid (h.alloc (.cells #[.int .i64 m, .int .u64 n, .bool false] 87))
  replace CT := Lib.hid CT
  clear h
  go_enter Tryd.func81, Tryd.ntmps81
  go_wp2_with fail
  have hh := HH.out.cells
  obtain ⟨h0, h1, h2, h3⟩ := hh
  go_region_held3 (fun w' => w'.cell? ⟨W.heap.size, 1, none⟩ = some (.int .u64 (n : Int))) (go_keep)
    (first
      | (go_at_call 104; with_reducible refine (CT.out _ HA.out.drew).mono ?_; rintro r w1 ⟨rfl, hr⟩; have HH1 := Hd.onlyH HH.out hr.only rfl (by omega); have g1 := HH1.cells.c1)
      | (go_at_call 73; with_reducible refine (CC.out _).mono ?_; rintro r w2 ⟨rfl, hb2⟩; have g2 := (Hd.behindH HH1 hb2 rfl).cells.c1))
  all_goals
    have HR := Lib.hid ((ret_undrew hr hlt).behind hb2)
    clear hr hb2 CC CT HA HH h0 h1 h2 h3 HH1 g1 g2
    go_wp2
    go_ret
    exact ⟨rfl, HR.out⟩
set_option maxHeartbeats 2000000 in
theorem neg_no (m n b : Nat) (s : ByteArray) (i c : Int) (W : World) (hn : 9223372036854775807 < n) (hn2 : n < 18446744073709551616) (h : CR W b s i false c) :
    Calls Tryd.prog 54 #[.pointer (some ⟨b, 0, none⟩), .agg #[.int .i64 m, .int .u64 n, .bool false]] W fun r w' => r = .returned (leaf 0 (-1) ⟨#[]⟩) ∧ CRet W w' b s i true c := by
  have hlt := h.lt
  have C := Lib.hid (nat_no m n b s i c _ hn hn2 ((h.alloc (.cells #[.int .i64 m, .int .u64 n, .bool false] 87)).alloc (.cells #[.int .i64 0, .int .i64 0, .int .i64 0, .string ⟨#[]⟩, .slice none 0 0] 24)))
  have HR := Lib.hid (V5.new (W.alloc (.cells #[.int .i64 m, .int .u64 n, .bool false] 87)) (.int .i64 0) (.int .i64 0) (.int .i64 0) (.string ⟨#[]⟩) (.slice none 0 0))
  rw [show (W.alloc (.cells #[.int .i64 m, .int .u64 n, .bool false] 87)).heap.size = W.heap.size + 1 by simp] at HR
  unfold leaf at C
  clear hn hn2 h
  go_enter Tryd.func54, Tryd.ntmps54
  go_wp2_with fail
  with_reducible refine C.out.mono ?_
  rintro r w1 ⟨rfl, hr⟩
  replace HR := Lib.hid (HR.out.only hr.only (by omega))
  have HC := Lib.hid ((hr.out (by simp; omega)).out hlt)
  have hz : W.heap.size + 2 ≤ w1.heap.size := by have := hr.only.size; simpa using this
  clear hr C
  go_upto_region 2 with (fail)
  have HN : Hid (V5 (w1.alloc (.cells #[.int .i64 0, .int .i64 0, .int .i64 0, .string ⟨#[]⟩, .slice none 0 0] 24)) w1.heap.size (.int .i64 0) (.int .i64 0) (.int .i64 0) (.string ⟨#[]⟩) (.slice none 0 0)) := V5.new _ _ _ _ _ _
  replace HR := Lib.hid (HR.out.behind ((Below.refl _ w1).alloc (Nat.le_refl _) (.cells #[.int .i64 0, .int .i64 0, .int .i64 0, .string ⟨#[]⟩, .slice none 0 0] 24)))
  replace HC := Lib.hid (HC.out.more (.cells #[.int .i64 0, .int .i64 0, .int .i64 0, .string ⟨#[]⟩, .slice none 0 0] 24))
  generalize w1.alloc (.cells #[.int .i64 0, .int .i64 0, .int .i64 0, .string ⟨#[]⟩, .slice none 0 0] 24) = WA at *
  generalize w1.heap.size = N at *
  have hne : W.heap.size + 1 ≠ N := by omega
  obtain ⟨r0, r1, r2, r3, r4, rf⟩ := HN.out.c
  have HC2 : Hid (CRet W (WA.setCell ⟨N, 1, none⟩ (.int .i64 (-1))) b s i true c) := ⟨⟨(val.blk_other _ (by omega)).trans HC.out.rd.row⟩, only_set HC.out.only (by omega) _⟩
  have HN2 : Hid (V5 (WA.setCell ⟨N, 1, none⟩ (.int .i64 (-1))) N (.int .i64 0) (.int .i64 (-1)) (.int .i64 0) (.string ⟨#[]⟩) (.slice none 0 0)) := ⟨val.blk_set (o := 1) HN.out.row _⟩
  have HR2 : Hid (V5 (WA.setCell ⟨N, 1, none⟩ (.int .i64 (-1))) (W.heap.size + 1) (.int .i64 0) (.int .i64 0) (.int .i64 0) (.string ⟨#[]⟩) (.slice none 0 0)) := ⟨(val.blk_other _ hne).trans HR.out.row⟩
  clear HN HR HC
  go_upto_region 3 with (fail)
  generalize WA.setCell ⟨N, 1, none⟩ (.int .i64 (-1)) = WB at *
  clear r0 r1 r2 r3 r4 rf
  obtain ⟨r0, r1, r2, r3, r4, rf⟩ := HN2.out.c
  obtain ⟨q0, q1, q2, q3, q4, qf⟩ := HR2.out.c
  have HF := Lib.hid (HR2.out.put (.int .i64 0) (.int .i64 (-1)) (.int .i64 0) (.string ⟨#[]⟩) (.slice none 0 0))
  have HBF := Lib.hid (ret_put HC2.out (N := W.heap.size + 1) (by omega) hlt (.int .i64 0) (.int .i64 (-1)) (.int .i64 0) (.string ⟨#[]⟩) (.slice none 0 0))
  obtain ⟨k0, k1, k2, k3, k4, _⟩ := HF.out.c
  clear HN2 HR2 HC2
  unfold put5v at k0 k1 k2 k3 k4 HBF
  go_wp2
  refine bodyPost_ret (v := leaf 0 (-1) ⟨#[]⟩) (by simp [results, Tryd.results54, go_sem, k0, k1, k2, k3, k4, leaf]) rfl ?_
  exact ⟨rfl, HBF.out⟩
set_option maxHeartbeats 2000000 in
theorem bytes_any (m n b : Nat) (s F : ByteArray) (i c J : Int) (bad : Bool) (W : World) (h : CR W b s i false c)
    (CS : ∀ W, CR W b s i false c → Calls Tryd.prog 81 #[.pointer (some ⟨b, 0, none⟩), .agg #[.int .i64 m, .int .u64 n, .bool false]] W fun r w' => r = .returned (.string F) ∧ CRet W w' b s J bad c) :
    Calls Tryd.prog 55 #[.pointer (some ⟨b, 0, none⟩), .agg #[.int .i64 m, .int .u64 n, .bool false]] W fun r w' => r = .returned (leaf 6 0 F) ∧ CRet W w' b s J bad c := by
  have hlt := h.lt
  have C := Lib.hid (CS _ ((h.alloc (.cells #[.int .i64 m, .int .u64 n, .bool false] 87)).alloc (.cells #[.int .i64 0, .int .i64 0, .int .i64 0, .string ⟨#[]⟩, .slice none 0 0] 24)))
  have HR := Lib.hid (V5.new (W.alloc (.cells #[.int .i64 m, .int .u64 n, .bool false] 87)) (.int .i64 0) (.int .i64 0) (.int .i64 0) (.string ⟨#[]⟩) (.slice none 0 0))
  rw [show (W.alloc (.cells #[.int .i64 m, .int .u64 n, .bool false] 87)).heap.size = W.heap.size + 1 by simp] at HR
  clear CS h
  go_enter Tryd.func55, Tryd.ntmps55
  go_wp2_with fail
  with_reducible refine C.out.mono ?_
  rintro r w1 ⟨rfl, hr⟩
  replace HR := Lib.hid (HR.out.only hr.only (by omega))
  have HC := Lib.hid ((hr.out (by simp; omega)).out hlt)
  clear hr C
  obtain ⟨q0, q1, q2, q3, q4, qf⟩ := HR.out.c
  have HF := Lib.hid (HR.out.put (.int .i64 6) (.int .i64 0) (.int .i64 0) (.string F) (.slice none 0 0))
  have HBF := Lib.hid (ret_put HC.out (N := W.heap.size + 1) (by omega) hlt (.int .i64 6) (.int .i64 0) (.int .i64 0) (.string F) (.slice none 0 0))
  obtain ⟨k0, k1, k2, k3, k4, _⟩ := HF.out.c
  clear HR HC
  unfold put5v at k0 k1 k2 k3 k4 HBF
  go_wp2
  refine bodyPost_ret (v := leaf 6 0 F) (by simp [results, Tryd.results55, go_sem, k0, k1, k2, k3, k4, leaf]) rfl ?_
  exact ⟨rfl, HBF.out⟩
set_option maxHeartbeats 2000000 in
theorem text_any (m n b : Nat) (s F : ByteArray) (i c J : Int) (bad : Bool) (W : World) (h : CR W b s i false c)
    (CS : ∀ W, CR W b s i false c → Calls Tryd.prog 81 #[.pointer (some ⟨b, 0, none⟩), .agg #[.int .i64 m, .int .u64 n, .bool false]] W fun r w' => r = .returned (.string F) ∧ CRet W w' b s J bad c) :
    Calls Tryd.prog 56 #[.pointer (some ⟨b, 0, none⟩), .agg #[.int .i64 m, .int .u64 n, .bool false]] W fun r w' => r = .returned (leaf 5 0 F) ∧ CRet W w' b s J bad c := by
  have hlt := h.lt
  have C := Lib.hid (CS _ ((h.alloc (.cells #[.int .i64 m, .int .u64 n, .bool false] 87)).alloc (.cells #[.int .i64 0, .int .i64 0, .int .i64 0, .string ⟨#[]⟩, .slice none 0 0] 24)))
  have HR := Lib.hid (V5.new (W.alloc (.cells #[.int .i64 m, .int .u64 n, .bool false] 87)) (.int .i64 0) (.int .i64 0) (.int .i64 0) (.string ⟨#[]⟩) (.slice none 0 0))
  rw [show (W.alloc (.cells #[.int .i64 m, .int .u64 n, .bool false] 87)).heap.size = W.heap.size + 1 by simp] at HR
  clear CS h
  go_enter Tryd.func56, Tryd.ntmps56
  go_wp2_with fail
  with_reducible refine C.out.mono ?_
  rintro r w1 ⟨rfl, hr⟩
  replace HR := Lib.hid (HR.out.only hr.only (by omega))
  have HC := Lib.hid ((hr.out (by simp; omega)).out hlt)
  clear hr C
  obtain ⟨q0, q1, q2, q3, q4, qf⟩ := HR.out.c
  have HF := Lib.hid (HR.out.put (.int .i64 5) (.int .i64 0) (.int .i64 0) (.string F) (.slice none 0 0))
  have HBF := Lib.hid (ret_put HC.out (N := W.heap.size + 1) (by omega) hlt (.int .i64 5) (.int .i64 0) (.int .i64 0) (.string F) (.slice none 0 0))
  obtain ⟨k0, k1, k2, k3, k4, _⟩ := HF.out.c
  clear HR HC
  unfold put5v at k0 k1 k2 k3 k4 HBF
  go_wp2
  refine bodyPost_ret (v := leaf 5 0 F) (by simp [results, Tryd.results56, go_sem, k0, k1, k2, k3, k4, leaf]) rfl ?_
  exact ⟨rfl, HBF.out⟩
end Go.Proofs.YtnaghafmpncdkaaDoor.cbor
