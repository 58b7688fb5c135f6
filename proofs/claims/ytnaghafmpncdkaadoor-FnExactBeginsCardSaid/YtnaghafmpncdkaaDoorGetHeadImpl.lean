/-
  What the reader's getHead does: the head at its place, of any length.
-/
import Derived.Test.YtnaghafmpncdkaaDoorReaderWalk
namespace Go.Proofs.YtnaghafmpncdkaaDoor.head
open Go.ChangeShapes Go.WideShapes Go.ChangeAt Go.RowKit
set_option maxRecDepth 100000
variable {T : TypeId} {xs : List Value}

def hd (m n : Nat) (o : Bool) : Value := .agg #[.int .i64 m, .int .u64 n, .bool o]

/-- A head in a block of its own. -/
def Hd (W : World) (N : Nat) (m n : Int) (o : Bool) : Prop := W.heap[N]? = some (.cells #[.int .i64 m, .int .u64 n, .bool o] 87 (0, 0))
structure Hd3 (W : World) (N : Nat) (m n : Int) (o : Bool) : Prop where
  c0 : W.cell? ⟨N, 0, none⟩ = some (.int .i64 m)
  c1 : W.cell? ⟨N, 1, none⟩ = some (.int .u64 n)
  c2 : W.cell? ⟨N, 2, none⟩ = some (.bool o)
  f : ∀ x, W.frozen? ⟨N, x, none⟩ = false
theorem Hd.cells {W : World} {N : Nat} {m n : Int} {o : Bool} (h : Hd W N m n o) : Hd3 W N m n o := ⟨cell_of_row W N 0 _ _ (0, 0) h, cell_of_row W N 1 _ _ (0, 0) h, cell_of_row W N 2 _ _ (0, 0) h, fun x => frozen_of_row W N x _ _ h⟩
theorem Hd.new (W : World) (m n : Int) (o : Bool) : Hd (W.alloc (.cells #[.int .i64 m, .int .u64 n, .bool o] 87)) W.heap.size m n o := heap_alloc_new W _
theorem Hd.only {W w' : World} {N b : Nat} {m n : Int} {o : Bool} (h : Hd W N m n o) (hg : W.grownBy w' (some b)) (hb : N ≠ b) : Hd w' N m n o :=
  (hg.block N (Array.getElem?_eq_some_iff.1 h).1 (fun e => hb (by injection e))).trans h
theorem Rd.alloc {W : World} {b : Nat} {s : ByteArray} {i : Int} {bad : Bool} (h : Rd T xs W b s i bad) (o : Obj) : Rd T xs (W.alloc o) b s i bad := ⟨(Below.heap_alloc _ _ _ h.lt).trans h.row⟩
/-- From behind the result's own block to the call's begin. -/
theorem RdRet.out {W w' : World} {b : Nat} {s : ByteArray} {i : Int} {bad : Bool} {o : Obj} (h : RdRet T xs (W.alloc o) w' b s i bad) (hb : b < W.heap.size) : RdRet T xs W w' b s i bad :=
  ⟨h.rd, ⟨h.only.os, h.only.tape, h.only.output, by have := h.only.size; simp at this; omega, fun k hk hn => (h.only.block k (by simp; omega) hn).trans (Below.heap_alloc _ _ _ hk)⟩⟩

theorem Hd.drew {W : World} {N : Nat} {m n : Int} {o : Bool} (h : Hd W N m n o) : Hd W.drew N m n o := h
def put3 (w : World) (N : Nat) (m n : Int) (o : Bool) : World := ((w.setCell ⟨N, 0, none⟩ (.int .i64 m)).setCell ⟨N, 1, none⟩ (.int .u64 n)).setCell ⟨N, 2, none⟩ (.bool o)
/-- Behind 'return head{..}'. -/
structure End3 (T : TypeId) (xs : List Value) (W w' : World) (b N : Nat) (s : ByteArray) (i : Int) (bad : Bool) (m n : Int) (o : Bool) : Prop where
  ret : RdRet T xs W w' b s i bad
  hd : Hd w' N m n o
theorem put3_end {W w1 : World} {b N : Nat} {s : ByteArray} {i : Int} {bad : Bool} {m0 n0 : Int} {o0 : Bool} (h : RdRet T xs W w1 b s i bad) (hh : Hd w1 N m0 n0 o0) (hN : W.heap.size ≤ N) (hb : b < W.heap.size) (m n : Int) (o : Bool) : End3 T xs W (put3 w1 N m n o) b N s i bad m n o := by
  have hk : ∀ k, k ≠ N → (put3 w1 N m n o).heap[k]? = w1.heap[k]? := fun k hk => by unfold put3; rw [val.blk_other _ hk, val.blk_other _ hk, val.blk_other _ hk]
  have hsz : (put3 w1 N m n o).heap.size = w1.heap.size := by unfold put3; rw [val.set_size, val.set_size, val.set_size]
  refine ⟨⟨⟨(hk b (by omega)).trans h.rd.row⟩, ⟨h.only.os, h.only.tape, h.only.output, by rw [hsz]; exact h.only.size, fun k h1 h2 => (hk k (by omega)).trans (h.only.block k h1 h2)⟩⟩, ?_⟩
  have := val.blk_set (o := 2) (val.blk_set (o := 1) (val.blk_set (o := 0) hh (.int .i64 m)) (.int .u64 n)) (.bool o)
  unfold Hd put3
  simpa using this
/-- The first byte as a text of its own. -/
structure One1 (s F : ByteArray) (i c : Nat) : Prop where
  size : F.size = 1
  byte : ∀ h : 0 < F.size, F[0].toNat = c
  lt : c < 256
  maj : maj s i = c / 32
  low : low s i = c % 32
theorem one_of (s : ByteArray) (i : Nat) (h : i < s.size) : ∃ F c, s.extract i (i + 1) = F ∧ One1 s F i c := by
  refine ⟨_, (at_ s i).toNat, rfl, ⟨by rw [ByteArray.size_extract]; omega, fun h0 => ?_, (at_ s i).toNat_lt, rfl, rfl⟩⟩
  rw [← at_eq s i h, ByteArray.getElem_extract]
  rfl

set_option maxHeartbeats 1000000 in
theorem head_none (s : ByteArray) (i : Int) (b : Nat) (bad : Bool) (W : World) (h : Rd T xs W b s i bad)
    (C : ∀ W, Rd T xs W b s i bad → Calls Tryd.prog 104 #[.pointer (some ⟨b, 0, none⟩), .int .u64 1] W fun e w' => e = .returned (.string ⟨#[]⟩) ∧ RdRet T xs W w' b s i true) :
    Calls Tryd.prog 80 #[.pointer (some ⟨b, 0, none⟩)] W fun e w' => e = .returned (hd 0 0 false) ∧ RdRet T xs W w' b s i true := by
  have hlt := h.lt
  have HC := Lib.hid (C _ (h.alloc (.cells #[.int .i64 0, .int .u64 0, .bool false] 87)))
  have HH := Lib.hid (Hd.new W 0 0 false)
  clear C h
  go_enter Tryd.func80, Tryd.ntmps80
  go_wp2_with fail
  with_reducible refine HC.out.mono ?_
  rintro r w1 ⟨rfl, hr⟩
  have c2 := hr.rd.c2
  have hh := HH.out.only hr.only (by omega)
  obtain ⟨h0, h1, h2, h3⟩ := hh.cells
  have HR := Lib.hid (put3_end (hr.out hlt) hh (Nat.le_refl _) hlt 0 0 false)
  clear hr HC hh HH
  go_wp2
  obtain ⟨k0, k1, k2, _⟩ := HR.out.hd.cells
  unfold put3 at k0 k1 k2 HR
  refine bodyPost_ret (v := hd 0 0 false) (by simp [results, Tryd.results80, go_sem, k0, k1, k2, hd]) rfl ?_
  exact ⟨rfl, HR.out.ret⟩
set_option maxHeartbeats 1000000 in
theorem head_small (s : ByteArray) (i b : Nat) (W : World) (hs : s.size ≤ 1048576) (h : Rd T xs W b s i false) (hi : i < s.size) (hl : low s i < 24) :
    Calls Tryd.prog 80 #[.pointer (some ⟨b, 0, none⟩)] W fun e w' => e = .returned (hd (maj s i) (low s i) false) ∧ RdRet T xs W w' b s ((i : Int) + 1) false := by
  have hlt := h.lt
  obtain ⟨F, c, hF, hO⟩ := one_of s i hi
  have HC : Hid (Calls Tryd.prog 104 #[.pointer (some ⟨b, 0, none⟩), .int .u64 1] (W.alloc (.cells #[.int .i64 0, .int .u64 0, .bool false] 87)) fun e w' => e = .returned (.string F) ∧ RdRet T xs (W.alloc (.cells #[.int .i64 0, .int .u64 0, .bool false] 87)) w' b s ((i : Int) + 1) false) := by
    have := take_yes s i 1 b _ hs (h.alloc (.cells #[.int .i64 0, .int .u64 0, .bool false] 87)) (by omega)
    rw [hF] at this
    exact this
  have HH := Lib.hid (Hd.new W 0 0 false)
  have hF1 := hO.size
  have hF0 := hO.byte
  rw [hO.maj, hO.low]
  rw [hO.low] at hl
  have hc := hO.lt
  have ha : bits .and .u8 (c : Int) 31 = ((c % 32 : Nat) : Int) := by rw [u8_and31 _ (by omega) (by omega)]; rfl
  clear h hF hO hi
  go_enter Tryd.func80, Tryd.ntmps80
  go_wp2_with fail
  with_reducible refine HC.out.mono ?_
  rintro r w1 ⟨rfl, hr⟩
  have c2 := hr.rd.c2
  have hh := HH.out.only hr.only (by omega)
  obtain ⟨h0, h1, h2, h3⟩ := hh.cells
  have HR := Lib.hid (put3_end (hr.out hlt) hh (Nat.le_refl _) hlt ((c : Int) / 32) ((c : Int) % 32) false)
  clear hr HC HH hh
  go_wp2
  go_region
  all_goals go_wp2
  all_goals
    obtain ⟨k0, k1, k2, _⟩ := (Hd.drew HR.out.hd).cells
    unfold put3 at k0 k1 k2 HR
    refine bodyPost_ret (v := .agg #[.int .i64 ((c : Int) / 32), .int .u64 ((c : Int) % 32), .bool false]) (by simp [results, Tryd.results80, go_sem, k0, k1, k2]) rfl ?_
    exact ⟨by unfold hd; simp, HR.out.ret.drew⟩
set_option maxHeartbeats 1000000 in
theorem head_open (s : ByteArray) (i b : Nat) (W : World) (hs : s.size ≤ 1048576) (h : Rd T xs W b s i false) (hi : i < s.size) (hl : low s i = 31) :
    Calls Tryd.prog 80 #[.pointer (some ⟨b, 0, none⟩)] W fun e w' => e = .returned (hd (maj s i) 0 true) ∧ RdRet T xs W w' b s ((i : Int) + 1) false := by
  have hlt := h.lt
  obtain ⟨F, c, hF, hO⟩ := one_of s i hi
  have HC : Hid (Calls Tryd.prog 104 #[.pointer (some ⟨b, 0, none⟩), .int .u64 1] (W.alloc (.cells #[.int .i64 0, .int .u64 0, .bool false] 87)) fun e w' => e = .returned (.string F) ∧ RdRet T xs (W.alloc (.cells #[.int .i64 0, .int .u64 0, .bool false] 87)) w' b s ((i : Int) + 1) false) := by
    have := take_yes s i 1 b _ hs (h.alloc (.cells #[.int .i64 0, .int .u64 0, .bool false] 87)) (by omega)
    rw [hF] at this
    exact this
  have HH := Lib.hid (Hd.new W 0 0 false)
  have hF1 := hO.size
  have hF0 := hO.byte
  rw [hO.maj]
  rw [hO.low] at hl
  have hc := hO.lt
  have ha : bits .and .u8 (c : Int) 31 = ((c % 32 : Nat) : Int) := by rw [u8_and31 _ (by omega) (by omega)]; rfl
  clear h hF hO hi
  go_enter Tryd.func80, Tryd.ntmps80
  go_wp2_with fail
  with_reducible refine HC.out.mono ?_
  rintro r w1 ⟨rfl, hr⟩
  have c2 := hr.rd.c2
  have hh := HH.out.only hr.only (by omega)
  obtain ⟨h0, h1, h2, h3⟩ := hh.cells
  have HR := Lib.hid (put3_end (hr.out hlt) hh (Nat.le_refl _) hlt ((c : Int) / 32) 0 true)
  clear hr HC HH hh
  go_wp2
  go_region
  all_goals go_wp2
  all_goals
    obtain ⟨k0, k1, k2, _⟩ := (Hd.drew HR.out.hd).cells
    unfold put3 at k0 k1 k2 HR
    refine bodyPost_ret (v := .agg #[.int .i64 ((c : Int) / 32), .int .u64 0, .bool true]) (by simp [results, Tryd.results80, go_sem, k0, k1, k2]) rfl ?_
    exact ⟨by unfold hd; simp, HR.out.ret.drew⟩
set_option maxHeartbeats 1000000 in
theorem head_odd (s : ByteArray) (i b : Nat) (W : World) (hs : s.size ≤ 1048576) (h : Rd T xs W b s i false) (hi : i < s.size) (hl : 28 ≤ low s i) (hl2 : low s i ≠ 31) :
    Calls Tryd.prog 80 #[.pointer (some ⟨b, 0, none⟩)] W fun e w' => e = .returned (hd 0 0 false) ∧ RdRet T xs W w' b s ((i : Int) + 1) true := by
  have hlt := h.lt
  obtain ⟨F, c, hF, hO⟩ := one_of s i hi
  have HC : Hid (Calls Tryd.prog 104 #[.pointer (some ⟨b, 0, none⟩), .int .u64 1] (W.alloc (.cells #[.int .i64 0, .int .u64 0, .bool false] 87)) fun e w' => e = .returned (.string F) ∧ RdRet T xs (W.alloc (.cells #[.int .i64 0, .int .u64 0, .bool false] 87)) w' b s ((i : Int) + 1) false) := by
    have := take_yes s i 1 b _ hs (h.alloc (.cells #[.int .i64 0, .int .u64 0, .bool false] 87)) (by omega)
    rw [hF] at this
    exact this
  have HH := Lib.hid (Hd.new W 0 0 false)
  have hF1 := hO.size
  have hF0 := hO.byte
  rw [hO.low] at hl hl2
  have hl3 : ¬ (c : Int) % 32 = 31 := by have := hO.lt; omega
  have hc := hO.lt
  have ha : bits .and .u8 (c : Int) 31 = ((c % 32 : Nat) : Int) := by rw [u8_and31 _ (by omega) (by omega)]; rfl
  clear h hF hO hi
  go_enter Tryd.func80, Tryd.ntmps80
  go_wp2_with fail
  with_reducible refine HC.out.mono ?_
  rintro r w1 ⟨rfl, hr⟩
  have c2 := hr.rd.c2
  have f2 := hr.rd.fr 2
  have hh := HH.out.only hr.only (by omega)
  obtain ⟨h0, h1, h2, h3⟩ := hh.cells
  have hr2 := (hr.trans hr.rd.spoil).out hlt
  have hh2 := hh.only (set_only w1 b 2 (.bool true)) (by omega)
  have HR := Lib.hid (put3_end hr2 hh2 (Nat.le_refl _) hlt 0 0 false)
  clear HC HH hr hh hr2 hh2
  go_wp2
  go_region
  all_goals go_wp2
  all_goals
    obtain ⟨k0, k1, k2, _⟩ := (Hd.drew HR.out.hd).cells
    unfold put3 at k0 k1 k2 HR
    refine bodyPost_ret (v := .agg #[.int .i64 0, .int .u64 0, .bool false]) (by simp [results, Tryd.results80, go_sem, k0, k1, k2]) rfl ?_
    exact ⟨rfl, HR.out.ret.drew⟩
set_option maxHeartbeats 1000000 in
theorem head_1 (s : ByteArray) (i b : Nat) (W : World) (hs : s.size ≤ 1048576) (h : Rd T xs W b s i false) (hi : i < s.size) (hl : low s i = 24) (tl : List UInt8) (J : Int) (bd : Bool) (hlen : tl.length ≤ 8)
    (HT : ∀ W', Rd T xs W' b s ((i : Int) + 1) false → Calls Tryd.prog 104 #[.pointer (some ⟨b, 0, none⟩), .int .u64 1] W' fun e w' => e = .returned (.string ⟨tl.toArray⟩) ∧ RdRet T xs W' w' b s J bd) :
    Calls Tryd.prog 80 #[.pointer (some ⟨b, 0, none⟩)] W fun e w' => e = .returned (hd (maj s i) (beN tl) false) ∧ RdRet T xs W w' b s J bd := by
  have hlt := h.lt
  obtain ⟨F, c, hF, hO⟩ := one_of s i hi
  have HC : Hid (Calls Tryd.prog 104 #[.pointer (some ⟨b, 0, none⟩), .int .u64 1] (W.alloc (.cells #[.int .i64 0, .int .u64 0, .bool false] 87)) fun e w' => e = .returned (.string F) ∧ RdRet T xs (W.alloc (.cells #[.int .i64 0, .int .u64 0, .bool false] 87)) w' b s ((i : Int) + 1) false) := by
    have := take_yes s i 1 b _ hs (h.alloc (.cells #[.int .i64 0, .int .u64 0, .bool false] 87)) (by omega)
    rw [hF] at this
    exact this
  have HH := Lib.hid (Hd.new W 0 0 false)
  have hF1 := hO.size
  have hF0 := hO.byte
  rw [hO.maj]
  rw [hO.low] at hl
  have hc := hO.lt
  have ha : bits .and .u8 (c : Int) 31 = ((c % 32 : Nat) : Int) := by rw [u8_and31 _ (by omega) (by omega)]; rfl
  clear h hF hO hi
  go_enter Tryd.func80, Tryd.ntmps80
  go_wp2_with fail
  with_reducible refine HC.out.mono ?_
  rintro r w1 ⟨rfl, hr⟩
  have c2 := hr.rd.c2
  have hh := HH.out.only hr.only (by omega)
  obtain ⟨h0, h1, h2, h3⟩ := hh.cells
  have CT := Lib.hid (HT w1.drew hr.rd.drew)
  have CB := Lib.hid (fun W => big_end tl W hlen)
  clear HC HH HT hlen
  go_wp2
  go_region
  all_goals
    go_wp2_with fail
    with_reducible refine CT.out.mono ?_
    rintro r w2 ⟨rfl, hr2⟩
    have hr3 := (hr.drew.trans hr2).out hlt
    have hh3 := (Hd.drew hh).only hr2.only (by omega)
    obtain ⟨j0, j1, j2, j3⟩ := hh3.cells
    have HR := Lib.hid (put3_end hr3 hh3 (Nat.le_refl _) hlt ((c : Int) / 32) (beN tl : Int) false)
    clear hr hh hr2 hr3 hh3 CT h0 h1 h2 h3 c2 hF0 hF1 ha
    go_wp2_with fail
    with_reducible refine (CB.out _).mono ?_
    rintro r w3 ⟨rfl, rfl⟩
    clear CB
    go_wp2
    obtain ⟨k0, k1, k2, _⟩ := HR.out.hd.cells
    unfold put3 at k0 k1 k2 HR
    refine bodyPost_ret (v := .agg #[.int .i64 ((c : Int) / 32), .int .u64 (beN tl : Int), .bool false]) (by simp [results, Tryd.results80, go_sem, k0, k1, k2]) rfl ?_
    exact ⟨by unfold hd; simp, HR.out.ret⟩
set_option maxHeartbeats 1000000 in
theorem head_2 (s : ByteArray) (i b : Nat) (W : World) (hs : s.size ≤ 1048576) (h : Rd T xs W b s i false) (hi : i < s.size) (hl : low s i = 25) (tl : List UInt8) (J : Int) (bd : Bool) (hlen : tl.length ≤ 8)
    (HT : ∀ W', Rd T xs W' b s ((i : Int) + 1) false → Calls Tryd.prog 104 #[.pointer (some ⟨b, 0, none⟩), .int .u64 2] W' fun e w' => e = .returned (.string ⟨tl.toArray⟩) ∧ RdRet T xs W' w' b s J bd) :
    Calls Tryd.prog 80 #[.pointer (some ⟨b, 0, none⟩)] W fun e w' => e = .returned (hd (maj s i) (beN tl) false) ∧ RdRet T xs W w' b s J bd := by
  have hlt := h.lt
  obtain ⟨F, c, hF, hO⟩ := one_of s i hi
  have HC : Hid (Calls Tryd.prog 104 #[.pointer (some ⟨b, 0, none⟩), .int .u64 1] (W.alloc (.cells #[.int .i64 0, .int .u64 0, .bool false] 87)) fun e w' => e = .returned (.string F) ∧ RdRet T xs (W.alloc (.cells #[.int .i64 0, .int .u64 0, .bool false] 87)) w' b s ((i : Int) + 1) false) := by
    have := take_yes s i 1 b _ hs (h.alloc (.cells #[.int .i64 0, .int .u64 0, .bool false] 87)) (by omega)
    rw [hF] at this
    exact this
  have HH := Lib.hid (Hd.new W 0 0 false)
  have hF1 := hO.size
  have hF0 := hO.byte
  rw [hO.maj]
  rw [hO.low] at hl
  have hc := hO.lt
  have ha : bits .and .u8 (c : Int) 31 = ((c % 32 : Nat) : Int) := by rw [u8_and31 _ (by omega) (by omega)]; rfl
  clear h hF hO hi
  go_enter Tryd.func80, Tryd.ntmps80
  go_wp2_with fail
  with_reducible refine HC.out.mono ?_
  rintro r w1 ⟨rfl, hr⟩
  have c2 := hr.rd.c2
  have hh := HH.out.only hr.only (by omega)
  obtain ⟨h0, h1, h2, h3⟩ := hh.cells
  have CT := Lib.hid (HT w1.drew hr.rd.drew)
  have CB := Lib.hid (fun W => big_end tl W hlen)
  clear HC HH HT hlen
  go_wp2
  go_region
  all_goals
    go_wp2_with fail
    with_reducible refine CT.out.mono ?_
    rintro r w2 ⟨rfl, hr2⟩
    have hr3 := (hr.drew.trans hr2).out hlt
    have hh3 := (Hd.drew hh).only hr2.only (by omega)
    obtain ⟨j0, j1, j2, j3⟩ := hh3.cells
    have HR := Lib.hid (put3_end hr3 hh3 (Nat.le_refl _) hlt ((c : Int) / 32) (beN tl : Int) false)
    clear hr hh hr2 hr3 hh3 CT h0 h1 h2 h3 c2 hF0 hF1 ha
    go_wp2_with fail
    with_reducible refine (CB.out _).mono ?_
    rintro r w3 ⟨rfl, rfl⟩
    clear CB
    go_wp2
    obtain ⟨k0, k1, k2, _⟩ := HR.out.hd.cells
    unfold put3 at k0 k1 k2 HR
    refine bodyPost_ret (v := .agg #[.int .i64 ((c : Int) / 32), .int .u64 (beN tl : Int), .bool false]) (by simp [results, Tryd.results80, go_sem, k0, k1, k2]) rfl ?_
    exact ⟨by unfold hd; simp, HR.out.ret⟩
set_option maxHeartbeats 1000000 in
theorem head_4 (s : ByteArray) (i b : Nat) (W : World) (hs : s.size ≤ 1048576) (h : Rd T xs W b s i false) (hi : i < s.size) (hl : low s i = 26) (tl : List UInt8) (J : Int) (bd : Bool) (hlen : tl.length ≤ 8)
    (HT : ∀ W', Rd T xs W' b s ((i : Int) + 1) false → Calls Tryd.prog 104 #[.pointer (some ⟨b, 0, none⟩), .int .u64 4] W' fun e w' => e = .returned (.string ⟨tl.toArray⟩) ∧ RdRet T xs W' w' b s J bd) :
    Calls Tryd.prog 80 #[.pointer (some ⟨b, 0, none⟩)] W fun e w' => e = .returned (hd (maj s i) (beN tl) false) ∧ RdRet T xs W w' b s J bd := by
  have hlt := h.lt
  obtain ⟨F, c, hF, hO⟩ := one_of s i hi
  have HC : Hid (Calls Tryd.prog 104 #[.pointer (some ⟨b, 0, none⟩), .int .u64 1] (W.alloc (.cells #[.int .i64 0, .int .u64 0, .bool false] 87)) fun e w' => e = .returned (.string F) ∧ RdRet T xs (W.alloc (.cells #[.int .i64 0, .int .u64 0, .bool false] 87)) w' b s ((i : Int) + 1) false) := by
    have := take_yes s i 1 b _ hs (h.alloc (.cells #[.int .i64 0, .int .u64 0, .bool false] 87)) (by omega)
    rw [hF] at this
    exact this
  have HH := Lib.hid (Hd.new W 0 0 false)
  have hF1 := hO.size
  have hF0 := hO.byte
  rw [hO.maj]
  rw [hO.low] at hl
  have hc := hO.lt
  have ha : bits .and .u8 (c : Int) 31 = ((c % 32 : Nat) : Int) := by rw [u8_and31 _ (by omega) (by omega)]; rfl
  clear h hF hO hi
  go_enter Tryd.func80, Tryd.ntmps80
  go_wp2_with fail
  with_reducible refine HC.out.mono ?_
  rintro r w1 ⟨rfl, hr⟩
  have c2 := hr.rd.c2
  have hh := HH.out.only hr.only (by omega)
  obtain ⟨h0, h1, h2, h3⟩ := hh.cells
  have CT := Lib.hid (HT w1.drew hr.rd.drew)
  have CB := Lib.hid (fun W => big_end tl W hlen)
  clear HC HH HT hlen
  go_wp2
  go_region
  all_goals
    go_wp2_with fail
    with_reducible refine CT.out.mono ?_
    rintro r w2 ⟨rfl, hr2⟩
    have hr3 := (hr.drew.trans hr2).out hlt
    have hh3 := (Hd.drew hh).only hr2.only (by omega)
    obtain ⟨j0, j1, j2, j3⟩ := hh3.cells
    have HR := Lib.hid (put3_end hr3 hh3 (Nat.le_refl _) hlt ((c : Int) / 32) (beN tl : Int) false)
    clear hr hh hr2 hr3 hh3 CT h0 h1 h2 h3 c2 hF0 hF1 ha
    go_wp2_with fail
    with_reducible refine (CB.out _).mono ?_
    rintro r w3 ⟨rfl, rfl⟩
    clear CB
    go_wp2
    obtain ⟨k0, k1, k2, _⟩ := HR.out.hd.cells
    unfold put3 at k0 k1 k2 HR
    refine bodyPost_ret (v := .agg #[.int .i64 ((c : Int) / 32), .int .u64 (beN tl : Int), .bool false]) (by simp [results, Tryd.results80, go_sem, k0, k1, k2]) rfl ?_
    exact ⟨by unfold hd; simp, HR.out.ret⟩
set_option maxHeartbeats 1000000 in
theorem head_8 (s : ByteArray) (i b : Nat) (W : World) (hs : s.size ≤ 1048576) (h : Rd T xs W b s i false) (hi : i < s.size) (hl : low s i = 27) (tl : List UInt8) (J : Int) (bd : Bool) (hlen : tl.length ≤ 8)
    (HT : ∀ W', Rd T xs W' b s ((i : Int) + 1) false → Calls Tryd.prog 104 #[.pointer (some ⟨b, 0, none⟩), .int .u64 8] W' fun e w' => e = .returned (.string ⟨tl.toArray⟩) ∧ RdRet T xs W' w' b s J bd) :
    Calls Tryd.prog 80 #[.pointer (some ⟨b, 0, none⟩)] W fun e w' => e = .returned (hd (maj s i) (beN tl) false) ∧ RdRet T xs W w' b s J bd := by
  have hlt := h.lt
  obtain ⟨F, c, hF, hO⟩ := one_of s i hi
  have HC : Hid (Calls Tryd.prog 104 #[.pointer (some ⟨b, 0, none⟩), .int .u64 1] (W.alloc (.cells #[.int .i64 0, .int .u64 0, .bool false] 87)) fun e w' => e = .returned (.string F) ∧ RdRet T xs (W.alloc (.cells #[.int .i64 0, .int .u64 0, .bool false] 87)) w' b s ((i : Int) + 1) false) := by
    have := take_yes s i 1 b _ hs (h.alloc (.cells #[.int .i64 0, .int .u64 0, .bool false] 87)) (by omega)
    rw [hF] at this
    exact this
  have HH := Lib.hid (Hd.new W 0 0 false)
  have hF1 := hO.size
  have hF0 := hO.byte
  rw [hO.maj]
  rw [hO.low] at hl
  have hc := hO.lt
  have ha : bits .and .u8 (c : Int) 31 = ((c % 32 : Nat) : Int) := by rw [u8_and31 _ (by omega) (by omega)]; rfl
  clear h hF hO hi
  go_enter Tryd.func80, Tryd.ntmps80
  go_wp2_with fail
  with_reducible refine HC.out.mono ?_
  rintro r w1 ⟨rfl, hr⟩
  have c2 := hr.rd.c2
  have hh := HH.out.only hr.only (by omega)
  obtain ⟨h0, h1, h2, h3⟩ := hh.cells
  have CT := Lib.hid (HT w1.drew hr.rd.drew)
  have CB := Lib.hid (fun W => big_end tl W hlen)
  clear HC HH HT hlen
  go_wp2
  go_region
  all_goals
    go_wp2_with fail
    with_reducible refine CT.out.mono ?_
    rintro r w2 ⟨rfl, hr2⟩
    have hr3 := (hr.drew.trans hr2).out hlt
    have hh3 := (Hd.drew hh).only hr2.only (by omega)
    obtain ⟨j0, j1, j2, j3⟩ := hh3.cells
    have HR := Lib.hid (put3_end hr3 hh3 (Nat.le_refl _) hlt ((c : Int) / 32) (beN tl : Int) false)
    clear hr hh hr2 hr3 hh3 CT h0 h1 h2 h3 c2 hF0 hF1 ha
    go_wp2_with fail
    with_reducible refine (CB.out _).mono ?_
    rintro r w3 ⟨rfl, rfl⟩
    clear CB
    go_wp2
    obtain ⟨k0, k1, k2, _⟩ := HR.out.hd.cells
    unfold put3 at k0 k1 k2 HR
    refine bodyPost_ret (v := .agg #[.int .i64 ((c : Int) / 32), .int .u64 (beN tl : Int), .bool false]) (by simp [results, Tryd.results80, go_sem, k0, k1, k2]) rfl ?_
    exact ⟨by unfold hd; simp, HR.out.ret⟩
/-- What getHead tells of a head at a place within the text. -/
structure HeadRet (T : TypeId) (xs : List Value) (W w' : World) (b : Nat) (s : ByteArray) (i : Nat) (m n : Nat) (o : Bool) (j : Int) (bad : Bool) : Prop where
  ret : RdRet T xs W w' b s j bad
  m_lt : m < 8
  n_lt : n < 18446744073709551616
  j0 : 0 ≤ j
  j1 : j ≤ s.size
  yes : anyOk s i → m = maj s i ∧ n = num s i ∧ o = false ∧ j = (i : Int) + 1 + many s i ∧ bad = false
  no : ¬ anyOk s i → bad = true ∨ o = true
theorem cut_tail (s : ByteArray) (i M : Nat) (h : i + 1 + M ≤ s.size) : s.extract (i + 1) (i + 1 + M) = ⟨((s.data.toList.drop (i + 1)).take M).toArray⟩ := by
  apply ByteArray.ext
  apply Array.toList_inj.1
  rw [ByteArray.data_extract, Array.toList_extract, List.extract_eq_take_drop]
  simp
theorem beN_small (l : List UInt8) (h : l.length ≤ 8) : beN l < 18446744073709551616 := by
  have h1 := beN_lt l
  have h3 : 256 ^ l.length ≤ 256 ^ 8 := Nat.pow_le_pow_right (by omega) h
  omega
theorem long_any (s : ByteArray) (i b M : Nat) (W : World) (hs : s.size ≤ 1048576) (h : Rd T xs W b s i false) (hi : i < s.size) (h24 : ¬ low s i < 24) (h28 : low s i < 28) (hM : 2 ^ (low s i - 24) = M) (hM8 : M ≤ 8)
    (C : ∀ (tl : List UInt8) (J : Int) (bd : Bool), tl.length ≤ 8 → (∀ W', Rd T xs W' b s ((i : Int) + 1) false → Calls Tryd.prog 104 #[.pointer (some ⟨b, 0, none⟩), .int .u64 M] W' fun e w' => e = .returned (.string ⟨tl.toArray⟩) ∧ RdRet T xs W' w' b s J bd) →
      Calls Tryd.prog 80 #[.pointer (some ⟨b, 0, none⟩)] W fun e w' => e = .returned (hd (maj s i) (beN tl) false) ∧ RdRet T xs W w' b s J bd) :
    Calls Tryd.prog 80 #[.pointer (some ⟨b, 0, none⟩)] W fun e w' => ∃ m n o j bad, e = .returned (hd m n o) ∧ HeadRet T xs W w' b s i m n o j bad := by
  have em : many s i = M := by unfold many; rw [if_neg h24, hM]
  by_cases hz : i + 1 + M ≤ s.size
  · have ok : anyOk s i := ⟨hi, h28, by omega⟩
    have et : (s.data.toList.drop (i + 1)).take M = tail s i := by unfold tail; rw [em]
    have en : num s i = beN (tail s i) := if_neg h24
    refine (C ((s.data.toList.drop (i + 1)).take M) ((i : Int) + 1 + M) false (by rw [List.length_take]; omega) (fun W' hW' => ?_)).mono ?_
    · have := take_yes s (i + 1) M b W' hs (by simpa using hW') hz
      rw [cut_tail s i M hz] at this
      simpa using this
    · rintro e w' ⟨rfl, hr⟩
      refine ⟨_, _, _, _, _, rfl, ⟨hr, maj_lt s i, beN_small _ (by rw [List.length_take]; omega), by omega, by omega, fun _ => ⟨rfl, by rw [en, et], rfl, by rw [em], rfl⟩, fun h => (h ok).elim⟩⟩
  · refine (C [] ((i : Int) + 1) true (by simp) (fun W' hW' => ?_)).mono ?_
    · have := take_far s (i + 1) M b W' hs (by simpa using hW') (by omega) (by omega)
      simpa using this
    · rintro e w' ⟨rfl, hr⟩
      exact ⟨_, _, _, _, _, rfl, ⟨hr, maj_lt s i, by decide, by omega, by omega, fun h => (hz (by have := h.2.2; omega)).elim, fun _ => .inl rfl⟩⟩
theorem head_any (s : ByteArray) (i b : Nat) (W : World) (hs : s.size ≤ 1048576) (h : Rd T xs W b s i false) (hi : i < s.size) :
    Calls Tryd.prog 80 #[.pointer (some ⟨b, 0, none⟩)] W fun e w' => ∃ m n o j bad, e = .returned (hd m n o) ∧ HeadRet T xs W w' b s i m n o j bad := by
  have h32 : low s i < 32 := Nat.mod_lt _ (by omega)
  by_cases h1 : low s i < 24
  · have em : many s i = 0 := if_pos h1
    refine (head_small s i b W hs h hi h1).mono ?_
    rintro e w' ⟨rfl, hr⟩
    exact ⟨_, _, _, _, _, rfl, ⟨hr, maj_lt s i, by omega, by omega, by omega, fun _ => ⟨rfl, (if_pos h1).symm, rfl, by rw [em]; simp, rfl⟩, fun hn => (hn ⟨hi, by omega, by omega⟩).elim⟩⟩
  by_cases h2 : low s i < 28
  · rcases (show low s i = 24 ∨ low s i = 25 ∨ low s i = 26 ∨ low s i = 27 by omega) with h3 | h3 | h3 | h3
    · exact long_any s i b 1 W hs h hi h1 h2 (by rw [h3]) (by omega) (head_1 s i b W hs h hi h3)
    · exact long_any s i b 2 W hs h hi h1 h2 (by rw [h3]) (by omega) (head_2 s i b W hs h hi h3)
    · exact long_any s i b 4 W hs h hi h1 h2 (by rw [h3]) (by omega) (head_4 s i b W hs h hi h3)
    · exact long_any s i b 8 W hs h hi h1 h2 (by rw [h3]) (by omega) (head_8 s i b W hs h hi h3)
  by_cases h3 : low s i = 31
  · refine (head_open s i b W hs h hi h3).mono ?_
    rintro e w' ⟨rfl, hr⟩
    exact ⟨_, _, _, _, _, rfl, ⟨hr, maj_lt s i, by decide, by omega, by omega, fun hn => (h2 hn.2.1).elim, fun _ => .inr rfl⟩⟩
  · refine (head_odd s i b W hs h hi (by omega) h3).mono ?_
    rintro e w' ⟨rfl, hr⟩
    exact ⟨_, _, _, _, _, rfl, ⟨hr, by omega, by decide, by omega, by omega, fun hn => (h2 hn.2.1).elim, fun _ => .inl rfl⟩⟩

end Go.Proofs.YtnaghafmpncdkaaDoor.head
