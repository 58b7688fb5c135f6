/-
  What impl's MessagePack reader does with a number: take on such a reader, getWide. What impl.GetWide returns.
-/
import Derived.Test.YtghcgkpeimpghaaWideGet
import Derived.Test.YtghcgkpeimpghaaReaderWalk
namespace Go.Proofs.Ytghcgkpeimpghaa.wide
open Go.ChangeShapes Go.WideShapes Go.ChangeAt Go.RowKit Go.Proofs.Ytghcgkpeimpghaa.head
set_option maxRecDepth 100000

/-- A reader's block: its text, the index up to which it was read, whether something did not fit, how many values it has begun. -/
structure Rm (W : World) (b : Nat) (s : ByteArray) (i : Int) (bad : Bool) (c : Int) : Prop where
  row : W.heap[b]? = some (.cells #[.string s, .int .i64 i, .bool bad, .int .i64 c] 80 (0, 0))
section
variable {W w' w1 w2 : World} {b : Nat} {s : ByteArray} {i j c : Int} {bad bad' : Bool}
theorem Rm.c0 (h : Rm W b s i bad c) : W.cell? ⟨b, 0, none⟩ = some (.string s) := cell_of_row W b 0 _ _ (0, 0) h.row
theorem Rm.c1 (h : Rm W b s i bad c) : W.cell? ⟨b, 1, none⟩ = some (.int .i64 i) := cell_of_row W b 1 _ _ (0, 0) h.row
theorem Rm.c2 (h : Rm W b s i bad c) : W.cell? ⟨b, 2, none⟩ = some (.bool bad) := cell_of_row W b 2 _ _ (0, 0) h.row
theorem Rm.c3 (h : Rm W b s i bad c) : W.cell? ⟨b, 3, none⟩ = some (.int .i64 c) := cell_of_row W b 3 _ _ (0, 0) h.row
theorem Rm.fr (h : Rm W b s i bad c) (o : Nat) : W.frozen? ⟨b, o, none⟩ = false := frozen_of_row W b o _ _ h.row
theorem Rm.lt (h : Rm W b s i bad c) : b < W.heap.size := (Array.getElem?_eq_some_iff.1 h.row).1
theorem Rm.drew (h : Rm W b s i bad c) : Rm W.drew b s i bad c := ⟨h.row⟩
/-- What a call on the reader leaves: no other old block is changed. -/
structure RmRet (W w' : World) (b : Nat) (s : ByteArray) (i : Int) (bad : Bool) (c : Int) : Prop where
  rd : Rm w' b s i bad c
  only : W.grownBy w' (some b)
theorem RmRet.drew (h : RmRet W w' b s i bad c) : RmRet W w'.drew b s i bad c := ⟨h.rd.drew, ⟨h.only.os, h.only.tape, h.only.output, h.only.size, h.only.block⟩⟩
theorem RmRet.trans (h : RmRet W w1 b s i bad c) (k : RmRet w1 w2 b s j bad' c) : RmRet W w2 b s j bad' c :=
  ⟨k.rd, ⟨k.only.os.trans h.only.os, k.only.tape.trans h.only.tape, k.only.output.trans h.only.output, Nat.le_trans h.only.size k.only.size, fun x hx hn => (k.only.block x (Nat.lt_of_lt_of_le hx h.only.size) hn).trans (h.only.block x hx hn)⟩⟩
theorem RmRet.below (h : RmRet W w' b s i bad c) (hb : b < W.heap.size) : Below b W w' :=
  ⟨h.only.os, h.only.tape, h.only.output, h.only.size, fun k hk => h.only.block k (by omega) (fun e => by injection e with e; omega)⟩
theorem Rm.spoil (h : Rm W b s i bad c) : RmRet W (W.setCell ⟨b, 2, none⟩ (.bool true)) b s i true c :=
  ⟨⟨by have := val.blk_set (o := 2) h.row (.bool true); simpa using this⟩, set_only W b 2 _⟩
theorem Rm.move (h : Rm W b s i bad c) (j : Int) : RmRet W (W.setCell ⟨b, 1, none⟩ (.int .i64 j)) b s j bad c :=
  ⟨⟨by have := val.blk_set (o := 1) h.row (.int .i64 j); simpa using this⟩, set_only W b 1 _⟩
end

set_option maxHeartbeats 1000000 in
theorem take_bad (s : ByteArray) (i : Int) (n : Int) (b : Nat) (c : Int) (W : World) (h : Rm W b s i true c) :
    Calls Try.prog 97 #[.pointer (some ⟨b, 0, none⟩), .int .u64 n] W fun e w' => e = .returned (.string ⟨#[]⟩) ∧ RmRet W w' b s i true c := by
  have c0 := h.c0
  have c1 := h.c1
  have c2 := h.c2
  have f2 := h.fr 2
  have HR := Lib.hid h.spoil
  clear h
  go_enter Try.func97, Try.ntmps97
  go_wp2
  go_region
  all_goals go_wp2
  all_goals go_ret
  all_goals exact ⟨rfl, HR.out.drew⟩
set_option maxHeartbeats 1000000 in
theorem take_far (s : ByteArray) (i n b : Nat) (c : Int) (W : World) (hs : s.size ≤ 1048576) (h : Rm W b s i false c) (hi : i ≤ s.size) (hn : s.size - i < n) :
    Calls Try.prog 97 #[.pointer (some ⟨b, 0, none⟩), .int .u64 n] W fun e w' => e = .returned (.string ⟨#[]⟩) ∧ RmRet W w' b s i true c := by
  have c0 := h.c0
  have c1 := h.c1
  have c2 := h.c2
  have f2 := h.fr 2
  have HR := Lib.hid h.spoil
  have hx : (s.size : Int) - i < n := by omega
  have hy : (0 : Int) ≤ (s.size : Int) - i := by omega
  clear h
  go_enter Try.func97, Try.ntmps97
  go_wp2
  go_region
  all_goals go_wp2
  all_goals go_ret
  all_goals exact ⟨rfl, HR.out.drew⟩
set_option maxHeartbeats 1000000 in
theorem take_yes (s : ByteArray) (i n b : Nat) (c : Int) (W : World) (hs : s.size ≤ 1048576) (h : Rm W b s i false c) (hi : i + n ≤ s.size) :
    Calls Try.prog 97 #[.pointer (some ⟨b, 0, none⟩), .int .u64 n] W fun e w' => e = .returned (.string ⟨(bytesAt s i n).toArray⟩) ∧ RmRet W w' b s ((i : Int) + n) false c := by
  rw [← bytesAt_cut hi]
  have c0 := h.c0
  have c1 := h.c1
  have c2 := h.c2
  have f1 := h.fr 1
  have HR := Lib.hid (h.move ((i : Int) + n))
  have hx : (n : Int) ≤ (s.size : Int) - i := by omega
  have hy : (0 : Int) ≤ (s.size : Int) - i := by omega
  clear h
  go_enter Try.func97, Try.ntmps97
  go_wp2
  go_region
  all_goals go_wp2
  all_goals
    have q1 : (i : Int) ≤ (i : Int) + n := by omega
    have q2 : (i : Int) + n ≤ (s.size : Int) := by omega
    have q3 : (0 : Int) ≤ (i : Int) := by omega
    have q4 : ((i : Int) + n).toNat = i + n := by omega
    go_region
    all_goals go_wp2
    all_goals go_ret
    all_goals exact ⟨by first | rfl | (rw [q4]), HR.out.drew.drew⟩

theorem wrap_nil : wrap64 ((beN [] : Nat) : Int) = 0 := by simp [beN, wrap64]
/-- getWide, by what take returns. -/
theorem wide_of (s : ByteArray) (i m : Int) (b : Nat) (c : Int) (l : List UInt8) (J : Int) (bd : Bool) (W : World) (h1 : 1 ≤ m) (h8 : m ≤ 8) (hl : l.length ≤ 8)
    (CT : Calls Try.prog 97 #[.pointer (some ⟨b, 0, none⟩), .int .u64 m] W fun e w' => e = .returned (.string ⟨l.toArray⟩) ∧ RmRet W w' b s J bd c) :
    Calls Try.prog 65 #[.pointer (some ⟨b, 0, none⟩), .int .i64 m] W fun e w' => e = .returned (.int .i64 (wrap64 (beN l : Nat))) ∧ RmRet W w' b s J bd c := by
  have CB := Lib.hid (fun W => big_end l W hl)
  have g1 : ¬ m < 1 := by omega
  have g2 : ¬ (8 : Int) < m := by omega
  replace CT := Lib.hid CT
  clear hl
  go_enter Try.func65, Try.ntmps65
  go_wp2_with fail
  with_reducible refine CT.out.mono ?_
  rintro r w1 ⟨rfl, hr⟩
  have HR := Lib.hid hr
  clear hr CT
  go_wp2_with fail
  with_reducible refine (CB.out _).mono ?_
  rintro r w2 ⟨rfl, rfl⟩
  clear CB
  go_wp2
  go_ret
  exact ⟨rfl, HR.out⟩
theorem wide_odd (s : ByteArray) (i m : Int) (b : Nat) (c : Int) (bd : Bool) (W : World) (h : ¬ (1 ≤ m ∧ m ≤ 8)) (hr : Rm W b s i bd c) :
    Calls Try.prog 65 #[.pointer (some ⟨b, 0, none⟩), .int .i64 m] W fun e w' => e = .returned (.int .i64 0) ∧ RmRet W w' b s i true c := by
  have CB := Lib.hid (fun W => big_end [] W (by simp))
  have CT := Lib.hid (take_bad s i (IntKind.u64.wrap m) b c _ hr.spoil.rd)
  have c2 := hr.c2
  have f2 := hr.fr 2
  have HR0 := Lib.hid hr.spoil
  clear hr
  have hm : m < 1 ∨ 8 < m := by omega
  clear h
  rcases hm with hm | hm
  all_goals
    go_enter Try.func65, Try.ntmps65
    go_wp2_with fail
    with_reducible refine CT.out.mono ?_
    rintro r w1 ⟨rfl, hr⟩
    have HR := Lib.hid (HR0.out.trans hr)
    clear hr CT HR0
    go_wp2_with fail
    with_reducible refine (CB.out _).mono ?_
    rintro r w2 ⟨rfl, rfl⟩
    clear CB
    go_wp2
    go_ret
    exact ⟨congrArg (fun x => Ending.returned (.int .i64 x)) wrap_nil, HR.out⟩
def badAt (s : ByteArray) (i : Int) : Bool := decide (i < 0) || decide ((s.size : Int) < i)
/-- What getWide leaves of a new reader. -/
structure WideRet (W w' : World) (b : Nat) (s : ByteArray) (i m : Int) (n : Int) (bad : Bool) : Prop where
  ret : ∃ j, RmRet W w' b s j bad 0
  n_eq : n = wideN s i m
  bad_eq : bad = !decide (wideOk s i m)
theorem wide_any (s : ByteArray) (i m : Int) (b : Nat) (W : World) (hs : s.size ≤ 1048576) (h : Rm W b s i (badAt s i) 0) :
    Calls Try.prog 65 #[.pointer (some ⟨b, 0, none⟩), .int .i64 m] W fun e w' => ∃ n bad, e = .returned (.int .i64 n) ∧ WideRet W w' b s i m n bad := by
  by_cases hm : 1 ≤ m ∧ m ≤ 8
  · by_cases h0 : i < 0 ∨ (s.size : Int) < i
    · have eb : badAt s i = true := by unfold badAt; simpa using h0
      have hn : ¬ wideOk s i m := fun h' => by have := h'.2; omega
      rw [eb] at h
      refine (wide_of s i m b 0 [] i true W hm.1 hm.2 (by simp) (take_bad s i m b 0 W h)).mono ?_
      rintro e w' ⟨rfl, hr⟩
      exact ⟨_, _, rfl, ⟨⟨_, hr⟩, by unfold wideN; rw [if_neg hn]; exact wrap_nil, by rw [decide_eq_false hn]; rfl⟩⟩
    · have eb : badAt s i = false := by unfold badAt; simpa using h0
      obtain ⟨k, rfl⟩ : ∃ k : Nat, i = k := ⟨i.toNat, by omega⟩
      obtain ⟨q, rfl⟩ : ∃ q : Nat, m = q := ⟨m.toNat, by omega⟩
      rw [eb] at h
      by_cases hz : k + q ≤ s.size
      · have hy : wideOk s k q := ⟨hm, by omega, by omega⟩
        refine (wide_of s k q b 0 (bytesAt s k q) _ false W hm.1 hm.2 (by rw [bytesAt_len hz]; omega) (take_yes s k q b 0 W hs h hz)).mono ?_
        rintro e w' ⟨rfl, hr⟩
        exact ⟨_, _, rfl, ⟨⟨_, hr⟩, by unfold wideN; rw [if_pos hy]; rfl, by rw [decide_eq_true hy]; rfl⟩⟩
      · have hn : ¬ wideOk s k q := fun h' => by have := h'.2; omega
        refine (wide_of s k q b 0 [] _ true W hm.1 hm.2 (by simp) (take_far s k q b 0 W hs h (by omega) (by omega))).mono ?_
        rintro e w' ⟨rfl, hr⟩
        exact ⟨_, _, rfl, ⟨⟨_, hr⟩, by unfold wideN; rw [if_neg hn]; exact wrap_nil, by rw [decide_eq_false hn]; rfl⟩⟩
  · have hn : ¬ wideOk s i m := fun h' => hm h'.1
    refine (wide_odd s i m b 0 _ W hm h).mono ?_
    rintro e w' ⟨rfl, hr⟩
    exact ⟨_, _, rfl, ⟨⟨_, hr⟩, by unfold wideN; rw [if_neg hn], by rw [decide_eq_false hn]; rfl⟩⟩
theorem cells3 (W : World) (a b c : Value) (T : TypeId) : (W.alloc (.cells #[a, b, c] T)).cell? ⟨W.heap.size, 0, none⟩ = some a ∧ (W.alloc (.cells #[a, b, c] T)).cell? ⟨W.heap.size, 1, none⟩ = some b ∧ (W.alloc (.cells #[a, b, c] T)).cell? ⟨W.heap.size, 2, none⟩ = some c := by
  have h := heap_alloc_new W (.cells #[a, b, c] T)
  exact ⟨cell_of_row _ _ 0 _ _ (0, 0) h, cell_of_row _ _ 1 _ _ (0, 0) h, cell_of_row _ _ 2 _ _ (0, 0) h⟩
set_option maxHeartbeats 1000000 in
theorem reader_any (s : ByteArray) (i : Int) (W : World) (hs : s.size ≤ 1048576) :
    Calls Try.prog 59 #[.string s, .int .i64 i] W fun e w' => e = .returned (.agg #[.string s, .int .i64 i, .bool (badAt s i)]) ∧ Below W.heap.size W w' := by
  unfold badAt
  go_enter Try.func59, Try.ntmps59
  go_wp2
  all_goals first
    | (obtain ⟨k0, k1, k2⟩ := cells3 W (.string s) (.int .i64 i) (.bool true) 77
       refine bodyPost_ret (v := .agg #[.string s, .int .i64 i, .bool true]) (by simp [results, Try.results59, go_sem, k0, k1, k2]; done) rfl ?_
       exact ⟨rfl, (Below.refl _ _).alloc (Nat.le_refl _) _⟩)
    | (obtain ⟨k0, k1, k2⟩ := cells3 W (.string s) (.int .i64 i) (.bool (decide (i < 0) || decide ((s.size : Int) < i))) 77
       refine bodyPost_ret (v := .agg #[.string s, .int .i64 i, .bool (decide (i < 0) || decide ((s.size : Int) < i))]) (by simp [results, Try.results59, go_sem, k0, k1, k2]; done) rfl ?_
       exact ⟨rfl, (Below.refl _ _).alloc (Nat.le_refl _) _⟩)
theorem Rm.new (W : World) (s : ByteArray) (i : Int) (bad : Bool) : Rm (W.alloc (.cells #[.string s, .int .i64 i, .bool bad, .int .i64 0] 80)) W.heap.size s i bad 0 := ⟨heap_alloc_new W _⟩
set_option maxHeartbeats 1000000 in
theorem get_wide_impl (s : ByteArray) (i m : Int) (w : World) (hs : s.size ≤ 1048576) :
    Calls Try.prog 33 #[.string s, .int .i64 i, .int .i64 m] w fun e w' => e = .returned (two (wideN s i m) (decide (wideOk s i m))) ∧ Below w.heap.size w w' := by
  have CR := Lib.hid (fun W => reader_any s i W hs)
  have CS := Lib.hid (fun b W h => wide_any s i m b W hs h)
  generalize badAt s i = B at *
  clear hs
  go_enter Try.func33, Try.ntmps33
  go_wp2_with fail
  with_reducible refine (CR.out _).mono ?_
  rintro r w1 ⟨rfl, hb⟩
  have HB := Lib.hid (hb.alloc hb.size (.cells #[.string s, .int .i64 i, .bool B, .int .i64 0] 80))
  have HD := Lib.hid (Rm.new w1 s i B)
  have hz := hb.size
  clear hb CR
  go_wp2_with fail
  generalize w1.alloc (.cells #[.string s, .int .i64 i, .bool B, .int .i64 0] 80) = WA at *
  generalize w1.heap.size = b at *
  with_reducible refine (CS.out _ _ HD.out).mono ?_
  rintro r w2 ⟨n, bad, rfl, ⟨j, hr⟩, rfl, hbad⟩
  have d2 := hr.rd.c2
  have hbl : b < w2.heap.size := hr.rd.lt
  have HB2 : Hid (Below w.heap.size w w2) := HB.out.trans ((hr.below HD.out.lt).mono hz)
  have HV : Hid (decide (wideOk s i m) = !bad) := by unfold Hid; rw [hbad, Bool.not_not]
  clear hr HB HD hbad
  go_wp2
  go_region
  all_goals
    go_wp2
    go_ret2
    exact ⟨by rw [HV.out]; rfl, belowN HB2.out 1⟩

end Go.Proofs.Ytghcgkpeimpghaa.wide
