/-
  spec's walk over heads: where a head of one byte stands.
-/
import Derived.Test.YtnaghafmpncdkaaDoorSpecBeg0
namespace Go.Proofs.YtnaghafmpncdkaaDoor.beg
open Go.ChangeShapes Go.WideShapes Go.ChangeAt Go.RowKit
open Go.Proofs.YtnaghafmpncdkaaDoor.head
set_option maxRecDepth 100000

set_option maxHeartbeats 2000000 in
theorem wfail_S (W : World) (b : Nat) (s : ByteArray) (i left d : Nat) (hs : s.size ≤ 1048576) (hl0 : 0 < left) (hl : left ≤ 2000) (hd : d ≤ 14) (h : LC W b left) (hi : i < s.size) (hlow : low s i < 24) (he : getHead s i = (-1, 0, -1)) :
    Calls Tryd.prog 33 #[.string s, .int .i64 i, .int .i64 d, .pointer (some ⟨b, 0, none⟩)] W fun e w' => WRet W w' b (-1, (left : Int) - 1) e := by
  have hi0 := hi
  have c0 := h.c0
  have fr := h.fr 0
  have HS := Lib.hid (h.set ((left : Int) - 1))
  have d0 := HS.out.c0
  have df := HS.out.fr 0
  have HO := Lib.hid (set_only W b 0 (.int .i64 ((left : Int) - 1)))
  have e0 : -9223372036854775808 ≤ (left : Int) - 1 := by omega
  have e1 : (left : Int) - 1 ≤ 9223372036854775807 := by omega
  have p0 : ¬ (left : Int) - 1 < 0 := by omega
  have p1 : ¬ (14 : Int) < (d : Int) := by omega
  have p2 : ¬ (s.size : Int) ≤ (i : Int) := by omega
  have p3 : (i : Int) < (s.size : Int) := by omega
  have p4 : (0 : Int) ≤ (i : Int) := by omega
  have p9 : (s.size : Int) ≤ 1048576 := by omega
  obtain ⟨B, hb, hF, hb256⟩ := first_of s i hi
  have p5 : ¬ (27 < B % 32) := by rw [← hF.low]; omega
  have p6 : ¬ (24 ≤ B % 32) := by rw [← hF.low]; omega
  have CG := Lib.hid (fun W => get_spec s i W hs)
  rw [he] at CG
  unfold triple at CG
  clear h hl hd hs hl0 hF hi0 he hlow
  go_enter Tryd.func33, Tryd.ntmps33
  go_wp2_with fail
  with_reducible refine (CG.out _).mono ?_
  rintro r w1 ⟨rfl, hb1⟩
  replace HS := Lib.hid (LC.behind HS.out hb1)
  replace HO := Lib.hid (only_below HO.out hb1)
  clear hb1 CG c0 fr d0 df
  go_wp2
  go_ret
  exact ⟨rfl, HS.out, HO.out⟩
set_option maxHeartbeats 2000000 in
theorem wnat_S (W : World) (b : Nat) (s : ByteArray) (i left d : Nat) (hs : s.size ≤ 1048576) (hl0 : 0 < left) (hl : left ≤ 2000) (hd : d ≤ 14) (h : LC W b left) (hi : i < s.size) (hlow : low s i < 24) (m n X : Nat) (he : getHead s i = ((m : Int), n, (X : Int))) (hX : i < X ∧ X ≤ s.size) (hm : m ≤ 1) (hn : n ≤ 9223372036854775807) :
    Calls Tryd.prog 33 #[.string s, .int .i64 i, .int .i64 d, .pointer (some ⟨b, 0, none⟩)] W fun e w' => WRet W w' b ((X : Int), (left : Int) - 1) e := by
  have hi0 := hi
  have c0 := h.c0
  have fr := h.fr 0
  have HS := Lib.hid (h.set ((left : Int) - 1))
  have d0 := HS.out.c0
  have df := HS.out.fr 0
  have HO := Lib.hid (set_only W b 0 (.int .i64 ((left : Int) - 1)))
  have e0 : -9223372036854775808 ≤ (left : Int) - 1 := by omega
  have e1 : (left : Int) - 1 ≤ 9223372036854775807 := by omega
  have p0 : ¬ (left : Int) - 1 < 0 := by omega
  have p1 : ¬ (14 : Int) < (d : Int) := by omega
  have p2 : ¬ (s.size : Int) ≤ (i : Int) := by omega
  have p3 : (i : Int) < (s.size : Int) := by omega
  have p4 : (0 : Int) ≤ (i : Int) := by omega
  have p9 : (s.size : Int) ≤ 1048576 := by omega
  obtain ⟨B, hb, hF, hb256⟩ := first_of s i hi
  have p5 : ¬ (27 < B % 32) := by rw [← hF.low]; omega
  have p6 : ¬ (24 ≤ B % 32) := by rw [← hF.low]; omega
  have q0 : ¬ ((X : Int) < 0) := by omega
  have q1 : (m : Int) ≤ 1 := by omega
  have q2 : decide ((9223372036854775807 : Int) < (n : Int)) = false := decide_eq_false (by omega)
  have CG := Lib.hid (fun W => get_spec s i W hs)
  rw [he] at CG
  unfold triple at CG
  clear h hl hd hs hl0 hF hi0 he hX hm hn hlow
  go_enter Tryd.func33, Tryd.ntmps33
  go_wp2_with fail
  with_reducible refine (CG.out _).mono ?_
  rintro r w1 ⟨rfl, hb1⟩
  replace HS := Lib.hid (LC.behind HS.out hb1)
  replace HO := Lib.hid (only_below HO.out hb1)
  clear hb1 CG c0 fr d0 df
  go_wp2
  go_ret
  exact ⟨rfl, HS.out, HO.out⟩
set_option maxHeartbeats 2000000 in
theorem wbig_S (W : World) (b : Nat) (s : ByteArray) (i left d : Nat) (hs : s.size ≤ 1048576) (hl0 : 0 < left) (hl : left ≤ 2000) (hd : d ≤ 14) (h : LC W b left) (hi : i < s.size) (hlow : low s i < 24) (m n X : Nat) (he : getHead s i = ((m : Int), n, (X : Int))) (hX : i < X ∧ X ≤ s.size) (hm : m ≤ 1) (hn : 9223372036854775807 < n) :
    Calls Tryd.prog 33 #[.string s, .int .i64 i, .int .i64 d, .pointer (some ⟨b, 0, none⟩)] W fun e w' => WRet W w' b (-1, (left : Int) - 1) e := by
  have hi0 := hi
  have c0 := h.c0
  have fr := h.fr 0
  have HS := Lib.hid (h.set ((left : Int) - 1))
  have d0 := HS.out.c0
  have df := HS.out.fr 0
  have HO := Lib.hid (set_only W b 0 (.int .i64 ((left : Int) - 1)))
  have e0 : -9223372036854775808 ≤ (left : Int) - 1 := by omega
  have e1 : (left : Int) - 1 ≤ 9223372036854775807 := by omega
  have p0 : ¬ (left : Int) - 1 < 0 := by omega
  have p1 : ¬ (14 : Int) < (d : Int) := by omega
  have p2 : ¬ (s.size : Int) ≤ (i : Int) := by omega
  have p3 : (i : Int) < (s.size : Int) := by omega
  have p4 : (0 : Int) ≤ (i : Int) := by omega
  have p9 : (s.size : Int) ≤ 1048576 := by omega
  obtain ⟨B, hb, hF, hb256⟩ := first_of s i hi
  have p5 : ¬ (27 < B % 32) := by rw [← hF.low]; omega
  have p6 : ¬ (24 ≤ B % 32) := by rw [← hF.low]; omega
  have q0 : ¬ ((X : Int) < 0) := by omega
  have q1 : (m : Int) ≤ 1 := by omega
  have q2 : decide ((9223372036854775807 : Int) < (n : Int)) = true := decide_eq_true (by omega)
  have CG := Lib.hid (fun W => get_spec s i W hs)
  rw [he] at CG
  unfold triple at CG
  clear h hl hd hs hl0 hF hi0 he hX hm hn hlow
  go_enter Tryd.func33, Tryd.ntmps33
  go_wp2_with fail
  with_reducible refine (CG.out _).mono ?_
  rintro r w1 ⟨rfl, hb1⟩
  replace HS := Lib.hid (LC.behind HS.out hb1)
  replace HO := Lib.hid (only_below HO.out hb1)
  clear hb1 CG c0 fr d0 df
  go_wp2
  go_ret
  exact ⟨rfl, HS.out, HO.out⟩
set_option maxHeartbeats 2000000 in
theorem wword_S (W : World) (b : Nat) (s : ByteArray) (i left d : Nat) (hs : s.size ≤ 1048576) (hl0 : 0 < left) (hl : left ≤ 2000) (hd : d ≤ 14) (h : LC W b left) (hi : i < s.size) (hlow : low s i < 24) (m n X : Nat) (he : getHead s i = ((m : Int), n, (X : Int))) (hX : i < X ∧ X ≤ s.size) (hm : m = 7) (hn : 20 ≤ n ∧ n ≤ 22) :
    Calls Tryd.prog 33 #[.string s, .int .i64 i, .int .i64 d, .pointer (some ⟨b, 0, none⟩)] W fun e w' => WRet W w' b ((X : Int), (left : Int) - 1) e := by
  have hi0 := hi
  have c0 := h.c0
  have fr := h.fr 0
  have HS := Lib.hid (h.set ((left : Int) - 1))
  have d0 := HS.out.c0
  have df := HS.out.fr 0
  have HO := Lib.hid (set_only W b 0 (.int .i64 ((left : Int) - 1)))
  have e0 : -9223372036854775808 ≤ (left : Int) - 1 := by omega
  have e1 : (left : Int) - 1 ≤ 9223372036854775807 := by omega
  have p0 : ¬ (left : Int) - 1 < 0 := by omega
  have p1 : ¬ (14 : Int) < (d : Int) := by omega
  have p2 : ¬ (s.size : Int) ≤ (i : Int) := by omega
  have p3 : (i : Int) < (s.size : Int) := by omega
  have p4 : (0 : Int) ≤ (i : Int) := by omega
  have p9 : (s.size : Int) ≤ 1048576 := by omega
  obtain ⟨B, hb, hF, hb256⟩ := first_of s i hi
  have p5 : ¬ (27 < B % 32) := by rw [← hF.low]; omega
  have p6 : ¬ (24 ≤ B % 32) := by rw [← hF.low]; omega
  have q0 : ¬ ((X : Int) < 0) := by omega
  have q1 : ¬ (m : Int) ≤ 1 := by omega
  have q3 : (m : Int) = 7 := by omega
  have q4 : ¬ (n : Int) < 20 := by omega
  have q5 : ¬ (22 : Int) < (n : Int) := by omega
  have CG := Lib.hid (fun W => get_spec s i W hs)
  rw [he] at CG
  unfold triple at CG
  clear h hl hd hs hl0 hF hi0 he hX hm hn hlow
  go_enter Tryd.func33, Tryd.ntmps33
  go_wp2_with fail
  with_reducible refine (CG.out _).mono ?_
  rintro r w1 ⟨rfl, hb1⟩
  replace HS := Lib.hid (LC.behind HS.out hb1)
  replace HO := Lib.hid (only_below HO.out hb1)
  clear hb1 CG c0 fr d0 df
  go_wp2
  go_ret
  exact ⟨rfl, HS.out, HO.out⟩
set_option maxHeartbeats 2000000 in
theorem wwordno_S (W : World) (b : Nat) (s : ByteArray) (i left d : Nat) (hs : s.size ≤ 1048576) (hl0 : 0 < left) (hl : left ≤ 2000) (hd : d ≤ 14) (h : LC W b left) (hi : i < s.size) (hlow : low s i < 24) (m n X : Nat) (he : getHead s i = ((m : Int), n, (X : Int))) (hX : i < X ∧ X ≤ s.size) (hm : m = 7) (hn : n < 20) :
    Calls Tryd.prog 33 #[.string s, .int .i64 i, .int .i64 d, .pointer (some ⟨b, 0, none⟩)] W fun e w' => WRet W w' b (-1, (left : Int) - 1) e := by
  have hi0 := hi
  have c0 := h.c0
  have fr := h.fr 0
  have HS := Lib.hid (h.set ((left : Int) - 1))
  have d0 := HS.out.c0
  have df := HS.out.fr 0
  have HO := Lib.hid (set_only W b 0 (.int .i64 ((left : Int) - 1)))
  have e0 : -9223372036854775808 ≤ (left : Int) - 1 := by omega
  have e1 : (left : Int) - 1 ≤ 9223372036854775807 := by omega
  have p0 : ¬ (left : Int) - 1 < 0 := by omega
  have p1 : ¬ (14 : Int) < (d : Int) := by omega
  have p2 : ¬ (s.size : Int) ≤ (i : Int) := by omega
  have p3 : (i : Int) < (s.size : Int) := by omega
  have p4 : (0 : Int) ≤ (i : Int) := by omega
  have p9 : (s.size : Int) ≤ 1048576 := by omega
  obtain ⟨B, hb, hF, hb256⟩ := first_of s i hi
  have p5 : ¬ (27 < B % 32) := by rw [← hF.low]; omega
  have p6 : ¬ (24 ≤ B % 32) := by rw [← hF.low]; omega
  have q0 : ¬ ((X : Int) < 0) := by omega
  have q1 : ¬ (m : Int) ≤ 1 := by omega
  have q3 : (m : Int) = 7 := by omega
  have q4 : (n : Int) < 20 := by omega
  have CG := Lib.hid (fun W => get_spec s i W hs)
  rw [he] at CG
  unfold triple at CG
  clear h hl hd hs hl0 hF hi0 he hX hm hn hlow
  go_enter Tryd.func33, Tryd.ntmps33
  go_wp2_with fail
  with_reducible refine (CG.out _).mono ?_
  rintro r w1 ⟨rfl, hb1⟩
  replace HS := Lib.hid (LC.behind HS.out hb1)
  replace HO := Lib.hid (only_below HO.out hb1)
  clear hb1 CG c0 fr d0 df
  go_wp2
  go_ret
  exact ⟨rfl, HS.out, HO.out⟩
set_option maxHeartbeats 2000000 in
theorem wwordup_S (W : World) (b : Nat) (s : ByteArray) (i left d : Nat) (hs : s.size ≤ 1048576) (hl0 : 0 < left) (hl : left ≤ 2000) (hd : d ≤ 14) (h : LC W b left) (hi : i < s.size) (hlow : low s i < 24) (m n X : Nat) (he : getHead s i = ((m : Int), n, (X : Int))) (hX : i < X ∧ X ≤ s.size) (hm : m = 7) (hn : 22 < n) :
    Calls Tryd.prog 33 #[.string s, .int .i64 i, .int .i64 d, .pointer (some ⟨b, 0, none⟩)] W fun e w' => WRet W w' b (-1, (left : Int) - 1) e := by
  have hi0 := hi
  have c0 := h.c0
  have fr := h.fr 0
  have HS := Lib.hid (h.set ((left : Int) - 1))
  have d0 := HS.out.c0
  have df := HS.out.fr 0
  have HO := Lib.hid (set_only W b 0 (.int .i64 ((left : Int) - 1)))
  have e0 : -9223372036854775808 ≤ (left : Int) - 1 := by omega
  have e1 : (left : Int) - 1 ≤ 9223372036854775807 := by omega
  have p0 : ¬ (left : Int) - 1 < 0 := by omega
  have p1 : ¬ (14 : Int) < (d : Int) := by omega
  have p2 : ¬ (s.size : Int) ≤ (i : Int) := by omega
  have p3 : (i : Int) < (s.size : Int) := by omega
  have p4 : (0 : Int) ≤ (i : Int) := by omega
  have p9 : (s.size : Int) ≤ 1048576 := by omega
  obtain ⟨B, hb, hF, hb256⟩ := first_of s i hi
  have p5 : ¬ (27 < B % 32) := by rw [← hF.low]; omega
  have p6 : ¬ (24 ≤ B % 32) := by rw [← hF.low]; omega
  have q0 : ¬ ((X : Int) < 0) := by omega
  have q1 : ¬ (m : Int) ≤ 1 := by omega
  have q3 : (m : Int) = 7 := by omega
  have q4 : ¬ (n : Int) < 20 := by omega
  have q5 : (22 : Int) < (n : Int) := by omega
  have CG := Lib.hid (fun W => get_spec s i W hs)
  rw [he] at CG
  unfold triple at CG
  clear h hl hd hs hl0 hF hi0 he hX hm hn hlow
  go_enter Tryd.func33, Tryd.ntmps33
  go_wp2_with fail
  with_reducible refine (CG.out _).mono ?_
  rintro r w1 ⟨rfl, hb1⟩
  replace HS := Lib.hid (LC.behind HS.out hb1)
  replace HO := Lib.hid (only_below HO.out hb1)
  clear hb1 CG c0 fr d0 df
  go_wp2
  go_ret
  exact ⟨rfl, HS.out, HO.out⟩
set_option maxHeartbeats 2000000 in
theorem wlong_S (W : World) (b : Nat) (s : ByteArray) (i left d : Nat) (hs : s.size ≤ 1048576) (hl0 : 0 < left) (hl : left ≤ 2000) (hd : d ≤ 14) (h : LC W b left) (hi : i < s.size) (hlow : low s i < 24) (m n X : Nat) (he : getHead s i = ((m : Int), n, (X : Int))) (hX : i < X ∧ X ≤ s.size) (hm : m = 2 ∨ m = 3) (hn : 2000 < n) :
    Calls Tryd.prog 33 #[.string s, .int .i64 i, .int .i64 d, .pointer (some ⟨b, 0, none⟩)] W fun e w' => WRet W w' b (-1, (left : Int) - 1) e := by
  have hi0 := hi
  have c0 := h.c0
  have fr := h.fr 0
  have HS := Lib.hid (h.set ((left : Int) - 1))
  have d0 := HS.out.c0
  have df := HS.out.fr 0
  have HO := Lib.hid (set_only W b 0 (.int .i64 ((left : Int) - 1)))
  have e0 : -9223372036854775808 ≤ (left : Int) - 1 := by omega
  have e1 : (left : Int) - 1 ≤ 9223372036854775807 := by omega
  have p0 : ¬ (left : Int) - 1 < 0 := by omega
  have p1 : ¬ (14 : Int) < (d : Int) := by omega
  have p2 : ¬ (s.size : Int) ≤ (i : Int) := by omega
  have p3 : (i : Int) < (s.size : Int) := by omega
  have p4 : (0 : Int) ≤ (i : Int) := by omega
  have p9 : (s.size : Int) ≤ 1048576 := by omega
  obtain ⟨B, hb, hF, hb256⟩ := first_of s i hi
  have p5 : ¬ (27 < B % 32) := by rw [← hF.low]; omega
  have p6 : ¬ (24 ≤ B % 32) := by rw [← hF.low]; omega
  have q0 : ¬ ((X : Int) < 0) := by omega
  have q1 : ¬ (m : Int) ≤ 1 := by omega
  have q3 : ¬ (m : Int) = 7 := by omega
  have q6 : (m : Int) ≤ 3 := by omega
  have q7 : decide ((2000 : Int) < (n : Int)) = true := decide_eq_true (by omega)
  have CG := Lib.hid (fun W => get_spec s i W hs)
  rw [he] at CG
  unfold triple at CG
  clear h hl hd hs hl0 hF hi0 he hX hm hn hlow
  go_enter Tryd.func33, Tryd.ntmps33
  go_wp2_with fail
  with_reducible refine (CG.out _).mono ?_
  rintro r w1 ⟨rfl, hb1⟩
  replace HS := Lib.hid (LC.behind HS.out hb1)
  replace HO := Lib.hid (only_below HO.out hb1)
  clear hb1 CG c0 fr d0 df
  go_wp2
  go_ret
  exact ⟨rfl, HS.out, HO.out⟩
set_option maxHeartbeats 2000000 in
theorem wcut_S (W : World) (b : Nat) (s : ByteArray) (i left d : Nat) (hs : s.size ≤ 1048576) (hl0 : 0 < left) (hl : left ≤ 2000) (hd : d ≤ 14) (h : LC W b left) (hi : i < s.size) (hlow : low s i < 24) (m n X : Nat) (he : getHead s i = ((m : Int), n, (X : Int))) (hX : i < X ∧ X ≤ s.size) (hm : m = 2 ∨ m = 3) (hn : n ≤ 2000) (hc : s.size - X < n) :
    Calls Tryd.prog 33 #[.string s, .int .i64 i, .int .i64 d, .pointer (some ⟨b, 0, none⟩)] W fun e w' => WRet W w' b (-2, (left : Int) - 1) e := by
  have hi0 := hi
  have c0 := h.c0
  have fr := h.fr 0
  have HS := Lib.hid (h.set ((left : Int) - 1))
  have d0 := HS.out.c0
  have df := HS.out.fr 0
  have HO := Lib.hid (set_only W b 0 (.int .i64 ((left : Int) - 1)))
  have e0 : -9223372036854775808 ≤ (left : Int) - 1 := by omega
  have e1 : (left : Int) - 1 ≤ 9223372036854775807 := by omega
  have p0 : ¬ (left : Int) - 1 < 0 := by omega
  have p1 : ¬ (14 : Int) < (d : Int) := by omega
  have p2 : ¬ (s.size : Int) ≤ (i : Int) := by omega
  have p3 : (i : Int) < (s.size : Int) := by omega
  have p4 : (0 : Int) ≤ (i : Int) := by omega
  have p9 : (s.size : Int) ≤ 1048576 := by omega
  obtain ⟨B, hb, hF, hb256⟩ := first_of s i hi
  have p5 : ¬ (27 < B % 32) := by rw [← hF.low]; omega
  have p6 : ¬ (24 ≤ B % 32) := by rw [← hF.low]; omega
  have q0 : ¬ ((X : Int) < 0) := by omega
  have q1 : ¬ (m : Int) ≤ 1 := by omega
  have q3 : ¬ (m : Int) = 7 := by omega
  have q6 : (m : Int) ≤ 3 := by omega
  have q7 : ¬ (2000 : Int) < (n : Int) := by omega
  have q8 : (s.size : Int) - (X : Int) < (n : Int) := by omega
  have v0 : (0 : Int) ≤ (s.size : Int) - (X : Int) := by omega
  have v1 : IntKind.u64.wrap ((s.size : Int) - (X : Int)) = (s.size : Int) - (X : Int) := by simp [IntKind.wrap, IntKind.bits, IntKind.signed]; omega
  have CG := Lib.hid (fun W => get_spec s i W hs)
  rw [he] at CG
  unfold triple at CG
  clear h hl hd hs hl0 hF hi0 he hX hm hn hc hlow
  go_enter Tryd.func33, Tryd.ntmps33
  go_wp2_with fail
  with_reducible refine (CG.out _).mono ?_
  rintro r w1 ⟨rfl, hb1⟩
  replace HS := Lib.hid (LC.behind HS.out hb1)
  replace HO := Lib.hid (only_below HO.out hb1)
  clear hb1 CG c0 fr d0 df
  go_wp2
  go_ret
  exact ⟨rfl, HS.out, HO.out⟩
set_option maxHeartbeats 2000000 in
theorem wpass_S (W : World) (b : Nat) (s : ByteArray) (i left d : Nat) (hs : s.size ≤ 1048576) (hl0 : 0 < left) (hl : left ≤ 2000) (hd : d ≤ 14) (h : LC W b left) (hi : i < s.size) (hlow : low s i < 24) (m n X : Nat) (he : getHead s i = ((m : Int), n, (X : Int))) (hX : i < X ∧ X ≤ s.size) (hm : m = 2 ∨ m = 3) (hn : n ≤ 2000) (hc : X + n ≤ s.size) :
    Calls Tryd.prog 33 #[.string s, .int .i64 i, .int .i64 d, .pointer (some ⟨b, 0, none⟩)] W fun e w' => WRet W w' b (((X + n : Nat) : Int), (left : Int) - 1) e := by
  have hi0 := hi
  have c0 := h.c0
  have fr := h.fr 0
  have HS := Lib.hid (h.set ((left : Int) - 1))
  have d0 := HS.out.c0
  have df := HS.out.fr 0
  have HO := Lib.hid (set_only W b 0 (.int .i64 ((left : Int) - 1)))
  have e0 : -9223372036854775808 ≤ (left : Int) - 1 := by omega
  have e1 : (left : Int) - 1 ≤ 9223372036854775807 := by omega
  have p0 : ¬ (left : Int) - 1 < 0 := by omega
  have p1 : ¬ (14 : Int) < (d : Int) := by omega
  have p2 : ¬ (s.size : Int) ≤ (i : Int) := by omega
  have p3 : (i : Int) < (s.size : Int) := by omega
  have p4 : (0 : Int) ≤ (i : Int) := by omega
  have p9 : (s.size : Int) ≤ 1048576 := by omega
  obtain ⟨B, hb, hF, hb256⟩ := first_of s i hi
  have p5 : ¬ (27 < B % 32) := by rw [← hF.low]; omega
  have p6 : ¬ (24 ≤ B % 32) := by rw [← hF.low]; omega
  have q0 : ¬ ((X : Int) < 0) := by omega
  have q1 : ¬ (m : Int) ≤ 1 := by omega
  have q3 : ¬ (m : Int) = 7 := by omega
  have q6 : (m : Int) ≤ 3 := by omega
  have q7 : ¬ (2000 : Int) < (n : Int) := by omega
  have q8 : ¬ (s.size : Int) - (X : Int) < (n : Int) := by omega
  have q9 : (X : Int) + (n : Int) ≤ (s.size : Int) := by omega
  have v0 : (0 : Int) ≤ (s.size : Int) - (X : Int) := by omega
  have v1 : IntKind.u64.wrap ((s.size : Int) - (X : Int)) = (s.size : Int) - (X : Int) := by simp [IntKind.wrap, IntKind.bits, IntKind.signed]; omega
  have v2 : IntKind.i64.wrap (n : Int) = (n : Int) := by rw [IntKind.wrap_i64]; omega
  have CG := Lib.hid (fun W => get_spec s i W hs)
  rw [he] at CG
  unfold triple at CG
  clear h hl hd hs hl0 hF hi0 he hX hm hn hc hlow
  go_enter Tryd.func33, Tryd.ntmps33
  go_wp2_with fail
  with_reducible refine (CG.out _).mono ?_
  rintro r w1 ⟨rfl, hb1⟩
  replace HS := Lib.hid (LC.behind HS.out hb1)
  replace HO := Lib.hid (only_below HO.out hb1)
  clear hb1 CG c0 fr d0 df
  go_wp2
  go_ret
  exact ⟨by simp, HS.out, HO.out⟩
set_option maxHeartbeats 2000000 in
theorem wtagno_S (W : World) (b : Nat) (s : ByteArray) (i left d : Nat) (hs : s.size ≤ 1048576) (hl0 : 0 < left) (hl : left ≤ 2000) (hd : d ≤ 14) (h : LC W b left) (hi : i < s.size) (hlow : low s i < 24) (m n X : Nat) (he : getHead s i = ((m : Int), n, (X : Int))) (hX : i < X ∧ X ≤ s.size) (hm : m = 6) (hn : 1000000 < n) :
    Calls Tryd.prog 33 #[.string s, .int .i64 i, .int .i64 d, .pointer (some ⟨b, 0, none⟩)] W fun e w' => WRet W w' b (-1, (left : Int) - 1) e := by
  have hi0 := hi
  have c0 := h.c0
  have fr := h.fr 0
  have HS := Lib.hid (h.set ((left : Int) - 1))
  have d0 := HS.out.c0
  have df := HS.out.fr 0
  have HO := Lib.hid (set_only W b 0 (.int .i64 ((left : Int) - 1)))
  have e0 : -9223372036854775808 ≤ (left : Int) - 1 := by omega
  have e1 : (left : Int) - 1 ≤ 9223372036854775807 := by omega
  have p0 : ¬ (left : Int) - 1 < 0 := by omega
  have p1 : ¬ (14 : Int) < (d : Int) := by omega
  have p2 : ¬ (s.size : Int) ≤ (i : Int) := by omega
  have p3 : (i : Int) < (s.size : Int) := by omega
  have p4 : (0 : Int) ≤ (i : Int) := by omega
  have p9 : (s.size : Int) ≤ 1048576 := by omega
  obtain ⟨B, hb, hF, hb256⟩ := first_of s i hi
  have p5 : ¬ (27 < B % 32) := by rw [← hF.low]; omega
  have p6 : ¬ (24 ≤ B % 32) := by rw [← hF.low]; omega
  have q0 : ¬ ((X : Int) < 0) := by omega
  have q1 : ¬ (m : Int) ≤ 1 := by omega
  have q3 : ¬ (m : Int) = 7 := by omega
  have q6 : ¬ (m : Int) ≤ 3 := by omega
  have qa : (m : Int) = 6 := by omega
  have q7 : decide ((1000000 : Int) < (n : Int)) = true := decide_eq_true (by omega)
  have CG := Lib.hid (fun W => get_spec s i W hs)
  rw [he] at CG
  unfold triple at CG
  clear h hl hd hs hl0 hF hi0 he hX hm hn hlow
  go_enter Tryd.func33, Tryd.ntmps33
  go_wp2_with fail
  with_reducible refine (CG.out _).mono ?_
  rintro r w1 ⟨rfl, hb1⟩
  replace HS := Lib.hid (LC.behind HS.out hb1)
  replace HO := Lib.hid (only_below HO.out hb1)
  clear hb1 CG c0 fr d0 df
  go_wp2
  go_ret
  exact ⟨rfl, HS.out, HO.out⟩
set_option maxHeartbeats 2000000 in
theorem wfar_S (W : World) (b : Nat) (s : ByteArray) (i left d : Nat) (hs : s.size ≤ 1048576) (hl0 : 0 < left) (hl : left ≤ 2000) (hd : d ≤ 14) (h : LC W b left) (hi : i < s.size) (hlow : low s i < 24) (m n X : Nat) (he : getHead s i = ((m : Int), n, (X : Int))) (hX : i < X ∧ X ≤ s.size) (hm : m = 4 ∨ m = 5) (hn : 300 < n) :
    Calls Tryd.prog 33 #[.string s, .int .i64 i, .int .i64 d, .pointer (some ⟨b, 0, none⟩)] W fun e w' => WRet W w' b (-1, (left : Int) - 1) e := by
  have hi0 := hi
  have c0 := h.c0
  have fr := h.fr 0
  have HS := Lib.hid (h.set ((left : Int) - 1))
  have d0 := HS.out.c0
  have df := HS.out.fr 0
  have HO := Lib.hid (set_only W b 0 (.int .i64 ((left : Int) - 1)))
  have e0 : -9223372036854775808 ≤ (left : Int) - 1 := by omega
  have e1 : (left : Int) - 1 ≤ 9223372036854775807 := by omega
  have p0 : ¬ (left : Int) - 1 < 0 := by omega
  have p1 : ¬ (14 : Int) < (d : Int) := by omega
  have p2 : ¬ (s.size : Int) ≤ (i : Int) := by omega
  have p3 : (i : Int) < (s.size : Int) := by omega
  have p4 : (0 : Int) ≤ (i : Int) := by omega
  have p9 : (s.size : Int) ≤ 1048576 := by omega
  obtain ⟨B, hb, hF, hb256⟩ := first_of s i hi
  have p5 : ¬ (27 < B % 32) := by rw [← hF.low]; omega
  have p6 : ¬ (24 ≤ B % 32) := by rw [← hF.low]; omega
  have q0 : ¬ ((X : Int) < 0) := by omega
  have q1 : ¬ (m : Int) ≤ 1 := by omega
  have q3 : ¬ (m : Int) = 7 := by omega
  have q6 : ¬ (m : Int) ≤ 3 := by omega
  have qa : ¬ (m : Int) = 6 := by omega
  have q7 : (300 : Int) < (n : Int) := by omega
  have CG := Lib.hid (fun W => get_spec s i W hs)
  rw [he] at CG
  unfold triple at CG
  clear h hl hd hs hl0 hF hi0 he hX hm hn hlow
  go_enter Tryd.func33, Tryd.ntmps33
  go_wp2_with fail
  with_reducible refine (CG.out _).mono ?_
  rintro r w1 ⟨rfl, hb1⟩
  replace HS := Lib.hid (LC.behind HS.out hb1)
  replace HO := Lib.hid (only_below HO.out hb1)
  clear hb1 CG c0 fr d0 df
  go_wp2
  go_ret
  exact ⟨rfl, HS.out, HO.out⟩
end Go.Proofs.YtnaghafmpncdkaaDoor.beg
