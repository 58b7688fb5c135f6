/-
  spec.ValueOk at a number.
-/
import Derived.Test.YtnaghafmpncdkaaDoorGetCborJ7
import Derived.Deep.CutRange
import Derived.Test.YtnaghafmpncdkaaDoorGetCborJ0
namespace Go.Proofs.YtnaghafmpncdkaaDoor.num
open Go.ChangeShapes Go.WideShapes Go.ChangeAt Go.RowKit
open Go.Proofs.YtnaghafmpncdkaaDoor.val
set_option maxRecDepth 100000

theorem in_any (n lo hi : Int) (w : World) : Calls Tryd.prog 44 #[.int .i64 n, .int .i64 lo, .int .i64 hi] w fun r w' => r = .returned (.bool (decide (lo ≤ n ∧ n ≤ hi))) ∧ w = w' := by
  by_cases h : lo ≤ n ∧ n ≤ hi
  · obtain ⟨h1, h2⟩ := h
    rw [decide_eq_true ⟨h1, h2⟩]
    go_enter Tryd.func44, Tryd.ntmps44
    go_wp2
    go_ret
    exact ⟨by first | rfl | simp [h1, h2], rfl⟩
  · rw [decide_eq_false h]
    by_cases h1 : lo ≤ n
    · have h2 : ¬ n ≤ hi := fun h2 => h ⟨h1, h2⟩
      clear h
      go_enter Tryd.func44, Tryd.ntmps44
      go_wp2
      go_ret
      exact ⟨by first | rfl | simp [h1, h2], rfl⟩
    · clear h
      go_enter Tryd.func44, Tryd.ntmps44
      go_wp2
      go_ret
      exact ⟨by first | rfl | simp [h1], rfl⟩

structure OwnAt (w wx : World) (k n e : Int) (s : ByteArray) (r : Value) : Prop where
  low : Below w.heap.size w wx
  c0 : wx.cell? ⟨w.heap.size, 0, none⟩ = some (.int .i64 k)
  c1 : wx.cell? ⟨w.heap.size, 1, none⟩ = some (.int .i64 n)
  c2 : wx.cell? ⟨w.heap.size, 2, none⟩ = some (.int .i64 e)
  c3 : wx.cell? ⟨w.heap.size, 3, none⟩ = some (.string s)
  c4 : wx.cell? ⟨w.heap.size, 4, none⟩ = some r
theorem OwnAt.new (w : World) (k n e : Int) (s : ByteArray) (r : Value) : OwnAt w (w.alloc (.cells #[.int .i64 k, .int .i64 n, .int .i64 e, .string s, r] 24)) k n e s r := by
  have hb := heap_alloc_new w (.cells #[.int .i64 k, .int .i64 n, .int .i64 e, .string s, r] 24)
  exact ⟨(Below.refl _ _).alloc (Nat.le_refl _) _, cell_of_row _ _ 0 _ _ (0, 0) hb, cell_of_row _ _ 1 _ _ (0, 0) hb, cell_of_row _ _ 2 _ _ (0, 0) hb, cell_of_row _ _ 3 _ _ (0, 0) hb, cell_of_row _ _ 4 _ _ (0, 0) hb⟩
theorem OwnAt.drew {w wx : World} {k n e : Int} {s : ByteArray} {r : Value} (h : OwnAt w wx k n e s r) : OwnAt w wx.drew k n e s r := ⟨below_drew h.low, h.c0, h.c1, h.c2, h.c3, h.c4⟩
theorem num_int' (n e : Int) (s : ByteArray) (a : Option Addr) (kids : List LT) (cap : Nat) : numOk (.mk 3 n e s a cap kids) = (decide (s.size = 0 ∧ kids.length = 0) && decide (e = 0)) := rfl
theorem num_dec' (n e : Int) (s : ByteArray) (a : Option Addr) (kids : List LT) (cap : Nat) : numOk (.mk 4 n e s a cap kids) = (decide (s.size = 0 ∧ kids.length = 0) && decOk n e) := rfl
theorem toList_nil (s : ByteArray) : s.toList = [] ↔ s.size = 0 := by
  have hl : s.toList.length = s.size := by rw [Lib.toList_data, Lib.size_eq]
  rw [← hl]
  exact List.length_eq_zero_iff.symm
theorem len_zero (k : Nat) : ((k : Int) == 0) = decide (k = 0) := by
  by_cases h : k = 0
  · subst h; rfl
  · rw [decide_eq_false h, beq_eq_false_iff_ne.2 (by omega)]
set_option maxHeartbeats 1000000 in
theorem own_int (n e : Int) (s : ByteArray) (a : Option Addr) (kids : List LT) (cap : Nat) (w : World) : Calls Tryd.prog 111 #[.agg #[.int .i64 3, .int .i64 n, .int .i64 e, .string s, .slice a kids.length cap]] w fun r w' => r = .returned (.bool (numOk (.mk 3 n e s a cap kids))) ∧ Below w.heap.size w w' := by
  have HB := Lib.hid ((Below.refl w.heap.size w).alloc (Nat.le_refl _) (.cells #[.int .i64 3, .int .i64 n, .int .i64 e, .string s, .slice a kids.length cap] 24))
  have HX := Lib.hid (OwnAt.new w 3 n e s (.slice a kids.length cap))
  go_enter Tryd.func111, Tryd.ntmps111
  go_upto_region 1 with fail
  go_cut [3, 4, 5] from 6 (fun x y z wx => x = .bool (n == 0) ∧ y = .bool (e == 0) ∧ z = .bool s.toList.isEmpty ∧ OwnAt w wx 3 n e s (.slice a kids.length cap))
  case first =>
    obtain ⟨hl, p0, p1, p2, p3, p4⟩ := HX.out
    go_region
    all_goals
      go_wp2_with fail
      go_meet
      case rel => exact ⟨rfl, rfl, rfl, HX.out.drew⟩
  case rest =>
    obtain ⟨rfl, rfl, rfl, hown⟩ := hcut
    clear HB HX
    obtain ⟨hlow, p0, p1, p2, p3, p4⟩ := hown
    have HL := Lib.hid hlow
    clear hlow
    by_cases he : e = 0
    · subst he
      by_cases hs : s.toList = []
      · have HV : Hid (numOk (.mk 3 n 0 s a cap kids) = ((kids.length : Int) == 0)) := by
          unfold Hid
          rw [num_int', len_zero]
          simp [(toList_nil s).1 hs]
        go_wp2
        go_ret
        exact ⟨by rw [HV.out]; rfl, HL.out⟩
      · have HV : Hid (numOk (.mk 3 n 0 s a cap kids) = false) := by
          unfold Hid
          rw [num_int', decide_eq_false (fun h => hs ((toList_nil s).2 h.1))]
          rfl
        go_wp2
        go_ret
        exact ⟨by rw [HV.out]; rfl, HL.out⟩
    · have HV : Hid (numOk (.mk 3 n e s a cap kids) = false) := by
        unfold Hid
        rw [num_int', decide_eq_false he, Bool.and_false]
      go_wp2
      go_ret
      exact ⟨by rw [HV.out]; rfl, HL.out⟩
theorem ret_b {a b : Bool} (h : a = b) : Ending.returned (.bool a) = .returned (.bool b) := by rw [h]
theorem num_no {n e : Int} {s : ByteArray} {a : Option Addr} {kids : List LT} {cap : Nat} (h : ¬ (-20 ≤ e ∧ e ≤ 20 ∧ e ≠ 0 ∧ -999999999999999999 ≤ n ∧ n ≤ 999999999999999999 ∧ n.tmod 10 ≠ 0)) : numOk (.mk 4 n e s a cap kids) = false := by
  rw [num_dec', dec_no h, Bool.and_false]
set_option maxHeartbeats 4000000 in
theorem own_dec (n e : Int) (s : ByteArray) (a : Option Addr) (kids : List LT) (cap : Nat) (w : World) : Calls Tryd.prog 111 #[.agg #[.int .i64 4, .int .i64 n, .int .i64 e, .string s, .slice a kids.length cap]] w fun r w' => r = .returned (.bool (numOk (.mk 4 n e s a cap kids))) ∧ Below w.heap.size w w' := by
  have HB := Lib.hid ((Below.refl w.heap.size w).alloc (Nat.le_refl _) (.cells #[.int .i64 4, .int .i64 n, .int .i64 e, .string s, .slice a kids.length cap] 24))
  have HX := Lib.hid (OwnAt.new w 4 n e s (.slice a kids.length cap))
  go_enter Tryd.func111, Tryd.ntmps111
  go_upto_region 1 with fail
  go_cut [3, 4, 5] from 6 (fun x y z wx => x = .bool (n == 0) ∧ y = .bool (e == 0) ∧ z = .bool s.toList.isEmpty ∧ OwnAt w wx 4 n e s (.slice a kids.length cap))
  case first =>
    obtain ⟨hl, p0, p1, p2, p3, p4⟩ := HX.out
    go_region
    all_goals
      go_wp2_with fail
      go_meet
      case rel => exact ⟨rfl, rfl, rfl, HX.out.drew⟩
  case rest =>
    obtain ⟨rfl, rfl, rfl, hown⟩ := hcut
    clear HB HX
    obtain ⟨hlow, p0, p1, p2, p3, p4⟩ := hown
    have HL := Lib.hid hlow
    clear hlow
    by_cases h1 : n.tmod 10 = 0
    · have HV : Hid (numOk (.mk 4 n e s a cap kids) = false) := num_no (by omega)
      go_wp2
      all_goals first
        | (go_ret; exact ⟨by rw [HV.out]; rfl, HL.out⟩)
        | (exfalso; omega)
    · by_cases h2 : n < -999999999999999999
      · have HV : Hid (numOk (.mk 4 n e s a cap kids) = false) := num_no (by omega)
        go_wp2
        all_goals first
          | (go_ret; exact ⟨by rw [HV.out]; rfl, HL.out⟩)
          | (exfalso; omega)
      · by_cases h3 : 999999999999999999 < n
        · have HV : Hid (numOk (.mk 4 n e s a cap kids) = false) := num_no (by omega)
          go_wp2
          all_goals first
            | (go_ret; exact ⟨by rw [HV.out]; rfl, HL.out⟩)
            | (exfalso; omega)
        · by_cases h4 : e < -20
          · have HV : Hid (numOk (.mk 4 n e s a cap kids) = false) := num_no (by omega)
            go_wp2
            all_goals first
              | (go_ret; exact ⟨by rw [HV.out]; rfl, HL.out⟩)
              | (exfalso; omega)
          · by_cases h5 : 20 < e
            · have HV : Hid (numOk (.mk 4 n e s a cap kids) = false) := num_no (by omega)
              go_wp2
              all_goals first
                | (go_ret; exact ⟨by rw [HV.out]; rfl, HL.out⟩)
                | (exfalso; omega)
            · by_cases h6 : e = 0
              · subst h6
                have HV : Hid (numOk (.mk 4 n 0 s a cap kids) = false) := num_no (by omega)
                go_wp2
                all_goals first
                  | (go_ret; exact ⟨by rw [HV.out]; rfl, HL.out⟩)
                  | (exfalso; omega)
              · by_cases h7 : s.toList = []
                · by_cases h8 : kids.length = 0
                  · have hd : decOk n e = (decide (e < 0) || (scal n e.toNat).isNone) := dec_is (by omega)
                    have hn : numOk (.mk 4 n e s a cap kids) = decOk n e := by
                      rw [num_dec', decide_eq_true ⟨(toList_nil s).1 h7, h8⟩, Bool.true_and]
                    have h8' : (kids.length : Int) = 0 := by omega
                    by_cases h9 : e < 0
                    · have HV : Hid (numOk (.mk 4 n e s a cap kids) = true) := by
                        unfold Hid
                        rw [hn, hd, decide_eq_true h9]
                        rfl
                      have HT : Hid ((n.tmod 10 != 0 && !(e == 0)) = true) := by unfold Hid; rw [bne, beq_eq_false_iff_ne.2 h1, beq_eq_false_iff_ne.2 h6]; rfl
                      have CW := Lib.hid (fun W => whole_neg n e (by omega) W)
                      have C1 := fun W => in_any n (-999999999999999999) 999999999999999999 W
                      have C2 := fun W => in_any e (-20) 20 W
                      rw [decide_eq_true (by omega)] at C1 C2
                      replace C1 := Lib.hid C1
                      replace C2 := Lib.hid C2
                      clear hn hd
                      go_wp2_with (first | (go_at_call 44; with_reducible refine (C1.out _).mono ?_; rintro r w2 ⟨rfl, rfl⟩) | (go_at_call 44; with_reducible refine (C2.out _).mono ?_; rintro r w2 ⟨rfl, rfl⟩) | (go_at_call 126; with_reducible refine (CW.out _).mono ?_; rintro r w2 ⟨rfl, rfl⟩))
                      go_ret
                      exact ⟨by rw [HV.out]; refine ret_b ?_; first | rfl | exact HT.out, HL.out⟩
                    · obtain ⟨k, rfl⟩ : ∃ k : Nat, e = k := ⟨e.toNat, by omega⟩
                      have HV : Hid (numOk (.mk 4 n k s a cap kids) = !(scal n k).isSome) := by
                        unfold Hid
                        rw [hn, hd, decide_eq_false h9, Int.toNat_natCast]
                        cases scal n k <;> rfl
                      have HT : Hid ((n.tmod 10 != 0 && !((k : Int) == 0)) = true) := by unfold Hid; rw [bne, beq_eq_false_iff_ne.2 h1, beq_eq_false_iff_ne.2 h6]; rfl
                      have CW := Lib.hid (fun W => whole_pos n k (by omega) (by omega) W)
                      have C1 := fun W => in_any n (-999999999999999999) 999999999999999999 W
                      have C2 := fun W => in_any k (-20) 20 W
                      rw [decide_eq_true (by omega)] at C1 C2
                      replace C1 := Lib.hid C1
                      replace C2 := Lib.hid C2
                      clear hn hd
                      generalize scal n k = R at *
                      go_wp2_with (first | (go_at_call 44; with_reducible refine (C1.out _).mono ?_; rintro r w2 ⟨rfl, rfl⟩) | (go_at_call 44; with_reducible refine (C2.out _).mono ?_; rintro r w2 ⟨rfl, rfl⟩) | (go_at_call 126; with_reducible refine (CW.out _).mono ?_; rintro r w2 ⟨rfl, rfl⟩))
                      go_ret
                      exact ⟨by rw [HV.out]; refine ret_b ?_; first | rfl | (rw [HT.out]; cases R <;> rfl), HL.out⟩
                  · have h8' : ¬ (kids.length : Int) = 0 := by omega
                    have HV : Hid (numOk (.mk 4 n e s a cap kids) = false) := by
                      unfold Hid
                      rw [num_dec', decide_eq_false (fun h => h8 h.2)]
                      rfl
                    go_wp2
                    all_goals first
                      | (go_ret; exact ⟨by rw [HV.out]; rfl, HL.out⟩)
                      | (exfalso; omega)
                · have HV : Hid (numOk (.mk 4 n e s a cap kids) = false) := by
                    unfold Hid
                    rw [num_dec', decide_eq_false (fun h => h7 ((toList_nil s).2 h.1))]
                    rfl
                  go_wp2
                  all_goals first
                    | (go_ret; exact ⟨by rw [HV.out]; rfl, HL.out⟩)
                    | (exfalso; omega)
theorem own_num (t : LT) (hk : t.k = 3 ∨ t.k = 4) (w : World) : Calls Tryd.prog 111 #[.agg #[.int .i64 t.k, .int .i64 t.n, .int .i64 t.e, .string t.s, t.row]] w fun r w' => r = .returned (.bool (numOk t)) ∧ Below w.heap.size w w' := by
  obtain ⟨k, n, e, s, a, cap, kids⟩ := t
  rcases hk with hk | hk
  · obtain rfl : k = 3 := hk
    exact own_int n e s a kids cap w
  · obtain rfl : k = 4 := hk
    exact own_dec n e s a kids cap w
end Go.Proofs.YtnaghafmpncdkaaDoor.num
/-
  spec.l02Pairs: whether values are keys and values by turns.
-/
namespace Go.Proofs.YtnaghafmpncdkaaDoor.node
open Go.ChangeShapes Go.WideShapes Go.ChangeAt Go.RowKit
open Go.Proofs.YtnaghafmpncdkaaDoor.val
set_option maxRecDepth 100000

def LT.key (t : LT) : Int × Int × ByteArray := (t.k, t.n, t.s)
/-- The key at an even place is a text or a number, and none ahead of it is the same. -/
def GoodKey (l : List LT) (i : Nat) : Prop := ∀ h : i < l.length, (l[i].k = 5 ∨ l[i].k = 3) ∧ ∀ j (hj : j < i), j % 2 = 0 → LT.key (l[j]'(Nat.lt_trans hj h)) ≠ LT.key l[i]
def KeysGood (l : List LT) (m : Nat) : Prop := ∀ i, i < m → i % 2 = 0 → GoodKey l i
def Pairs (l : List LT) : Prop := KeysGood l l.length ∧ l.length % 2 = 0 ∧ l.length ≤ 300
theorem other_text {a b : ByteArray} (h : ¬ a = b) : (a.toList == b.toList) = false := by
  refine Bool.eq_false_iff.2 fun e => h ?_
  have e2 := eq_of_beq e
  rw [ByteArray.toList_eq, ByteArray.toList_eq] at e2
  exact bytes_inj e2
theorem pairs_kind {l : List LT} {j : Nat} (h : j < l.length) (he : j % 2 = 0) (h5 : l[j].k ≠ 5) (h3 : l[j].k ≠ 3) : ¬ Pairs l := fun hp => by
  rcases (hp.1 j h he h).1 with h1 | h1
  · exact h5 h1
  · exact h3 h1
theorem pairs_twice {l : List LT} {j m : Nat} (h : j < l.length) (hm : m < j) (he : j % 2 = 0) (he2 : m % 2 = 0) (hk : LT.key (l[m]'(Nat.lt_trans hm h)) = LT.key l[j]) : ¬ Pairs l := fun hp => (hp.1 j h he h).2 m hm he2 hk
theorem keys_next {l : List LT} {j m : Nat} (hg : KeysGood l j) (h : j < l.length) (he : j % 2 = 0) (hk : l[j].k = 5 ∨ l[j].k = 3) (hm : ¬ m < j) (hn : ∀ p (_ : p < m) (hj : p < j), p % 2 = 0 → LT.key (l[p]'(Nat.lt_trans hj h)) ≠ LT.key l[j]) : KeysGood l (j + 2) := fun i hi h2 => by
  by_cases hij : i < j
  · exact hg i hij h2
  · have e : i = j := by omega
    subst e
    exact fun _ => ⟨hk, fun p hp hpe => hn p (by omega) hp hpe⟩
theorem keys_end {l : List LT} {j : Nat} (hg : KeysGood l j) (hj : ¬ j < l.length) : KeysGood l l.length := fun i hi h2 => hg i (by omega) h2
theorem ne_next {l : List LT} {j m : Nat} (h : j < l.length) (hm : m < j) (hme : m % 2 = 0) (hn : ∀ p (_ : p < m) (hj : p < j), p % 2 = 0 → LT.key (l[p]'(Nat.lt_trans hj h)) ≠ LT.key l[j]) (hx : LT.key (l[m]'(Nat.lt_trans hm h)) ≠ LT.key l[j]) : ∀ p (_ : p < m + 2) (hj : p < j), p % 2 = 0 → LT.key (l[p]'(Nat.lt_trans hj h)) ≠ LT.key l[j] := fun p hp hj h2 => by
  by_cases hpm : p < m
  · exact hn p hpm hj h2
  · have e : p = m := by omega
    subst e
    exact hx
theorem pairs_iff (l : List LT) (hg : KeysGood l l.length) : Pairs l ↔ l.length % 2 = 0 ∧ l.length ≤ 300 := ⟨fun h => h.2, fun h => ⟨hg, h⟩⟩
structure PairsRet (kids : List LT) (w' : World) (b : Bool) (w'' : World) : Prop where
  iff : b = true ↔ Pairs kids
  below : Below w'.heap.size w' w''
def PairsC (kids : List LT) (w' : World) (e : Ending) (w'' : World) : Prop := ∃ b : Bool, e = .returned (.bool b) ∧ PairsRet kids w' b w''
set_option maxHeartbeats 4000000 in
theorem pairs_any (w : World) (B : Nat) (a : Option Addr) (cap : Nat) (kids : List LT) (hl : kids.length ≤ 1048576) (hc : ∀ i (h : i < kids.length), ∃ x, a = some x ∧ x.block < B ∧ At5 w (x.add (i * 5)) kids[i]) (w' : World) (hb : Below B w w') (hB : B ≤ w'.heap.size) :
    Calls Tryd.prog 127 #[.slice a kids.length cap] w' (PairsC kids w') := by
  have HC := Lib.hid hc
  have HB := Lib.hid hb
  clear hc hb
  go_enter Tryd.func127, Tryd.ntmps127
  go_wp2_with fail
  go_loopw [3] (fun i wr => ∃ j : Nat, i = .int .i64 j ∧ j ≤ kids.length + 1 ∧ Hid (j % 2 = 0) ∧ Hid (KeysGood kids j) ∧ Hid (Below w'.heap.size w' wr)) (fun i _ => kids.length + 2 - (intOf i).toNat)
  case atStart => exact ⟨0, rfl, by omega, rfl, fun i hi => by omega, Below.refl _ _⟩
  case round =>
    obtain ⟨j, rfl, hj, HE, HG, HW⟩ := hrel
    by_cases hlt : j < kids.length
    · have hj0 : (0 : Int) ≤ (j : Int) := by omega
      have hj1 : (j : Int) < (kids.length : Int) := by omega
      obtain ⟨x, rfl, hx, h5⟩ := HC.out j hlt
      have HCJ : Hid (∀ W, Below w'.heap.size w' W → W.cell? (x.add (j * 5)) = some (.int .i64 kids[j].k) ∧ W.cell? ⟨(x.add (j * 5)).block, (x.add (j * 5)).off + 1, none⟩ = some (.int .i64 kids[j].n) ∧ W.cell? ⟨(x.add (j * 5)).block, (x.add (j * 5)).off + 3, none⟩ = some (.string kids[j].s)) := fun W hW => by
        obtain ⟨c0, c1, c2, c3, c4⟩ := h5.below (by rw [add_block]; exact hx) (HB.out.trans (hW.mono hB))
        exact ⟨c0, c1, c3⟩
      have HPK : Hid (kids[j].k ≠ 5 → kids[j].k ≠ 3 → ¬ Pairs kids) := fun h1 h2 => pairs_kind hlt HE.out h1 h2
      have HTW : Hid (∀ m (hm : m < j), m % 2 = 0 → LT.key (kids[m]'(Nat.lt_trans hm hlt)) = LT.key kids[j] → ¬ Pairs kids) := fun m hm h2 h => pairs_twice hlt hm HE.out h2 h
      have HNX : Hid (∀ m, (kids[j].k = 5 ∨ kids[j].k = 3) → ¬ m < j → (∀ p (_ : p < m) (hj : p < j), p % 2 = 0 → LT.key (kids[p]'(Nat.lt_trans hj hlt)) ≠ LT.key kids[j]) → KeysGood kids (j + 2)) := fun m hk hm hn => keys_next HG.out hlt HE.out hk hm hn
      have HNE : Hid (∀ m (hm : m < j), m % 2 = 0 → (∀ p (_ : p < m) (hj : p < j), p % 2 = 0 → LT.key (kids[p]'(Nat.lt_trans hj hlt)) ≠ LT.key kids[j]) → LT.key (kids[m]'(Nat.lt_trans hm hlt)) ≠ LT.key kids[j] → ∀ p (_ : p < m + 2) (hj : p < j), p % 2 = 0 → LT.key (kids[p]'(Nat.lt_trans hj hlt)) ≠ LT.key kids[j]) := fun m hm hme hn hx => ne_next hlt hm hme hn hx
      have hkey : LT.key kids[j] = (kids[j].k, kids[j].n, kids[j].s) := rfl
      rw [hkey] at HTW HNX HNE
      clear hkey HG h5
      generalize kids[j].k = K at *
      generalize kids[j].n = N at *
      generalize kids[j].s = S at *
      generalize hY : (K, N, S) = Y at *
      by_cases hk : K = 5 ∨ K = 3
      · have HNK := Lib.hid (fun m => HNX.out m hk)
        clear HNX HPK
        rcases hk with rfl | rfl
        · replace hY := Lib.hid hY
          obtain ⟨c0, c1, c3⟩ := HCJ.out _ HW.out
          go_wp2_with fail
          go_loopw [4] (fun i wr2 => ∃ m : Nat, i = .int .i64 m ∧ m ≤ j + 1 ∧ Hid (m % 2 = 0) ∧ Hid (∀ p (_ : p < m) (hj : p < j), p % 2 = 0 → LT.key (kids[p]'(Nat.lt_trans hj hlt)) ≠ Y) ∧ Hid (Below w'.heap.size w' wr2)) (fun i _ => j + 2 - (intOf i).toNat)
          case atStart => exact ⟨0, rfl, by omega, rfl, fun p hp => by omega, HW⟩
          case round =>
            clear c0 c1 c3 HW
            obtain ⟨m, rfl, hm, HM, HN, HW2⟩ := hrel
            by_cases hmj : m < j
            · have hm0 : (0 : Int) ≤ (m : Int) := by omega
              have hm1 : (m : Int) < (kids.length : Int) := by omega
              have hmj1 : (m : Int) < (j : Int) := by omega
              obtain ⟨c0, c1, c3⟩ := HCJ.out _ HW2.out
              obtain ⟨x', ex, hx', h5⟩ := HC.out m (Nat.lt_trans hmj hlt)
              obtain rfl : x = x' := by injection ex
              obtain ⟨d0, d1, d2, d3, d4⟩ := h5.below (by rw [add_block]; exact hx') (HB.out.trans (HW2.out.mono hB))
              have HT := Lib.hid (HTW.out m hmj HM.out)
              have HX := Lib.hid (HNE.out m hmj HM.out HN.out)
              have hkey : LT.key (kids[m]'(Nat.lt_trans hmj hlt)) = ((kids[m]'(Nat.lt_trans hmj hlt)).k, (kids[m]'(Nat.lt_trans hmj hlt)).n, (kids[m]'(Nat.lt_trans hmj hlt)).s) := rfl
              rw [hkey, ← hY.out] at HT HX
              clear hkey h5 d2 d4 ex HTW HNE HNK HN HCJ
              generalize (kids[m]'(Nat.lt_trans hmj hlt)).k = K2 at *
              generalize (kids[m]'(Nat.lt_trans hmj hlt)).n = N2 at *
              generalize (kids[m]'(Nat.lt_trans hmj hlt)).s = S2 at *
              by_cases e1 : K2 = 5
              · subst e1
                by_cases e2 : N2 = N
                · subst e2
                  by_cases e3 : S2 = S
                  · subst e3
                    replace HT := Lib.hid (HT.out rfl)
                    clear HX
                    go_wp2
                    go_quiet (fail)
                    have HW3 := Lib.hid (belowN HW2.out nq)
                    go_wp2
                    go_ret
                    exact ⟨false, rfl, ⟨fun h => by simp at h, fun h => (HT.out h).elim⟩, HW3.out⟩
                  · have e3' := other_text e3
                    replace HX := Lib.hid (HX.out (fun h => by injection h with _ h; injection h with _ h; exact e3 h))
                    clear HT e3
                    go_wp2
                    go_quiet (fail)
                    have HW3 := Lib.hid (belowN HW2.out nq)
                    go_wp2
                    go_roundw
                    case rel => exact ⟨m + 2, by go_num, by omega, by have := HM.out; unfold Hid; omega, by rw [← hY.out]; exact HX, HW3⟩
                    case measure => simp [intOf]; omega
                · have e2' : (N2 == N) = false := by simp [e2]
                  replace HX := Lib.hid (HX.out (fun h => by injection h with _ h; injection h with h; exact e2 h))
                  clear HT
                  go_wp2
                  go_quiet (fail)
                  have HW3 := Lib.hid (belowN HW2.out nq)
                  go_wp2
                  go_roundw
                  case rel => exact ⟨m + 2, by go_num, by omega, by have := HM.out; unfold Hid; omega, by rw [← hY.out]; exact HX, HW3⟩
                  case measure => simp [intOf]; omega
              · have e1' : (K2 == 5) = false := by simp [e1]
                replace HX := Lib.hid (HX.out (fun h => by injection h with h; exact e1 h))
                clear HT
                go_wp2
                go_quiet (fail)
                have HW3 := Lib.hid (belowN HW2.out nq)
                go_wp2
                go_roundw
                case rel => exact ⟨m + 2, by go_num, by omega, by have := HM.out; unfold Hid; omega, by rw [← hY.out]; exact HX, HW3⟩
                case measure => simp [intOf]; omega
            · have hmj1 : ¬ (m : Int) < (j : Int) := by omega
              have HG2 := Lib.hid (HNK.out m hmj HN.out)
              clear HNK HTW HNE HN
              go_wp2
              go_roundw
              case rel => exact ⟨j + 2, by go_num, by omega, by have := HE.out; unfold Hid; omega, HG2, HW2⟩
              case measure => simp [intOf]; omega
        · replace hY := Lib.hid hY
          obtain ⟨c0, c1, c3⟩ := HCJ.out _ HW.out
          go_wp2_with fail
          go_loopw [4] (fun i wr2 => ∃ m : Nat, i = .int .i64 m ∧ m ≤ j + 1 ∧ Hid (m % 2 = 0) ∧ Hid (∀ p (_ : p < m) (hj : p < j), p % 2 = 0 → LT.key (kids[p]'(Nat.lt_trans hj hlt)) ≠ Y) ∧ Hid (Below w'.heap.size w' wr2)) (fun i _ => j + 2 - (intOf i).toNat)
          case atStart => exact ⟨0, rfl, by omega, rfl, fun p hp => by omega, HW⟩
          case round =>
            clear c0 c1 c3 HW
            obtain ⟨m, rfl, hm, HM, HN, HW2⟩ := hrel
            by_cases hmj : m < j
            · have hm0 : (0 : Int) ≤ (m : Int) := by omega
              have hm1 : (m : Int) < (kids.length : Int) := by omega
              have hmj1 : (m : Int) < (j : Int) := by omega
              obtain ⟨c0, c1, c3⟩ := HCJ.out _ HW2.out
              obtain ⟨x', ex, hx', h5⟩ := HC.out m (Nat.lt_trans hmj hlt)
              obtain rfl : x = x' := by injection ex
              obtain ⟨d0, d1, d2, d3, d4⟩ := h5.below (by rw [add_block]; exact hx') (HB.out.trans (HW2.out.mono hB))
              have HT := Lib.hid (HTW.out m hmj HM.out)
              have HX := Lib.hid (HNE.out m hmj HM.out HN.out)
              have hkey : LT.key (kids[m]'(Nat.lt_trans hmj hlt)) = ((kids[m]'(Nat.lt_trans hmj hlt)).k, (kids[m]'(Nat.lt_trans hmj hlt)).n, (kids[m]'(Nat.lt_trans hmj hlt)).s) := rfl
              rw [hkey, ← hY.out] at HT HX
              clear hkey h5 d2 d4 ex HTW HNE HNK HN HCJ
              generalize (kids[m]'(Nat.lt_trans hmj hlt)).k = K2 at *
              generalize (kids[m]'(Nat.lt_trans hmj hlt)).n = N2 at *
              generalize (kids[m]'(Nat.lt_trans hmj hlt)).s = S2 at *
              by_cases e1 : K2 = 3
              · subst e1
                by_cases e2 : N2 = N
                · subst e2
                  by_cases e3 : S2 = S
                  · subst e3
                    replace HT := Lib.hid (HT.out rfl)
                    clear HX
                    go_wp2
                    go_quiet (fail)
                    have HW3 := Lib.hid (belowN HW2.out nq)
                    go_wp2
                    go_ret
                    exact ⟨false, rfl, ⟨fun h => by simp at h, fun h => (HT.out h).elim⟩, HW3.out⟩
                  · have e3' := other_text e3
                    replace HX := Lib.hid (HX.out (fun h => by injection h with _ h; injection h with _ h; exact e3 h))
                    clear HT e3
                    go_wp2
                    go_quiet (fail)
                    have HW3 := Lib.hid (belowN HW2.out nq)
                    go_wp2
                    go_roundw
                    case rel => exact ⟨m + 2, by go_num, by omega, by have := HM.out; unfold Hid; omega, by rw [← hY.out]; exact HX, HW3⟩
                    case measure => simp [intOf]; omega
                · have e2' : (N2 == N) = false := by simp [e2]
                  replace HX := Lib.hid (HX.out (fun h => by injection h with _ h; injection h with h; exact e2 h))
                  clear HT
                  go_wp2
                  go_quiet (fail)
                  have HW3 := Lib.hid (belowN HW2.out nq)
                  go_wp2
                  go_roundw
                  case rel => exact ⟨m + 2, by go_num, by omega, by have := HM.out; unfold Hid; omega, by rw [← hY.out]; exact HX, HW3⟩
                  case measure => simp [intOf]; omega
              · have e1' : (K2 == 3) = false := by simp [e1]
                replace HX := Lib.hid (HX.out (fun h => by injection h with h; exact e1 h))
                clear HT
                go_wp2
                go_quiet (fail)
                have HW3 := Lib.hid (belowN HW2.out nq)
                go_wp2
                go_roundw
                case rel => exact ⟨m + 2, by go_num, by omega, by have := HM.out; unfold Hid; omega, by rw [← hY.out]; exact HX, HW3⟩
                case measure => simp [intOf]; omega
            · have hmj1 : ¬ (m : Int) < (j : Int) := by omega
              have HG2 := Lib.hid (HNK.out m hmj HN.out)
              clear HNK HTW HNE HN
              go_wp2
              go_roundw
              case rel => exact ⟨j + 2, by go_num, by omega, by have := HE.out; unfold Hid; omega, HG2, HW2⟩
              case measure => simp [intOf]; omega
      · have hk5 : ¬ K = 5 := fun h => hk (.inl h)
        have hk3 : ¬ K = 3 := fun h => hk (.inr h)
        have hq5 : (K != 5) = true := by simp [hk5]
        have hq3 : (K != 3) = true := by simp [hk3]
        obtain ⟨c0, c1, c3⟩ := HCJ.out _ HW.out
        have HF := Lib.hid (HPK.out hk5 hk3)
        clear c1 c3 hk HTW HNX HNE HPK HCJ
        go_wp2
        go_ret
        exact ⟨false, rfl, ⟨fun h => by simp at h, fun h => (HF.out h).elim⟩, HW.out⟩
    · have hj1 : ¬ (j : Int) < (kids.length : Int) := by omega
      have HF := Lib.hid (pairs_iff kids (keys_end HG.out hlt))
      clear HG
      by_cases h2 : kids.length % 2 = 0
      · have h2' : (kids.length : Int) % 2 = 0 := by omega
        have HR : Hid (decide ((kids.length : Int) ≤ 300) = true ↔ Pairs kids) := by
          unfold Hid
          rw [HF.out]
          simp
          omega
        clear h2 HF
        go_wp2
        go_ret
        exact ⟨_, rfl, HR.out, HW.out⟩
      · have h2' : ¬ (kids.length : Int) % 2 = 0 := by omega
        have HR : Hid (¬ Pairs kids) := fun h => h2 (HF.out.1 h).1
        clear h2 HF
        go_wp2
        go_ret
        exact ⟨false, rfl, ⟨fun h => by simp at h, fun h => (HR.out h).elim⟩, HW.out⟩
end Go.Proofs.YtnaghafmpncdkaaDoor.node
