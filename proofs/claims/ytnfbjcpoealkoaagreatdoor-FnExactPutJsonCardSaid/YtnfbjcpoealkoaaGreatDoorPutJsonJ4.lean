/-
  Decimal numbers, plain: n * 10^e where it fits into 64 bits, noughts taken off, which numbers are valid, and what Norm is.
-/
import Derived.Test.YtnfbjcpoealkoaaGreatDoorPutJsonJ0
import Derived.Test.YtnfbjcpoealkoaaGreatDoorRows
import Derived.WalkKit
import Derived.ProofKit
import Derived.OpenShut
import Derived.WalkLawsBesides
import Derived.Deep.QuietTactic
import Derived.BigQuiet
import Derived.Deep.RegionWith
import Derived.Lib.Hide
import Derived.Lib.ItoaNum
import Derived.Lib.ItoaLen
import Derived.Lib.Strings
import Derived.WalkSpells
import Derived.Test.YtnfbjcpoealkoaaGreatDoorPutJsonJ1
import Derived.Laws.Rows
import Derived.Laws.OwnMore
import Derived.Deep.Draws
import Derived.Below
namespace Go.Proofs.YtnfbjcpoealkoaaGreatDoor.num
open Go.ChangeShapes Go.WideShapes Go.ChangeAt Go.RowKit
open Go.Proofs.YtnfbjcpoealkoaaGreatDoor.val
set_option maxRecDepth 100000

theorem td (n : Int) : (0 ≤ n ∧ n.tdiv 10 = n / 10) ∨ (n < 0 ∧ n.tdiv 10 = -((-n) / 10)) := by
  rcases Int.lt_or_le n 0 with h | h
  · right
    refine ⟨h, ?_⟩
    have h1 := Int.neg_tdiv (-n) 10
    rw [Int.neg_neg] at h1
    rw [h1, Int.tdiv_eq_ediv_of_nonneg (by omega)]
  · left
    exact ⟨h, Int.tdiv_eq_ediv_of_nonneg h⟩
theorem tm (n : Int) : n.tmod 10 = n - 10 * n.tdiv 10 := Int.tmod_def n 10

def tenOf (n : Int) : Int := wrap64 (n * 10)
def tenFits (n : Int) : Bool := decide ((tenOf n).tdiv 10 = n)
/-- n * 10^e, if no step of it is wrapped round. -/
def scal : Int → Nat → Option Int
  | n, 0 => some n
  | n, e + 1 => if tenFits n = true then scal (tenOf n) e else none
theorem inI_wrap (n : Int) : InI (wrap64 n) := by unfold InI wrap64; omega
theorem wrap_in {n : Int} (h : InI n) : wrap64 n = n := by unfold InI at h; unfold wrap64; omega
theorem ten_ok {n : Int} (hn : InI n) (h : tenFits n = true) : tenOf n = n * 10 := by
  unfold tenFits at h
  replace h := of_decide_eq_true h
  unfold tenOf at *
  have := td (wrap64 (n * 10))
  unfold InI at hn
  generalize hq : (wrap64 (n * 10)).tdiv 10 = q at *
  unfold wrap64 at *
  omega
theorem scal_some : ∀ (e : Nat) (n m : Int), InI n → scal n e = some m → m = n * 10 ^ e ∧ InI m
  | 0, n, m, hn, h => by rw [scal] at h; injection h with h; subst h; simp [hn]
  | e + 1, n, m, hn, h => by
    rw [scal] at h
    split at h
    · rename_i h1
      obtain ⟨h2, h3⟩ := scal_some e (tenOf n) m (show InI (tenOf n) from inI_wrap _) h
      rw [ten_ok hn h1] at h2
      exact ⟨by rw [h2, Int.pow_succ, Int.mul_assoc, Int.mul_comm 10], h3⟩
    · cases h
theorem ten20 (e : Nat) (h : 20 ≤ e) : (100000000000000000000 : Nat) ≤ 10 ^ e := by
  have : 10 ^ 20 ≤ 10 ^ e := Nat.pow_le_pow_right (by omega) h
  simpa using this
theorem scal_far {n : Int} {e : Nat} (hn : InI n) (h0 : n ≠ 0) (he : 20 ≤ e) : scal n e = none := by
  cases h : scal n e with
  | none => rfl
  | some m =>
    obtain ⟨h1, h2⟩ := scal_some e n m hn h
    have h3 : m.natAbs = n.natAbs * 10 ^ e := by rw [h1, Int.natAbs_mul, Int.natAbs_pow]; rfl
    have h4 := ten20 e he
    have h5 : 10 ^ e ≤ n.natAbs * 10 ^ e := Nat.le_mul_of_pos_left _ (by omega)
    unfold InI at h2
    generalize n.natAbs * 10 ^ e = z at *
    omega

/-- The noughts at the end taken off. -/
def strip (n e : Int) : Int × Int := if h : n ≠ 0 ∧ n.tmod 10 = 0 then strip (n.tdiv 10) (e + 1) else (n, e)
termination_by n.natAbs
decreasing_by
  have := td n
  have := tm n
  omega
theorem strip_yes {n e : Int} (h0 : n ≠ 0) (h : n.tmod 10 = 0) : strip n e = strip (n.tdiv 10) (e + 1) := by rw [strip, dif_pos ⟨h0, h⟩]
theorem strip_no {n e : Int} (h : n.tmod 10 ≠ 0) : strip n e = (n, e) := by rw [strip, dif_neg (fun hh => h hh.2)]
theorem div_ne {n : Int} (h0 : n ≠ 0) (h : n.tmod 10 = 0) : n.tdiv 10 ≠ 0 := by
  have := tm n
  omega
theorem div_in {n : Int} (hn : InI n) : InI (n.tdiv 10) := by
  have := td n
  unfold InI at *
  omega
theorem div_less {n : Int} (h0 : n ≠ 0) : (n.tdiv 10).natAbs < n.natAbs := by
  have := td n
  omega
/-- Room for the exponent: as many noughts as there are digits at most. -/
def Room (n e : Int) : Prop := -1000 ≤ e ∧ ∃ k : Nat, e ≤ 1000 + k ∧ k ≤ 40 ∧ n.natAbs * 10 ^ k ≤ 9223372036854775808
theorem room_start {n e : Int} (hn : InI n) (h1 : -1000 ≤ e) (h2 : e ≤ 1000) : Room n e := ⟨h1, 0, by omega, by omega, by unfold InI at hn; simp; omega⟩
theorem room_step {n e : Int} (h : Room n e) (h0 : n ≠ 0) (hm : n.tmod 10 = 0) : Room (n.tdiv 10) (e + 1) := by
  obtain ⟨h1, k, h2, h3, h4⟩ := h
  have e1 : n.natAbs = (n.tdiv 10).natAbs * 10 := by
    have := td n
    have := tm n
    omega
  have e2 : (n.tdiv 10).natAbs * 10 ^ (k + 1) ≤ 9223372036854775808 := by rw [Nat.pow_succ, Nat.mul_comm (10 ^ k), ← Nat.mul_assoc, ← e1]; exact h4
  refine ⟨by omega, k + 1, by omega, ?_, e2⟩
  have hp : 1 ≤ (n.tdiv 10).natAbs := by have := div_ne h0 hm; omega
  have h5 : 10 ^ (k + 1) ≤ 9223372036854775808 := Nat.le_trans (Nat.le_mul_of_pos_left _ hp) e2
  rcases Nat.lt_or_ge k 40 with hk | hk
  · omega
  · have := ten20 (k + 1) (by omega)
    generalize 10 ^ (k + 1) = z at *
    omega
theorem Room.le {n e : Int} (h : Room n e) : -1000 ≤ e ∧ e ≤ 1040 := by obtain ⟨h1, k, h2, h3, _⟩ := h; omega

/-- A VDec's two numbers are valid. -/
def decOk (n e : Int) : Bool := decide (-20 ≤ e ∧ e ≤ 20 ∧ e ≠ 0 ∧ -999999999999999999 ≤ n ∧ n ≤ 999999999999999999 ∧ n.tmod 10 ≠ 0) && (decide (e < 0) || (scal n e.toNat).isNone)
theorem dec_no {n e : Int} (h : ¬ (-20 ≤ e ∧ e ≤ 20 ∧ e ≠ 0 ∧ -999999999999999999 ≤ n ∧ n ≤ 999999999999999999 ∧ n.tmod 10 ≠ 0)) : decOk n e = false := by unfold decOk; rw [decide_eq_false h]; rfl
theorem dec_is {n e : Int} (h : -20 ≤ e ∧ e ≤ 20 ∧ e ≠ 0 ∧ -999999999999999999 ≤ n ∧ n ≤ 999999999999999999 ∧ n.tmod 10 ≠ 0) : decOk n e = (decide (e < 0) || (scal n e.toNat).isNone) := by unfold decOk; rw [decide_eq_true h, Bool.true_and]
/-- A number is valid: of a kind VInt (3) or VDec (4). -/
def numOk (t : LT) : Bool := decide (t.s.size = 0 ∧ t.kids.length = 0) && (if t.k = 3 then decide (t.e = 0) else decOk t.n t.e)

/-- What Norm tells: the kind, the two numbers, whether there is such a number. -/
def normAt (n e : Int) : Int × Int × Int × Bool :=
  if 0 ≤ e ∧ (scal n e.toNat).isSome then (3, (scal n e.toNat).getD 0, 0, true) else if decOk n e then (4, n, e, true) else (0, 0, 0, false)
def norm (n e : Int) : Int × Int × Int × Bool :=
  if e < -1000 ∨ 1000 < e then (0, 0, 0, false) else if n = 0 then (3, 0, 0, true) else normAt (strip n e).1 (strip n e).2

end Go.Proofs.YtnfbjcpoealkoaaGreatDoor.num
/-
  A slice of strings that a call has made, and what it reads as.
-/
namespace Go.Proofs.YtnfbjcpoealkoaaGreatDoor.strs
open Go.ChangeShapes Go.WideShapes Go.ChangeAt Go.RowKit
set_option maxRecDepth 100000

def encS (b : ByteArray) : Value := .string b
theorem oneS (x : ByteArray) : (encS x).oneCell' = true := rfl

/-- A slice of strings that reads as l. -/
structure ReadS (w : World) (v : Value) (l : List ByteArray) (a : Option Addr) (c : Nat) (g : Nat) : Prop where
  val : v = .slice a l.length c
  adr : 0 < l.length → a = some ⟨g, 0, none⟩
  cell : ∀ j (h : j < l.length), w.cell? ⟨g, j, none⟩ = some (.string l[j])
theorem readS_of {w : World} {base : Nat} {v : Value} {l : List ByteArray} (h : OwnL w base 9 encS v l) : ∃ a c g, ReadS w v l a c g := by
  rcases h.2 with ⟨rfl, hn⟩ | ⟨g, cap, cur, rfl, hb, hg, hc, hm, hs, ht⟩
  · exact ⟨none, 0, 0, by rw [hn], fun h0 => by omega, fun j hj => by omega⟩
  · exact ⟨_, cap, g, rfl, fun _ => rfl, fun j hj => h.cell j hj⟩

theorem ownL_store {w : World} {base g cap : Nat} {l : List ByteArray} (h : OwnL w base 9 encS (.slice (some ⟨g, 0, none⟩) l.length cap) l) (j : Nat) (x : ByteArray) :
    OwnL (w.setCell ⟨g, j, none⟩ (.string x)) base 9 encS (.slice (some ⟨g, 0, none⟩) l.length cap) (l.set j x) ∧ w.grownBy (w.setCell ⟨g, j, none⟩ (.string x)) (some g) := by
  obtain ⟨h1, h2⟩ := World.ownsRow.stored h j (.string x)
  refine ⟨?_, h2⟩
  unfold OwnL
  rw [List.length_set, List.map_set]
  exact h1
theorem grown_of_below {w w1 w' : World} {row : Option Nat} (hg : w.grownBy w1 row) (hb : Below w1.heap.size w1 w') : w.grownBy w' row :=
  hg.trans ⟨hb.os, hb.tape, hb.output, hb.size, fun k hk _ => hb.block k hk⟩

end Go.Proofs.YtnfbjcpoealkoaaGreatDoor.strs
/-
  What spec.DecText and impl.DecText return: the decimal numeral of any int.
-/
namespace Go.Proofs.YtnfbjcpoealkoaaGreatDoor.decText
open Go.ChangeShapes Go.WideShapes Go.ChangeAt Go.RowKit
set_option maxRecDepth 100000

/-- The digits of a number, none for 0. -/
def digs (u : Nat) : List UInt8 := if u = 0 then [] else digs (u / 10) ++ [UInt8.ofNat (48 + u % 10)]
theorem digs_zero : digs 0 = [] := by unfold digs; rfl
theorem digs_step {u : Nat} (h : 0 < u) : digs u = digs (u / 10) ++ [UInt8.ofNat (48 + u % 10)] := by
  rw [digs, if_neg (by omega)]
theorem digs_eq : ∀ u : Nat, 0 < u → digs u = Lib.decDigits u := by
  intro u
  induction u using Nat.strongRecOn with
  | ind u ih =>
    intro h
    rw [digs_step h, Lib.decDigits]
    by_cases hs : u < 10
    · rw [dif_pos hs, show u / 10 = 0 by omega, digs_zero, show u % 10 = u by omega]; rfl
    · rw [dif_neg hs, ih (u / 10) (by omega) (by omega)]

theorem piece_fin : ∀ d : Fin 10, (ByteArray.mk #[48, 49, 50, 51, 52, 53, 54, 55, 56, 57]).extract d.val (d.val + 1) = ⟨#[UInt8.ofNat (48 + d.val)]⟩ := by decide +kernel
theorem piece (d : Nat) (h : d < 10) (out : List UInt8) : (ByteArray.mk #[48, 49, 50, 51, 52, 53, 54, 55, 56, 57]).extract d (d + 1) ++ (⟨out.toArray⟩ : ByteArray) = ⟨(UInt8.ofNat (48 + d) :: out).toArray⟩ := by
  rw [piece_fin ⟨d, h⟩]
  apply ByteArray.ext
  apply Array.toList_inj.1
  rw [ByteArray.data_append]
  simp
theorem minus (out : List UInt8) : (ByteArray.mk #[45]) ++ (⟨out.toArray⟩ : ByteArray) = ⟨((45 : UInt8) :: out).toArray⟩ := by
  apply ByteArray.ext
  apply Array.toList_inj.1
  rw [ByteArray.data_append]
  simp
/-- How much has been written when v is left of u. -/
structure Left (u v : Nat) (out : List UInt8) : Prop where
  digits : digs u = digs v ++ out
  small : v * 10 ^ out.length ≤ u
theorem Left.step {u v : Nat} {out : List UInt8} (h : Left u v out) (hv : 0 < v) : Left u (v / 10) (UInt8.ofNat (48 + v % 10) :: out) := by
  refine ⟨?_, ?_⟩
  · rw [h.digits, digs_step hv]; simp
  · rw [List.length_cons, Nat.pow_succ, Nat.mul_comm (10 ^ out.length), ← Nat.mul_assoc]
    exact Nat.le_trans (Nat.mul_le_mul_right _ (by omega)) h.small
theorem Left.len {u v : Nat} {out : List UInt8} (h : Left u v out) (hv : 0 < v) (hu : u < 10 ^ 19) : out.length < 19 := by
  have h1 := h.small
  have h2 : 10 ^ out.length ≤ v * 10 ^ out.length := Nat.le_mul_of_pos_left _ hv
  exact (Nat.pow_lt_pow_iff_right (by omega)).1 (Nat.lt_of_le_of_lt (Nat.le_trans h2 h1) hu)
theorem ret_str {a b : ByteArray} (h : a = b) : Ending.returned (.string a) = .returned (.string b) := by rw [h]

theorem spec_zero (w : World) : Calls Tryz.prog 136 #[.int .i64 0] w fun e w' => e = .returned (.string ⟨#[48]⟩) ∧ w = w' := by
  go_enter Tryz.func136, Tryz.ntmps136
  go_wp2
  go_ret
  exact ⟨rfl, rfl⟩

set_option maxHeartbeats 1000000 in
theorem spec_pos (u : Nat) (h0 : 0 < u) (h1 : u ≤ 9223372036854775807) (w : World) :
    Calls Tryz.prog 136 #[.int .i64 u] w fun e w' => e = .returned (.string ⟨(Lib.decDigits u).toArray⟩) ∧ w = w' := by
  have hz : ((u : Int) == 0) = false := by simp; omega
  go_enter Tryz.func136, Tryz.ntmps136
  go_wp2
  go_loop [3, 4, 5] (fun o m _ => ∃ (v : Nat) (out : List UInt8), v ≤ u ∧ m = .int .i64 v ∧ o = .string ⟨out.toArray⟩ ∧ Left u v out) (fun _ m _ => (intOf m).toNat)
  case atStart => exact ⟨u, [], Nat.le_refl _, rfl, rfl, by simp, by simp⟩
  case round =>
    obtain ⟨v, out, hv, rfl, rfl, HD⟩ := hrel
    by_cases hlt : 0 < v
    · have hne : ((v : Int) != 0) = true := by simp; omega
      have hlen := HD.len hlt (by omega)
      have R1 := HD.step hlt
      clear HD
      go_wp2
      refine ⟨⟨v / 10, _, by omega, by congr 1, ?_, R1⟩, by simp [intOf]; omega⟩
      rw [piece (v % 10) (by omega)]
    · have e : v = 0 := by omega
      subst e
      have E : Hid (out = Lib.decDigits u) := by have := HD.digits; rw [digs_zero, digs_eq u h0] at this; exact this.symm
      clear HD
      go_wp2
      go_ret
      exact ⟨by rw [← E.out]; rfl, rfl⟩

set_option maxHeartbeats 1000000 in
theorem spec_neg (u : Nat) (h0 : 0 < u) (h1 : u ≤ 9223372036854775808) (w : World) :
    Calls Tryz.prog 136 #[.int .i64 (-(u : Int))] w fun e w' => e = .returned (.string ⟨((45 : UInt8) :: Lib.decDigits u).toArray⟩) ∧ w = w' := by
  have hz : ((-(u : Int)) == 0) = false := by simp; omega
  go_enter Tryz.func136, Tryz.ntmps136
  go_wp2
  go_loop [3, 4, 5] (fun o m _ => ∃ (v : Nat) (out : List UInt8), v ≤ u ∧ m = .int .i64 (-(v : Int)) ∧ o = .string ⟨out.toArray⟩ ∧ Left u v out) (fun _ m _ => (-(intOf m)).toNat)
  case atStart => exact ⟨u, [], Nat.le_refl _, rfl, rfl, by simp, by simp⟩
  case round =>
    obtain ⟨v, out, hv, rfl, rfl, HD⟩ := hrel
    by_cases hlt : 0 < v
    · have hne : ((-(v : Int)) != 0) = true := by simp; omega
      have hlen := HD.len hlt (by omega)
      have R1 := HD.step hlt
      clear HD
      go_wp2
      · refine ⟨⟨v / 10, _, by omega, by congr 1, ?_, R1⟩, by simp [intOf]; omega⟩
        rw [piece (v % 10) (by omega)]
      · have hz0 : (v : Int) % 10 ≤ 0 := by assumption
        refine ⟨⟨v / 10, _, by omega, by congr 1, ?_, R1⟩, by simp [intOf]; omega⟩
        rw [show (-((v : Int) % 10)).toNat = v % 10 by omega, show (-((v : Int) % 10) + 1).toNat = v % 10 + 1 by omega, piece (v % 10) (by omega)]
    · have e : v = 0 := by omega
      subst e
      have E : Hid (out = Lib.decDigits u) := by have := HD.digits; rw [digs_zero, digs_eq u h0] at this; exact this.symm
      have hlen : out.length ≤ 20 := by rw [E.out, Lib.decDigits_length]; exact Lib.nDigits_le20 u (by omega)
      clear HD
      go_wp2
      go_ret
      exact ⟨by rw [← E.out]; exact ret_str (minus out), rfl⟩

theorem spec_any (n : Int) (h0 : -9223372036854775808 ≤ n) (h1 : n ≤ 9223372036854775807) (w : World) :
    Calls Tryz.prog 136 #[.int .i64 n] w fun e w' => e = .returned (.string ⟨(Lib.itoa n).toArray⟩) ∧ w = w' := by
  unfold Lib.itoa
  by_cases hn : n < 0
  · rw [if_pos hn]
    have := spec_neg n.natAbs (by omega) (by omega) w
    rw [show (-(n.natAbs : Int)) = n by omega] at this
    exact this
  · rw [if_neg hn]
    by_cases hz : n = 0
    · subst hz
      rw [show Int.toNat 0 = 0 from rfl, Lib.decDigits_one (by omega)]
      exact spec_zero w
    · have := spec_pos n.toNat (by omega) (by omega) w
      rw [show ((n.toNat : Nat) : Int) = n by omega] at this
      exact this
end Go.Proofs.YtnfbjcpoealkoaaGreatDoor.decText
/-
  What spec.PutSign and impl.PutSign return, for every int: the UTF-8 encoding of a code point, or the empty string. No condition.
-/
namespace Go.Proofs.YtnfbjcpoealkoaaGreatDoor.putSign
open Go.ChangeShapes Go.WideShapes Go.ChangeAt Go.RowKit
open Go.Proofs.YtnfbjcpoealkoaaGreatDoor.sign

theorem conv_new (w : World) (xs : List Int) (k : Nat) (hk : xs.length = k) :
    (convert 22 9 (.slice (some ⟨w.heap.size, 0, none⟩) k k)).run Tryz.prog (w.alloc (.cells (xs.map (Value.int .u8)).toArray 5)) = .ok (.string (strOfNums xs)) (w.alloc (.cells (xs.map (Value.int .u8)).toArray 5)) := by
  refine run_convert_bytes_arg _ _ _ Tryz.underlying22 Tryz.underlying5 _ _ _ _ xs hk ?_ _ Tryz.underlying9
  intro i hi
  have hi' : i < xs.length := by omega
  rw [Nat.zero_add, cell_of_row _ _ i _ _ (0, 0) (heap_alloc_new w _)]
  simp [List.getElem?_eq_getElem hi']

theorem conv1 (a : Int) (w : World) : (convert 22 9 (.slice (some ⟨w.heap.size, 0, none⟩) 1 1)).run Tryz.prog (w.alloc (.cells #[.int .u8 a] 5)) = .ok (.string (strOfNums [a])) (w.alloc (.cells #[.int .u8 a] 5)) :=
  conv_new w [a] 1 rfl
theorem conv2 (a b : Int) (w : World) : (convert 22 9 (.slice (some ⟨w.heap.size, 0, none⟩) 2 2)).run Tryz.prog (w.alloc (.cells #[.int .u8 a, .int .u8 b] 5)) = .ok (.string (strOfNums [a, b])) (w.alloc (.cells #[.int .u8 a, .int .u8 b] 5)) :=
  conv_new w [a, b] 2 rfl
theorem conv3 (a b c : Int) (w : World) : (convert 22 9 (.slice (some ⟨w.heap.size, 0, none⟩) 3 3)).run Tryz.prog (w.alloc (.cells #[.int .u8 a, .int .u8 b, .int .u8 c] 5)) = .ok (.string (strOfNums [a, b, c])) (w.alloc (.cells #[.int .u8 a, .int .u8 b, .int .u8 c] 5)) :=
  conv_new w [a, b, c] 3 rfl
theorem conv4 (a b c d : Int) (w : World) : (convert 22 9 (.slice (some ⟨w.heap.size, 0, none⟩) 4 4)).run Tryz.prog (w.alloc (.cells #[.int .u8 a, .int .u8 b, .int .u8 c, .int .u8 d] 5)) = .ok (.string (strOfNums [a, b, c, d])) (w.alloc (.cells #[.int .u8 a, .int .u8 b, .int .u8 c, .int .u8 d] 5)) :=
  conv_new w [a, b, c, d] 4 rfl

theorem ret_string {a b : ByteArray} (h : a = b) : Ending.returned (.string a) = .returned (.string b) := by rw [h]
theorem wrapand (n : Int) : wrap64 (128 + n % 64) % 256 = 128 + n % 64 := by unfold wrap64; omega

theorem spec_1 (n : Int) (w : World) (h0 : 0 ≤ n) (h1 : n < 128) :
    Calls Tryz.prog 245 #[.int .i64 n] w fun e w' => e = .returned (.string (Utf8.encode n)) ∧ Below w.heap.size w w' := by
  have c1 := conv1
  go_enter Tryz.func245, Tryz.ntmps245
  go_wp2
  go_ret
  exact ⟨ret_string (enc1 h0 h1), (Below.refl _ _).alloc (Nat.le_refl _) _⟩
theorem spec_2 (n : Int) (w : World) (h0 : 128 ≤ n) (h1 : n < 2048) :
    Calls Tryz.prog 245 #[.int .i64 n] w fun e w' => e = .returned (.string (Utf8.encode n)) ∧ Below w.heap.size w w' := by
  have c1 := conv2
  go_enter Tryz.func245, Tryz.ntmps245
  go_wp2
  go_ret
  exact ⟨ret_string (by rw [i64_and63, wrapand]; exact enc2 h0 h1), (Below.refl _ _).alloc (Nat.le_refl _) _⟩
theorem spec_3 (n : Int) (w : World) (h0 : 2048 ≤ n) (h1 : n < 65536) (hn : n < 55296 ∨ 57343 < n) :
    Calls Tryz.prog 245 #[.int .i64 n] w fun e w' => e = .returned (.string (Utf8.encode n)) ∧ Below w.heap.size w w' := by
  have hv := valid_of (n := n) (by omega)
  have c1 := conv3
  rcases hn with hn | hn
  all_goals
    go_enter Tryz.func245, Tryz.ntmps245
    go_wp2
    go_ret
    exact ⟨ret_string (by rw [i64_and63, i64_and63, wrapand, wrapand]; exact enc3 h0 h1 hv), (Below.refl _ _).alloc (Nat.le_refl _) _⟩
theorem spec_4 (n : Int) (w : World) (h0 : 65536 ≤ n) (h1 : n ≤ 1114111) :
    Calls Tryz.prog 245 #[.int .i64 n] w fun e w' => e = .returned (.string (Utf8.encode n)) ∧ Below w.heap.size w w' := by
  have c1 := conv4
  go_enter Tryz.func245, Tryz.ntmps245
  go_wp2
  go_ret
  exact ⟨ret_string (by rw [i64_and63, i64_and63, i64_and63, wrapand, wrapand, wrapand]; exact enc4 h0 h1), (Below.refl _ _).alloc (Nat.le_refl _) _⟩
theorem spec_0 (n : Int) (w : World) (h : n < 0 ∨ (55296 ≤ n ∧ n ≤ 57343) ∨ 1114111 < n) :
    Calls Tryz.prog 245 #[.int .i64 n] w fun e w' => e = .returned (.string ⟨#[]⟩) ∧ Below w.heap.size w w' := by
  rcases h with h | h | h
  all_goals
    go_enter Tryz.func245, Tryz.ntmps245
    go_wp2
    go_ret
    exact ⟨rfl, Below.refl _ _⟩

theorem spec_any (n : Int) (w : World) :
    Calls Tryz.prog 245 #[.int .i64 n] w fun e w' => e = .returned (.string (putSign n)) ∧ Below w.heap.size w w' := by
  by_cases h : (0 ≤ n ∧ n < 55296) ∨ (57343 < n ∧ n ≤ 1114111)
  · have e : putSign n = Utf8.encode n := by unfold putSign; rw [if_pos (valid_of h)]
    rw [e]
    by_cases h1 : n < 128
    · exact spec_1 n w (by omega) h1
    by_cases h2 : n < 2048
    · exact spec_2 n w (by omega) h2
    by_cases h3 : n < 65536
    · exact spec_3 n w (by omega) h3 (by omega)
    · exact spec_4 n w (by omega) (by omega)
  · have h' : n < 0 ∨ (55296 ≤ n ∧ n ≤ 57343) ∨ 1114111 < n := by omega
    have e : putSign n = ⟨#[]⟩ := by unfold putSign; rw [invalid_of h']; rfl
    rw [e]
    exact spec_0 n w h'

end Go.Proofs.YtnfbjcpoealkoaaGreatDoor.putSign
