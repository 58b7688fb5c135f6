/-
  Heads of CBOR as lists of bytes: the shortest form, and what the bytes of a head of any length tell.
-/
import Derived.Test.YtnaghafmpncdkaaDoorGetCborJ0
import Derived.Test.YtnaghafmpncdkaaDoorRows
import Derived.Test.YtnaghafmpncdkaaDoorGetCborJ5
import Derived.Lib.Hide
import Derived.WalkKit
import Derived.ProofKit
import Derived.OpenShut
import Derived.WalkLawsBesides
import Derived.Laws.BitsLemmas
import Derived.Laws.MakeOwn
namespace Go.Proofs.YtnaghafmpncdkaaDoor.head
open Go.RowKit

/-- The lowest k bytes of a number, the highest first. -/
def bigL : Nat → Nat → List UInt8
  | _, 0 => []
  | n, k + 1 => bigL (n / 256) k ++ [UInt8.ofNat n]
theorem bigL_len (n k : Nat) : (bigL n k).length = k := by
  induction k generalizing n with
  | zero => rfl
  | succ k ih => rw [bigL, List.length_append, ih]; rfl
theorem bigL_cons (n k : Nat) : bigL n (k + 1) = UInt8.ofNat (n / 256 ^ k) :: bigL n k := by
  induction k generalizing n with
  | zero => simp [bigL]
  | succ k ih =>
    rw [bigL, ih (n / 256), Nat.div_div_eq_div_mul, ← Nat.pow_succ', bigL]
    rfl
/-- The first j of the m bytes of a number. -/
theorem bigL_step (n m j : Nat) (h : j < m) : bigL (n / 256 ^ (m - (j + 1))) (j + 1) = bigL (n / 256 ^ (m - j)) j ++ [UInt8.ofNat (n / 256 ^ (m - (j + 1)))] := by
  rw [bigL, Nat.div_div_eq_div_mul, ← Nat.pow_succ]
  congr 4
  omega
/-- How many bytes a number of a head has: 2 to this. -/
def wid (n : Nat) : Nat := if n < 256 then 0 else if n < 65536 then 1 else if n < 4294967296 then 2 else 3
def headL (m n : Nat) : List UInt8 := if n < 24 then [UInt8.ofNat (32 * m + n)] else UInt8.ofNat (32 * m + 24 + wid n) :: bigL n (2 ^ wid n)
theorem wid_le (n : Nat) : wid n ≤ 3 := by unfold wid; (repeat' split) <;> omega
theorem two_pow_inj {a b : Nat} (h : 2 ^ a = 2 ^ b) : a = b := (Nat.pow_right_inj (by omega)).1 h
theorem headL_len (m n : Nat) : (headL m n).length = if n < 24 then 1 else 1 + 2 ^ wid n := by
  unfold headL
  split
  · rfl
  · rw [List.length_cons, bigL_len]; omega
theorem headL_small {m n : Nat} (h : n < 24) : headL m n = [UInt8.ofNat (32 * m + n)] := if_pos h
theorem headL_big {m n : Nat} (h : ¬ n < 24) : headL m n = UInt8.ofNat (32 * m + 24 + wid n) :: bigL n (2 ^ wid n) := if_neg h
theorem headL_le (m n : Nat) : (headL m n).length ≤ 9 := by
  rw [headL_len]
  split
  · omega
  · have h := wid_le n
    have : 2 ^ wid n ≤ 2 ^ 3 := Nat.pow_le_pow_right (by omega) h
    omega
def putHead (m : Int) (n : Nat) : ByteArray := if 0 ≤ m ∧ m ≤ 7 then ⟨(headL m.toNat n).toArray⟩ else ⟨#[]⟩

/-- The number that bytes tell, the highest first. -/
def beN (l : List UInt8) : Nat := l.foldl (fun a b => 256 * a + b.toNat) 0
theorem beN_snoc (l : List UInt8) (b : UInt8) : beN (l ++ [b]) = 256 * beN l + b.toNat := by simp [beN]
theorem bigL_beN (l : List UInt8) : bigL (beN l) l.length = l := by
  generalize hn : l.length = n
  induction n generalizing l with
  | zero => rw [List.length_eq_zero_iff.1 hn]; rfl
  | succ n ih =>
    obtain ⟨l', b, rfl⟩ : ∃ l' b, l = l' ++ [b] := ⟨l.dropLast, l.getLast (by intro h; rw [h] at hn; simp at hn), (List.dropLast_concat_getLast _).symm⟩
    have hl : l'.length = n := by simp at hn; omega
    have hb := b.toNat_lt
    rw [beN_snoc, bigL, show (256 * beN l' + b.toNat) / 256 = beN l' by omega, ih l' hl]
    congr 2
    apply UInt8.toNat.inj
    simp [UInt8.toNat_ofNat']
theorem beN_lt (l : List UInt8) : beN l < 256 ^ l.length := by
  generalize hn : l.length = n
  induction n generalizing l with
  | zero => rw [List.length_eq_zero_iff.1 hn]; simp [beN]
  | succ n ih =>
    obtain ⟨l', b, rfl⟩ : ∃ l' b, l = l' ++ [b] := ⟨l.dropLast, l.getLast (by intro h; rw [h] at hn; simp at hn), (List.dropLast_concat_getLast _).symm⟩
    have hl : l'.length = n := by simp at hn; omega
    have hb := b.toNat_lt
    have := ih l' hl
    rw [beN_snoc, Nat.pow_succ]
    omega

/-! A head at a place of a text. -/
def at_ (s : ByteArray) (j : Nat) : UInt8 := s.data.toList.getD j 0
theorem at_eq (s : ByteArray) (j : Nat) (h : j < s.size) : s[j] = at_ s j := by
  unfold at_
  have h' : j < s.data.toList.length := by simpa using h
  rw [List.getD_eq_getElem?_getD, List.getElem?_eq_getElem h']
  rfl
def low (s : ByteArray) (i : Nat) : Nat := (at_ s i).toNat % 32
def maj (s : ByteArray) (i : Nat) : Nat := (at_ s i).toNat / 32
def many (s : ByteArray) (i : Nat) : Nat := if low s i < 24 then 0 else 2 ^ (low s i - 24)
/-- The bytes of the number. -/
def tail (s : ByteArray) (i : Nat) : List UInt8 := (s.data.toList.drop (i + 1)).take (many s i)
def num (s : ByteArray) (i : Nat) : Nat := if low s i < 24 then low s i else beN (tail s i)
/-- There is a head of any length. -/
def anyOk (s : ByteArray) (i : Nat) : Prop := i < s.size ∧ low s i < 28 ∧ i + 1 + many s i ≤ s.size
instance (s : ByteArray) (i : Nat) : Decidable (anyOk s i) := by unfold anyOk; exact inferInstance
def short (s : ByteArray) (i : Nat) : Prop := (headL (maj s i) (num s i)).length = 1 + many s i
instance (s : ByteArray) (i : Nat) : Decidable (short s i) := by unfold short; exact inferInstance
def getHead (s : ByteArray) (i : Int) : Int × Nat × Int :=
  if 0 ≤ i ∧ anyOk s i.toNat ∧ short s i.toNat then ((maj s i.toNat : Int), num s i.toNat, i + 1 + many s i.toNat) else (-1, 0, -1)
theorem tail_len {s : ByteArray} {i : Nat} (h : anyOk s i) : (tail s i).length = many s i := by
  unfold tail
  have := h.2.2
  rw [List.length_take, List.length_drop]
  have e : s.data.toList.length = s.size := by simp
  omega
theorem cut_eq {s : ByteArray} {i : Nat} (h : anyOk s i) : (s.data.toList.drop i).take (1 + many s i) = at_ s i :: tail s i := by
  have e : s.data.toList.length = s.size := by simp
  have hi : i < s.data.toList.length := by rw [e]; exact h.1
  rw [List.drop_eq_getElem_cons hi, Nat.add_comm, List.take_succ_cons]
  unfold tail at_
  rw [List.getD_eq_getElem?_getD, List.getElem?_eq_getElem hi]
  rfl
theorem maj_lt (s : ByteArray) (i : Nat) : maj s i < 8 := by have := (at_ s i).toNat_lt; unfold maj; omega
theorem maj_low (s : ByteArray) (i : Nat) : UInt8.ofNat (32 * maj s i + low s i) = at_ s i := by
  apply UInt8.toNat.inj
  have := (at_ s i).toNat_lt
  simp only [UInt8.toNat_ofNat', maj, low]
  omega
/-- The shortest form is the one that stands there exactly if it has its length. -/
theorem short_iff {s : ByteArray} {i : Nat} (h : anyOk s i) : headL (maj s i) (num s i) = (s.data.toList.drop i).take (1 + many s i) ↔ short s i := by
  constructor
  · intro e
    unfold short
    rw [e, cut_eq h, List.length_cons, tail_len h]
    omega
  · intro hs
    rw [cut_eq h]
    unfold short at hs
    by_cases hl : low s i < 24
    · have e1 : num s i = low s i := if_pos hl
      have e2 : tail s i = [] := by unfold tail many; rw [if_pos hl]; rfl
      rw [e1, headL_small hl, maj_low, e2]
    · have e1 : num s i = beN (tail s i) := if_neg hl
      have e3 : many s i = 2 ^ (low s i - 24) := if_neg hl
      rw [headL_len] at hs
      have hp : 0 < 2 ^ (low s i - 24) := Nat.two_pow_pos _
      by_cases hn : num s i < 24
      · rw [if_pos hn] at hs
        omega
      · rw [if_neg hn, e3] at hs
        have hw : wid (num s i) = low s i - 24 := two_pow_inj (by omega)
        rw [headL_big hn, hw, show 32 * maj s i + 24 + (low s i - 24) = 32 * maj s i + low s i by omega, maj_low]
        congr 1
        rw [e1, ← e3, ← tail_len h, bigL_beN]

end Go.Proofs.YtnaghafmpncdkaaDoor.head
/-
  Plain: a value in CBOR, as bytes; a head that stands at a place of a text.
-/
namespace Go.Proofs.YtnaghafmpncdkaaDoor.cbor
open Go.RowKit
open Go.Proofs.YtnaghafmpncdkaaDoor.val Go.Proofs.YtnaghafmpncdkaaDoor.head
set_option maxRecDepth 100000

def intL (n : Int) : List UInt8 := if n < 0 then headL 1 (-1 - n).toNat else headL 0 n.toNat
mutual
def cborT : VT → List UInt8
  | .mk k n e s kids =>
    if k = 0 then headL 7 22 else if k = 1 then headL 7 20 else if k = 2 then headL 7 21 else
    if k = 3 then intL n else
    if k = 4 then headL 6 4 ++ (headL 4 2 ++ (intL e ++ intL n)) else
    if k = 5 then headL 3 s.size ++ s.data.toList else
    if k = 6 then headL 2 s.size ++ s.data.toList else
    (if k = 7 then headL 4 kids.length else if k = 8 then headL 5 (kids.length / 2) else headL 6 n.toNat) ++ cborTL kids
def cborTL : List VT → List UInt8
  | [] => []
  | t :: ts => cborT t ++ cborTL ts
end
mutual
/-- How many heads. -/
def heads : VT → Nat
  | .mk k _ _ _ kids => if k = 4 then 4 else 1 + headsL kids
def headsL : List VT → Nat
  | [] => 0
  | t :: ts => heads t + headsL ts
end
/-- What a node's own fields are where CBOR has one form of it. -/
inductive NodeC : Int → Int → Int → ByteArray → Nat → Prop
  | word {k : Int} {s : ByteArray} (hk : k = 0 ∨ k = 1 ∨ k = 2) (hs : s.size = 0) : NodeC k 0 0 s 0
  | int {n : Int} {s : ByteArray} (hn : InI n) (hs : s.size = 0) : NodeC 3 n 0 s 0
  | dec {n e : Int} {s : ByteArray} (hn : InI n) (he : InI e) (hs : s.size = 0) : NodeC 4 n e s 0
  | text {s : ByteArray} (hs : s.size ≤ 2000) : NodeC 5 0 0 s 0
  | bytes {s : ByteArray} (hs : s.size ≤ 2000) : NodeC 6 0 0 s 0
  | list {s : ByteArray} {m : Nat} (hs : s.size = 0) (hm : m ≤ 300) : NodeC 7 0 0 s m
  | map {s : ByteArray} {m : Nat} (hs : s.size = 0) (hm : m ≤ 600) (h2 : m % 2 = 0) : NodeC 8 0 0 s m
  | tag {n : Int} {s : ByteArray} (h0 : 0 ≤ n) (h1 : n ≤ 1000000) (h4 : n ≠ 4) (hs : s.size = 0) : NodeC 9 n 0 s 1
mutual
/-- CBOR has one form of the value. -/
def FitV : VT → Prop
  | .mk k n e s kids => NodeC k n e s kids.length ∧ FitVL kids
def FitVL : List VT → Prop
  | [] => True
  | t :: ts => FitV t ∧ FitVL ts
end
theorem fitVL_append (a b : List VT) : FitVL (a ++ b) ↔ FitVL a ∧ FitVL b := by
  induction a with
  | nil => simp [FitVL]
  | cons x a ih => rw [List.cons_append, FitVL, FitVL, ih]; exact and_assoc.symm
theorem cborTL_append (a b : List VT) : cborTL (a ++ b) = cborTL a ++ cborTL b := by
  induction a with
  | nil => rfl
  | cons x a ih => rw [List.cons_append, cborTL, cborTL, ih, List.append_assoc]
theorem headsL_append (a b : List VT) : headsL (a ++ b) = headsL a + headsL b := by
  induction a with
  | nil => simp [headsL]
  | cons x a ih => rw [List.cons_append, headsL, headsL, ih]; omega

theorem beN_bigL (k : Nat) : ∀ n, n < 256 ^ k → beN (bigL n k) = n := by
  induction k with
  | zero => intro n h; simp at h; subst h; rfl
  | succ k ih =>
    intro n h
    rw [Nat.pow_succ] at h
    rw [bigL, beN_snoc, ih (n / 256) (by omega)]
    simp only [UInt8.toNat_ofNat']
    omega
theorem wid_lt {n : Nat} (h : n < 18446744073709551616) : n < 256 ^ (2 ^ wid n) := by
  unfold wid
  split
  · simpa using ‹n < 256›
  split
  · simpa using ‹n < 65536›
  split
  · simpa using ‹n < 4294967296›
  · simpa using h
theorem headL_pos (m n : Nat) : 1 ≤ (headL m n).length := by
  rw [headL_len]
  split
  · exact Nat.le_refl _
  · exact Nat.le_add_right _ _
theorem first_at {s : ByteArray} {i : Nat} {c : UInt8} {l : List UInt8} (h : s.data.toList.drop i = c :: l) : i < s.size ∧ at_ s i = c := by
  have hi : i < s.data.toList.length := by
    rcases Nat.lt_or_ge i s.data.toList.length with h' | h'
    · exact h'
    · rw [List.drop_eq_nil_of_le h'] at h; cases h
  refine ⟨by simpa using hi, ?_⟩
  rw [List.drop_eq_getElem_cons hi] at h
  injection h with h1 _
  unfold at_
  rw [List.getD_eq_getElem?_getD, List.getElem?_eq_getElem hi]
  exact h1
/-- The head that stands at a place, if the shortest form of one does. -/
structure HeadAt (s : ByteArray) (i m n : Nat) : Prop where
  ok : anyOk s i
  short : short s i
  maj : maj s i = m
  num : num s i = n
  len : 1 + many s i = (headL m n).length
theorem head_at {s : ByteArray} {i m n : Nat} {r : List UInt8} (hm : m < 8) (hn : n < 18446744073709551616) (h : s.data.toList.drop i = headL m n ++ r) : HeadAt s i m n := by
  have hsz : s.data.toList.length = s.size := by simp
  by_cases h24 : n < 24
  · rw [headL_small h24, List.singleton_append] at h
    obtain ⟨hi, hc⟩ := first_at h
    have ht : (at_ s i).toNat = 32 * m + n := by rw [hc]; simp only [UInt8.toNat_ofNat']; omega
    have h1 : head.maj s i = m := by unfold head.maj; omega
    have h2 : low s i = n := by unfold low; omega
    have h3 : many s i = 0 := by unfold many; rw [h2, if_pos h24]
    have h4 : head.num s i = n := by unfold head.num; rw [h2, if_pos h24]
    exact ⟨⟨hi, by omega, by omega⟩, by unfold head.short; rw [h1, h4, h3, headL_small h24]; rfl, h1, h4, by rw [h3, headL_small h24]; rfl⟩
  · rw [headL_big h24, List.cons_append] at h
    obtain ⟨hi, hc⟩ := first_at h
    have hw := wid_le n
    have ht : (at_ s i).toNat = 32 * m + (24 + wid n) := by rw [hc]; simp only [UInt8.toNat_ofNat']; omega
    have h1 : head.maj s i = m := by unfold head.maj; omega
    have h2 : low s i = 24 + wid n := by unfold low; omega
    have h3 : many s i = 2 ^ wid n := by unfold many; rw [h2, if_neg (by omega)]; congr 1; omega
    have hd : s.data.toList.drop (i + 1) = bigL n (2 ^ wid n) ++ r := by
      rw [← List.drop_drop, h]
      rfl
    have htl : tail s i = bigL n (2 ^ wid n) := by
      unfold tail
      rw [h3, hd, List.take_append_of_le_length (by rw [bigL_len]; exact Nat.le_refl _), List.take_of_length_le (by rw [bigL_len]; exact Nat.le_refl _)]
    have h4 : head.num s i = n := by unfold head.num; rw [h2, if_neg (by omega), htl]; exact beN_bigL _ _ (wid_lt hn)
    have h5 : i + 1 + 2 ^ wid n ≤ s.size := by
      have := congrArg List.length hd
      rw [List.length_drop, List.length_append, bigL_len, hsz] at this
      have hp : 0 < 2 ^ wid n := Nat.two_pow_pos _
      omega
    have h6 : (headL m n).length = 1 + 2 ^ wid n := by rw [headL_len, if_neg h24]
    exact ⟨⟨hi, by omega, by omega⟩, by unfold head.short; rw [h1, h4, h3, h6], h1, h4, by rw [h3, h6]⟩
/-- The bytes of a head that stands there. -/
theorem head_take {s : ByteArray} {i : Nat} (h : anyOk s i) (hs : short s i) : s.data.toList.drop i = headL (maj s i) (num s i) ++ s.data.toList.drop (i + (1 + many s i)) := by
  rw [(short_iff h).2 hs, ← List.drop_drop, List.take_append_drop]
theorem list_len (s : ByteArray) : s.data.toList.length = s.size := by simp
end Go.Proofs.YtnaghafmpncdkaaDoor.cbor
/-
  What spec.PutHead and impl.PutHead return: the shortest head of a major type and a number.
-/
namespace Go.Proofs.YtnaghafmpncdkaaDoor.head
open Go.ChangeShapes Go.WideShapes Go.ChangeAt Go.RowKit
set_option maxRecDepth 100000

theorem info8 : (Tryd.prog.info? 5).map (fun i => (i.zero, i.size, i.bytes)) = some (some (.int .u8 0), 1, 1) := by kernel_rfl
theorem oneB (x : UInt8) : (encB x).oneCell' = true := rfl

theorem enc_low (N : Nat) : encB (UInt8.ofNat N) = .int .u8 ((N : Int) % 256) := by
  unfold encB
  rw [UInt8.toNat_ofNat']
  congr 1

set_option maxHeartbeats 400000 in
theorem big_any (n m : Nat) (hn : n < 18446744073709551616) (hm : m ≤ 8) (w : World) :
    Calls Tryd.prog 102 #[.int .u64 n, .int .i64 m] w fun e w' => e = .returned (.string ⟨(bigL n m).toArray⟩) ∧ Below w.heap.size w w' := by
  obtain ⟨i0, hi0, hz0, hz1, hz2⟩ := info_parts info8
  go_enter Tryd.func102, Tryd.ntmps102
  go_wp2
  go_loopw [0, 5, 6] (fun x v i wr => ∃ k N g c : Nat, k ≤ m ∧ i = .int .i64 k ∧ x = .int .u64 N ∧ N < 18446744073709551616 ∧ Hid (N = n / 256 ^ k) ∧ v = .slice (some ⟨g, 0, none⟩) k c ∧ Hid (OwnL wr w.heap.size 5 encB (.slice (some ⟨g, 0, none⟩) k c) (bigL n k)) ∧ Hid (Below w.heap.size w wr) ∧ w.heap.size ≤ wr.heap.size) (fun _ _ i _ => m - (intOf i).toNat)
  case atStart => exact ⟨0, n, w.heap.size, 0, Nat.zero_le _, rfl, rfl, hn, by simp [Hid], rfl, OwnL.empty _ _ _ (Nat.le_refl _), (Below.refl _ _).alloc (Nat.le_refl _) _, by simp⟩
  case round =>
    obtain ⟨k, N, g, c, hk, rfl, rfl, hN, HN, rfl, HO, HB, hsz⟩ := hrel
    by_cases hlt : k < m
    · have hk1 : (k : Int) < (m : Int) := by omega
      have he : encB (UInt8.ofNat N) = .int .u8 ((N : Int) % 256) := enc_low N
      have HL : Hid (OwnL (wr.alloc (.cells #[.int .u8 ((N : Int) % 256)] 5)) w.heap.size 5 encB (.slice (some ⟨wr.heap.size, 0, none⟩) 1 1) [UInt8.ofNat N]) :=
        OwnL.of_block (l := [UInt8.ofNat N]) wr.heap.size _ hsz (heap_alloc_new wr _) (by rw [← he]; rfl) (by simp [maxLen])
      have HQ : Hid (N / 256 = n / 256 ^ (k + 1)) := by unfold Hid; rw [HN.out, Nat.div_div_eq_div_mul, Nat.pow_succ]
      have HC : Hid ([UInt8.ofNat N] ++ bigL n k = bigL n (k + 1)) := by unfold Hid; rw [bigL_cons, HN.out]; rfl
      go_wp2_with (at_builtin; refine wpList_app2 (by rfl) _ _ _ (by rfl) w.heap.size 5 encB i0 _ 1 Tryd.underlying109 hi0 hz0 hz1 hz2 rfl oneB wr.heap.size 1 [UInt8.ofNat N] 1 rfl (by rfl) HL.out w.heap.size g c (bigL n k) k (bigL_len n k) (by rfl) (HO.out.alloc _) (by unfold maxLen; omega) (by omega) (by simp; omega) ?_; intro g' c' w1 hown1 hg1)
      have HO1 : Hid (OwnL w1 w.heap.size 5 encB (.slice (some ⟨g', 0, none⟩) (k + 1) c') (bigL n (k + 1))) := by rw [← HC.out]; rw [Nat.add_comm] at hown1; exact hown1
      have HB1 : Hid (Below w.heap.size w w1) := (HB.out.alloc hsz _).grown hg1 (by simp; omega) (by simp; omega)
      have hz1' : w.heap.size ≤ w1.heap.size := by have := hg1.size; simp at this; omega
      clear hown1 hg1 HL HO HB
      go_wp2
      go_roundw
      case rel => exact ⟨k + 1, N / 256, g', c', by omega, by go_num, by go_num, by omega, HQ, by rw [Nat.add_comm], HO1, HB1, hz1'⟩
      case measure => simp [intOf]; omega
    · have hc := run_string_own (P := Tryd.prog) 109 5 9 Tryd.underlying109 Tryd.underlying5 Tryd.underlying9 HO.out
      have hk1 : ¬ (k : Int) < (m : Int) := by omega
      go_wp2
      go_ret
      have e : k = m := by omega
      exact ⟨by rw [e]; rfl, HB.out⟩

theorem in_any (n lo hi : Int) (w : World) : Calls Tryd.prog 44 #[.int .i64 n, .int .i64 lo, .int .i64 hi] w fun r w' => r = .returned (.bool (decide (lo ≤ n ∧ n ≤ hi))) ∧ w = w' := by
  by_cases h : lo ≤ n ∧ n ≤ hi
  · obtain ⟨h1, h2⟩ := h
    rw [decide_eq_true ⟨h1, h2⟩]
    go_enter Tryd.func44, Tryd.ntmps44
    go_wp2
    go_ret
    exact ⟨by first | rfl | simp [h1, h2], rfl⟩
  · rw [decide_eq_false h]
    by_cases h1 : lo ≤ n
    · have h2 : ¬ n ≤ hi := fun h2 => h ⟨h1, h2⟩
      clear h
      go_enter Tryd.func44, Tryd.ntmps44
      go_wp2
      go_ret
      exact ⟨by first | rfl | simp [h1, h2], rfl⟩
    · clear h
      go_enter Tryd.func44, Tryd.ntmps44
      go_wp2
      go_ret
      exact ⟨by first | rfl | simp [h1], rfl⟩
theorem big_at (x : Int) (n m : Nat) (hx : x = (n : Int)) (k : Int) (hk : k = (m : Int)) (hn : n < 18446744073709551616) (hm : m ≤ 8) (w : World) :
    Calls Tryd.prog 102 #[.int .u64 x, .int .i64 k] w fun e w' => e = .returned (.string ⟨(bigL n m).toArray⟩) ∧ Below w.heap.size w w' := by
  subst hx
  subst hk
  exact big_any n m hn hm w
theorem ret_str {a b : ByteArray} (h : a = b) : Ending.returned (.string a) = .returned (.string b) := by rw [h]
theorem join_bytes (a b : List UInt8) : (⟨a.toArray⟩ : ByteArray) ++ ⟨b.toArray⟩ = ⟨(a ++ b).toArray⟩ := by
  apply ByteArray.ext
  simp
theorem low1 (n : Nat) : bigL n 1 = [UInt8.ofNat n] := rfl
theorem put_out (m : Int) (n : Nat) (h : ¬ (0 ≤ m ∧ m ≤ 7)) (w : World) :
    Calls Tryd.prog 77 #[.int .i64 m, .int .u64 n] w fun e w' => e = .returned (.string (putHead m n)) ∧ Below w.heap.size w w' := by
  have C := fun W => in_any m 0 7 W
  rw [decide_eq_false h] at C
  have HV : Hid (putHead m n = ⟨#[]⟩) := by unfold Hid putHead; rw [if_neg h]
  replace C := Lib.hid C
  clear h
  go_enter Tryd.func77, Tryd.ntmps77
  go_wp2_with (go_at_call 44; with_reducible refine (C.out _).mono ?_; rintro r w2 ⟨rfl, rfl⟩)
  go_ret
  exact ⟨by rw [HV.out]; rfl, Below.refl _ _⟩

set_option maxHeartbeats 1000000 in
theorem put_small (m n : Nat) (hm : m < 8) (hn : n < 24) (w : World) :
    Calls Tryd.prog 77 #[.int .i64 m, .int .u64 n] w fun e w' => e = .returned (.string ⟨(headL m n).toArray⟩) ∧ Below w.heap.size w w' := by
  have C := fun W => in_any m 0 7 W
  rw [decide_eq_true (by omega)] at C
  replace C := Lib.hid C
  have C1 := Lib.hid (fun W => big_at ((m : Int) * 32 + n) (32 * m + n) 1 (by omega) 1 rfl (by omega) (by omega) W)
  have HV : Hid (bigL (32 * m + n) 1 = headL m n) := by unfold Hid; rw [headL_small hn]; rfl
  go_enter Tryd.func77, Tryd.ntmps77
  go_wp2_with (go_at_call 44; with_reducible refine (C.out _).mono ?_; rintro r w2 ⟨rfl, rfl⟩)
  with_reducible refine (C1.out _).mono ?_
  rintro r w1 ⟨rfl, hb⟩
  have HB := Lib.hid hb
  clear hb
  go_wp2
  go_ret
  exact ⟨by rw [← HV.out]; rfl, HB.out⟩
set_option maxHeartbeats 1000000 in
theorem put_1 (m n : Nat) (hm : m < 8) (h1 : 24 ≤ n) (h2 : n < 256) (w : World) :
    Calls Tryd.prog 77 #[.int .i64 m, .int .u64 n] w fun e w' => e = .returned (.string ⟨(headL m n).toArray⟩) ∧ Below w.heap.size w w' := by
  have C := fun W => in_any m 0 7 W
  rw [decide_eq_true (by omega)] at C
  replace C := Lib.hid C
  have hw : wid n = 0 := by unfold wid; rw [if_pos (by omega)]
  have C1 := Lib.hid (fun W => big_at ((m : Int) * 32 + 24) (32 * m + 24) 1 (by omega) 1 rfl (by omega) (by omega) W)
  have C2 := Lib.hid (fun W => big_at (n : Int) n 1 rfl 1 rfl (by omega) (by omega) W)
  have HV : Hid ((⟨(bigL (32 * m + 24) 1).toArray⟩ : ByteArray) ++ ⟨(bigL n 1).toArray⟩ = ⟨(headL m n).toArray⟩) := by unfold Hid; rw [join_bytes, headL_big (by omega), hw]; rfl
  have g0 : decide ((n : Int) < 24) = false := decide_eq_false (by omega)
  have g9 : decide ((n : Int) < 256) = true := decide_eq_true (by omega)
  clear hw h1 h2
  go_enter Tryd.func77, Tryd.ntmps77
  go_wp2_with (go_at_call 44; with_reducible refine (C.out _).mono ?_; rintro r w2 ⟨rfl, rfl⟩)
  with_reducible refine (C1.out _).mono ?_
  rintro r w1 ⟨rfl, hb⟩
  have HB := Lib.hid hb
  clear hb
  go_wp2_with fail
  with_reducible refine (C2.out _).mono ?_
  rintro r w2 ⟨rfl, hb⟩
  replace HB := Lib.hid (HB.out.trans (hb.mono HB.out.size))
  clear hb g0 g9
  go_wp2
  go_ret
  exact ⟨by rw [← HV.out]; rfl, HB.out⟩
set_option maxHeartbeats 1000000 in
theorem put_2 (m n : Nat) (hm : m < 8) (h1 : 256 ≤ n) (h2 : n < 65536) (w : World) :
    Calls Tryd.prog 77 #[.int .i64 m, .int .u64 n] w fun e w' => e = .returned (.string ⟨(headL m n).toArray⟩) ∧ Below w.heap.size w w' := by
  have C := fun W => in_any m 0 7 W
  rw [decide_eq_true (by omega)] at C
  replace C := Lib.hid C
  have hw : wid n = 1 := by unfold wid; rw [if_neg (by omega), if_pos (by omega)]
  have C1 := Lib.hid (fun W => big_at ((m : Int) * 32 + 25) (32 * m + 25) 1 (by omega) 1 rfl (by omega) (by omega) W)
  have C2 := Lib.hid (fun W => big_at (n : Int) n 2 rfl 2 rfl (by omega) (by omega) W)
  have HV : Hid ((⟨(bigL (32 * m + 25) 1).toArray⟩ : ByteArray) ++ ⟨(bigL n 2).toArray⟩ = ⟨(headL m n).toArray⟩) := by unfold Hid; rw [join_bytes, headL_big (by omega), hw]; rfl
  have g0 : decide ((n : Int) < 24) = false := decide_eq_false (by omega)
  have g1 : decide ((n : Int) < 256) = false := decide_eq_false (by omega)
  have g9 : decide ((n : Int) < 65536) = true := decide_eq_true (by omega)
  clear hw h1 h2
  go_enter Tryd.func77, Tryd.ntmps77
  go_wp2_with (go_at_call 44; with_reducible refine (C.out _).mono ?_; rintro r w2 ⟨rfl, rfl⟩)
  with_reducible refine (C1.out _).mono ?_
  rintro r w1 ⟨rfl, hb⟩
  have HB := Lib.hid hb
  clear hb
  go_wp2_with fail
  with_reducible refine (C2.out _).mono ?_
  rintro r w2 ⟨rfl, hb⟩
  replace HB := Lib.hid (HB.out.trans (hb.mono HB.out.size))
  clear hb g0 g1 g9
  go_wp2
  go_ret
  exact ⟨by rw [← HV.out]; rfl, HB.out⟩
set_option maxHeartbeats 1000000 in
theorem put_4 (m n : Nat) (hm : m < 8) (h1 : 65536 ≤ n) (h2 : n < 4294967296) (w : World) :
    Calls Tryd.prog 77 #[.int .i64 m, .int .u64 n] w fun e w' => e = .returned (.string ⟨(headL m n).toArray⟩) ∧ Below w.heap.size w w' := by
  have C := fun W => in_any m 0 7 W
  rw [decide_eq_true (by omega)] at C
  replace C := Lib.hid C
  have hw : wid n = 2 := by unfold wid; rw [if_neg (by omega), if_neg (by omega), if_pos (by omega)]
  have C1 := Lib.hid (fun W => big_at ((m : Int) * 32 + 26) (32 * m + 26) 1 (by omega) 1 rfl (by omega) (by omega) W)
  have C2 := Lib.hid (fun W => big_at (n : Int) n 4 rfl 4 rfl (by omega) (by omega) W)
  have HV : Hid ((⟨(bigL (32 * m + 26) 1).toArray⟩ : ByteArray) ++ ⟨(bigL n 4).toArray⟩ = ⟨(headL m n).toArray⟩) := by unfold Hid; rw [join_bytes, headL_big (by omega), hw]; rfl
  have g0 : decide ((n : Int) < 24) = false := decide_eq_false (by omega)
  have g1 : decide ((n : Int) < 256) = false := decide_eq_false (by omega)
  have g2 : decide ((n : Int) < 65536) = false := decide_eq_false (by omega)
  have g9 : decide ((n : Int) < 4294967296) = true := decide_eq_true (by omega)
  clear hw h1 h2
  go_enter Tryd.func77, Tryd.ntmps77
  go_wp2_with (go_at_call 44; with_reducible refine (C.out _).mono ?_; rintro r w2 ⟨rfl, rfl⟩)
  with_reducible refine (C1.out _).mono ?_
  rintro r w1 ⟨rfl, hb⟩
  have HB := Lib.hid hb
  clear hb
  go_wp2_with fail
  with_reducible refine (C2.out _).mono ?_
  rintro r w2 ⟨rfl, hb⟩
  replace HB := Lib.hid (HB.out.trans (hb.mono HB.out.size))
  clear hb g0 g1 g2 g9
  go_wp2
  go_ret
  exact ⟨by rw [← HV.out]; rfl, HB.out⟩
set_option maxHeartbeats 1000000 in
theorem put_8 (m n : Nat) (hm : m < 8) (h1 : 4294967296 ≤ n) (h2 : n < 18446744073709551616) (w : World) :
    Calls Tryd.prog 77 #[.int .i64 m, .int .u64 n] w fun e w' => e = .returned (.string ⟨(headL m n).toArray⟩) ∧ Below w.heap.size w w' := by
  have C := fun W => in_any m 0 7 W
  rw [decide_eq_true (by omega)] at C
  replace C := Lib.hid C
  have hw : wid n = 3 := by unfold wid; rw [if_neg (by omega), if_neg (by omega), if_neg (by omega)]
  have C1 := Lib.hid (fun W => big_at ((m : Int) * 32 + 27) (32 * m + 27) 1 (by omega) 1 rfl (by omega) (by omega) W)
  have C2 := Lib.hid (fun W => big_at (n : Int) n 8 rfl 8 rfl (by omega) (by omega) W)
  have HV : Hid ((⟨(bigL (32 * m + 27) 1).toArray⟩ : ByteArray) ++ ⟨(bigL n 8).toArray⟩ = ⟨(headL m n).toArray⟩) := by unfold Hid; rw [join_bytes, headL_big (by omega), hw]; rfl
  have g0 : decide ((n : Int) < 24) = false := decide_eq_false (by omega)
  have g1 : decide ((n : Int) < 256) = false := decide_eq_false (by omega)
  have g2 : decide ((n : Int) < 65536) = false := decide_eq_false (by omega)
  have g3 : decide ((n : Int) < 4294967296) = false := decide_eq_false (by omega)
  clear hw h1 h2
  go_enter Tryd.func77, Tryd.ntmps77
  go_wp2_with (go_at_call 44; with_reducible refine (C.out _).mono ?_; rintro r w2 ⟨rfl, rfl⟩)
  with_reducible refine (C1.out _).mono ?_
  rintro r w1 ⟨rfl, hb⟩
  have HB := Lib.hid hb
  clear hb
  go_wp2_with fail
  with_reducible refine (C2.out _).mono ?_
  rintro r w2 ⟨rfl, hb⟩
  replace HB := Lib.hid (HB.out.trans (hb.mono HB.out.size))
  clear hb g0 g1 g2 g3
  go_wp2
  go_ret
  exact ⟨by rw [← HV.out]; rfl, HB.out⟩
theorem spec_nat (m n : Nat) (hm : m < 8) (hn : n < 18446744073709551616) (w : World) :
    Calls Tryd.prog 77 #[.int .i64 m, .int .u64 n] w fun e w' => e = .returned (.string ⟨(headL m n).toArray⟩) ∧ Below w.heap.size w w' := by
  by_cases h1 : n < 24
  · exact put_small m n hm h1 w
  by_cases h2 : n < 256
  · exact put_1 m n hm (by omega) h2 w
  by_cases h3 : n < 65536
  · exact put_2 m n hm (by omega) h3 w
  by_cases h4 : n < 4294967296
  · exact put_4 m n hm (by omega) h4 w
  exact put_8 m n hm (by omega) hn w
theorem spec_any (m : Int) (n : Nat) (hn : n < 18446744073709551616) (w : World) :
    Calls Tryd.prog 77 #[.int .i64 m, .int .u64 n] w fun e w' => e = .returned (.string (putHead m n)) ∧ Below w.heap.size w w' := by
  by_cases h : 0 ≤ m ∧ m ≤ 7
  · obtain ⟨k, rfl⟩ : ∃ k : Nat, m = k := ⟨m.toNat, by omega⟩
    have e : putHead k n = ⟨(headL k n).toArray⟩ := by unfold putHead; rw [if_pos h]; rfl
    rw [e]
    exact spec_nat k n (by omega) hn w
  · exact put_out m n h w

end Go.Proofs.YtnaghafmpncdkaaDoor.head
