/-
  Decimal numerals held against each other as texts: plain. Two numerals without noughts at their ends, the same place of the first digit: the texts' order is the numbers'.
-/
import Derived.Test.YthjholhjkahdkaaNumPlain
import Derived.Lib.ItoaNum
import Derived.Test.YthjholhjkahdkaaCmpFields
import Derived.Test.YthjholhjkahdkaaValOkNum
import Derived.Test.YthjholhjkahdkaaSpecNumOk
import Derived.Test.YthjholhjkahdkaaSpecCmp
import Derived.Test.YthjholhjkahdkaaNormSpec
namespace Go.Proofs.Ythjholhjkahdkaa.num
open Go.ChangeShapes Go.WideShapes Go.ChangeAt Go.RowKit
open Go.Proofs.Ythjholhjkahdkaa.val
set_option maxRecDepth 100000

def dg (n : Nat) : List UInt8 := Lib.decDigits n
def dig (d : Nat) : UInt8 := UInt8.ofNat (48 + d)
theorem dg_small {n : Nat} (h : n < 10) : dg n = [dig n] := by unfold dg; rw [Lib.decDigits, dif_pos h]; rfl
theorem dg_big {n : Nat} (h : ¬ n < 10) : dg n = dg (n / 10) ++ [dig (n % 10)] := by unfold dg; rw [Lib.decDigits, dif_neg h]; rfl
theorem dig_nat {d : Nat} (h : d < 10) : (dig d).toNat = 48 + d := by unfold dig; simp; omega
theorem dig_lt {a b : Nat} (ha : a < 10) (hb : b < 10) : (dig a < dig b) ↔ a < b := by
  rw [UInt8.lt_iff_toNat_lt, dig_nat ha, dig_nat hb]; omega
theorem dig_eq {a b : Nat} (ha : a < 10) (hb : b < 10) : (dig a = dig b) ↔ a = b := by
  rw [← UInt8.toNat_inj, dig_nat ha, dig_nat hb]; omega
theorem dg_len_pos (n : Nat) : 0 < (dg n).length := by
  by_cases h : n < 10
  · rw [dg_small h]; simp
  · rw [dg_big h]; simp
/-- As many digits as its size tells. -/
theorem dg_bounds (n : Nat) : n < 10 ^ (dg n).length ∧ (0 < n → 10 ^ ((dg n).length - 1) ≤ n) := by
  induction n using Nat.strongRecOn with
  | ind n ih =>
    by_cases h : n < 10
    · rw [dg_small h]; simp; omega
    · have hl := dg_len_pos (n / 10)
      obtain ⟨h1, h2⟩ := ih (n / 10) (by omega)
      have h3 := h2 (by omega)
      rw [dg_big h, List.length_append]
      simp only [List.length_cons, List.length_nil, Nat.add_sub_cancel]
      generalize (dg (n / 10)).length = L at *
      obtain ⟨q, rfl⟩ : ∃ q, L = q + 1 := ⟨L - 1, by omega⟩
      rw [Nat.add_sub_cancel] at h3
      have e1 : 10 ^ (q + 1 + 1) = 10 * 10 ^ (q + 1) := by rw [Nat.pow_succ, Nat.mul_comm]
      have e2 : 10 ^ (q + 1) = 10 * 10 ^ q := by rw [Nat.pow_succ, Nat.mul_comm]
      rw [show q + 1 + (0 + 1) = q + 1 + 1 from rfl]
      refine ⟨by omega, fun _ => by omega⟩

theorem less_snoc (a b : UInt8) : ∀ (x y : List UInt8), x.length = y.length → Op.bytesLess (x ++ [a]) (y ++ [b]) = (Op.bytesLess x y || (x == y && decide (a < b)))
  | [], [], _ => by simp [Op.bytesLess]
  | [], _ :: _, h => by simp at h
  | _ :: _, [], h => by simp at h
  | c :: x, d :: y, h => by
    have ih := less_snoc a b x y (by simpa using h)
    simp only [List.cons_append, Op.bytesLess, ih, List.cons_beq_cons]
    cases (decide (c < d)) <;> cases (c == d) <;> simp
theorem dg_inj : ∀ (m n : Nat), dg m = dg n → m = n := by
  intro m
  induction m using Nat.strongRecOn with
  | ind m ih =>
    intro n h
    by_cases hm : m < 10
    · by_cases hn : n < 10
      · rw [dg_small hm, dg_small hn] at h
        exact (dig_eq hm hn).1 (by simpa using h)
      · rw [dg_small hm, dg_big hn] at h
        have := congrArg List.length h
        have hl := dg_len_pos (n / 10)
        simp only [List.length_append, List.length_cons, List.length_nil] at this
        omega
    · by_cases hn : n < 10
      · rw [dg_big hm, dg_small hn] at h
        have := congrArg List.length h
        have hl := dg_len_pos (m / 10)
        simp only [List.length_append, List.length_cons, List.length_nil] at this
        omega
      · rw [dg_big hm, dg_big hn] at h
        have h1 := List.append_inj' h rfl
        have h2 := ih (m / 10) (by omega) (n / 10) h1.1
        have h3 := (dig_eq (a := m % 10) (b := n % 10) (by omega) (by omega)).1 (by simpa using h1.2)
        omega
theorem less_num : ∀ (m n : Nat), (dg m).length = (dg n).length → Op.bytesLess (dg m) (dg n) = decide (m < n) := by
  intro m
  induction m using Nat.strongRecOn with
  | ind m ih =>
    intro n h
    by_cases hm : m < 10
    · by_cases hn : n < 10
      · rw [dg_small hm, dg_small hn]
        simp only [Op.bytesLess, Bool.and_false, Bool.or_false]
        exact decide_eq_decide.2 (dig_lt hm hn)
      · rw [dg_small hm, dg_big hn] at h
        have hl := dg_len_pos (n / 10)
        simp only [List.length_append, List.length_cons, List.length_nil] at h
        omega
    · by_cases hn : n < 10
      · rw [dg_big hm, dg_small hn] at h
        have hl := dg_len_pos (m / 10)
        simp only [List.length_append, List.length_cons, List.length_nil] at h
        omega
      · rw [dg_big hm, dg_big hn, List.length_append, List.length_append] at h
        have hl : (dg (m / 10)).length = (dg (n / 10)).length := by simpa using h
        rw [dg_big hm, dg_big hn, less_snoc _ _ _ _ hl, ih (m / 10) (by omega) (n / 10) hl]
        have hd : decide (dig (m % 10) < dig (n % 10)) = decide (m % 10 < n % 10) := decide_eq_decide.2 (dig_lt (by omega) (by omega))
        have he : (dg (m / 10) == dg (n / 10)) = decide (m / 10 = n / 10) := by
          by_cases e : m / 10 = n / 10
          · rw [decide_eq_true e, e]; simp
          · rw [decide_eq_false e, beq_eq_false_iff_ne]
            exact fun h => e (dg_inj _ _ h)
        rw [hd, he, Bool.eq_iff_iff]
        simp only [Bool.or_eq_true, Bool.and_eq_true, decide_eq_true_eq]
        omega
/-- Noughts behind a numeral. -/
theorem dg_shift {m : Nat} (h : 0 < m) : ∀ d, dg (m * 10 ^ d) = dg m ++ List.replicate d 48
  | 0 => by simp
  | d + 1 => by
    have hp : 0 < m * 10 ^ d := Nat.mul_pos h (Nat.pow_pos (by omega))
    have e : m * 10 ^ (d + 1) = 10 * (m * 10 ^ d) := by rw [Nat.pow_succ, Nat.mul_comm 10, Nat.mul_assoc]
    have h1 : ¬ 10 * (m * 10 ^ d) < 10 := by omega
    rw [e, dg_big h1, show 10 * (m * 10 ^ d) / 10 = m * 10 ^ d by omega, show 10 * (m * 10 ^ d) % 10 = 0 by omega, dg_shift h d, List.append_assoc]
    congr 1
    rw [List.replicate_succ']
    rfl
theorem dg_ge (n : Nat) : ∀ b ∈ dg n, 48 ≤ b.toNat := by
  induction n using Nat.strongRecOn with
  | ind n ih =>
    intro b hb
    by_cases h : n < 10
    · rw [dg_small h] at hb
      obtain rfl := List.mem_singleton.1 hb
      rw [dig_nat h]; omega
    · rw [dg_big h] at hb
      rcases List.mem_append.1 hb with hb | hb
      · exact ih _ (by omega) b hb
      · obtain rfl := List.mem_singleton.1 hb
        rw [dig_nat (by omega)]; omega
theorem dg_last {n : Nat} (h : n % 10 ≠ 0) : ∃ x b, dg n = x ++ [b] ∧ 48 < b.toNat := by
  by_cases hn : n < 10
  · exact ⟨[], _, by rw [dg_small hn]; rfl, by rw [dig_nat hn]; omega⟩
  · exact ⟨_, _, dg_big hn, by rw [dig_nat (by omega)]; omega⟩
/-- Noughts against digits that do not end in one. -/
theorem zeros_less : ∀ (x : List UInt8) (b : UInt8), (∀ c ∈ x, 48 ≤ c.toNat) → 48 < b.toNat → Op.bytesLess (List.replicate (x.length + 1) 48) (x ++ [b]) = true ∧ Op.bytesLess (x ++ [b]) (List.replicate (x.length + 1) 48) = false
  | [], b, _, hb => by
    have h1 : (48 : UInt8) < b := by rw [UInt8.lt_iff_toNat_lt]; exact hb
    have h2 : ¬ b < (48 : UInt8) := by rw [UInt8.lt_iff_toNat_lt]; show ¬ b.toNat < 48; omega
    have h3 : b ≠ (48 : UInt8) := by intro e; subst e; exact absurd hb (by decide)
    simp [Op.bytesLess, h1, h2, h3]
  | c :: x, b, hx, hb => by
    obtain ⟨i1, i2⟩ := zeros_less x b (fun d hd => hx d (List.mem_cons_of_mem _ hd)) hb
    have hc := hx c (List.mem_cons_self ..)
    have h2 : ¬ c < (48 : UInt8) := by rw [UInt8.lt_iff_toNat_lt]; show ¬ c.toNat < 48; omega
    rw [List.length_cons, List.replicate_succ, List.cons_append]
    simp only [Op.bytesLess, i1, i2]
    by_cases e : c = 48
    · subst e; simp
    · have h1 : (48 : UInt8) < c := by
        rw [UInt8.lt_iff_toNat_lt]
        have : c.toNat ≠ 48 := fun h => e (UInt8.toNat_inj.1 h)
        show 48 < c.toNat
        omega
      simp [h1, h2, e]
/-- A numeral against a longer one that does not end in a nought: noughts may be put behind the first. -/
theorem less_pad (x : List UInt8) (b : UInt8) (hb : 48 < b.toNat) : ∀ (p : List UInt8) (d : Nat), p.length + d = x.length + 1 → 0 < d → (∀ c ∈ x, 48 ≤ c.toNat) →
    Op.bytesLess p (x ++ [b]) = Op.bytesLess (p ++ List.replicate d 48) (x ++ [b]) ∧ Op.bytesLess (x ++ [b]) p = Op.bytesLess (x ++ [b]) (p ++ List.replicate d 48)
  | [], d, hd, _, hx => by
    obtain ⟨h1, h2⟩ := zeros_less x b hx hb
    have e : d = x.length + 1 := by simpa using hd
    subst e
    rw [List.nil_append, h1, h2]
    cases x <;> simp [Op.bytesLess]
  | a :: p, d, hd, h0, hx => by
    cases x with
    | nil => simp at hd; omega
    | cons c x =>
      obtain ⟨h1, h2⟩ := less_pad x b hb p d (by simp at hd; omega) h0 (fun z hz => hx z (List.mem_cons_of_mem _ hz))
      simp only [List.cons_append, Op.bytesLess, h1, h2]
      exact ⟨trivial, trivial⟩

end Go.Proofs.Ythjholhjkahdkaa.num
/-
  Numbers held against each other: by their digits without noughts at the end and the place of the first (as the specification does), and by their size: the same. Plain.
-/
namespace Go.Proofs.Ythjholhjkahdkaa.num
open Go.ChangeShapes Go.WideShapes Go.ChangeAt Go.RowKit
open Go.Proofs.Ythjholhjkahdkaa.val
set_option maxRecDepth 100000

theorem cmpI_lt {a b : Int} (h : a < b) : cmpI a b = -1 := if_pos h
theorem cmpI_gt {a b : Int} (h : b < a) : cmpI a b = 1 := by unfold cmpI; rw [if_neg (by omega), if_pos h]
theorem cmpI_eq {a b : Int} (h : a = b) : cmpI a b = 0 := by unfold cmpI; rw [if_neg (by omega), if_neg (by omega)]
theorem cmpI_mul (a b : Int) {k : Int} (hk : 0 < k) : cmpI (a * k) (b * k) = cmpI a b := by
  rcases Int.lt_trichotomy a b with h | h | h
  · rw [cmpI_lt h, cmpI_lt (Int.mul_lt_mul_of_pos_right h hk)]
  · rw [cmpI_eq h, cmpI_eq (by rw [h])]
  · rw [cmpI_gt h, cmpI_gt (Int.mul_lt_mul_of_pos_right h hk)]
theorem cmpI_nat (a b : Nat) {k : Nat} (hk : 0 < k) : cmpI ((a * k : Nat) : Int) ((b * k : Nat) : Int) = cmpI a b := by
  rw [Int.natCast_mul, Int.natCast_mul]
  exact cmpI_mul _ _ (by omega)
def str (l : List UInt8) : ByteArray := ⟨l.toArray⟩
theorem str_list (l : List UInt8) : (str l).toList = l := by unfold str; rw [Lib.toList_data]
theorem cmpS_str (x y : List UInt8) : cmpS (str x) (str y) = if Op.bytesLess x y then -1 else if x == y then 0 else 1 := by unfold cmpS; rw [str_list, str_list]

theorem less_eq {m n d : Nat} (hm : 0 < m) (hn : n % 10 ≠ 0) (hl : (dg n).length = (dg m).length + d) :
    Op.bytesLess (dg m) (dg n) = decide (m * 10 ^ d < n) ∧ Op.bytesLess (dg n) (dg m) = decide (n < m * 10 ^ d) ∧ (dg m == dg n) = decide (m * 10 ^ d = n) := by
  have hs : (dg (m * 10 ^ d)).length = (dg n).length := by rw [dg_shift hm, List.length_append, List.length_replicate, hl]
  have key : Op.bytesLess (dg m) (dg n) = Op.bytesLess (dg (m * 10 ^ d)) (dg n) ∧ Op.bytesLess (dg n) (dg m) = Op.bytesLess (dg n) (dg (m * 10 ^ d)) := by
    by_cases hd : d = 0
    · subst hd; simp
    · obtain ⟨x, b, hx, hb⟩ := dg_last hn
      rw [dg_shift hm, hx]
      have hl2 : (dg m).length + d = x.length + 1 := by rw [← hl, hx]; simp
      exact less_pad x b hb (dg m) d hl2 (by omega) (fun c hc => dg_ge n c (by rw [hx]; simp [hc]))
  refine ⟨by rw [key.1, less_num _ _ hs], by rw [key.2, less_num _ _ hs.symm], ?_⟩
  by_cases e : m * 10 ^ d = n
  · rw [decide_eq_true e]
    have hd : d = 0 := by
      rcases Nat.eq_zero_or_pos d with h | h
      · exact h
      · exfalso
        obtain ⟨q, rfl⟩ : ∃ q, d = q + 1 := ⟨d - 1, by omega⟩
        rw [Nat.pow_succ, ← Nat.mul_assoc] at e
        omega
    subst hd
    rw [Nat.pow_zero, Nat.mul_one] at e
    rw [e]; simp
  · rw [decide_eq_false e, beq_eq_false_iff_ne]
    intro h
    have h1 := dg_inj _ _ h
    rw [h] at hl
    have hd : d = 0 := by omega
    subst hd
    rw [Nat.pow_zero, Nat.mul_one] at e
    exact e h1
theorem cmp_lists {a c : Bool} {x y : Int} (h1 : a = decide (x < y)) (h3 : c = decide (x = y)) : (if a = true then -1 else if c = true then (0 : Int) else 1) = cmpI x y := by
  rcases Int.lt_trichotomy x y with h | h | h
  · rw [h1, decide_eq_true h, if_pos rfl, cmpI_lt h]
  · rw [h1, h3, decide_eq_false (by omega), decide_eq_true h, if_neg (by decide), if_pos rfl, cmpI_eq h]
  · rw [h1, h3, decide_eq_false (by omega), decide_eq_false (by omega), if_neg (by decide), if_neg (by decide), cmpI_gt h]
theorem pow_pos10 (k : Nat) : 0 < 10 ^ k := Nat.pow_pos (by omega)
/-- The first digit farther left: the greater number. -/
theorem far_less {m n E F : Nat} (hn : 0 < n) (h : (dg m).length + E < (dg n).length + F) : m * 10 ^ E < n * 10 ^ F := by
  have h1 := (dg_bounds m).1
  have h2 := (dg_bounds n).2 hn
  have hl := dg_len_pos n
  have a1 : m * 10 ^ E < 10 ^ ((dg m).length + E) := by rw [Nat.pow_add]; exact Nat.mul_lt_mul_of_pos_right h1 (pow_pos10 E)
  have a2 : 10 ^ ((dg n).length - 1 + F) ≤ n * 10 ^ F := by rw [Nat.pow_add]; exact Nat.mul_le_mul_right _ h2
  have a3 : 10 ^ ((dg m).length + E) ≤ 10 ^ ((dg n).length - 1 + F) := Nat.pow_le_pow_right (by omega) (by omega)
  omega
/-- As the specification does it. -/
def sizeC (m : Nat) (e : Int) (n : Nat) (f : Int) : Int := if cmpI ((dg m).length + e) ((dg n).length + f) ≠ 0 then cmpI ((dg m).length + e) ((dg n).length + f) else cmpS (str (dg m)) (str (dg n))
theorem size_eq {m n : Nat} {e f : Int} (hm : m % 10 ≠ 0) (hn : n % 10 ≠ 0) (he : -60 ≤ e) (hf : -60 ≤ f) : sizeC m e n f = cmpI ((m * 10 ^ (e + 60).toNat : Nat) : Int) ((n * 10 ^ (f + 60).toNat : Nat) : Int) := by
  obtain ⟨E, hE⟩ : ∃ E : Nat, (e + 60).toNat = E := ⟨_, rfl⟩
  obtain ⟨F, hF⟩ : ∃ F : Nat, (f + 60).toNat = F := ⟨_, rfl⟩
  have he' : e = (E : Int) - 60 := by omega
  have hf' : f = (F : Int) - 60 := by omega
  rw [hE, hF]
  have hm0 : 0 < m := by omega
  have hn0 : 0 < n := by omega
  unfold sizeC
  rcases Nat.lt_trichotomy ((dg m).length + E) ((dg n).length + F) with h | h | h
  · have h1 := far_less (m := m) hn0 h
    rw [cmpI_lt (a := (dg m).length + e) (by omega), if_pos (by decide), cmpI_lt (by omega)]
  · rw [cmpI_eq (a := (dg m).length + e) (by omega), if_neg (by decide), cmpS_str]
    rcases Nat.le_total F E with hFE | hFE
    · obtain ⟨d, rfl⟩ : ∃ d, E = F + d := ⟨E - F, by omega⟩
      obtain ⟨k1, k2, k3⟩ := less_eq (m := m) (n := n) (d := d) hm0 hn (by omega)
      have e1 : m * 10 ^ (F + d) = (m * 10 ^ d) * 10 ^ F := by rw [Nat.pow_add, Nat.mul_comm (10 ^ F), Nat.mul_assoc]
      rw [e1, cmpI_nat _ _ (pow_pos10 F)]
      exact cmp_lists (by rw [k1]; exact decide_eq_decide.2 (by omega)) (by rw [k3]; exact decide_eq_decide.2 (by omega))
    · obtain ⟨d, rfl⟩ : ∃ d, F = E + d := ⟨F - E, by omega⟩
      obtain ⟨k1, k2, k3⟩ := less_eq (m := n) (n := m) (d := d) hn0 hm (by omega)
      have e1 : n * 10 ^ (E + d) = (n * 10 ^ d) * 10 ^ E := by rw [Nat.pow_add, Nat.mul_comm (10 ^ E), Nat.mul_assoc]
      have k3' : (dg m == dg n) = decide (n * 10 ^ d = m) := by rw [← k3]; exact BEq.comm
      rw [e1, cmpI_nat _ _ (pow_pos10 E)]
      exact cmp_lists (by rw [k2]; exact decide_eq_decide.2 (by omega)) (by rw [k3']; exact decide_eq_decide.2 (by omega))
  · have h1 := far_less (m := n) hm0 h
    rw [cmpI_gt (a := (dg m).length + e) (by omega), if_pos (by decide), cmpI_gt (by omega)]

/-- n * 10^e, from the sixtieth place behind the point on. -/
def sixty (n e : Int) : Int := n * ((10 ^ (e + 60).toNat : Nat) : Int)
/-- impl: the one with the greater exponent brought to the other's. -/
theorem scal_yes_in : ∀ (d : Nat) (n : Int), InI (n * 10 ^ d) → InI n → scal n d = some (n * 10 ^ d)
  | 0, n, _, _ => by rw [scal]; simp
  | d + 1, n, h, hn => by
    have hp : (1 : Int) ≤ 10 ^ d := by
      have := pow_pos10 d
      have e : ((10 ^ d : Nat) : Int) = (10 : Int) ^ d := by simp
      omega
    have e1 : n * 10 ^ (d + 1) = (n * 10) * 10 ^ d := by rw [Int.pow_succ, Int.mul_comm (10 ^ d), Int.mul_assoc]
    have h10 : InI (n * 10) := by
      rw [e1] at h
      unfold InI at *
      generalize (10 : Int) ^ d = P at *
      rcases Int.le_total 0 n with h0 | h0
      · have h2 : n * 10 * 1 ≤ n * 10 * P := Int.mul_le_mul_of_nonneg_left hp (by omega)
        omega
      · have h2 : -(n * 10) * 1 ≤ -(n * 10) * P := Int.mul_le_mul_of_nonneg_left hp (by omega)
        rw [Int.neg_mul (n * 10) P] at h2
        omega
    have ht : tenOf n = n * 10 := wrap_in h10
    have hf : tenFits n = true := by
      unfold tenFits
      rw [ht]
      exact decide_eq_true (Int.mul_tdiv_cancel n (by decide))
    rw [scal, if_pos hf, ht, scal_yes_in d (n * 10) (by rw [← e1]; exact h) h10, e1]

end Go.Proofs.Ythjholhjkahdkaa.num
/-
  What impl.Whole and spec.Whole return.
-/
namespace Go.Proofs.Ythjholhjkahdkaa.num
open Go.ChangeShapes Go.WideShapes Go.ChangeAt Go.RowKit
open Go.Proofs.Ythjholhjkahdkaa.val
set_option maxRecDepth 100000

/-- The greatest whole number not above n / 10, as both reckon it. -/
def tenthOf (n : Int) : Int := if n.tmod 10 < 0 then n.tdiv 10 - 1 else n.tdiv 10
def tenths : Int → Nat → Int
  | n, 0 => n
  | n, k + 1 => tenths (tenthOf n) k
theorem tenth_in {n : Int} (h : InI n) : InI (tenthOf n) := by
  have := td n
  unfold InI tenthOf at *
  split <;> omega
def isNum (t : LT) : Bool := (decide (t.k = 3) || decide (t.k = 4)) && numOk t
theorem isNum_e {t : LT} (h : isNum t = true) : -20 ≤ t.e ∧ t.e ≤ 20 := by
  unfold isNum at h
  rw [Bool.and_eq_true] at h
  have h2 := h.2
  unfold numOk at h2
  rw [Bool.and_eq_true] at h2
  have h3 := h2.2
  split at h3
  · have := of_decide_eq_true h3
    omega
  · unfold decOk at h3
    rw [Bool.and_eq_true] at h3
    have := of_decide_eq_true h3.1
    omega
/-- impl.isNumber, spec.l03Is at any value. -/
theorem impl_is {w : World} {t : LT} (h : In w w.heap.size t) (hz : t.nodes ≤ 2000000) (w' : World) (hb : Below w.heap.size w w') : Calls Try.prog 17 #[.agg #[.int .i64 t.k, .int .i64 t.n, .int .i64 t.e, .string t.s, t.row]] w' fun r w'' => r = .returned (.bool (isNum t)) ∧ Below w'.heap.size w' w'' := by
  have hrow : t.row = .slice t.a t.kids.length t.cap := rfl
  have HB1 := Lib.hid ((Below.refl w'.heap.size w').alloc (Nat.le_refl _) (.cells #[.int .i64 t.k, .int .i64 t.n, .int .i64 t.e, .string t.s, t.row] 26))
  by_cases hk : t.k = 3 ∨ t.k = 4
  · have HV : Hid (isNum t = numOk t) := by
      unfold Hid isNum
      rcases hk with hk | hk <;> simp [hk]
    have CV : Hid (∀ W, Below w.heap.size w W → Calls Try.prog 33 #[.agg #[.int .i64 t.k, .int .i64 t.n, .int .i64 t.e, .string t.s, t.row]] W fun e w' => e = .returned (.bool (numOk t)) ∧ Below W.heap.size W w') := fun W hb => value_num W t ((h.behind hb).mono hb.size) hz hk
    have HB0 := Lib.hid (hb.alloc hb.size (.cells #[.int .i64 t.k, .int .i64 t.n, .int .i64 t.e, .string t.s, t.row] 26))
    rw [HV.out]
    generalize numOk t = V at *
    simp only [hrow] at CV HB1 HB0 ⊢
    clear h hz hb hrow HV
    rcases hk with hk | hk
    · simp only [hk] at CV HB1 HB0 ⊢
      clear hk
      go_enter Try.func17, Try.ntmps17
      go_wp2_with fail
      with_reducible refine (CV.out _ HB0.out).mono ?_
      rintro r w1 ⟨rfl, hb1⟩
      have HB2 := Lib.hid (below_of2 HB1.out hb1)
      clear hb1
      go_wp2
      go_ret
      exact ⟨rfl, HB2.out⟩
    · simp only [hk] at CV HB1 HB0 ⊢
      clear hk
      go_enter Try.func17, Try.ntmps17
      go_wp2_with fail
      with_reducible refine (CV.out _ HB0.out).mono ?_
      rintro r w1 ⟨rfl, hb1⟩
      have HB2 := Lib.hid (below_of2 HB1.out hb1)
      clear hb1
      go_wp2
      go_ret
      exact ⟨rfl, HB2.out⟩
  · have h1 : ¬ t.k = 3 := fun h => hk (.inl h)
    have h2 : ¬ t.k = 4 := fun h => hk (.inr h)
    have HV : Hid (isNum t = false) := by
      unfold Hid isNum
      rw [decide_eq_false h1, decide_eq_false h2]
      rfl
    simp only [hrow] at HB1 ⊢
    clear h hz hb hrow hk
    go_enter Try.func17, Try.ntmps17
    go_wp2
    go_ret
    exact ⟨by rw [HV.out]; rfl, HB1.out⟩
theorem spec_is (t : LT) (w' : World) : Calls Try.prog 21 #[.agg #[.int .i64 t.k, .int .i64 t.n, .int .i64 t.e, .string t.s, t.row]] w' fun r w'' => r = .returned (.bool (isNum t)) ∧ Below w'.heap.size w' w'' := by
  have hrow : t.row = .slice t.a t.kids.length t.cap := rfl
  have HB1 := Lib.hid ((Below.refl w'.heap.size w').alloc (Nat.le_refl _) (.cells #[.int .i64 t.k, .int .i64 t.n, .int .i64 t.e, .string t.s, t.row] 26))
  by_cases hk : t.k = 3 ∨ t.k = 4
  · have HV : Hid (isNum t = numOk t) := by
      unfold Hid isNum
      rcases hk with hk | hk <;> simp [hk]
    have CV : Hid (∀ W, Calls Try.prog 28 #[.agg #[.int .i64 t.k, .int .i64 t.n, .int .i64 t.e, .string t.s, t.row]] W fun e w' => e = .returned (.bool (numOk t)) ∧ Below W.heap.size W w') := fun W => spec_value_num t hk W
    rw [HV.out]
    generalize numOk t = V at *
    simp only [hrow] at CV HB1 ⊢
    clear hrow HV
    rcases hk with hk | hk
    · simp only [hk] at CV HB1 ⊢
      clear hk
      go_enter Try.func21, Try.ntmps21
      go_wp2_with fail
      with_reducible refine (CV.out _).mono ?_
      rintro r w1 ⟨rfl, hb1⟩
      have HB2 := Lib.hid (below_of2 HB1.out hb1)
      clear hb1
      go_wp2
      go_ret
      exact ⟨rfl, HB2.out⟩
    · simp only [hk] at CV HB1 ⊢
      clear hk
      go_enter Try.func21, Try.ntmps21
      go_wp2_with fail
      with_reducible refine (CV.out _).mono ?_
      rintro r w1 ⟨rfl, hb1⟩
      have HB2 := Lib.hid (below_of2 HB1.out hb1)
      clear hb1
      go_wp2
      go_ret
      exact ⟨rfl, HB2.out⟩
  · have h1 : ¬ t.k = 3 := fun h => hk (.inl h)
    have h2 : ¬ t.k = 4 := fun h => hk (.inr h)
    have HV : Hid (isNum t = false) := by
      unfold Hid isNum
      rw [decide_eq_false h1, decide_eq_false h2]
      rfl
    simp only [hrow] at HB1 ⊢
    clear hrow hk
    go_enter Try.func21, Try.ntmps21
    go_wp2
    go_ret
    exact ⟨by rw [HV.out]; rfl, HB1.out⟩

theorem tenth_any (n : Int) (hn : InI n) (w : World) : Calls Try.prog 20 #[.int .i64 n] w fun r w' => r = .returned (.int .i64 (tenthOf n)) ∧ w = w' := by
  have hd : wrap64 (n.tdiv 10) = n.tdiv 10 := wrap_in (div_in hn)
  by_cases h : n.tmod 10 < 0
  · have ht : tenthOf n = n.tdiv 10 - 1 := if_pos h
    have hs : wrap64 (n.tdiv 10 - 1) = n.tdiv 10 - 1 := by rw [← ht]; exact wrap_in (tenth_in hn)
    go_enter Try.func20, Try.ntmps20
    go_wp2
    go_ret
    exact ⟨by first | rfl | (rw [ht]; first | rfl | simp [hd, hs]), rfl⟩
  · have ht : tenthOf n = n.tdiv 10 := if_neg h
    go_enter Try.func20, Try.ntmps20
    go_wp2
    go_ret
    exact ⟨by first | rfl | (rw [ht]; first | rfl | simp [hd]), rfl⟩

def wholeN (t : LT) : Int := if isNum t = true ∧ t.e ≤ 0 then tenths t.n (-t.e).toNat else 0
def wholeB (t : LT) : Bool := decide (isNum t = true ∧ t.e ≤ 0)
theorem whole_no {t : LT} (h : ¬ (isNum t = true ∧ t.e ≤ 0)) : wholeN t = 0 ∧ wholeB t = false := ⟨if_neg h, decide_eq_false h⟩
theorem whole_is {t : LT} (h : isNum t = true) {K : Nat} (he : t.e = -(K : Int)) : wholeN t = tenths t.n K ∧ wholeB t = true := by
  have h0 : isNum t = true ∧ t.e ≤ 0 := ⟨h, by omega⟩
  refine ⟨?_, decide_eq_true h0⟩
  unfold wholeN
  rw [if_pos h0, he, Int.neg_neg, Int.toNat_natCast]
/-- What the loop of Whole keeps. -/
structure TenthAt (n : Int) (K : Nat) (m : Int) (j : Nat) : Prop where
  le : j ≤ K
  isIn : InI m
  eq : tenths m (K - j) = tenths n K
theorem TenthAt.start {n : Int} (h : InI n) (K : Nat) : TenthAt n K n 0 := ⟨Nat.zero_le _, h, rfl⟩
theorem TenthAt.step {n m : Int} {K j : Nat} (h : TenthAt n K m j) (hj : j < K) : TenthAt n K (tenthOf m) (j + 1) := ⟨hj, tenth_in h.isIn, by rw [← h.eq, show K - j = (K - (j + 1)) + 1 by omega, tenths]⟩
theorem TenthAt.fin {n m : Int} {K j : Nat} (h : TenthAt n K m j) (hj : ¬ j < K) : tenths n K = m := by
  have := h.le
  rw [← h.eq, show K - j = 0 by omega, tenths]
theorem in_n {w : World} {B : Nat} {t : LT} (h : In w B t) : InI t.n := by cases h; assumption

set_option maxHeartbeats 2000000 in
theorem impl_whole {w : World} {t : LT} (h : In w w.heap.size t) (hz : t.nodes ≤ 2000000) : Calls Try.prog 8 #[.agg #[.int .i64 t.k, .int .i64 t.n, .int .i64 t.e, .string t.s, t.row]] w fun r w'' => r = .returned (.tuple #[.int .i64 (wholeN t), .bool (wholeB t)]) ∧ Below w.heap.size w w'' := by
  have HB := Lib.hid ((Below.refl w.heap.size w).alloc (Nat.le_refl _) (.cells #[.int .i64 t.k, .int .i64 t.n, .int .i64 t.e, .string t.s, t.row] 26))
  have HX := Lib.hid (Box.new w t 26)
  have CI := impl_is h hz _ HB.out
  have HI := Lib.hid (in_n h)
  have hrow : t.row = .slice t.a t.kids.length t.cap := rfl
  cases hq : isNum t with
  | false =>
    obtain ⟨e1, e2⟩ := whole_no (t := t) (by rw [hq]; simp)
    rw [e1, e2]
    rw [hq] at CI
    simp only [hrow] at CI HB ⊢
    replace CI := Lib.hid CI
    clear h hz hrow hq e1 e2 HX
    go_enter Try.func8, Try.ntmps8
    go_wp2_with fail
    with_reducible refine CI.out.mono ?_
    rintro r w1 ⟨rfl, hb1⟩
    have HB2 := Lib.hid (below_of2 HB.out hb1)
    clear hb1 CI
    go_wp2
    go_ret2
    exact ⟨rfl, HB2.out⟩
  | true =>
    obtain ⟨he1, he2⟩ := isNum_e hq
    by_cases he : 0 < t.e
    · obtain ⟨e1, e2⟩ := whole_no (t := t) (fun h => by omega)
      rw [e1, e2]
      rw [hq] at CI
      simp only [hrow] at CI HB HX ⊢
      replace CI := Lib.hid CI
      clear h hz hrow hq e1 e2
      go_enter Try.func8, Try.ntmps8
      go_wp2_with fail
      with_reducible refine CI.out.mono ?_
      rintro r w1 ⟨rfl, hb1⟩
      have HB2 := Lib.hid (below_of2 HB.out hb1)
      obtain ⟨c0, c1, c2, c3, c4⟩ := HX.out.behind hb1
      clear hb1 CI
      go_wp2
      go_ret2
      exact ⟨rfl, HB2.out⟩
    · obtain ⟨K, hK⟩ : ∃ K : Nat, t.e = -(K : Int) := ⟨(-t.e).toNat, by omega⟩
      obtain ⟨e1, e2⟩ := whole_is hq hK
      rw [e1, e2]
      rw [hq] at CI
      simp only [hrow] at CI HB HX ⊢
      replace CI := Lib.hid CI
      have HK := Lib.hid hK
      have HS := Lib.hid (TenthAt.start HI.out K)
      have HT10 := Lib.hid tenth_any
      clear h hz hrow hq e1 e2 hK
      go_enter Try.func8, Try.ntmps8
      go_wp2_with fail
      with_reducible refine CI.out.mono ?_
      rintro r w1 ⟨rfl, hb1⟩
      have HB2 := Lib.hid (below_of2 HB.out hb1)
      obtain ⟨c0, c1, c2, c3, c4⟩ := HX.out.behind hb1
      clear hb1 CI
      go_wp2
      go_loop [4, 18] (fun v i => ∃ (j : Nat) (m : Int), i = .int .i64 j ∧ v = .int .i64 m ∧ TenthAt t.n K m j) (fun _ i => K - (intOf i).toNat)
      case atStart => exact ⟨0, t.n, rfl, rfl, HS.out⟩
      case round =>
        obtain ⟨j, m, rfl, rfl, HT⟩ := hrel
        have hjk := HT.le
        by_cases hj : j < K
        · have hj1 : (j : Int) < -t.e := by have := HK.out; omega
          have CM := Lib.hid (fun W => HT10.out m HT.isIn W)
          have HN := Lib.hid (HT.step hj)
          clear HT HT10 HS
          go_wp2_with (go_at_call 20; with_reducible refine (CM.out _).mono ?_; rintro r w2 ⟨rfl, rfl⟩)
          exact ⟨⟨j + 1, _, by first | rfl | simp, rfl, HN.out⟩, by simp [intOf]; omega⟩
        · have hj1 : ¬ (j : Int) < -t.e := by have := HK.out; omega
          have HE := Lib.hid (HT.fin hj)
          clear HT HT10 HS
          go_wp2
          go_ret2
          exact ⟨by rw [HE.out]; rfl, HB2.out⟩
set_option maxHeartbeats 2000000 in
theorem spec_whole {w : World} {t : LT} (hn : InI t.n) : Calls Try.prog 9 #[.agg #[.int .i64 t.k, .int .i64 t.n, .int .i64 t.e, .string t.s, t.row]] w fun r w'' => r = .returned (.tuple #[.int .i64 (wholeN t), .bool (wholeB t)]) ∧ Below w.heap.size w w'' := by
  have HB := Lib.hid ((Below.refl w.heap.size w).alloc (Nat.le_refl _) (.cells #[.int .i64 t.k, .int .i64 t.n, .int .i64 t.e, .string t.s, t.row] 26))
  have HX := Lib.hid (Box.new w t 26)
  have CI := spec_is t (w.alloc (.cells #[.int .i64 t.k, .int .i64 t.n, .int .i64 t.e, .string t.s, t.row] 26))
  have HI := Lib.hid hn
  have hrow : t.row = .slice t.a t.kids.length t.cap := rfl
  cases hq : isNum t with
  | false =>
    obtain ⟨e1, e2⟩ := whole_no (t := t) (by rw [hq]; simp)
    rw [e1, e2]
    rw [hq] at CI
    simp only [hrow] at CI HB ⊢
    replace CI := Lib.hid CI
    clear hrow hn hq e1 e2 HX
    go_enter Try.func9, Try.ntmps9
    go_wp2_with fail
    with_reducible refine CI.out.mono ?_
    rintro r w1 ⟨rfl, hb1⟩
    have HB2 := Lib.hid (below_of2 HB.out hb1)
    clear hb1 CI
    go_wp2
    go_ret2
    exact ⟨rfl, HB2.out⟩
  | true =>
    obtain ⟨he1, he2⟩ := isNum_e hq
    by_cases he : 0 < t.e
    · obtain ⟨e1, e2⟩ := whole_no (t := t) (fun h => by omega)
      rw [e1, e2]
      rw [hq] at CI
      simp only [hrow] at CI HB HX ⊢
      replace CI := Lib.hid CI
      clear hrow hn hq e1 e2
      go_enter Try.func9, Try.ntmps9
      go_wp2_with fail
      with_reducible refine CI.out.mono ?_
      rintro r w1 ⟨rfl, hb1⟩
      have HB2 := Lib.hid (below_of2 HB.out hb1)
      obtain ⟨c0, c1, c2, c3, c4⟩ := HX.out.behind hb1
      clear hb1 CI
      go_wp2
      go_ret2
      exact ⟨rfl, HB2.out⟩
    · obtain ⟨K, hK⟩ : ∃ K : Nat, t.e = -(K : Int) := ⟨(-t.e).toNat, by omega⟩
      obtain ⟨e1, e2⟩ := whole_is hq hK
      rw [e1, e2]
      rw [hq] at CI
      simp only [hrow] at CI HB HX ⊢
      replace CI := Lib.hid CI
      have HK := Lib.hid hK
      have HS := Lib.hid (TenthAt.start HI.out K)
      clear hrow hn hq e1 e2 hK
      go_enter Try.func9, Try.ntmps9
      go_wp2_with fail
      with_reducible refine CI.out.mono ?_
      rintro r w1 ⟨rfl, hb1⟩
      have HB2 := Lib.hid (below_of2 HB.out hb1)
      obtain ⟨c0, c1, c2, c3, c4⟩ := HX.out.behind hb1
      clear hb1 CI
      go_wp2
      go_loop [4, 5] (fun v i => ∃ (j : Nat) (m : Int), i = .int .i64 ((j : Int) - K) ∧ v = .int .i64 m ∧ TenthAt t.n K m j) (fun _ i => (-(intOf i)).toNat)
      case atStart => exact ⟨0, t.n, by rw [HK.out]; simp, rfl, HS.out⟩
      case round =>
        obtain ⟨j, m, rfl, rfl, HT⟩ := hrel
        have hjk := HT.le
        have hK20 : K ≤ 20 := by have := HK.out; omega
        have HM := Lib.hid HT.isIn
        by_cases hj : j < K
        · have hj1 : (j : Int) - (K : Int) < 0 := by omega
          have hj2 : wrap64 ((j : Int) - K + 1) = (j : Int) - K + 1 := wrap_in (by unfold InI; omega)
          have hd : wrap64 (m.tdiv 10) = m.tdiv 10 := wrap_in (div_in HM.out)
          have HN := Lib.hid (HT.step hj)
          clear HT HS
          by_cases hm : m.tmod 10 < 0
          · have ht : tenthOf m = m.tdiv 10 - 1 := if_pos hm
            have hs : wrap64 (m.tdiv 10 - 1) = m.tdiv 10 - 1 := by rw [← ht]; exact wrap_in (tenth_in HM.out)
            have HH := Lib.hid ht
            clear ht
            go_wp2
            exact ⟨⟨j + 1, tenthOf m, by first | (congr 1; push_cast; omega) | (simp; omega), by rw [HH.out]; first | rfl | simp [hd, hs], HN.out⟩, by simp [intOf]; omega⟩
          · have ht : tenthOf m = m.tdiv 10 := if_neg hm
            have HH := Lib.hid ht
            clear ht
            go_wp2
            exact ⟨⟨j + 1, tenthOf m, by first | (congr 1; push_cast; omega) | (simp; omega), by rw [HH.out]; first | rfl | simp [hd], HN.out⟩, by simp [intOf]; omega⟩
        · have hj1 : ¬ (j : Int) - (K : Int) < 0 := by omega
          have HE := Lib.hid (HT.fin hj)
          clear HT HS
          go_wp2
          go_ret2
          exact ⟨by rw [HE.out]; rfl, HB2.out⟩

end Go.Proofs.Ythjholhjkahdkaa.num
/-
  What impl.CompareNum returns: the order of two numbers.
-/
namespace Go.Proofs.Ythjholhjkahdkaa.num
open Go.ChangeShapes Go.WideShapes Go.ChangeAt Go.RowKit
open Go.Proofs.Ythjholhjkahdkaa.val
set_option maxRecDepth 100000

def cmpNum (t u : LT) : Int := if isNum t = true ∧ isNum u = true then cmpI (sixty t.n t.e) (sixty u.n u.e) else 2
theorem sixty_add (n e : Int) (d : Nat) (f : Int) (h : e = f + d) (hf : -60 ≤ f) : sixty n e = (n * 10 ^ d) * ((10 ^ (f + 60).toNat : Nat) : Int) := by
  unfold sixty
  have e1 : (e + 60).toNat = d + (f + 60).toNat := by omega
  rw [e1, Nat.pow_add, Int.natCast_mul, ← Int.mul_assoc]
  simp
theorem cmp_some {n m e f : Int} {d : Nat} {z : Int} (hn : InI n) (h : e = f + d) (hf : -60 ≤ f) (hs : scal n d = some z) : cmpI z m = cmpI (sixty n e) (sixty m f) := by
  obtain ⟨h1, _⟩ := scal_some d n z hn hs
  rw [sixty_add n e d f h hf, ← h1]
  unfold sixty
  rw [cmpI_mul _ _ (by have := pow_pos10 (f + 60).toNat; omega)]
theorem cmp_none {n m e f : Int} {d : Nat} (hn : InI n) (hm : InI m) (h : e = f + d) (hf : -60 ≤ f) (hs : scal n d = none) : cmpI n 0 = cmpI (sixty n e) (sixty m f) := by
  have hbig : ¬ InI (n * 10 ^ d) := fun hi => by rw [scal_yes_in d n hi hn] at hs; cases hs
  rw [sixty_add n e d f h hf]
  unfold sixty
  rw [cmpI_mul _ _ (by have := pow_pos10 (f + 60).toNat; omega)]
  have hp : (1 : Int) ≤ 10 ^ d := by
    have := pow_pos10 d
    have e : ((10 ^ d : Nat) : Int) = (10 : Int) ^ d := by simp
    omega
  generalize (10 : Int) ^ d = P at *
  unfold InI at *
  rcases Int.lt_trichotomy n 0 with h0 | h0 | h0
  · have h2 : -n * 1 ≤ -n * P := Int.mul_le_mul_of_nonneg_left hp (by omega)
    rw [Int.neg_mul n P] at h2
    rw [cmpI_lt h0, cmpI_lt (by omega)]
  · subst h0
    rw [Int.zero_mul] at hbig
    omega
  · have h2 : n * 1 ≤ n * P := Int.mul_le_mul_of_nonneg_left hp (by omega)
    rw [cmpI_gt h0, cmpI_gt (by omega)]

set_option maxHeartbeats 2000000 in
theorem impl_ge {w : World} {t u : LT} (ht : In w w.heap.size t) (hu : In w w.heap.size u) (hzt : t.nodes ≤ 2000000) (hzu : u.nodes ≤ 2000000) (hq : isNum t = true) (hr : isNum u = true) (hge : u.e ≤ t.e) :
    Calls Try.prog 6 #[.agg #[.int .i64 t.k, .int .i64 t.n, .int .i64 t.e, .string t.s, t.row], .agg #[.int .i64 u.k, .int .i64 u.n, .int .i64 u.e, .string u.s, u.row]] w fun r w' => r = .returned (.int .i64 (cmpI (sixty t.n t.e) (sixty u.n u.e))) ∧ Below w.heap.size w w' := by
  have HB := Lib.hid (((Below.refl w.heap.size w).alloc (Nat.le_refl _) (.cells #[.int .i64 t.k, .int .i64 t.n, .int .i64 t.e, .string t.s, t.row] 26)).alloc (by simp) (.cells #[.int .i64 u.k, .int .i64 u.n, .int .i64 u.e, .string u.s, u.row] 26))
  have HX := Lib.hid (Box2.new w t u 26)
  have CT : Hid (∀ W, Below w.heap.size w W → Calls Try.prog 17 #[.agg #[.int .i64 t.k, .int .i64 t.n, .int .i64 t.e, .string t.s, t.row]] W fun r w'' => r = .returned (.bool true) ∧ Below W.heap.size W w'') := fun W hb => by
    have := impl_is ht hzt W hb
    rw [hq] at this
    exact this
  have CU : Hid (∀ W, Below w.heap.size w W → Calls Try.prog 17 #[.agg #[.int .i64 u.k, .int .i64 u.n, .int .i64 u.e, .string u.s, u.row]] W fun r w'' => r = .returned (.bool true) ∧ Below W.heap.size W w'') := fun W hb => by
    have := impl_is hu hzu W hb
    rw [hr] at this
    exact this
  obtain ⟨ha1, ha2⟩ := isNum_e hq
  obtain ⟨hb1, hb2⟩ := isNum_e hr
  obtain ⟨d, hd⟩ : ∃ d : Nat, t.e - u.e = (d : Int) := ⟨(t.e - u.e).toNat, by omega⟩
  have hd40 : d ≤ 40 := by omega
  have CS := fun W => scaled_any t.n d (by omega) W
  have HIT := Lib.hid (in_n ht)
  have HIU := Lib.hid (in_n hu)
  have CC := Lib.hid compI
  have hrt : t.row = .slice t.a t.kids.length t.cap := rfl
  have hru : u.row = .slice u.a u.kids.length u.cap := rfl
  have HE : Hid (t.e = u.e + d) := by unfold Hid; omega
  have HF : Hid (-60 ≤ u.e) := by unfold Hid; omega
  cases hs : scal t.n d with
  | some z =>
    have HV := Lib.hid (cmp_some (m := u.n) HIT.out HE.out HF.out hs)
    rw [hs] at CS
    simp only [Option.getD_some, Option.isSome_some] at CS
    replace CS := Lib.hid CS
    generalize cmpI (sixty t.n t.e) (sixty u.n u.e) = C at *
    simp only [hrt, hru] at CT CU HB HX ⊢
    clear ht hu hzt hzu hq hr hrt hru hs
    go_enter Try.func6, Try.ntmps6
    go_wp2_with fail
    with_reducible refine (CT.out _ HB.out).mono ?_
    rintro r w1 ⟨rfl, hb⟩
    replace HB := Lib.hid (below_of2 HB.out hb)
    replace HX : Hid (Box2 w1 w.heap.size t u) := ⟨HX.out.b1.behind hb, HX.out.b2.behind hb⟩
    clear hb
    obtain ⟨⟨p0, p1, p2, p3, p4⟩, ⟨q0, q1, q2, q3, q4⟩⟩ := HX.out
    unfold LT.row at p4 q4
    go_wp2_with fail
    with_reducible refine (CU.out _ HB.out).mono ?_
    rintro r w2 ⟨rfl, hb⟩
    replace HB := Lib.hid (below_of2 HB.out hb)
    replace HX : Hid (Box2 w2 w.heap.size t u) := ⟨HX.out.b1.behind hb, HX.out.b2.behind hb⟩
    clear hb p0 p1 p2 p3 p4 q0 q1 q2 q3 q4 CT CU
    obtain ⟨⟨p0, p1, p2, p3, p4⟩, ⟨q0, q1, q2, q3, q4⟩⟩ := HX.out
    unfold LT.row at p4 q4
    have hlt : ¬ t.e < u.e := by omega
    go_wp2_with fail
    with_reducible refine (CS.out _).mono ?_
    rintro r w3 ⟨rfl, rfl⟩
    go_wp2_with fail
    with_reducible refine (CC.out _ _ _).mono ?_
    rintro r w4 ⟨rfl, rfl⟩
    go_wp2
    go_ret
    exact ⟨by rw [← HV.out]; rfl, HB.out⟩
  | none =>
    have HV := Lib.hid (cmp_none HIT.out HIU.out HE.out HF.out hs)
    rw [hs] at CS
    simp only [Option.getD_none, Option.isSome_none] at CS
    replace CS := Lib.hid CS
    generalize cmpI (sixty t.n t.e) (sixty u.n u.e) = C at *
    simp only [hrt, hru] at CT CU HB HX ⊢
    clear ht hu hzt hzu hq hr hrt hru hs
    go_enter Try.func6, Try.ntmps6
    go_wp2_with fail
    with_reducible refine (CT.out _ HB.out).mono ?_
    rintro r w1 ⟨rfl, hb⟩
    replace HB := Lib.hid (below_of2 HB.out hb)
    replace HX : Hid (Box2 w1 w.heap.size t u) := ⟨HX.out.b1.behind hb, HX.out.b2.behind hb⟩
    clear hb
    obtain ⟨⟨p0, p1, p2, p3, p4⟩, ⟨q0, q1, q2, q3, q4⟩⟩ := HX.out
    unfold LT.row at p4 q4
    go_wp2_with fail
    with_reducible refine (CU.out _ HB.out).mono ?_
    rintro r w2 ⟨rfl, hb⟩
    replace HB := Lib.hid (below_of2 HB.out hb)
    replace HX : Hid (Box2 w2 w.heap.size t u) := ⟨HX.out.b1.behind hb, HX.out.b2.behind hb⟩
    clear hb p0 p1 p2 p3 p4 q0 q1 q2 q3 q4 CT CU
    obtain ⟨⟨p0, p1, p2, p3, p4⟩, ⟨q0, q1, q2, q3, q4⟩⟩ := HX.out
    unfold LT.row at p4 q4
    have hlt : ¬ t.e < u.e := by omega
    go_wp2_with fail
    with_reducible refine (CS.out _).mono ?_
    rintro r w3 ⟨rfl, rfl⟩
    go_wp2_with fail
    with_reducible refine (CC.out _ _ _).mono ?_
    rintro r w4 ⟨rfl, rfl⟩
    go_wp2
    go_ret
    exact ⟨by rw [← HV.out]; rfl, HB.out⟩

theorem cmpI_neg (a b : Int) : -cmpI a b = cmpI b a := by
  rcases Int.lt_trichotomy a b with h | h | h
  · rw [cmpI_lt h, cmpI_gt h]; rfl
  · rw [cmpI_eq h, cmpI_eq h.symm]; rfl
  · rw [cmpI_gt h, cmpI_lt h]
theorem cmpI_small (a b : Int) : -1 ≤ cmpI a b ∧ cmpI a b ≤ 1 := by
  unfold cmpI
  split
  · omega
  · split <;> omega
set_option maxHeartbeats 2000000 in
theorem impl_lt {w : World} {t u : LT} (ht : In w w.heap.size t) (hu : In w w.heap.size u) (hzt : t.nodes ≤ 2000000) (hzu : u.nodes ≤ 2000000) (hq : isNum t = true) (hr : isNum u = true) (hlt : t.e < u.e) :
    Calls Try.prog 6 #[.agg #[.int .i64 t.k, .int .i64 t.n, .int .i64 t.e, .string t.s, t.row], .agg #[.int .i64 u.k, .int .i64 u.n, .int .i64 u.e, .string u.s, u.row]] w fun r w' => r = .returned (.int .i64 (cmpI (sixty t.n t.e) (sixty u.n u.e))) ∧ Below w.heap.size w w' := by
  have HB := Lib.hid (((Below.refl w.heap.size w).alloc (Nat.le_refl _) (.cells #[.int .i64 t.k, .int .i64 t.n, .int .i64 t.e, .string t.s, t.row] 26)).alloc (by simp) (.cells #[.int .i64 u.k, .int .i64 u.n, .int .i64 u.e, .string u.s, u.row] 26))
  have HX := Lib.hid (Box2.new w t u 26)
  have hrt : t.row = .slice t.a t.kids.length t.cap := rfl
  have hru : u.row = .slice u.a u.kids.length u.cap := rfl
  have CT : Hid (∀ W, Below w.heap.size w W → Calls Try.prog 17 #[.agg #[.int .i64 t.k, .int .i64 t.n, .int .i64 t.e, .string t.s, t.row]] W fun r w'' => r = .returned (.bool true) ∧ Below W.heap.size W w'') := fun W hb => by
    have := impl_is ht hzt W hb
    rw [hq] at this
    exact this
  have CU : Hid (∀ W, Below w.heap.size w W → Calls Try.prog 17 #[.agg #[.int .i64 u.k, .int .i64 u.n, .int .i64 u.e, .string u.s, u.row]] W fun r w'' => r = .returned (.bool true) ∧ Below W.heap.size W w'') := fun W hb => by
    have := impl_is hu hzu W hb
    rw [hr] at this
    exact this
  have CR : Hid (∀ W, Below w.heap.size w W → Calls Try.prog 6 #[.agg #[.int .i64 u.k, .int .i64 u.n, .int .i64 u.e, .string u.s, u.row], .agg #[.int .i64 t.k, .int .i64 t.n, .int .i64 t.e, .string t.s, t.row]] W fun r w'' => r = .returned (.int .i64 (cmpI (sixty u.n u.e) (sixty t.n t.e))) ∧ Below W.heap.size W w'') := fun W hb => impl_ge ((hu.behind hb).mono hb.size) ((ht.behind hb).mono hb.size) hzu hzt hr hq (by omega)
  have HV := Lib.hid (cmpI_neg (sixty u.n u.e) (sixty t.n t.e))
  obtain ⟨hs1, hs2⟩ := cmpI_small (sixty u.n u.e) (sixty t.n t.e)
  generalize cmpI (sixty t.n t.e) (sixty u.n u.e) = C at *
  generalize cmpI (sixty u.n u.e) (sixty t.n t.e) = D at *
  simp only [hrt, hru] at CT CU CR HB HX ⊢
  clear ht hu hzt hzu hq hr hrt hru
  go_enter Try.func6, Try.ntmps6
  go_wp2_with fail
  with_reducible refine (CT.out _ HB.out).mono ?_
  rintro r w1 ⟨rfl, hb⟩
  replace HB := Lib.hid (below_of2 HB.out hb)
  replace HX : Hid (Box2 w1 w.heap.size t u) := ⟨HX.out.b1.behind hb, HX.out.b2.behind hb⟩
  clear hb
  obtain ⟨⟨p0, p1, p2, p3, p4⟩, ⟨q0, q1, q2, q3, q4⟩⟩ := HX.out
  unfold LT.row at p4 q4
  go_wp2_with fail
  with_reducible refine (CU.out _ HB.out).mono ?_
  rintro r w2 ⟨rfl, hb⟩
  replace HB := Lib.hid (below_of2 HB.out hb)
  replace HX : Hid (Box2 w2 w.heap.size t u) := ⟨HX.out.b1.behind hb, HX.out.b2.behind hb⟩
  clear hb p0 p1 p2 p3 p4 q0 q1 q2 q3 q4 CT CU
  obtain ⟨⟨p0, p1, p2, p3, p4⟩, ⟨q0, q1, q2, q3, q4⟩⟩ := HX.out
  unfold LT.row at p4 q4
  go_wp2_with (go_at_call 6; with_reducible refine (CR.out _ HB.out).mono ?_; rintro r w3 ⟨rfl, hb⟩; have HB3 := Lib.hid (below_of2 HB.out hb); clear hb)
  go_ret
  exact ⟨by rw [← HV.out]; first | rfl | (congr 2; exact wrap_in (by unfold InI; omega)), HB3.out⟩
set_option maxHeartbeats 2000000 in
theorem impl_no1 {w : World} {t u : LT} (ht : In w w.heap.size t) (hzt : t.nodes ≤ 2000000) (hq : isNum t = false) :
    Calls Try.prog 6 #[.agg #[.int .i64 t.k, .int .i64 t.n, .int .i64 t.e, .string t.s, t.row], .agg #[.int .i64 u.k, .int .i64 u.n, .int .i64 u.e, .string u.s, u.row]] w fun r w' => r = .returned (.int .i64 2) ∧ Below w.heap.size w w' := by
  have HB := Lib.hid (((Below.refl w.heap.size w).alloc (Nat.le_refl _) (.cells #[.int .i64 t.k, .int .i64 t.n, .int .i64 t.e, .string t.s, t.row] 26)).alloc (by simp) (.cells #[.int .i64 u.k, .int .i64 u.n, .int .i64 u.e, .string u.s, u.row] 26))
  have HX := Lib.hid (Box2.new w t u 26)
  have hrt : t.row = .slice t.a t.kids.length t.cap := rfl
  have hru : u.row = .slice u.a u.kids.length u.cap := rfl
  have CT : Hid (∀ W, Below w.heap.size w W → Calls Try.prog 17 #[.agg #[.int .i64 t.k, .int .i64 t.n, .int .i64 t.e, .string t.s, t.row]] W fun r w'' => r = .returned (.bool false) ∧ Below W.heap.size W w'') := fun W hb => by
    have := impl_is ht hzt W hb
    rw [hq] at this
    exact this
  simp only [hrt, hru] at CT HB HX ⊢
  clear ht hzt hq hrt hru
  go_enter Try.func6, Try.ntmps6
  go_wp2_with fail
  with_reducible refine (CT.out _ HB.out).mono ?_
  rintro r w1 ⟨rfl, hb⟩
  replace HB := Lib.hid (below_of2 HB.out hb)
  replace HX : Hid (Box2 w1 w.heap.size t u) := ⟨HX.out.b1.behind hb, HX.out.b2.behind hb⟩
  clear hb
  obtain ⟨⟨p0, p1, p2, p3, p4⟩, ⟨q0, q1, q2, q3, q4⟩⟩ := HX.out
  unfold LT.row at p4 q4
  go_wp2
  go_ret
  exact ⟨rfl, HB.out⟩
set_option maxHeartbeats 2000000 in
theorem impl_no2 {w : World} {t u : LT} (ht : In w w.heap.size t) (hu : In w w.heap.size u) (hzt : t.nodes ≤ 2000000) (hzu : u.nodes ≤ 2000000) (hq : isNum t = true) (hr : isNum u = false) :
    Calls Try.prog 6 #[.agg #[.int .i64 t.k, .int .i64 t.n, .int .i64 t.e, .string t.s, t.row], .agg #[.int .i64 u.k, .int .i64 u.n, .int .i64 u.e, .string u.s, u.row]] w fun r w' => r = .returned (.int .i64 2) ∧ Below w.heap.size w w' := by
  have HB := Lib.hid (((Below.refl w.heap.size w).alloc (Nat.le_refl _) (.cells #[.int .i64 t.k, .int .i64 t.n, .int .i64 t.e, .string t.s, t.row] 26)).alloc (by simp) (.cells #[.int .i64 u.k, .int .i64 u.n, .int .i64 u.e, .string u.s, u.row] 26))
  have HX := Lib.hid (Box2.new w t u 26)
  have hrt : t.row = .slice t.a t.kids.length t.cap := rfl
  have hru : u.row = .slice u.a u.kids.length u.cap := rfl
  have CT : Hid (∀ W, Below w.heap.size w W → Calls Try.prog 17 #[.agg #[.int .i64 t.k, .int .i64 t.n, .int .i64 t.e, .string t.s, t.row]] W fun r w'' => r = .returned (.bool true) ∧ Below W.heap.size W w'') := fun W hb => by
    have := impl_is ht hzt W hb
    rw [hq] at this
    exact this
  have CU : Hid (∀ W, Below w.heap.size w W → Calls Try.prog 17 #[.agg #[.int .i64 u.k, .int .i64 u.n, .int .i64 u.e, .string u.s, u.row]] W fun r w'' => r = .returned (.bool false) ∧ Below W.heap.size W w'') := fun W hb => by
    have := impl_is hu hzu W hb
    rw [hr] at this
    exact this
  simp only [hrt, hru] at CT CU HB HX ⊢
  clear ht hu hzt hzu hq hr hrt hru
  go_enter Try.func6, Try.ntmps6
  go_wp2_with fail
  with_reducible refine (CT.out _ HB.out).mono ?_
  rintro r w1 ⟨rfl, hb⟩
  replace HB := Lib.hid (below_of2 HB.out hb)
  replace HX : Hid (Box2 w1 w.heap.size t u) := ⟨HX.out.b1.behind hb, HX.out.b2.behind hb⟩
  clear hb
  obtain ⟨⟨p0, p1, p2, p3, p4⟩, ⟨q0, q1, q2, q3, q4⟩⟩ := HX.out
  unfold LT.row at p4 q4
  go_wp2_with fail
  with_reducible refine (CU.out _ HB.out).mono ?_
  rintro r w2 ⟨rfl, hb⟩
  replace HB := Lib.hid (below_of2 HB.out hb)
  replace HX : Hid (Box2 w2 w.heap.size t u) := ⟨HX.out.b1.behind hb, HX.out.b2.behind hb⟩
  clear hb p0 p1 p2 p3 p4 q0 q1 q2 q3 q4 CT CU
  obtain ⟨⟨p0, p1, p2, p3, p4⟩, ⟨q0, q1, q2, q3, q4⟩⟩ := HX.out
  unfold LT.row at p4 q4
  go_wp2
  go_ret
  exact ⟨rfl, HB.out⟩
theorem impl_cmpnum {w : World} {t u : LT} (ht : In w w.heap.size t) (hu : In w w.heap.size u) (hzt : t.nodes ≤ 2000000) (hzu : u.nodes ≤ 2000000) :
    Calls Try.prog 6 #[.agg #[.int .i64 t.k, .int .i64 t.n, .int .i64 t.e, .string t.s, t.row], .agg #[.int .i64 u.k, .int .i64 u.n, .int .i64 u.e, .string u.s, u.row]] w fun r w' => r = .returned (.int .i64 (cmpNum t u)) ∧ Below w.heap.size w w' := by
  unfold cmpNum
  cases hq : isNum t with
  | false =>
    rw [if_neg (by simp)]
    exact impl_no1 ht hzt hq
  | true =>
    cases hr : isNum u with
    | false =>
      rw [if_neg (by simp)]
      exact impl_no2 ht hu hzt hzu hq hr
    | true =>
      rw [if_pos ⟨rfl, rfl⟩]
      rcases Int.lt_or_le t.e u.e with h | h
      · exact impl_lt ht hu hzt hzu hq hr h
      · exact impl_ge ht hu hzt hzu hq hr h

end Go.Proofs.Ythjholhjkahdkaa.num
/-
  Plain: numbers are in one order; the greatest whole number not above one.
-/
namespace Go.Proofs.Ythjholhjkahdkaa.num
open Go.Proofs.Ythjholhjkahdkaa.val
set_option maxRecDepth 100000

theorem cmp_anti {t u : LT} (h : cmpNum t u ≠ 2) : cmpNum t u = -cmpNum u t := by
  unfold cmpNum at *
  split at h
  · rename_i hq
    rw [if_pos hq, if_pos ⟨hq.2, hq.1⟩, cmpI_neg]
  · exact (h rfl).elim
theorem cmp_self {t u : LT} (h : cmpNum t u ≠ 2) : cmpNum t t = 0 := by
  unfold cmpNum at *
  split at h
  · rename_i hq
    rw [if_pos ⟨hq.1, hq.1⟩, cmpI_eq rfl]
  · exact (h rfl).elim
theorem cmpI_eq0 {a b : Int} (h : cmpI a b = 0) : a = b := by
  unfold cmpI at h
  split at h
  · omega
  · split at h <;> omega
theorem cmp_range (t u : LT) : cmpNum t u = 2 ∨ (-1 ≤ cmpNum t u ∧ cmpNum t u ≤ 1) := by
  unfold cmpNum
  split
  · exact .inr (cmpI_small _ _)
  · exact .inl rfl
/-- What is known of a right number. -/
theorem num_parts {t : LT} (h : isNum t = true) : t.s.size = 0 ∧ t.kids = [] ∧ -20 ≤ t.e ∧ t.e ≤ 20 ∧ ((t.k = 3 ∧ t.e = 0) ∨ (t.k = 4 ∧ t.e ≠ 0 ∧ t.n.tmod 10 ≠ 0 ∧ (t.e < 0 ∨ scal t.n t.e.toNat = none))) := by
  have he := isNum_e h
  unfold isNum numOk at h
  simp only [Bool.and_eq_true, Bool.or_eq_true, decide_eq_true_eq] at h
  obtain ⟨hk, ⟨hs, hl⟩, hr⟩ := h
  refine ⟨hs, List.eq_nil_of_length_eq_zero hl, he.1, he.2, ?_⟩
  rcases hk with hk | hk
  · rw [if_pos hk] at hr
    exact .inl ⟨hk, of_decide_eq_true hr⟩
  · rw [if_neg (by omega)] at hr
    unfold decOk at hr
    simp only [Bool.and_eq_true, Bool.or_eq_true, decide_eq_true_eq, Option.isNone_iff_eq_none] at hr
    exact .inr ⟨hk, hr.1.2.2.1, hr.1.2.2.2.2.2, hr.2⟩
theorem sixty_le {t u : LT} (ht : isNum t = true) (hu : isNum u = true) (hn : InI t.n) (hm : InI u.n) (hle : t.e ≤ u.e) (h : sixty t.n t.e = sixty u.n u.e) : t.k = u.k ∧ t.n = u.n ∧ t.e = u.e := by
  obtain ⟨_, _, e1, e2, h1⟩ := num_parts ht
  obtain ⟨_, _, e3, e4, h2⟩ := num_parts hu
  obtain ⟨d, hd⟩ : ∃ d : Nat, u.e = t.e + d := ⟨(u.e - t.e).toNat, by omega⟩
  rw [sixty_add u.n u.e d t.e hd (by omega)] at h
  unfold sixty at h
  have hp : ((10 ^ (t.e + 60).toNat : Nat) : Int) ≠ 0 := by have := pow_pos10 (t.e + 60).toNat; omega
  have hv : t.n = u.n * 10 ^ d := Int.eq_of_mul_eq_mul_right hp h
  cases d with
  | zero =>
    have hv : t.n = u.n := by rw [hv]; simp
    have he : u.e = t.e := by omega
    refine ⟨?_, hv, he.symm⟩
    rcases h1 with ⟨a1, a2⟩ | ⟨a1, a2, _⟩ <;> rcases h2 with ⟨b1, b2⟩ | ⟨b1, b2, _⟩ <;> omega
  | succ d =>
    exfalso
    have hten : t.n = (u.n * 10 ^ d) * 10 := by rw [hv, Int.pow_succ, Int.mul_assoc]
    have hmod : t.n.tmod 10 = 0 := by rw [hten]; exact Int.mul_tmod_left _ _
    rcases h1 with ⟨a1, a2⟩ | ⟨a1, a2, a3, _⟩
    · rcases h2 with ⟨b1, b2⟩ | ⟨b1, b2, b3, b4⟩
      · omega
      · rcases b4 with b4 | b4
        · omega
        · have hde : u.e.toNat = d + 1 := by omega
          rw [hde, scal_yes_in (d + 1) u.n (by rw [← hv]; exact hn) hm] at b4
          cases b4
    · exact a3 hmod
theorem same_num {t u : LT} (hn : InI t.n) (hm : InI u.n) (h : cmpNum t u = 0) : er t = er u := by
  unfold cmpNum at h
  split at h
  · rename_i hq
    have h := cmpI_eq0 h
    have hke : t.k = u.k ∧ t.n = u.n ∧ t.e = u.e := by
      rcases Int.le_total t.e u.e with hle | hle
      · exact sixty_le hq.1 hq.2 hn hm hle h
      · obtain ⟨a, b, c⟩ := sixty_le hq.2 hq.1 hm hn hle h.symm
        exact ⟨a.symm, b.symm, c.symm⟩
    obtain ⟨s1, k1, _⟩ := num_parts hq.1
    obtain ⟨s2, k2, _⟩ := num_parts hq.2
    obtain ⟨tk, tn, te, ts, ta, tc, tl⟩ := t
    obtain ⟨uk, un, ue, us, ua, uc, ul⟩ := u
    simp only [LT.k, LT.n, LT.e, LT.s, LT.kids] at hke s1 k1 s2 k2
    obtain ⟨rfl, rfl, rfl⟩ := hke
    subst k1; subst k2
    have e1 : ts = us := by
      have z : ∀ s : ByteArray, s.size = 0 → s = ⟨#[]⟩ := fun s hs => by
        apply ByteArray.ext
        exact Array.eq_empty_of_size_eq_zero hs
      rw [z ts s1, z us s2]
    subst e1
    rw [er, er]
  · omega
/-- The whole part stands below, the next one above. -/
theorem tenths_at : ∀ (K : Nat) (n : Int), tenths n K * 10 ^ K ≤ n ∧ n < (tenths n K + 1) * 10 ^ K
  | 0, n => by rw [tenths]; simp; omega
  | K + 1, n => by
    rw [tenths]
    obtain ⟨h1, h2⟩ := tenths_at K (tenthOf n)
    have h3 : 10 * tenthOf n ≤ n ∧ n < 10 * (tenthOf n + 1) := by
      have ht := td n
      have hm := tm n
      unfold tenthOf
      split <;> omega
    rw [Int.pow_succ, ← Int.mul_assoc, ← Int.mul_assoc]
    generalize tenths (tenthOf n) K * 10 ^ K = A at *
    generalize (tenths (tenthOf n) K + 1) * 10 ^ K = B at *
    omega
def intT (x : Int) : LT := .mk 3 x 0 ⟨#[]⟩ none 0 []
theorem int_num (x : Int) : isNum (intT x) = true := by unfold isNum numOk intT; rfl
theorem strip_is : ∀ (k : Nat) (n e : Int), n.natAbs ≤ k → n ≠ 0 → InI n → ∃ f : Nat, (strip n e).2 = e + f ∧ n = (strip n e).1 * 10 ^ f ∧ InI (strip n e).1
  | 0, n, e, hk, h0, _ => by omega
  | k + 1, n, e, hk, h0, hn => by
    by_cases hm : n.tmod 10 = 0
    · rw [strip_yes h0 hm]
      have hl := div_less h0
      obtain ⟨f, h1, h2, h3⟩ := strip_is k (n.tdiv 10) (e + 1) (by omega) (div_ne h0 hm) (div_in hn)
      refine ⟨f + 1, by rw [h1]; omega, ?_, h3⟩
      have hd := tm n
      rw [Int.pow_succ, ← Int.mul_assoc, ← h2]
      omega
    · rw [strip_no hm]
      exact ⟨0, by simp, by simp, hn⟩
theorem norm_int {x : Int} (hx : InI x) : norm x 0 = (3, x, 0, true) := by
  unfold norm
  rw [if_neg (by omega)]
  by_cases h0 : x = 0
  · rw [if_pos h0, h0]
  · rw [if_neg h0]
    obtain ⟨f, h1, h2, h3⟩ := strip_is x.natAbs x 0 (Nat.le_refl _) h0 hx
    have hs : scal (strip x 0).1 f = some x := by
      have := scal_yes_in f (strip x 0).1 (by rw [← h2]; exact hx) h3
      rw [← h2] at this
      exact this
    have hf : (strip x 0).2.toNat = f := by omega
    unfold normAt
    rw [hf, hs, if_pos ⟨by omega, rfl⟩]
    rfl
theorem norm_in (n e : Int) (hn : InI n) : InI (norm n e).1 ∧ InI (norm n e).2.1 ∧ InI (norm n e).2.2.1 := by
  have z : InI 0 := by unfold InI; decide
  have z3 : InI 3 := by unfold InI; decide
  have z4 : InI 4 := by unfold InI; decide
  unfold norm
  split
  · exact ⟨z, z, z⟩
  · split
    · exact ⟨z3, z, z⟩
    · rename_i h0
      obtain ⟨f, h1, h2, h3⟩ := strip_is n.natAbs n e (Nat.le_refl _) h0 hn
      unfold normAt
      split
      · rename_i hs
        cases hc : scal (strip n e).1 (strip n e).2.toNat with
        | none => rw [hc] at hs; simp at hs
        | some m => exact ⟨z3, (scal_some _ _ _ h3 hc).2, z⟩
      · split
        · rename_i hd
          unfold decOk at hd
          simp only [Bool.and_eq_true, decide_eq_true_eq] at hd
          exact ⟨z4, h3, by show InI (strip n e).2; unfold InI; have := hd.1; omega⟩
        · exact ⟨z, z, z⟩
theorem whole_low {t : LT} (hq : isNum t = true) (he : t.e ≤ 0) : cmpNum (intT (tenths t.n (-t.e).toNat)) t ≤ 0 ∧ cmpNum t (intT (tenths t.n (-t.e).toNat + 1)) < 0 := by
  obtain ⟨_, _, e1, e2, _⟩ := num_parts hq
  obtain ⟨K, hK⟩ : ∃ K : Nat, t.e = -(K : Int) := ⟨(-t.e).toNat, by omega⟩
  rw [show (-t.e).toNat = K by omega]
  obtain ⟨h1, h2⟩ := tenths_at K t.n
  unfold cmpNum
  rw [if_pos ⟨int_num _, hq⟩, if_pos ⟨hq, int_num _⟩]
  have hs : ∀ x : Int, sixty x 0 = (x * 10 ^ K) * ((10 ^ (t.e + 60).toNat : Nat) : Int) := fun x => sixty_add x 0 K t.e (by omega) (by omega)
  show cmpI (sixty (tenths t.n K) 0) (sixty t.n t.e) ≤ 0 ∧ cmpI (sixty t.n t.e) (sixty (tenths t.n K + 1) 0) < 0
  rw [hs, hs]
  unfold sixty
  have hp : (0 : Int) < ((10 ^ (t.e + 60).toNat : Nat) : Int) := by have := pow_pos10 (t.e + 60).toNat; omega
  rw [cmpI_mul _ _ hp, cmpI_mul _ _ hp]
  refine ⟨?_, by rw [cmpI_lt h2]; decide⟩
  rcases Int.lt_or_eq_of_le h1 with h | h
  · rw [cmpI_lt h]; decide
  · rw [cmpI_eq h]; decide
end Go.Proofs.Ythjholhjkahdkaa.num
