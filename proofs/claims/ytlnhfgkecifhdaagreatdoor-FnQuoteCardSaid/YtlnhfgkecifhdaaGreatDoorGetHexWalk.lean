/-
  What spec.GetHex and impl.GetHex return: the bytes that pairs of lower-case digits denote, and whether they are such pairs. For texts of at most 1048576 bytes.
-/
import Derived.Test.YtlnhfgkecifhdaaGreatDoorRows
import Derived.Test.YtlnhfgkecifhdaaGreatDoorOwn
import Derived.WalkKit
import Derived.ProofKit
import Derived.OpenShut
import Derived.WalkLawsBesides
import Derived.Laws.MakeOwn
import Derived.Deep.QuietTactic
import Derived.BigQuiet
import Derived.Lib.Hide
import Derived.Outline
namespace Go.Proofs.YtlnhfgkecifhdaaGreatDoor.getHex
open Go.ChangeShapes Go.WideShapes Go.ChangeAt Go.RowKit
set_option maxRecDepth 100000

/-- The number of a lower-case hexadecimal digit, or -1. -/
def digitVal (b : UInt8) : Int := if 48 ≤ b.toNat ∧ b.toNat ≤ 57 then b.toNat - 48 else if 97 ≤ b.toNat ∧ b.toNat ≤ 102 then b.toNat - 87 else -1
theorem digitVal_range (b : UInt8) : -1 ≤ digitVal b ∧ digitVal b ≤ 15 := by unfold digitVal; split <;> (try split) <;> omega

theorem firstIdx_hex (b : UInt8) : firstIdx (ByteArray.mk #[48, 49, 50, 51, 52, 53, 54, 55, 56, 57, 97, 98, 99, 100, 101, 102]) b = digitVal b := by
  have : ∀ m : Fin 256, firstIdx (ByteArray.mk #[48, 49, 50, 51, 52, 53, 54, 55, 56, 57, 97, 98, 99, 100, 101, 102]) (UInt8.ofNat m.val) = digitVal (UInt8.ofNat m.val) := by decide +kernel
  have h := this ⟨b.toNat, b.toNat_lt⟩
  simpa using h

theorem info5 : (Tryz.prog.info? 5).map (fun i => (i.zero, i.size, i.bytes)) = some (some (.int .u8 0), 1, 1) := by kernel_rfl
theorem oneB (x : UInt8) : (encB x).oneCell' = true := rfl

theorem digit_any (b : UInt8) (w : World) :
    Calls Tryz.prog 44 #[.int .u8 b.toNat] w fun e w' => e = .returned (.int .i64 (digitVal b)) ∧ w' = w := by
  have hb := b.toNat_lt
  by_cases h1 : 48 ≤ b.toNat
  · by_cases h2 : b.toNat ≤ 57
    · have e : digitVal b = b.toNat - 48 := by unfold digitVal; rw [if_pos ⟨h1, h2⟩]
      rw [e]
      go_enter Tryz.func44, Tryz.ntmps44
      go_wp2
      all_goals go_ret
      all_goals exact ⟨rfl, rfl⟩
    · by_cases h3 : 97 ≤ b.toNat
      · by_cases h4 : b.toNat ≤ 102
        · have e : digitVal b = b.toNat - 87 := by unfold digitVal; rw [if_neg (by omega), if_pos ⟨h3, h4⟩]
          rw [e]
          go_enter Tryz.func44, Tryz.ntmps44
          go_wp2
          all_goals go_ret
          all_goals exact ⟨rfl, rfl⟩
        · have e : digitVal b = -1 := by unfold digitVal; rw [if_neg (by omega), if_neg (by omega)]
          rw [e]
          go_enter Tryz.func44, Tryz.ntmps44
          go_wp2
          all_goals go_ret
          all_goals exact ⟨rfl, rfl⟩
      · have e : digitVal b = -1 := by unfold digitVal; rw [if_neg (by omega), if_neg (by omega)]
        rw [e]
        go_enter Tryz.func44, Tryz.ntmps44
        go_wp2
        all_goals go_ret
        all_goals exact ⟨rfl, rfl⟩
  · have e : digitVal b = -1 := by unfold digitVal; rw [if_neg (by omega), if_neg (by omega)]
    rw [e]
    go_enter Tryz.func44, Tryz.ntmps44
    go_wp2
    all_goals go_ret
    all_goals exact ⟨rfl, rfl⟩

theorem index_any (b : UInt8) (w : World) :
    Calls Tryz.prog 43 #[.string (ByteArray.mk #[48, 49, 50, 51, 52, 53, 54, 55, 56, 57, 97, 98, 99, 100, 101, 102]), .int .u8 b.toNat] w fun e w' => e = .returned (.int .i64 (digitVal b)) ∧ w = w' := by
  have hx : (callFunc 68 #[.string (ByteArray.mk #[48, 49, 50, 51, 52, 53, 54, 55, 56, 57, 97, 98, 99, 100, 101, 102]), .int .u8 b.toNat]).run Tryz.prog w = .ok (.value (.int .i64 (digitVal b))) w := by
    rw [run_callFunc_extern Tryz.func68 (by kernel_rfl) (by kernel_rfl) (by kernel_rfl) (e := Extern.BytealgIndexByte.indexByte) (by kernel_rfl), run_indexByte_string, ← firstIdx_hex b]
    simp [Result.andThen]
  go_enter Tryz.func43, Tryz.ntmps43
  go_wp2
  go_ret
  exact ⟨rfl, rfl⟩

/-! The plain function. -/
def at_ (s : ByteArray) (j : Nat) : UInt8 := s.data.toList.getD j 0
def hexBad (s : ByteArray) (j : Nat) : Bool := decide (digitVal (at_ s (2 * j)) < 0) || decide (digitVal (at_ s (2 * j + 1)) < 0)
def dec (s : ByteArray) (k : Nat) : List UInt8 := (List.range k).map fun j => UInt8.ofNat (16 * digitVal (at_ s (2 * j)) + digitVal (at_ s (2 * j + 1))).toNat
def hexOk (s : ByteArray) : Bool := s.size % 2 == 0 && (List.range (s.size / 2)).all fun j => !hexBad s j
def getHex (s : ByteArray) : ByteArray := if hexOk s then ⟨(dec s (s.size / 2)).toArray⟩ else ⟨#[]⟩

theorem at_eq (s : ByteArray) (j : Nat) (h : j < s.size) : s[j] = at_ s j := by
  unfold at_
  have h' : j < s.data.toList.length := by simpa using h
  rw [List.getD_eq_getElem?_getD, List.getElem?_eq_getElem h']
  rfl
theorem dec_succ (s : ByteArray) (k : Nat) : dec s (k + 1) = dec s k ++ [UInt8.ofNat (16 * digitVal (at_ s (2 * k)) + digitVal (at_ s (2 * k + 1))).toNat] := by
  simp [dec, List.range_succ]
theorem dec_length (s : ByteArray) (k : Nat) : (dec s k).length = k := by simp [dec]
theorem bad_at (s : ByteArray) (k : Nat) (h : 2 * k + 1 < s.size) (hb : hexBad s k = true) : hexOk s = false := by
  unfold hexOk
  rw [Bool.and_eq_false_iff]
  right
  rw [List.all_eq_false]
  exact ⟨k, List.mem_range.2 (by omega), by simp [hb]⟩
theorem odd_at (s : ByteArray) (h : s.size % 2 = 1) : hexOk s = false := by
  unfold hexOk; simp [h]
theorem ok_at (s : ByteArray) (h : s.size % 2 = 0) (hg : ∀ j, j < s.size / 2 → hexBad s j = false) : hexOk s = true := by
  unfold hexOk
  simp only [h, Bool.and_eq_true, List.all_eq_true, List.mem_range]
  exact ⟨rfl, fun j hj => by simp [hg j hj]⟩
theorem getHex_bad {s : ByteArray} (h : hexOk s = false) : getHex s = ⟨#[]⟩ := by unfold getHex; simp [h]
theorem getHex_ok {s : ByteArray} (h : hexOk s = true) : getHex s = ⟨(dec s (s.size / 2)).toArray⟩ := by unfold getHex; simp [h]
theorem ret2 {a b : ByteArray} {c d : Bool} (h : a = b) (h' : c = d) : Ending.returned (.tuple #[.string a, .bool c]) = .returned (.tuple #[.string b, .bool d]) := by rw [h, h']

theorem at_eq' (s : ByteArray) (m k : Nat) (hk : m = 2 * k) (h : m + 1 < s.size) : (s[m]'(by omega)) = at_ s (2 * k) ∧ s[m + 1] = at_ s (2 * k + 1) := by
  subst hk
  exact ⟨at_eq s _ (by omega), at_eq s _ h⟩
theorem quiet_same {f : FuncId} {args : Array Value} {v : Value} (h : ∀ w, Calls Tryz.prog f args w fun e w' => e = .returned v ∧ w' = w) (w : World) (n : Nat) :
    Calls Tryz.prog f args (w.drewN n) fun e w'' => e = .returned v ∧ ∃ m, w'' = w.drewN m := (h _).mono fun _ _ ⟨he, hm⟩ => ⟨he, n, hm⟩

set_option maxHeartbeats 1000000 in
theorem spec_any (s : ByteArray) (w : World) (hs : s.size ≤ 1048576) :
    Calls Tryz.prog 14 #[.string s] w fun e w' => e = .returned (.tuple #[.string (getHex s), .bool (hexOk s)]) ∧ Below w.heap.size w w' := by
  obtain ⟨i0, hi0, hz0, hz1, hz2⟩ := info_parts info5
  go_enter Tryz.func14, Tryz.ntmps14
  go_wp2
  go_loopw [4, 5] (fun v i wr => ∃ m k : Nat, m ≤ s.size ∧ Hid (m = 2 * k) ∧ i = .int .i64 m ∧ OwnL wr w.heap.size 5 encB v (dec s k) ∧ Hid (∀ j, j < k → hexBad s j = false) ∧ Below w.heap.size w wr) (fun _ i _ => s.size - (intOf i).toNat)
  case atStart => exact ⟨0, 0, Nat.zero_le _, rfl, rfl, OwnL.empty _ _ _ (Nat.le_refl _), fun j hj => by omega, (Below.refl _ _).alloc (Nat.le_refl _) _⟩
  case round =>
    obtain ⟨m, k, hm, HM, rfl, hown, HG, hb⟩ := hrel
    have hsz := hb.size
    have hl : (dec s k).length ≤ 1048576 := by have := HM.out; rw [dec_length]; omega
    by_cases hlt : m + 1 < s.size
    · have hm0 : (0 : Int) ≤ (m : Int) := by omega
      have hm1 : (m : Int) < (s.size : Int) := by omega
      have hm2 : (m : Int) + 1 < (s.size : Int) := by omega
      have hm3 : (0 : Int) ≤ (m : Int) + 1 := by omega
      obtain ⟨x, hx, rx, rx', HX⟩ : ∃ x, digitVal s[m] = x ∧ -1 ≤ x ∧ x ≤ 15 ∧ Hid (x = digitVal (at_ s (2 * k))) := ⟨_, rfl, (digitVal_range _).1, (digitVal_range _).2, by rw [(at_eq' s m k HM.out hlt).1]; rfl⟩
      obtain ⟨y, hy, ry, ry', HY⟩ : ∃ x, digitVal s[m + 1] = x ∧ -1 ≤ x ∧ x ≤ 15 ∧ Hid (x = digitVal (at_ s (2 * k + 1))) := ⟨_, rfl, (digitVal_range _).1, (digitVal_range _).2, by rw [(at_eq' s m k HM.out hlt).2]; rfl⟩
      have ew : IntKind.i64.wrap ((m : Int) + 1) = (m : Int) + 1 := by rw [IntKind.wrap_i64]; omega
      have et : ((m : Int) + 1).toNat = m + 1 := by omega
      go_wp2_with fail
      go_quiet ((go_at_call 44; exact quiet_same (digit_any _) _ _))
      simp only [hx, hy]
      clear hx hy
      by_cases nx : x < 0
      · have HB : Hid (hexOk s = false) := bad_at s k (by have := HM.out; omega) (by unfold hexBad; rw [← HX.out]; simp [nx])
        go_wp2
        go_ret2
        exact ⟨ret2 (getHex_bad HB.out).symm HB.out.symm, below_drewN hb _⟩
      · by_cases ny : y < 0
        · have HB : Hid (hexOk s = false) := bad_at s k (by have := HM.out; omega) (by unfold hexBad; rw [← HY.out]; simp [ny])
          go_wp2
          go_ret2
          exact ⟨ret2 (getHex_bad HB.out).symm HB.out.symm, below_drewN hb _⟩
        · have nx' : 0 ≤ x := by omega
          have ny' : 0 ≤ y := by omega
          have HB : Hid (hexBad s k = false) := by unfold hexBad Hid; rw [← HX.out, ← HY.out]; simp [nx', ny']
          obtain ⟨b, hb8, HV⟩ : ∃ b : UInt8, (16 * x + y) = (b.toNat : Int) ∧ Hid (b = UInt8.ofNat (16 * digitVal (at_ s (2 * k)) + digitVal (at_ s (2 * k + 1))).toNat) := ⟨UInt8.ofNat (16 * x + y).toNat, by simp; omega, by rw [← HX.out, ← HY.out]; rfl⟩
          have hb9 := b.toNat_lt
          go_wp2_with (first
            | (at_builtin; refine wpList_app (by rfl) _ _ _ (by rfl) w.heap.size 5 encB i0 _ 1 Tryz.underlying22 hi0 hz0 hz1 hz2 rfl oneB u4 (dec s k) (by rfl) ((hown.alloc _).drewN _) wr.heap.size 1 1 [b] (by rfl) (by rfl) _ (heap_alloc_new wr _) (by rfl) (by unfold maxLen; omega) (by omega) (by simp; omega) ?_; intro v1 w1 hown1 hg1))
          have hb1 : Below w.heap.size w w1 := grown_below ((below_drewN hb nq).alloc (by simp; omega) _) (by simp; omega) ((hown.drewN nq).alloc _) hg1
          go_roundw
          case rel => exact ⟨m + 2, k + 1, by omega, by have := HM.out; unfold Hid; omega, by go_num, by rw [dec_succ, ← HV.out]; exact hown1, fun j hj => by
            by_cases e : j = k
            · rw [e]; exact HB.out
            · exact HG.out j (by omega), hb1⟩
          case measure => simp [intOf]; omega
    · have hm0 : ¬ ((m : Int) + 1 < (s.size : Int)) := by omega
      by_cases ho : s.size % 2 = 1
      · have HB := Lib.hid (odd_at s ho)
        have ho' : (((s.size : Int) % 2) == 1) = true := by simp; omega
        clear ho
        go_wp2
        go_ret2
        exact ⟨ret2 (getHex_bad HB.out).symm HB.out.symm, hb⟩
      · have HB : Hid (hexOk s = true ∧ k = s.size / 2) := by
          have := HM.out
          have hk : k = s.size / 2 := by omega
          exact ⟨ok_at s (by omega) (fun j hj => HG.out j (by omega)), hk⟩
        have ho' : (((s.size : Int) % 2) == 1) = false := by simp; omega
        clear ho
        have hc := run_string_own (P := Tryz.prog) 22 5 9 Tryz.underlying22 Tryz.underlying5 Tryz.underlying9 hown
        go_wp2
        go_ret2
        exact ⟨ret2 (by rw [getHex_ok HB.out.1, ← HB.out.2]) HB.out.1.symm, hb⟩

set_option maxHeartbeats 1000000 in
theorem impl_any (s : ByteArray) (w : World) (hs : s.size ≤ 1048576) :
    Calls Tryz.prog 13 #[.string s] w fun e w' => e = .returned (.tuple #[.string (getHex s), .bool (hexOk s)]) ∧ Below w.heap.size w w' := by
  obtain ⟨i0, hi0, hz0, hz1, hz2⟩ := info_parts info5
  by_cases ho : s.size % 2 = 1
  · have HB := Lib.hid (odd_at s ho)
    have ho' : (((s.size : Int) % 2) != 0) = true := by simp; omega
    clear ho
    go_enter Tryz.func13, Tryz.ntmps13
    go_wp2
    go_ret2
    exact ⟨ret2 (getHex_bad HB.out).symm HB.out.symm, Below.refl _ _⟩
  · have HO : Hid (s.size % 2 = 0) := by unfold Hid; omega
    have ho' : (((s.size : Int) % 2) != 0) = false := by simp; omega
    obtain ⟨wm, hmake, hown0, hg0⟩ := run_make_own (P := Tryz.prog) w w.heap.size 22 5 i0 _ 1 Tryz.underlying22 hi0 hz0 hz1 .i64 .i64 (s.size / 2) (by rw [hz2]; omega) (by unfold maxLen; omega) (Nat.le_refl _)
    have hm0 : (Instr.makeSlice 22 (.int .i64 0) (.int .i64 ((s.size : Int) / 2))).run Tryz.prog w = .ok (.slice (some ⟨w.heap.size, 0, none⟩) 0 (s.size / 2)) wm := by
      rw [← hmake]; congr 3
    have hb0 : Below w.heap.size w wm := (Below.refl _ _).grown hg0 (Nat.le_refl _) (by simp)
    have H0 := hown0
    clear hmake hg0 hown0 ho
    have hs0 : (s.size : Int) ≤ 1048576 := by omega
    go_enter Tryz.func13, Tryz.ntmps13
    go_wp2
    go_loopw [4, 5] (fun v i wr => ∃ m k : Nat, m ≤ s.size ∧ Hid (m = 2 * k) ∧ i = .int .i64 m ∧ OwnL wr w.heap.size 5 encB v (dec s k) ∧ Hid (∀ j, j < k → hexBad s j = false) ∧ Below w.heap.size w wr) (fun _ i _ => s.size - (intOf i).toNat)
    case atStart => exact ⟨0, 0, Nat.zero_le _, rfl, rfl, H0, fun j hj => by omega, hb0⟩
    case round =>
      obtain ⟨m, k, hm, HM, rfl, hown, HG, hb⟩ := hrel
      clear hm0 hb0 H0 ho'
      have hsz := hb.size
      have hl : (dec s k).length ≤ 1048576 := by have := HM.out; rw [dec_length]; omega
      by_cases hlt : m < s.size
      · have hlt' : m + 1 < s.size := by have := HM.out; have := HO.out; omega
        have hm0 : (0 : Int) ≤ (m : Int) := by omega
        have hm1 : (m : Int) < (s.size : Int) := by omega
        have hm2 : (m : Int) + 1 < (s.size : Int) := by omega
        obtain ⟨x, hx, rx, rx', HX⟩ : ∃ x, digitVal s[m] = x ∧ -1 ≤ x ∧ x ≤ 15 ∧ Hid (x = digitVal (at_ s (2 * k))) := ⟨_, rfl, (digitVal_range _).1, (digitVal_range _).2, by rw [(at_eq' s m k HM.out hlt').1]; rfl⟩
        obtain ⟨y, hy, ry, ry', HY⟩ : ∃ x, digitVal s[m + 1] = x ∧ -1 ≤ x ∧ x ≤ 15 ∧ Hid (x = digitVal (at_ s (2 * k + 1))) := ⟨_, rfl, (digitVal_range _).1, (digitVal_range _).2, by rw [(at_eq' s m k HM.out hlt').2]; rfl⟩
        have X1 := index_any s[m] wr
        rw [hx] at X1
        have Y1 := index_any s[m + 1] wr
        rw [hy] at Y1
        have X1' := Lib.hid X1
        have Y1' := Lib.hid Y1
        clear X1 Y1 hx hy
        go_wp2_with fail
        refine X1'.out.mono ?_
        rintro e w1 ⟨rfl, rfl⟩
        go_wp2_with fail
        refine Y1'.out.mono ?_
        rintro e w1 ⟨rfl, rfl⟩
        clear X1' Y1'
        by_cases nx : x < 0
        · have HB : Hid (hexOk s = false) := bad_at s k (by have := HM.out; omega) (by unfold hexBad; rw [← HX.out]; simp [nx])
          go_wp2
          go_ret2
          exact ⟨ret2 (getHex_bad HB.out).symm HB.out.symm, hb⟩
        · by_cases ny : y < 0
          · have HB : Hid (hexOk s = false) := bad_at s k (by have := HM.out; omega) (by unfold hexBad; rw [← HY.out]; simp [ny])
            go_wp2
            go_ret2
            exact ⟨ret2 (getHex_bad HB.out).symm HB.out.symm, hb⟩
          · have nx' : 0 ≤ x := by omega
            have ny' : 0 ≤ y := by omega
            have HB : Hid (hexBad s k = false) := by unfold hexBad Hid; rw [← HX.out, ← HY.out]; simp [nx', ny']
            obtain ⟨b, hb8, HV⟩ : ∃ b : UInt8, (16 * x + y) = (b.toNat : Int) ∧ Hid (b = UInt8.ofNat (16 * digitVal (at_ s (2 * k)) + digitVal (at_ s (2 * k + 1))).toNat) := ⟨UInt8.ofNat (16 * x + y).toNat, by simp; omega, by rw [← HX.out, ← HY.out]; rfl⟩
            have hb9 := b.toNat_lt
            go_wp2_with (first
              | (at_builtin; refine wpList_app (by rfl) _ _ _ (by rfl) w.heap.size 5 encB i0 _ 1 Tryz.underlying22 hi0 hz0 hz1 hz2 rfl oneB u4 (dec s k) (by rfl) (hown.alloc _) wr.heap.size 1 1 [b] (by rfl) (by rfl) _ (heap_alloc_new wr _) (by rfl) (by unfold maxLen; omega) (by omega) (by simp; omega) ?_; intro v1 w1 hown1 hg1))
            have hb1 : Below w.heap.size w w1 := grown_below (hb.alloc hsz _) (by simp; omega) (hown.alloc _) hg1
            go_roundw
            case rel => exact ⟨m + 2, k + 1, by omega, by have := HM.out; unfold Hid; omega, by go_num, by rw [dec_succ, ← HV.out]; exact hown1, fun j hj => by
              by_cases e : j = k
              · rw [e]; exact HB.out
              · exact HG.out j (by omega), hb1⟩
            case measure => simp [intOf]; omega
      · have HB : Hid (hexOk s = true ∧ k = s.size / 2) := by
          have := HM.out
          have hk : k = s.size / 2 := by omega
          exact ⟨ok_at s HO.out (fun j hj => HG.out j (by omega)), hk⟩
        have hc := run_string_own (P := Tryz.prog) 22 5 9 Tryz.underlying22 Tryz.underlying5 Tryz.underlying9 hown
        go_wp2
        go_ret2
        exact ⟨ret2 (by rw [getHex_ok HB.out.1, ← HB.out.2]) HB.out.1.symm, hb⟩

end Go.Proofs.YtlnhfgkecifhdaaGreatDoor.getHex
