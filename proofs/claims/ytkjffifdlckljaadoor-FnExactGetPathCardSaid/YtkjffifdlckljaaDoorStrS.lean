/-
  What the laws' helpers eqStringS, markStringS, heldStringS and markText do to slices of strings that a call has made: equal lists are equal; a mark in each place; the marks are held.
-/
import Derived.Test.YtkjffifdlckljaaDoorRows
import Derived.Test.YtkjffifdlckljaaDoorOwn
import Derived.Test.YtkjffifdlckljaaDoorStrRead
import Derived.Test.YtkjffifdlckljaaDoorDecTextWalk
import Derived.Test.YtkjffifdlckljaaDoorPutSignWalk
import Derived.Deep.QuietTactic
import Derived.BigQuiet
import Derived.Deep.RegionWith
import Derived.Lib.Hide
namespace Go.Proofs.YtkjffifdlckljaaDoor.strs
open Go.ChangeShapes Go.WideShapes Go.ChangeAt Go.RowKit
set_option maxRecDepth 100000

set_option maxHeartbeats 1000000 in
theorem eq_true (v1 v2 : Value) (l : List ByteArray) (w : World) (a1 a2 : Option Addr) (c1 c2 g1 g2 : Nat) (h1 : ReadS w v1 l a1 c1 g1) (h2 : ReadS w v2 l a2 c2 g2) (hl : l.length ≤ 1048577) :
    Calls Tryd.prog 22 #[v1, v2] w fun e w' => e = .returned (.bool true) ∧ ∃ n, w' = w.drewN n := by
  obtain ⟨rfl, ha1, hc1⟩ := h1
  obtain ⟨rfl, ha2, hc2⟩ := h2
  have HC1 := Lib.hid hc1
  have HC2 := Lib.hid hc2
  have HA1 := Lib.hid ha1
  have HA2 := Lib.hid ha2
  clear hc1 hc2 ha1 ha2
  go_enter Tryd.func22, Tryd.ntmps22
  go_wp2
  go_loopw [5] (fun i wr => ∃ k m : Nat, k ≤ l.length ∧ i = .int .i64 k ∧ wr = w.drewN m) (fun i _ => l.length - (intOf i).toNat)
  case atStart => exact ⟨0, 0, Nat.zero_le _, rfl, rfl⟩
  case round =>
    obtain ⟨k, m, hk, rfl, rfl⟩ := hrel
    by_cases hlt : k < l.length
    · have hk0 : (0 : Int) ≤ (k : Int) := by omega
      have hk1 : (k : Int) < (l.length : Int) := by omega
      obtain rfl := HA1.out (by omega)
      obtain rfl := HA2.out (by omega)
      obtain ⟨x, hx1, hx2⟩ : ∃ x, w.cell? ⟨g1, k, none⟩ = some (.string x) ∧ w.cell? ⟨g2, k, none⟩ = some (.string x) := ⟨_, HC1.out k hlt, HC2.out k hlt⟩
      go_wp2
      go_quiet (fail)
      go_wp2
      go_roundw
      case rel => exact ⟨k + 1, _, by omega, by go_num, rfl⟩
      case measure => simp [intOf]; omega
    · go_wp2
      go_ret
      exact ⟨rfl, _, rfl⟩

/-- The mark of a number: an m and its digits. -/
def markB (k : Nat) : ByteArray := ⟨((109 : UInt8) :: decText.digs k).toArray⟩
theorem glue (d : Nat) (h : d < 10) (out : List UInt8) : strOfNums [(48 + (d : Int))] ++ (⟨out.toArray⟩ : ByteArray) = ⟨(UInt8.ofNat (48 + d) :: out).toArray⟩ := by
  apply ByteArray.ext
  apply Array.toList_inj.1
  rw [ByteArray.data_append]
  simp [strOfNums]
  rw [show ((48 : Int) + (d : Int)).toNat = 48 + d by omega]
  simp
theorem em (out : List UInt8) : (ByteArray.mk #[109]) ++ (⟨out.toArray⟩ : ByteArray) = ⟨((109 : UInt8) :: out).toArray⟩ := by
  apply ByteArray.ext
  apply Array.toList_inj.1
  rw [ByteArray.data_append]
  simp

set_option maxHeartbeats 1000000 in
theorem text_any (k : Nat) (h0 : 0 < k) (h1 : k ≤ 1000000000000) (w : World) :
    Calls Tryd.prog 49 #[.int .i64 k] w fun e w' => e = .returned (.string (markB k)) ∧ Below w.heap.size w w' := by
  have c1 := putSign.conv1
  have hz1 : ∀ x : Int, (strOfNums [x]).size = 1 := fun x => strOfNums_size [x]
  have hk00 : decide (k = 0) = false := by simp; omega
  go_enter Tryd.func49, Tryd.ntmps49
  go_wp2
  go_loopw [0, 3] (fun m o wr => ∃ (v : Nat) (out : List UInt8), v ≤ k ∧ m = .int .i64 v ∧ o = .string ⟨out.toArray⟩ ∧ decText.Left k v out ∧ Below w.heap.size w wr) (fun m _ _ => (intOf m).toNat)
  case atStart => exact ⟨k, [], Nat.le_refl _, rfl, rfl, ⟨by simp, by simp⟩, Below.refl _ _⟩
  case round =>
    obtain ⟨v, out, hv, rfl, rfl, HD, hb⟩ := hrel
    have hsz := hb.size
    by_cases hlt : 0 < v
    · have hlen := HD.len hlt (by omega)
      have R1 := HD.step hlt
      clear HD
      obtain ⟨d, hd, hd10, HDD⟩ : ∃ d : Nat, (48 + (v : Int) % 10) = ((48 + d : Nat) : Int) ∧ d < 10 ∧ Hid (d = v % 10) := ⟨v % 10, by omega, by omega, rfl⟩
      go_wp2
      refine ⟨⟨v / 10, _, by omega, by congr 1, ?_, R1, hb.alloc hsz _⟩, by simp [intOf]; omega⟩
      rw [glue d hd10, HDD.out]
    · have e : v = 0 := by omega
      subst e
      have E : Hid (out = decText.digs k) := by have := HD.digits; rw [decText.digs_zero] at this; exact this.symm
      have hlen : out.length ≤ 20 := by rw [E.out, decText.digs_eq k h0, Lib.decDigits_length]; exact Lib.nDigits_le20 k (by omega)
      clear HD
      go_wp2
      go_ret
      exact ⟨by rw [markB, ← E.out]; exact decText.ret_str (em out), hb⟩

/-- The marks of k0, k0+1, .. in n places. -/
def marks (k0 n : Nat) : List ByteArray := (List.range n).map fun j => markB (k0 + j)
theorem marks_length (k0 n : Nat) : (marks k0 n).length = n := by simp [marks]
theorem marks_get (k0 n j : Nat) (h : j < (marks k0 n).length) : (marks k0 n)[j] = markB (k0 + j) := by simp [marks]
theorem marks_succ (k0 n : Nat) : marks k0 (n + 1) = marks k0 n ++ [markB (k0 + n)] := by simp [marks, List.range_succ]
def mixed (k0 k : Nat) (l : List ByteArray) : List ByteArray := marks k0 k ++ l.drop k
theorem mixed_length (k0 k : Nat) (l : List ByteArray) (h : k ≤ l.length) : (mixed k0 k l).length = l.length := by simp [mixed, marks_length]; omega
theorem mixed_set (k0 k : Nat) (l : List ByteArray) (h : k < l.length) : (mixed k0 k l).set k (markB (k0 + k)) = mixed k0 (k + 1) l := by
  unfold mixed
  rw [marks_succ, List.set_append_right _ _ (by rw [marks_length]; exact Nat.le_refl _), marks_length, Nat.sub_self, List.append_assoc]
  congr 1
  rw [List.drop_eq_getElem_cons h]
  rfl
theorem mixed_all (k0 : Nat) (l : List ByteArray) : mixed k0 l.length l = marks k0 l.length := by simp [mixed]

set_option maxHeartbeats 1000000 in
theorem mark_any (v : Value) (l : List ByteArray) (k0 base : Nat) (w : World) (h : OwnL w base 9 encS v l) (hl : l.length ≤ 1048577) (h0 : 0 < k0) (hk : k0 ≤ 1000000000) :
    Calls Tryd.prog 25 #[v, .int .i64 k0] w fun e w' => e = .returned (.int .i64 (k0 + l.length : Nat)) ∧ OwnL w' base 9 encS v (marks k0 l.length) ∧ w.grownBy w' v.ownBlock := by
  obtain ⟨a, c, rfl, hlc, hcm, hadr⟩ := h.shape
  have HADR := Lib.hid hadr
  clear hadr
  have H0 := Lib.hid h
  clear h
  go_enter Tryd.func25, Tryd.ntmps25
  go_wp2
  go_loopw [1, 5] (fun q i wr => ∃ k : Nat, k ≤ l.length ∧ i = .int .i64 k ∧ q = .int .i64 (k0 + k : Nat) ∧ OwnL wr base 9 encS (.slice a l.length c) (mixed k0 k l) ∧ w.grownBy wr (Value.slice a l.length c).ownBlock) (fun _ i _ => l.length - (intOf i).toNat)
  case atStart => exact ⟨0, Nat.zero_le _, rfl, rfl, H0.out, World.grownBy.refl _ _⟩
  case round =>
    obtain ⟨k, hk', rfl, rfl, hown, hg⟩ := hrel
    by_cases hlt : k < l.length
    · obtain ⟨g, rfl, hbg, _⟩ := HADR.out (by omega)
      have OW := Lib.hid hown
      have HG := Lib.hid hg
      clear hown hg
      have hk0 : (0 : Int) ≤ (k : Int) := by omega
      have hk1 : (k : Int) < (l.length : Int) := by omega
      obtain ⟨q, hq, HQ⟩ : ∃ q : Nat, 0 < q ∧ Hid (k0 + k = q) := ⟨_, by omega, rfl⟩
      have hq2 : q ≤ 2000000000 := by have := HQ.out; omega
      rw [HQ.out]
      go_wp2_with fail
      with_reducible refine (text_any q hq (by omega) _).mono ?_
      rintro e w1 ⟨rfl, hb⟩
      have hml := mixed_length k0 k l hk'
      have hown' : OwnL w1 base 9 encS (.slice (some ⟨g, 0, none⟩) (mixed k0 k l).length c) (mixed k0 k l) := by rw [hml]; exact OW.out.below hb
      obtain ⟨y, hcell⟩ : ∃ y, w1.cell? ⟨g, k, none⟩ = some y := ⟨_, hown'.cell k (by omega)⟩
      have hfrz : w1.frozen? ⟨g, k, none⟩ = false := World.ownsRow.frozenAt hown' k
      have hst := ownL_store hown' k (markB (k0 + k))
      rw [mixed_set k0 k l hlt, hml, HQ.out] at hst
      have HST := Lib.hid hst
      have HG1 := Lib.hid (grown_of_below HG.out hb)
      clear hst hown' hml hb OW HG
      go_wp2
      go_roundw
      case rel => exact ⟨k + 1, by omega, by go_num, by have := HQ.out; congr 1; omega, HST.out.1, HG1.out.trans HST.out.2⟩
      case measure => simp [intOf]; omega
    · have e : k = l.length := by omega
      subst e
      rw [mixed_all] at hown
      go_wp2
      go_ret
      exact ⟨rfl, hown, hg⟩

set_option maxHeartbeats 1000000 in
theorem held_any (v : Value) (n k0 : Nat) (w : World) (a : Option Addr) (c g : Nat) (h : ReadS w v (marks k0 n) a c g) (hl : n ≤ 1048577) (h0 : 0 < k0) (hk : k0 ≤ 1000000000) :
    Calls Tryd.prog 26 #[v, .int .i64 k0] w fun e w' => e = .returned (.int .i64 (k0 + n : Nat)) ∧ Below w.heap.size w w' := by
  obtain ⟨rfl, ha1, hc1⟩ := h
  have hc2 : ∀ j, j < n → w.cell? ⟨g, j, none⟩ = some (.string (markB (k0 + j))) := fun j hj => by
    have := hc1 j (by rw [marks_length]; exact hj)
    rw [marks_get] at this
    exact this
  have HC1 := Lib.hid hc2
  rw [marks_length] at *
  have HA1 := Lib.hid ha1
  clear hc1 hc2 ha1
  go_enter Tryd.func26, Tryd.ntmps26
  go_wp2
  go_loopw [1, 5] (fun q i wr => ∃ k : Nat, k ≤ n ∧ i = .int .i64 k ∧ q = .int .i64 (k0 + k : Nat) ∧ Below w.heap.size w wr) (fun _ i _ => n - (intOf i).toNat)
  case atStart => exact ⟨0, Nat.zero_le _, rfl, rfl, Below.refl _ _⟩
  case round =>
    obtain ⟨k, hk', rfl, rfl, hbr⟩ := hrel
    by_cases hlt : k < n
    · have hk0 : (0 : Int) ≤ (k : Int) := by omega
      have hk1 : (k : Int) < (n : Int) := by omega
      obtain rfl := HA1.out (by omega)
      have hx0 := HC1.out k hlt
      obtain ⟨q, hq, HQ⟩ : ∃ q : Nat, 0 < q ∧ Hid (k0 + k = q) := ⟨_, by omega, rfl⟩
      have hq2 : q ≤ 2000000000 := by have := HQ.out; omega
      rw [HQ.out] at hx0 ⊢
      obtain ⟨M, c2, HM⟩ : ∃ M : ByteArray, (∀ w, Calls Tryd.prog 49 #[.int .i64 q] w fun e w' => e = .returned (.string M) ∧ Below w.heap.size w w') ∧ Hid (markB q = M) := ⟨_, fun w => text_any q hq (by omega) w, rfl⟩
      have C2 := Lib.hid c2
      rw [HM.out] at hx0
      have hlg := World.block_lt_of_cell? w _ hx0
      have hx1 : wr.cell? ⟨g, k, none⟩ = some (.string M) := (hbr.cell hlg).trans hx0
      have hsz := hbr.size
      clear c2 hx0
      go_wp2
      go_region_with (go_at_call 49; with_reducible refine (C2.out _).mono ?_; rintro e w1 ⟨rfl, hb⟩; have hx2 : w1.cell? ⟨g, k, none⟩ = some (.string M) := (hb.cell (by simp; omega)).trans (by simpa using hx1))
      all_goals
        have hb' : Below w.heap.size w w1 := (hbr.drew).trans (hb.mono (by simpa using hsz))
        clear hb
        go_wp2
        go_roundw
        case rel => exact ⟨k + 1, by omega, by go_num, by have := HQ.out; congr 1; omega, hb'⟩
        case measure => simp [intOf]; omega
    · have e : k = n := by omega
      subst e
      go_wp2
      go_ret
      exact ⟨rfl, hbr⟩

end Go.Proofs.YtkjffifdlckljaaDoor.strs
