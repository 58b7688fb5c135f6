/-
  What impl.NumText returns: the notation of a valid number. The tables of the library are as its text lays them.
-/
import Derived.Test.YtnfbjcpoealkoaaGreatDoorPutJsonJ22
import Derived.Test.YtnfbjcpoealkoaaGreatDoorPutJsonJ23
import Derived.Test.YtnfbjcpoealkoaaGreatDoorPutJsonJ2
import Derived.Test.YtnfbjcpoealkoaaGreatDoorPutJsonJ0
import Derived.Test.YtnfbjcpoealkoaaGreatDoorRows
import Derived.WalkKit
import Derived.ProofKit
import Derived.OpenShut
import Derived.WalkLawsBesides
import Derived.Handy
namespace Go.Proofs.YtnfbjcpoealkoaaGreatDoor.numtext
open Go.ChangeShapes Go.WideShapes Go.ChangeAt Go.RowKit
open Go.Proofs.YtnfbjcpoealkoaaGreatDoor.val Go.Proofs.YtnfbjcpoealkoaaGreatDoor.num Go.Proofs.YtnfbjcpoealkoaaGreatDoor.node
set_option maxRecDepth 100000

abbrev Tab (w : World) : Prop := Lib.TabIs Tryz.prog w "internal/strconv.uint64pow10" .u64 Lib.pow10Tab
theorem dec_at (n : Int) (hn : InI n) (w : World) (hT : Tab w) (W : World) (hb : Below w.heap.size w W) : Calls Tryz.prog 150 #[.int .i64 n] W fun e w' => e = .returned (.string ⟨(Lib.itoa n).toArray⟩) ∧ Below W.heap.size W w' :=
  decText.impl_any n hn.1 hn.2 W (decText.pow10_below hT hb)
set_option maxHeartbeats 1000000 in
theorem impl_no {w : World} {t : LT} (h : In w w.heap.size t) (hz : t.nodes ≤ 2000000) (hi : isNum t = false) :
    Calls Tryz.prog 162 #[.agg #[.int .i64 t.k, .int .i64 t.n, .int .i64 t.e, .string t.s, t.row]] w fun r w'' => r = .returned (.string (numText t)) ∧ Below w.heap.size w w'' := by
  rw [numText_no hi]
  have hrow : t.row = .slice t.a t.kids.length t.cap := rfl
  have HA : Hid (Below w.heap.size w (w.alloc (.cells #[.int .i64 t.k, .int .i64 t.n, .int .i64 t.e, .string t.s, .slice t.a t.kids.length t.cap] 46))) := (Below.refl _ _).alloc (Nat.le_refl _) _
  have CI := fun W hW => impl_is h hz W hW
  simp only [hrow, hi] at CI ⊢
  replace CI := Lib.hid CI
  clear h hz hi hrow
  go_enter Tryz.func162, Tryz.ntmps162
  go_wp2_with fail
  with_reducible refine (CI.out _ HA.out).mono ?_
  rintro r w1 ⟨rfl, hb1⟩
  replace HA := Lib.hid (below_of2 HA.out hb1)
  clear hb1 CI
  go_wp2
  go_ret
  exact ⟨rfl, HA.out⟩
theorem drewN_own {w wx : World} {k n e : Int} {s : ByteArray} {r : Value} (h : OwnAt w wx k n e s r) (j : Nat) : OwnAt w (wx.drewN j) k n e s r := ⟨belowN h.low j, h.c0, h.c1, h.c2, h.c3, h.c4⟩
section
variable {k n e : Int} {s : ByteArray} {a : Option Addr} {m cap : Nat} {R : ByteArray}
set_option maxHeartbeats 1000000 in
theorem impl_int (hn : InI n) (hR : R = ⟨(Lib.itoa n).toArray⟩) (w : World) (hT : Tab w) (CI : ∀ W, Below w.heap.size w W → Calls Tryz.prog 190 #[.agg #[.int .i64 k, .int .i64 n, .int .i64 0, .string s, .slice a m cap]] W fun r w' => r = .returned (.bool true) ∧ Below W.heap.size W w') :
    Calls Tryz.prog 162 #[.agg #[.int .i64 k, .int .i64 n, .int .i64 0, .string s, .slice a m cap]] w fun r w' => r = .returned (.string R) ∧ Below w.heap.size w w' := by
  have HA := Lib.hid (OwnAt.new w k n 0 s (.slice a m cap))
  have CD := Lib.hid (fun W hW => dec_at n hn w hT W hW)
  replace CI := Lib.hid CI
  subst hR
  clear hn hT
  generalize Lib.itoa n = L at *
  go_enter Tryz.func162, Tryz.ntmps162
  go_wp2_with fail
  with_reducible refine (CI.out _ HA.out.low).mono ?_
  rintro r w1 ⟨rfl, hb1⟩
  have hown := own_behind HA.out hb1
  clear hb1 CI HA
  obtain ⟨hlow, p0, p1, p2, p3, p4⟩ := hown
  have HL := Lib.hid hlow
  clear hlow
  go_wp2_with fail
  with_reducible refine (CD.out _ HL.out).mono ?_
  rintro r w2 ⟨rfl, hb2⟩
  replace HL := Lib.hid (below_of2 HL.out hb2)
  clear hb2
  go_wp2
  go_ret
  exact ⟨rfl, HL.out⟩
set_option maxHeartbeats 1000000 in
theorem impl_high (hn : InI n) (he : InI e) (h0 : 0 < e) (hR : R = ⟨(Lib.itoa n ++ 101 :: Lib.itoa e).toArray⟩) (w : World) (hT : Tab w) (CI : ∀ W, Below w.heap.size w W → Calls Tryz.prog 190 #[.agg #[.int .i64 k, .int .i64 n, .int .i64 e, .string s, .slice a m cap]] W fun r w' => r = .returned (.bool true) ∧ Below W.heap.size W w') :
    Calls Tryz.prog 162 #[.agg #[.int .i64 k, .int .i64 n, .int .i64 e, .string s, .slice a m cap]] w fun r w' => r = .returned (.string R) ∧ Below w.heap.size w w' := by
  have HA := Lib.hid (OwnAt.new w k n e s (.slice a m cap))
  have CD := Lib.hid (fun W hW => dec_at n hn w hT W hW)
  have CE := Lib.hid (fun W hW => dec_at e he w hT W hW)
  replace CI := Lib.hid CI
  have HR : Hid (R = ⟨(Lib.itoa n).toArray⟩ ++ ⟨#[101]⟩ ++ ⟨(Lib.itoa e).toArray⟩) := by
    unfold Hid
    rw [hR, show (⟨#[101]⟩ : ByteArray) = ⟨[101].toArray⟩ from rfl, join_bytes, join_bytes]
    simp
  have hl1 := Lib.itoa_length_le n hn.1 hn.2
  have hl2 := Lib.itoa_length_le e he.1 he.2
  clear hn he hR hT
  generalize Lib.itoa n = L at *
  generalize Lib.itoa e = M at *
  go_enter Tryz.func162, Tryz.ntmps162
  go_wp2_with fail
  with_reducible refine (CI.out _ HA.out.low).mono ?_
  rintro r w1 ⟨rfl, hb1⟩
  have HO := Lib.hid (own_behind HA.out hb1)
  clear hb1 CI HA
  obtain ⟨hlow, p0, p1, p2, p3, p4⟩ := HO.out
  clear hlow
  go_wp2_with fail
  go_region_with (go_at_call 150; first
    | (refine (CD.out _ (belowN HO.out.low 1)).mono ?_; rintro r w2 ⟨rfl, hb2⟩
       have HO2 := Lib.hid (own_behind (drewN_own HO.out 1) hb2)
       clear hb2 p0 p1 p2 p3 p4
       obtain ⟨hlow, p0, p1, p2, p3, p4⟩ := HO2.out
       clear hlow)
    | (refine (CE.out _ HO2.out.low).mono ?_; rintro r w3 ⟨rfl, hb3⟩
       have HL3 := Lib.hid (below_of2 HO2.out.low hb3)
       clear hb3))
  all_goals
    go_wp2
    go_ret
    exact ⟨by rw [HR.out]; rfl, HL3.out⟩
theorem cut_at (n : Int) (W : World) : Calls Tryz.prog 97 #[.string ⟨(Lib.itoa n).toArray⟩, .string ⟨#[45]⟩] W fun e w' => e = .returned (.tuple #[.string ⟨(Lib.decDigits n.natAbs).toArray⟩, .bool (decide (n < 0))]) ∧ w' = W := by
  refine (Tryz.strings_CutPrefix ⟨(Lib.itoa n).toArray⟩ ⟨#[45]⟩ W).mono ?_
  rintro e w' ⟨rfl, hw⟩
  refine ⟨?_, hw⟩
  by_cases h : n < 0
  · rw [decide_eq_true h]
    show Ending.returned (.tuple #[.string ⟨(Lib.trimPrefix (Lib.itoa n) [45]).toArray⟩, .bool (Lib.hasPrefix (Lib.itoa n) [45])]) = _
    rw [(cut_neg h).1, (cut_neg h).2]
  · rw [decide_eq_false h]
    show Ending.returned (.tuple #[.string ⟨(Lib.trimPrefix (Lib.itoa n) [45]).toArray⟩, .bool (Lib.hasPrefix (Lib.itoa n) [45])]) = _
    rw [(cut_pos h).1, (cut_pos h).2]
theorem rep_at (x : Int) (c : Nat) (hx : x = (c : Int)) (hc : c ≤ 100) (W : World) : Calls Tryz.prog 191 #[.string ⟨#[48]⟩, .int .i64 x] W fun e w' => e = .returned (.string ⟨(List.replicate c 48).toArray⟩) ∧ Below W.heap.size W w' := by
  subst hx
  refine (Tryz.strings_Repeat ⟨#[48]⟩ c W (by omega) (by show 1 * c ≤ _; omega)).mono ?_
  rintro e w' ⟨rfl, hb⟩
  refine ⟨?_, hb⟩
  show Ending.returned (.string ⟨(Lib.repeatL [48] c).toArray⟩) = _
  rw [rep_zero]
set_option maxHeartbeats 1000000 in
theorem impl_low (hn : InI n) {K : Nat} (hK : 1 ≤ K) (hK2 : K ≤ 20) (hR : R = ⟨((if n < 0 then [45] else []) ++ pointL (Lib.decDigits n.natAbs) K).toArray⟩) (w : World) (hT : Tab w) (CI : ∀ W, Below w.heap.size w W → Calls Tryz.prog 190 #[.agg #[.int .i64 k, .int .i64 n, .int .i64 (-(K : Int)), .string s, .slice a m cap]] W fun r w' => r = .returned (.bool true) ∧ Below W.heap.size W w') :
    Calls Tryz.prog 162 #[.agg #[.int .i64 k, .int .i64 n, .int .i64 (-(K : Int)), .string s, .slice a m cap]] w fun r w' => r = .returned (.string R) ∧ Below w.heap.size w w' := by
  have HA := Lib.hid (OwnAt.new w k n (-(K : Int)) s (.slice a m cap))
  have CD := Lib.hid (fun W hW => dec_at n hn w hT W hW)
  have CC := Lib.hid (fun W => cut_at n W)
  obtain ⟨hd1, hd2⟩ := dig_len n.natAbs (by have := hn.1; have := hn.2; omega)
  have hpl := padL_len (Lib.decDigits n.natAbs) K
  have CR := Lib.hid (fun x hx W => rep_at x (K + 1 - (Lib.decDigits n.natAbs).length) hx (by omega) W)
  replace CI := Lib.hid CI
  have HP1 : Hid (¬ (Lib.decDigits n.natAbs).length ≤ K → Lib.decDigits n.natAbs = padL (Lib.decDigits n.natAbs) K) := fun h => (pad_end _ _ h).symm
  have HP2 : Hid ((⟨(List.replicate (K + 1 - (Lib.decDigits n.natAbs).length) 48).toArray⟩ : ByteArray) ++ ⟨(Lib.decDigits n.natAbs).toArray⟩ = ⟨(padL (Lib.decDigits n.natAbs) K).toArray⟩) := join_bytes _ _
  have HR : Hid (R = if decide (n < 0) = true then ⟨[45].toArray⟩ ++ ((⟨(padL (Lib.decDigits n.natAbs) K).toArray⟩ : ByteArray).extract 0 ((padL (Lib.decDigits n.natAbs) K).length - K) ++ ⟨[46].toArray⟩ ++ (⟨(padL (Lib.decDigits n.natAbs) K).toArray⟩ : ByteArray).extract ((padL (Lib.decDigits n.natAbs) K).length - K) (padL (Lib.decDigits n.natAbs) K).length) else (⟨(padL (Lib.decDigits n.natAbs) K).toArray⟩ : ByteArray).extract 0 ((padL (Lib.decDigits n.natAbs) K).length - K) ++ ⟨[46].toArray⟩ ++ (⟨(padL (Lib.decDigits n.natAbs) K).toArray⟩ : ByteArray).extract ((padL (Lib.decDigits n.natAbs) K).length - K) (padL (Lib.decDigits n.natAbs) K).length) := by
    unfold Hid
    rw [hR, point_cut0]
    by_cases h : n < 0
    · rw [if_pos h, if_pos (decide_eq_true h), join_bytes]
    · rw [if_neg h, if_neg (by simpa using h)]; rfl
  have hpl2 : K < (padL (Lib.decDigits n.natAbs) K).length ∧ (padL (Lib.decDigits n.natAbs) K).length ≤ 21 := by omega
  generalize hNeg : decide (n < 0) = N at *
  go_enter Tryz.func162, Tryz.ntmps162
  go_wp2_with fail
  with_reducible refine (CI.out _ HA.out.low).mono ?_
  rintro r w1 ⟨rfl, hb1⟩
  have hown := own_behind HA.out hb1
  clear hb1 CI HA
  obtain ⟨hlow, p0, p1, p2, p3, p4⟩ := hown
  have HL := Lib.hid hlow
  clear hlow
  go_wp2_with fail
  with_reducible refine (CD.out _ HL.out).mono ?_
  rintro r w2 ⟨rfl, hb2⟩
  have hown := own_behind ⟨HL.out, p0, p1, p2, p3, p4⟩ hb2
  clear hb2 CD HL p0 p1 p2 p3 p4
  obtain ⟨hlow, p0, p1, p2, p3, p4⟩ := hown
  have HL := Lib.hid hlow
  clear hlow
  go_wp2_with fail
  with_reducible refine (CC.out _).mono ?_
  rintro r w3 ⟨rfl, rfl⟩
  clear CC hR hNeg
  have hw3 : w.heap.size < w3.heap.size := World.block_lt_of_cell? w3 _ p0
  generalize Lib.decDigits n.natAbs = D at *
  by_cases hD : D.length ≤ K
  · have hzl : (List.replicate (K + 1 - D.length) (48 : UInt8)).length = K + 1 - D.length := List.length_replicate
    have hP2 := HP2.out
    have hpe : (padL D K).length = K + 1 := by omega
    clear HP1 HP2 hpl
    generalize List.replicate (K + 1 - D.length) (48 : UInt8) = Z at *
    generalize padL D K = P at *
    have h1 : (0 : Int) < 1 - -(K : Int) - (D.length : Int) := by omega
    go_wp2_with fail
    with_reducible refine (CR.out _ (by omega) _).mono ?_
    rintro r w4 ⟨rfl, hb4⟩
    have hown := own_behind ⟨HL.out, p0, p1, p2, p3, p4⟩ hb4
    clear hb4 CR HL p0 p1 p2 p3 p4 hw3
    obtain ⟨hlow, p0, p1, p2, p3, p4⟩ := hown
    have HL := Lib.hid hlow
    clear hlow
    have q1 : (0 : Int) ≤ (K : Int) + 1 + -(K : Int) := by omega
    have q2 : (K : Int) + 1 + -(K : Int) ≤ (K : Int) + 1 := by omega
    have q3 : ((K : Int) + 1 + -(K : Int)).toNat = 1 := by omega
    have q4 : K + 1 - K = 1 := by omega
    rw [hpe, q4] at HR
    go_wp2_with fail
    go_quiet (fail)
    cases N with
    | true =>
      replace HR := Lib.hid (HR.out.trans (if_pos rfl))
      go_wp2
      go_ret
      exact ⟨by rw [HR.out]; rfl, belowN HL.out nq⟩
    | false =>
      replace HR := Lib.hid (HR.out.trans (if_neg (by decide)))
      go_wp2
      go_ret
      exact ⟨by rw [HR.out]; rfl, belowN HL.out nq⟩
  · have h1 : ¬ (0 : Int) < 1 - -(K : Int) - (D.length : Int) := by omega
    have hPD := HP1.out hD
    rw [← hPD] at HR
    have q1 : (0 : Int) ≤ (D.length : Int) + -(K : Int) := by omega
    have q2 : (D.length : Int) + -(K : Int) ≤ (D.length : Int) := by omega
    have q3 : ((D.length : Int) + -(K : Int)).toNat = D.length - K := by omega
    clear HP1 HP2 hPD hpl hpl2 CR
    go_wp2_with fail
    go_quiet (fail)
    cases N with
    | true =>
      replace HR := Lib.hid (HR.out.trans (if_pos rfl))
      go_wp2
      go_ret
      exact ⟨by rw [HR.out]; rfl, belowN HL.out nq⟩
    | false =>
      replace HR := Lib.hid (HR.out.trans (if_neg (by decide)))
      go_wp2
      go_ret
      exact ⟨by rw [HR.out]; rfl, belowN HL.out nq⟩
end
end Go.Proofs.YtnfbjcpoealkoaaGreatDoor.numtext
/-
  What spec.l01Short returns: the letter of a short escape, or 0.
-/
namespace Go.Proofs.YtnfbjcpoealkoaaGreatDoor.quote
open Go.ChangeShapes Go.WideShapes Go.ChangeAt Go.RowKit
open Go.Proofs.YtnfbjcpoealkoaaGreatDoor.sign
set_option maxRecDepth 100000

theorem info5 : (Tryz.prog.info? 5).map (fun i => (i.zero, i.size, i.bytes)) = some (some (.int .u8 0), 1, 1) := by kernel_rfl
theorem oneB (x : UInt8) : (encB x).oneCell' = true := rfl

set_option maxHeartbeats 2000000 in
theorem short_34 (w : World) : Calls Tryz.prog 158 #[.int .u8 34] w fun e w' => e = .returned (.int .u8 34) ∧ Below w.heap.size w w' := by
  go_enter Tryz.func158, Tryz.ntmps158
  go_wp2
  go_rounds 8
  go_ret
  exact ⟨rfl, by go_grown⟩
set_option maxHeartbeats 2000000 in
theorem short_92 (w : World) : Calls Tryz.prog 158 #[.int .u8 92] w fun e w' => e = .returned (.int .u8 92) ∧ Below w.heap.size w w' := by
  go_enter Tryz.func158, Tryz.ntmps158
  go_wp2
  go_rounds 8
  go_ret
  exact ⟨rfl, by go_grown⟩
set_option maxHeartbeats 2000000 in
theorem short_8 (w : World) : Calls Tryz.prog 158 #[.int .u8 8] w fun e w' => e = .returned (.int .u8 98) ∧ Below w.heap.size w w' := by
  go_enter Tryz.func158, Tryz.ntmps158
  go_wp2
  go_rounds 8
  go_ret
  exact ⟨rfl, by go_grown⟩
set_option maxHeartbeats 2000000 in
theorem short_12 (w : World) : Calls Tryz.prog 158 #[.int .u8 12] w fun e w' => e = .returned (.int .u8 102) ∧ Below w.heap.size w w' := by
  go_enter Tryz.func158, Tryz.ntmps158
  go_wp2
  go_rounds 8
  go_ret
  exact ⟨rfl, by go_grown⟩
set_option maxHeartbeats 2000000 in
theorem short_10 (w : World) : Calls Tryz.prog 158 #[.int .u8 10] w fun e w' => e = .returned (.int .u8 110) ∧ Below w.heap.size w w' := by
  go_enter Tryz.func158, Tryz.ntmps158
  go_wp2
  go_rounds 8
  go_ret
  exact ⟨rfl, by go_grown⟩
set_option maxHeartbeats 2000000 in
theorem short_13 (w : World) : Calls Tryz.prog 158 #[.int .u8 13] w fun e w' => e = .returned (.int .u8 114) ∧ Below w.heap.size w w' := by
  go_enter Tryz.func158, Tryz.ntmps158
  go_wp2
  go_rounds 8
  go_ret
  exact ⟨rfl, by go_grown⟩
set_option maxHeartbeats 2000000 in
theorem short_9 (w : World) : Calls Tryz.prog 158 #[.int .u8 9] w fun e w' => e = .returned (.int .u8 116) ∧ Below w.heap.size w w' := by
  go_enter Tryz.func158, Tryz.ntmps158
  go_wp2
  go_rounds 8
  go_ret
  exact ⟨rfl, by go_grown⟩
set_option maxHeartbeats 2000000 in
theorem short_none (n : Nat) (w : World) (h : shortOf n = 0) : Calls Tryz.prog 158 #[.int .u8 n] w fun e w' => e = .returned (.int .u8 0) ∧ Below w.heap.size w w' := by
  have h1 : ((34 : Int) == (n : Int)) = false := by
    unfold shortOf at h; simp; intro e; have : n = 34 := by omega
    simp [this] at h
  have h2 : ((92 : Int) == (n : Int)) = false := by
    unfold shortOf at h; simp; intro e; have : n = 92 := by omega
    simp [this] at h
  have h3 : ((8 : Int) == (n : Int)) = false := by
    unfold shortOf at h; simp; intro e; have : n = 8 := by omega
    simp [this] at h
  have h4 : ((12 : Int) == (n : Int)) = false := by
    unfold shortOf at h; simp; intro e; have : n = 12 := by omega
    simp [this] at h
  have h5 : ((10 : Int) == (n : Int)) = false := by
    unfold shortOf at h; simp; intro e; have : n = 10 := by omega
    simp [this] at h
  have h6 : ((13 : Int) == (n : Int)) = false := by
    unfold shortOf at h; simp; intro e; have : n = 13 := by omega
    simp [this] at h
  have h7 : ((9 : Int) == (n : Int)) = false := by
    unfold shortOf at h; simp; intro e; have : n = 9 := by omega
    simp [this] at h
  clear h
  go_enter Tryz.func158, Tryz.ntmps158
  go_wp2
  go_rounds 8
  go_ret
  exact ⟨rfl, by go_grown⟩
theorem short_any (n : Nat) (w : World) : Calls Tryz.prog 158 #[.int .u8 n] w fun e w' => e = .returned (.int .u8 (shortOf n : Nat)) ∧ Below w.heap.size w w' := by
  by_cases h : shortOf n = 0
  · rw [h]; exact short_none n w h
  · have hc : n = 34 ∨ n = 92 ∨ n = 8 ∨ n = 12 ∨ n = 10 ∨ n = 13 ∨ n = 9 := by
      unfold shortOf at h; (repeat' split at h) <;> omega
    rcases hc with rfl | rfl | rfl | rfl | rfl | rfl | rfl
    · exact short_34 w
    · exact short_92 w
    · exact short_8 w
    · exact short_12 w
    · exact short_10 w
    · exact short_13 w
    · exact short_9 w

end Go.Proofs.YtnfbjcpoealkoaaGreatDoor.quote
