/-
  spec.l02Pairs: whether values are keys and values by turns.
-/
import Derived.Test.YtkjffifdlckljaaDoorPathsJ0
import Derived.Test.YtkjffifdlckljaaDoorPathsJ1
namespace Go.Proofs.YtkjffifdlckljaaDoor.node
open Go.ChangeShapes Go.WideShapes Go.ChangeAt Go.RowKit
open Go.Proofs.YtkjffifdlckljaaDoor.val
set_option maxRecDepth 100000

def LT.key (t : LT) : Int × Int × ByteArray := (t.k, t.n, t.s)
/-- The key at an even place is a text or a number, and none ahead of it is the same. -/
def GoodKey (l : List LT) (i : Nat) : Prop := ∀ h : i < l.length, (l[i].k = 5 ∨ l[i].k = 3) ∧ ∀ j (hj : j < i), j % 2 = 0 → LT.key (l[j]'(Nat.lt_trans hj h)) ≠ LT.key l[i]
def KeysGood (l : List LT) (m : Nat) : Prop := ∀ i, i < m → i % 2 = 0 → GoodKey l i
def Pairs (l : List LT) : Prop := KeysGood l l.length ∧ l.length % 2 = 0 ∧ l.length ≤ 300
theorem other_text {a b : ByteArray} (h : ¬ a = b) : (a.toList == b.toList) = false := by
  refine Bool.eq_false_iff.2 fun e => h ?_
  have e2 := eq_of_beq e
  rw [ByteArray.toList_eq, ByteArray.toList_eq] at e2
  exact bytes_inj e2
theorem pairs_kind {l : List LT} {j : Nat} (h : j < l.length) (he : j % 2 = 0) (h5 : l[j].k ≠ 5) (h3 : l[j].k ≠ 3) : ¬ Pairs l := fun hp => by
  rcases (hp.1 j h he h).1 with h1 | h1
  · exact h5 h1
  · exact h3 h1
theorem pairs_twice {l : List LT} {j m : Nat} (h : j < l.length) (hm : m < j) (he : j % 2 = 0) (he2 : m % 2 = 0) (hk : LT.key (l[m]'(Nat.lt_trans hm h)) = LT.key l[j]) : ¬ Pairs l := fun hp => (hp.1 j h he h).2 m hm he2 hk
theorem keys_next {l : List LT} {j m : Nat} (hg : KeysGood l j) (h : j < l.length) (he : j % 2 = 0) (hk : l[j].k = 5 ∨ l[j].k = 3) (hm : ¬ m < j) (hn : ∀ p (_ : p < m) (hj : p < j), p % 2 = 0 → LT.key (l[p]'(Nat.lt_trans hj h)) ≠ LT.key l[j]) : KeysGood l (j + 2) := fun i hi h2 => by
  by_cases hij : i < j
  · exact hg i hij h2
  · have e : i = j := by omega
    subst e
    exact fun _ => ⟨hk, fun p hp hpe => hn p (by omega) hp hpe⟩
theorem keys_end {l : List LT} {j : Nat} (hg : KeysGood l j) (hj : ¬ j < l.length) : KeysGood l l.length := fun i hi h2 => hg i (by omega) h2
theorem ne_next {l : List LT} {j m : Nat} (h : j < l.length) (hm : m < j) (hme : m % 2 = 0) (hn : ∀ p (_ : p < m) (hj : p < j), p % 2 = 0 → LT.key (l[p]'(Nat.lt_trans hj h)) ≠ LT.key l[j]) (hx : LT.key (l[m]'(Nat.lt_trans hm h)) ≠ LT.key l[j]) : ∀ p (_ : p < m + 2) (hj : p < j), p % 2 = 0 → LT.key (l[p]'(Nat.lt_trans hj h)) ≠ LT.key l[j] := fun p hp hj h2 => by
  by_cases hpm : p < m
  · exact hn p hpm hj h2
  · have e : p = m := by omega
    subst e
    exact hx
theorem pairs_iff (l : List LT) (hg : KeysGood l l.length) : Pairs l ↔ l.length % 2 = 0 ∧ l.length ≤ 300 := ⟨fun h => h.2, fun h => ⟨hg, h⟩⟩
structure PairsRet (kids : List LT) (w' : World) (b : Bool) (w'' : World) : Prop where
  iff : b = true ↔ Pairs kids
  below : Below w'.heap.size w' w''
def PairsC (kids : List LT) (w' : World) (e : Ending) (w'' : World) : Prop := ∃ b : Bool, e = .returned (.bool b) ∧ PairsRet kids w' b w''
set_option maxHeartbeats 4000000 in
theorem pairs_any (w : World) (B : Nat) (a : Option Addr) (cap : Nat) (kids : List LT) (hl : kids.length ≤ 1048576) (hc : ∀ i (h : i < kids.length), ∃ x, a = some x ∧ x.block < B ∧ At5 w (x.add (i * 5)) kids[i]) (w' : World) (hb : Below B w w') (hB : B ≤ w'.heap.size) :
    Calls Tryd.prog 141 #[.slice a kids.length cap] w' (PairsC kids w') := by
  have HC := Lib.hid hc
  have HB := Lib.hid hb
  clear hc hb
  go_enter Tryd.func141, Tryd.ntmps141
  go_wp2_with fail
  go_loopw [3] (fun i wr => ∃ j : Nat, i = .int .i64 j ∧ j ≤ kids.length + 1 ∧ Hid (j % 2 = 0) ∧ Hid (KeysGood kids j) ∧ Hid (Below w'.heap.size w' wr)) (fun i _ => kids.length + 2 - (intOf i).toNat)
  case atStart => exact ⟨0, rfl, by omega, rfl, fun i hi => by omega, Below.refl _ _⟩
  case round =>
    obtain ⟨j, rfl, hj, HE, HG, HW⟩ := hrel
    by_cases hlt : j < kids.length
    · have hj0 : (0 : Int) ≤ (j : Int) := by omega
      have hj1 : (j : Int) < (kids.length : Int) := by omega
      obtain ⟨x, rfl, hx, h5⟩ := HC.out j hlt
      have HCJ : Hid (∀ W, Below w'.heap.size w' W → W.cell? (x.add (j * 5)) = some (.int .i64 kids[j].k) ∧ W.cell? ⟨(x.add (j * 5)).block, (x.add (j * 5)).off + 1, none⟩ = some (.int .i64 kids[j].n) ∧ W.cell? ⟨(x.add (j * 5)).block, (x.add (j * 5)).off + 3, none⟩ = some (.string kids[j].s)) := fun W hW => by
        obtain ⟨c0, c1, c2, c3, c4⟩ := h5.below (by rw [add_block]; exact hx) (HB.out.trans (hW.mono hB))
        exact ⟨c0, c1, c3⟩
      have HPK : Hid (kids[j].k ≠ 5 → kids[j].k ≠ 3 → ¬ Pairs kids) := fun h1 h2 => pairs_kind hlt HE.out h1 h2
      have HTW : Hid (∀ m (hm : m < j), m % 2 = 0 → LT.key (kids[m]'(Nat.lt_trans hm hlt)) = LT.key kids[j] → ¬ Pairs kids) := fun m hm h2 h => pairs_twice hlt hm HE.out h2 h
      have HNX : Hid (∀ m, (kids[j].k = 5 ∨ kids[j].k = 3) → ¬ m < j → (∀ p (_ : p < m) (hj : p < j), p % 2 = 0 → LT.key (kids[p]'(Nat.lt_trans hj hlt)) ≠ LT.key kids[j]) → KeysGood kids (j + 2)) := fun m hk hm hn => keys_next HG.out hlt HE.out hk hm hn
      have HNE : Hid (∀ m (hm : m < j), m % 2 = 0 → (∀ p (_ : p < m) (hj : p < j), p % 2 = 0 → LT.key (kids[p]'(Nat.lt_trans hj hlt)) ≠ LT.key kids[j]) → LT.key (kids[m]'(Nat.lt_trans hm hlt)) ≠ LT.key kids[j] → ∀ p (_ : p < m + 2) (hj : p < j), p % 2 = 0 → LT.key (kids[p]'(Nat.lt_trans hj hlt)) ≠ LT.key kids[j]) := fun m hm hme hn hx => ne_next hlt hm hme hn hx
      have hkey : LT.key kids[j] = (kids[j].k, kids[j].n, kids[j].s) := rfl
      rw [hkey] at HTW HNX HNE
      clear hkey HG h5
      generalize kids[j].k = K at *
      generalize kids[j].n = N at *
      generalize kids[j].s = S at *
      generalize hY : (K, N, S) = Y at *
      by_cases hk : K = 5 ∨ K = 3
      · have HNK := Lib.hid (fun m => HNX.out m hk)
        clear HNX HPK
        rcases hk with rfl | rfl
        · replace hY := Lib.hid hY
          obtain ⟨c0, c1, c3⟩ := HCJ.out _ HW.out
          go_wp2_with fail
          go_loopw [4] (fun i wr2 => ∃ m : Nat, i = .int .i64 m ∧ m ≤ j + 1 ∧ Hid (m % 2 = 0) ∧ Hid (∀ p (_ : p < m) (hj : p < j), p % 2 = 0 → LT.key (kids[p]'(Nat.lt_trans hj hlt)) ≠ Y) ∧ Hid (Below w'.heap.size w' wr2)) (fun i _ => j + 2 - (intOf i).toNat)
          case atStart => exact ⟨0, rfl, by omega, rfl, fun p hp => by omega, HW⟩
          case round =>
            clear c0 c1 c3 HW
            obtain ⟨m, rfl, hm, HM, HN, HW2⟩ := hrel
            by_cases hmj : m < j
            · have hm0 : (0 : Int) ≤ (m : Int) := by omega
              have hm1 : (m : Int) < (kids.length : Int) := by omega
              have hmj1 : (m : Int) < (j : Int) := by omega
              obtain ⟨c0, c1, c3⟩ := HCJ.out _ HW2.out
              obtain ⟨x', ex, hx', h5⟩ := HC.out m (Nat.lt_trans hmj hlt)
              obtain rfl : x = x' := by injection ex
              obtain ⟨d0, d1, d2, d3, d4⟩ := h5.below (by rw [add_block]; exact hx') (HB.out.trans (HW2.out.mono hB))
              have HT := Lib.hid (HTW.out m hmj HM.out)
              have HX := Lib.hid (HNE.out m hmj HM.out HN.out)
              have hkey : LT.key (kids[m]'(Nat.lt_trans hmj hlt)) = ((kids[m]'(Nat.lt_trans hmj hlt)).k, (kids[m]'(Nat.lt_trans hmj hlt)).n, (kids[m]'(Nat.lt_trans hmj hlt)).s) := rfl
              rw [hkey, ← hY.out] at HT HX
              clear hkey h5 d2 d4 ex HTW HNE HNK HN HCJ
              generalize (kids[m]'(Nat.lt_trans hmj hlt)).k = K2 at *
              generalize (kids[m]'(Nat.lt_trans hmj hlt)).n = N2 at *
              generalize (kids[m]'(Nat.lt_trans hmj hlt)).s = S2 at *
              by_cases e1 : K2 = 5
              · subst e1
                by_cases e2 : N2 = N
                · subst e2
                  by_cases e3 : S2 = S
                  · subst e3
                    replace HT := Lib.hid (HT.out rfl)
                    clear HX
                    go_wp2
                    go_quiet (fail)
                    have HW3 := Lib.hid (belowN HW2.out nq)
                    go_wp2
                    go_ret
                    exact ⟨false, rfl, ⟨fun h => by simp at h, fun h => (HT.out h).elim⟩, HW3.out⟩
                  · have e3' := other_text e3
                    replace HX := Lib.hid (HX.out (fun h => by injection h with _ h; injection h with _ h; exact e3 h))
                    clear HT e3
                    go_wp2
                    go_quiet (fail)
                    have HW3 := Lib.hid (belowN HW2.out nq)
                    go_wp2
                    go_roundw
                    case rel => exact ⟨m + 2, by go_num, by omega, by have := HM.out; unfold Hid; omega, by rw [← hY.out]; exact HX, HW3⟩
                    case measure => simp [intOf]; omega
                · have e2' : (N2 == N) = false := by simp [e2]
                  replace HX := Lib.hid (HX.out (fun h => by injection h with _ h; injection h with h; exact e2 h))
                  clear HT
                  go_wp2
                  go_quiet (fail)
                  have HW3 := Lib.hid (belowN HW2.out nq)
                  go_wp2
                  go_roundw
                  case rel => exact ⟨m + 2, by go_num, by omega, by have := HM.out; unfold Hid; omega, by rw [← hY.out]; exact HX, HW3⟩
                  case measure => simp [intOf]; omega
              · have e1' : (K2 == 5) = false := by simp [e1]
                replace HX := Lib.hid (HX.out (fun h => by injection h with h; exact e1 h))
                clear HT
                go_wp2
                go_quiet (fail)
                have HW3 := Lib.hid (belowN HW2.out nq)
                go_wp2
                go_roundw
                case rel => exact ⟨m + 2, by go_num, by omega, by have := HM.out; unfold Hid; omega, by rw [← hY.out]; exact HX, HW3⟩
                case measure => simp [intOf]; omega
            · have hmj1 : ¬ (m : Int) < (j : Int) := by omega
              have HG2 := Lib.hid (HNK.out m hmj HN.out)
              clear HNK HTW HNE HN
              go_wp2
              go_roundw
              case rel => exact ⟨j + 2, by go_num, by omega, by have := HE.out; unfold Hid; omega, HG2, HW2⟩
              case measure => simp [intOf]; omega
        · replace hY := Lib.hid hY
          obtain ⟨c0, c1, c3⟩ := HCJ.out _ HW.out
          go_wp2_with fail
          go_loopw [4] (fun i wr2 => ∃ m : Nat, i = .int .i64 m ∧ m ≤ j + 1 ∧ Hid (m % 2 = 0) ∧ Hid (∀ p (_ : p < m) (hj : p < j), p % 2 = 0 → LT.key (kids[p]'(Nat.lt_trans hj hlt)) ≠ Y) ∧ Hid (Below w'.heap.size w' wr2)) (fun i _ => j + 2 - (intOf i).toNat)
          case atStart => exact ⟨0, rfl, by omega, rfl, fun p hp => by omega, HW⟩
          case round =>
            clear c0 c1 c3 HW
            obtain ⟨m, rfl, hm, HM, HN, HW2⟩ := hrel
            by_cases hmj : m < j
            · have hm0 : (0 : Int) ≤ (m : Int) := by omega
              have hm1 : (m : Int) < (kids.length : Int) := by omega
              have hmj1 : (m : Int) < (j : Int) := by omega
              obtain ⟨c0, c1, c3⟩ := HCJ.out _ HW2.out
              obtain ⟨x', ex, hx', h5⟩ := HC.out m (Nat.lt_trans hmj hlt)
              obtain rfl : x = x' := by injection ex
              obtain ⟨d0, d1, d2, d3, d4⟩ := h5.below (by rw [add_block]; exact hx') (HB.out.trans (HW2.out.mono hB))
              have HT := Lib.hid (HTW.out m hmj HM.out)
              have HX := Lib.hid (HNE.out m hmj HM.out HN.out)
              have hkey : LT.key (kids[m]'(Nat.lt_trans hmj hlt)) = ((kids[m]'(Nat.lt_trans hmj hlt)).k, (kids[m]'(Nat.lt_trans hmj hlt)).n, (kids[m]'(Nat.lt_trans hmj hlt)).s) := rfl
              rw [hkey, ← hY.out] at HT HX
              clear hkey h5 d2 d4 ex HTW HNE HNK HN HCJ
              generalize (kids[m]'(Nat.lt_trans hmj hlt)).k = K2 at *
              generalize (kids[m]'(Nat.lt_trans hmj hlt)).n = N2 at *
              generalize (kids[m]'(Nat.lt_trans hmj hlt)).s = S2 at *
              by_cases e1 : K2 = 3
              · subst e1
                by_cases e2 : N2 = N
                · subst e2
                  by_cases e3 : S2 = S
                  · subst e3
                    replace HT := Lib.hid (HT.out rfl)
                    clear HX
                    go_wp2
                    go_quiet (fail)
                    have HW3 := Lib.hid (belowN HW2.out nq)
                    go_wp2
                    go_ret
                    exact ⟨false, rfl, ⟨fun h => by simp at h, fun h => (HT.out h).elim⟩, HW3.out⟩
                  · have e3' := other_text e3
                    replace HX := Lib.hid (HX.out (fun h => by injection h with _ h; injection h with _ h; exact e3 h))
                    clear HT e3
                    go_wp2
                    go_quiet (fail)
                    have HW3 := Lib.hid (belowN HW2.out nq)
                    go_wp2
                    go_roundw
                    case rel => exact ⟨m + 2, by go_num, by omega, by have := HM.out; unfold Hid; omega, by rw [← hY.out]; exact HX, HW3⟩
                    case measure => simp [intOf]; omega
                · have e2' : (N2 == N) = false := by simp [e2]
                  replace HX := Lib.hid (HX.out (fun h => by injection h with _ h; injection h with h; exact e2 h))
                  clear HT
                  go_wp2
                  go_quiet (fail)
                  have HW3 := Lib.hid (belowN HW2.out nq)
                  go_wp2
                  go_roundw
                  case rel => exact ⟨m + 2, by go_num, by omega, by have := HM.out; unfold Hid; omega, by rw [← hY.out]; exact HX, HW3⟩
                  case measure => simp [intOf]; omega
              · have e1' : (K2 == 3) = false := by simp [e1]
                replace HX := Lib.hid (HX.out (fun h => by injection h with h; exact e1 h))
                clear HT
                go_wp2
                go_quiet (fail)
                have HW3 := Lib.hid (belowN HW2.out nq)
                go_wp2
                go_roundw
                case rel => exact ⟨m + 2, by go_num, by omega, by have := HM.out; unfold Hid; omega, by rw [← hY.out]; exact HX, HW3⟩
                case measure => simp [intOf]; omega
            · have hmj1 : ¬ (m : Int) < (j : Int) := by omega
              have HG2 := Lib.hid (HNK.out m hmj HN.out)
              clear HNK HTW HNE HN
              go_wp2
              go_roundw
              case rel => exact ⟨j + 2, by go_num, by omega, by have := HE.out; unfold Hid; omega, HG2, HW2⟩
              case measure => simp [intOf]; omega
      · have hk5 : ¬ K = 5 := fun h => hk (.inl h)
        have hk3 : ¬ K = 3 := fun h => hk (.inr h)
        have hq5 : (K != 5) = true := by simp [hk5]
        have hq3 : (K != 3) = true := by simp [hk3]
        obtain ⟨c0, c1, c3⟩ := HCJ.out _ HW.out
        have HF := Lib.hid (HPK.out hk5 hk3)
        clear c1 c3 hk HTW HNX HNE HPK HCJ
        go_wp2
        go_ret
        exact ⟨false, rfl, ⟨fun h => by simp at h, fun h => (HF.out h).elim⟩, HW.out⟩
    · have hj1 : ¬ (j : Int) < (kids.length : Int) := by omega
      have HF := Lib.hid (pairs_iff kids (keys_end HG.out hlt))
      clear HG
      by_cases h2 : kids.length % 2 = 0
      · have h2' : (kids.length : Int) % 2 = 0 := by omega
        have HR : Hid (decide ((kids.length : Int) ≤ 300) = true ↔ Pairs kids) := by
          unfold Hid
          rw [HF.out]
          simp
          omega
        clear h2 HF
        go_wp2
        go_ret
        exact ⟨_, rfl, HR.out, HW.out⟩
      · have h2' : ¬ (kids.length : Int) % 2 = 0 := by omega
        have HR : Hid (¬ Pairs kids) := fun h => h2 (HF.out.1 h).1
        clear h2 HF
        go_wp2
        go_ret
        exact ⟨false, rfl, ⟨fun h => by simp at h, fun h => (HR.out h).elim⟩, HW.out⟩
end Go.Proofs.YtkjffifdlckljaaDoor.node
