/-
  What the laws' helpers eqIntS, markIntS and heldIntS do to slices of ints that a call has made: equal lists are equal; a mark in each place; the marks are held.
-/
import Derived.Test.YtnfbjcpoealkoaaRows
import Derived.Test.YtnfbjcpoealkoaaOwn
import Derived.WalkKit
import Derived.ProofKit
import Derived.OpenShut
import Derived.WalkLawsBesides
import Derived.Deep.QuietTactic
import Derived.BigQuiet
import Derived.Lib.Hide
namespace Go.Proofs.Ytnfbjcpoealkoaa.ints
open Go.ChangeShapes Go.WideShapes Go.ChangeAt Go.RowKit
set_option maxRecDepth 100000

/-- A slice of ints that reads as l. -/
structure ReadI (w : World) (v : Value) (l : List Int) (a : Option Addr) (c : Nat) (g : Nat) : Prop where
  val : v = .slice a l.length c
  adr : 0 < l.length → a = some ⟨g, 0, none⟩
  cell : ∀ j (h : j < l.length), w.cell? ⟨g, j, none⟩ = some (.int .i64 l[j])

theorem readI_of {w : World} {base : Nat} {v : Value} {l : List Int} (h : OwnL w base 3 encI v l) : ∃ a c g, ReadI w v l a c g := by
  rcases h.2 with ⟨rfl, hn⟩ | ⟨g, cap, cur, rfl, hb, hg, hc, hm, hs, ht⟩
  · exact ⟨none, 0, 0, by rw [hn], fun h0 => by omega, fun j hj => by omega⟩
  · exact ⟨_, cap, g, rfl, fun _ => rfl, fun j hj => h.cell j hj⟩

set_option maxHeartbeats 1000000 in
theorem eq_true (v1 v2 : Value) (l : List Int) (w : World) (a1 a2 : Option Addr) (c1 c2 g1 g2 : Nat) (h1 : ReadI w v1 l a1 c1 g1) (h2 : ReadI w v2 l a2 c2 g2) (hl : l.length ≤ 1048576) :
    Calls Try.prog 14 #[v1, v2] w fun e w' => e = .returned (.bool true) ∧ ∃ n, w' = w.drewN n := by
  obtain ⟨rfl, ha1, hc1⟩ := h1
  obtain ⟨rfl, ha2, hc2⟩ := h2
  have HC1 := Lib.hid hc1
  have HC2 := Lib.hid hc2
  have HA1 := Lib.hid ha1
  have HA2 := Lib.hid ha2
  clear hc1 hc2 ha1 ha2
  go_enter Try.func14, Try.ntmps14
  go_wp2
  go_loopw [5] (fun i wr => ∃ k m : Nat, k ≤ l.length ∧ i = .int .i64 k ∧ wr = w.drewN m) (fun i _ => l.length - (intOf i).toNat)
  case atStart => exact ⟨0, 0, Nat.zero_le _, rfl, rfl⟩
  case round =>
    obtain ⟨k, m, hk, rfl, rfl⟩ := hrel
    by_cases hlt : k < l.length
    · have hk0 : (0 : Int) ≤ (k : Int) := by omega
      have hk1 : (k : Int) < (l.length : Int) := by omega
      obtain rfl := HA1.out (by omega)
      obtain rfl := HA2.out (by omega)
      obtain ⟨x, hx1, hx2⟩ : ∃ x, w.cell? ⟨g1, k, none⟩ = some (.int .i64 x) ∧ w.cell? ⟨g2, k, none⟩ = some (.int .i64 x) := ⟨_, HC1.out k hlt, HC2.out k hlt⟩
      go_wp2
      go_quiet (fail)
      go_wp2
      go_roundw
      case rel => exact ⟨k + 1, _, by omega, by go_num, rfl⟩
      case measure => simp [intOf]; omega
    · go_wp2
      go_ret
      exact ⟨rfl, _, rfl⟩

/-- The marks k0, k0+1, .. in n places. -/
def marks (k0 n : Nat) : List Int := (List.range n).map fun j => ((k0 + j : Nat) : Int)
theorem marks_length (k0 n : Nat) : (marks k0 n).length = n := by simp [marks]
theorem marks_get (k0 n j : Nat) (h : j < (marks k0 n).length) : (marks k0 n)[j] = ((k0 + j : Nat) : Int) := by simp [marks]
theorem marks_succ (k0 n : Nat) : marks k0 (n + 1) = marks k0 n ++ [((k0 + n : Nat) : Int)] := by simp [marks, List.range_succ]
/-- The list when k places are marked. -/
def mixed (k0 k : Nat) (l : List Int) : List Int := marks k0 k ++ l.drop k
theorem mixed_length (k0 k : Nat) (l : List Int) (h : k ≤ l.length) : (mixed k0 k l).length = l.length := by simp [mixed, marks_length]; omega
theorem mixed_set (k0 k : Nat) (l : List Int) (h : k < l.length) : (mixed k0 k l).set k ((k0 + k : Nat) : Int) = mixed k0 (k + 1) l := by
  unfold mixed
  rw [marks_succ, List.set_append_right _ _ (by rw [marks_length]; exact Nat.le_refl _), marks_length, Nat.sub_self, List.append_assoc]
  congr 1
  rw [List.drop_eq_getElem_cons h]
  rfl
theorem mixed_all (k0 : Nat) (l : List Int) : mixed k0 l.length l = marks k0 l.length := by simp [mixed]

/-- One place of a slice of the call's own is stored into. -/
theorem ownL_store {w : World} {base g cap : Nat} {l : List Int} (h : OwnL w base 3 encI (.slice (some ⟨g, 0, none⟩) l.length cap) l) (j : Nat) (x : Int) :
    OwnL (w.setCell ⟨g, j, none⟩ (.int .i64 x)) base 3 encI (.slice (some ⟨g, 0, none⟩) l.length cap) (l.set j x) ∧ w.grownBy (w.setCell ⟨g, j, none⟩ (.int .i64 x)) (some g) := by
  obtain ⟨h1, h2⟩ := World.ownsRow.stored h j (.int .i64 x)
  refine ⟨?_, h2⟩
  unfold OwnL
  rw [List.length_set, List.map_set]
  exact h1

set_option maxHeartbeats 1000000 in
theorem mark_any (v : Value) (l : List Int) (k0 base : Nat) (w : World) (h : OwnL w base 3 encI v l) (hl : l.length ≤ 1048576) (hk : k0 ≤ 1000000000) :
    Calls Try.prog 15 #[v, .int .i64 k0] w fun e w' => e = .returned (.int .i64 (k0 + l.length : Nat)) ∧ OwnL w' base 3 encI v (marks k0 l.length) ∧ w.grownBy w' v.ownBlock := by
  obtain ⟨a, c, rfl, hlc, hcm, hadr⟩ := h.shape
  have HADR := Lib.hid hadr
  clear hadr
  have H0 := Lib.hid h
  clear h
  go_enter Try.func15, Try.ntmps15
  go_wp2
  go_loopw [1, 5] (fun q i wr => ∃ k : Nat, k ≤ l.length ∧ i = .int .i64 k ∧ q = .int .i64 (k0 + k : Nat) ∧ OwnL wr base 3 encI (.slice a l.length c) (mixed k0 k l) ∧ w.grownBy wr (Value.slice a l.length c).ownBlock) (fun _ i _ => l.length - (intOf i).toNat)
  case atStart => exact ⟨0, Nat.zero_le _, rfl, rfl, H0.out, World.grownBy.refl _ _⟩
  case round =>
    obtain ⟨k, hk', rfl, rfl, hown, hg⟩ := hrel
    by_cases hlt : k < l.length
    · obtain ⟨g, rfl, hbg, _⟩ := HADR.out (by omega)
      have hml := mixed_length k0 k l hk'
      have hown' : OwnL wr base 3 encI (.slice (some ⟨g, 0, none⟩) (mixed k0 k l).length c) (mixed k0 k l) := by rw [hml]; exact hown
      obtain ⟨y, hcell⟩ : ∃ y, wr.cell? ⟨g, k, none⟩ = some y := ⟨_, hown'.cell k (by omega)⟩
      have hfrz : wr.frozen? ⟨g, k, none⟩ = false := World.ownsRow.frozenAt hown' k
      have hst := ownL_store hown' k ((k0 + k : Nat) : Int)
      rw [mixed_set k0 k l hlt, hml] at hst
      have HST := Lib.hid hst
      have HG := Lib.hid hg
      clear hst hown' hown hg hml
      have hk0 : (0 : Int) ≤ (k : Int) := by omega
      have hk1 : (k : Int) < (l.length : Int) := by omega
      go_wp2
      go_roundw
      case rel => exact ⟨k + 1, by omega, by go_num, by go_num, HST.out.1, HG.out.trans HST.out.2⟩
      case measure => simp [intOf]; omega
    · have e : k = l.length := by omega
      subst e
      rw [mixed_all] at hown
      go_wp2
      go_ret
      exact ⟨rfl, hown, hg⟩

theorem mark_at (v : Value) (l : List Int) (x : Int) (k0 base : Nat) (w : World) (hx : x = (k0 : Int)) (h : OwnL w base 3 encI v l) (hl : l.length ≤ 1048576) (hk : k0 ≤ 1000000000) :
    Calls Try.prog 15 #[v, .int .i64 x] w fun e w' => e = .returned (.int .i64 (x + l.length)) ∧ OwnL w' base 3 encI v (marks k0 l.length) ∧ w.grownBy w' v.ownBlock := by
  subst hx
  exact mark_any v l k0 base w h hl hk
end Go.Proofs.Ytnfbjcpoealkoaa.ints
