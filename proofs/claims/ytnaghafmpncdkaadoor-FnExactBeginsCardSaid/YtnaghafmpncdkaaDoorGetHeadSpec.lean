/-
  What spec.GetHead returns: the head at a place of a text if it is the shortest form.
-/
import Derived.Test.YtnaghafmpncdkaaDoorHeadWalk
namespace Go.Proofs.YtnaghafmpncdkaaDoor.head
open Go.ChangeShapes Go.WideShapes Go.ChangeAt Go.RowKit
set_option maxRecDepth 100000

/-- What spec.l05Any returns. -/
def anyHead (s : ByteArray) (i : Int) : Int × Nat × Int := if 0 ≤ i ∧ anyOk s i.toNat then ((maj s i.toNat : Int), num s i.toNat, i + 1 + many s i.toNat) else (-1, 0, -1)
def triple (p : Int × Nat × Int) : Value := .tuple #[.int .i64 p.1, .int .u64 p.2.1, .int .i64 p.2.2]

set_option maxHeartbeats 1000000 in
theorem any_out (s : ByteArray) (i : Int) (w : World) (hs : s.size ≤ 1048576) (h : ¬ (0 ≤ i ∧ i < s.size)) :
    Calls Tryd.prog 75 #[.string s, .int .i64 i] w fun e w' => e = .returned (triple (-1, 0, -1)) ∧ Below w.heap.size w w' := by
  by_cases h1 : i < 0
  · go_enter Tryd.func75, Tryd.ntmps75
    go_wp2
    go_ret3
    exact ⟨rfl, Below.refl _ _⟩
  · have h2 : (s.size : Int) ≤ i := by omega
    go_enter Tryd.func75, Tryd.ntmps75
    go_wp2
    go_ret3
    exact ⟨rfl, Below.refl _ _⟩
/-- The first byte. -/
structure First (s : ByteArray) (i b : Nat) : Prop where
  maj : maj s i = b / 32
  low : low s i = b % 32
theorem first_of (s : ByteArray) (i : Nat) (h : i < s.size) : ∃ b : Nat, s[i].toNat = b ∧ First s i b ∧ b < 256 := ⟨_, rfl, ⟨by unfold head.maj; rw [at_eq s i h], by unfold head.low; rw [at_eq s i h]⟩, s[i].toNat_lt⟩
set_option maxHeartbeats 1000000 in
theorem any_small (s : ByteArray) (i : Nat) (w : World) (hs : s.size ≤ 1048576) (h : i < s.size) (hl : low s i < 24) :
    Calls Tryd.prog 75 #[.string s, .int .i64 i] w fun e w' => e = .returned (triple ((maj s i : Int), low s i, (i : Int) + 1)) ∧ Below w.heap.size w w' := by
  have h0 : (0 : Int) ≤ (i : Int) := by omega
  have h1 : (i : Int) < (s.size : Int) := by omega
  obtain ⟨b, hb, hF, hb256⟩ := first_of s i h
  rw [hF.low] at hl ⊢
  rw [hF.maj]
  clear hF
  go_enter Tryd.func75, Tryd.ntmps75
  go_wp2
  go_region
  all_goals go_wp2
  all_goals go_ret3
  all_goals exact ⟨by unfold triple; simp, belowN (Below.refl _ _) 1⟩
set_option maxHeartbeats 1000000 in
theorem any_bad (s : ByteArray) (i : Nat) (w : World) (hs : s.size ≤ 1048576) (h : i < s.size) (hl : 28 ≤ low s i) :
    Calls Tryd.prog 75 #[.string s, .int .i64 i] w fun e w' => e = .returned (triple (-1, 0, -1)) ∧ Below w.heap.size w w' := by
  have h0 : (0 : Int) ≤ (i : Int) := by omega
  have h1 : (i : Int) < (s.size : Int) := by omega
  obtain ⟨b, hb, hF, hb256⟩ := first_of s i h
  rw [hF.low] at hl
  clear hF
  go_enter Tryd.func75, Tryd.ntmps75
  go_wp2
  go_region
  all_goals go_wp2
  all_goals go_ret3
  all_goals exact ⟨rfl, belowN (Below.refl _ _) 1⟩
theorem tail_step (s : ByteArray) (i M k : Nat) (hk : 1 ≤ k) (hM : k ≤ M) (h : i + 1 + M ≤ s.size) : ((s.data.toList.drop (i + 1)).take M).take k = ((s.data.toList.drop (i + 1)).take M).take (k - 1) ++ [s[i + k]] := by
  obtain ⟨j, rfl⟩ : ∃ j, k = j + 1 := ⟨k - 1, by omega⟩
  have e : s.data.toList.length = s.size := by simp
  have hl : j < ((s.data.toList.drop (i + 1)).take M).length := by rw [List.length_take, List.length_drop]; omega
  rw [List.take_succ_eq_append_getElem hl, Nat.add_sub_cancel]
  congr 2
  rw [List.getElem_take, List.getElem_drop]
  have : i + 1 + j = i + (j + 1) := by omega
  simp only [this]
  rfl
/-- The number so far, and how great it may be. -/
structure Sofar (s : ByteArray) (i M k N : Nat) : Prop where
  eq : N = beN (((s.data.toList.drop (i + 1)).take M).take (k - 1))
  lt : N < 256 ^ (k - 1)
theorem Sofar.start (s : ByteArray) (i M : Nat) : Sofar s i M 1 0 := ⟨by simp [beN], by simp⟩
theorem Sofar.step {s : ByteArray} {i M k N : Nat} (h : Sofar s i M k N) (hk : 1 ≤ k) (hM : k ≤ M) (hs : i + 1 + M ≤ s.size) : Sofar s i M (k + 1) (256 * N + s[i + k].toNat) := by
  refine ⟨?_, ?_⟩
  · rw [Nat.add_sub_cancel, tail_step s i M k hk hM hs, beN_snoc, ← h.eq]
  · have := h.lt
    have hb := (s[i + k]).toNat_lt
    have e : 256 ^ k = 256 ^ (k - 1) * 256 := by rw [← Nat.pow_succ]; congr 1; omega
    rw [Nat.add_sub_cancel, e]
    omega
theorem Sofar.small {s : ByteArray} {i M k N : Nat} (h : Sofar s i M k N) (hk : k ≤ 8) : N < 72057594037927936 := by
  have h1 : 256 ^ (k - 1) ≤ 256 ^ 7 := Nat.pow_le_pow_right (by omega) (by omega)
  have := h.lt
  omega
theorem any_yes {s : ByteArray} {i M N : Nat} (h : i < s.size) (hl : 24 ≤ low s i) (hl2 : low s i < 28) (hm : 2 ^ (low s i - 24) = M) (hs : i + 1 + M ≤ s.size) (hN : Sofar s i M (M + 1) N) : anyHead s i = ((maj s i : Int), N, (i : Int) + 1 + M) := by
  have e1 : many s i = M := by unfold many; rw [if_neg (by omega), hm]
  have e2 : num s i = N := by
    unfold num
    rw [if_neg (by omega), hN.eq, Nat.add_sub_cancel, List.take_take, Nat.min_self]
    unfold tail
    rw [e1]
  unfold anyHead
  rw [Int.toNat_natCast, if_pos ⟨by omega, h, hl2, by omega⟩, e1, e2]
theorem any_no {s : ByteArray} {i M : Nat} (hl : 24 ≤ low s i) (hm : 2 ^ (low s i - 24) = M) (hs : ¬ i + 1 + M ≤ s.size) : anyHead s i = (-1, 0, -1) := by
  have e1 : many s i = M := by unfold many; rw [if_neg (by omega), hm]
  unfold anyHead
  rw [Int.toNat_natCast, if_neg (fun h => hs (by have := h.2.2.2; omega))]
set_option maxHeartbeats 1000000 in
theorem any_1 (s : ByteArray) (i : Nat) (w : World) (hs : s.size ≤ 1048576) (h : i < s.size) (hl : low s i = 24) :
    Calls Tryd.prog 75 #[.string s, .int .i64 i] w fun e w' => e = .returned (triple (anyHead s i)) ∧ Below w.heap.size w w' := by
  have h0 : (0 : Int) ≤ (i : Int) := by omega
  have h1 : (i : Int) < (s.size : Int) := by omega
  obtain ⟨b, hb, hF, hb256⟩ := first_of s i h
  have HB : Hid (Below w.heap.size w (w.alloc (.cells #[.int .i64 1, .int .i64 2, .int .i64 4, .int .i64 8] 3)).drew) := belowN ((Below.refl _ _).alloc (Nat.le_refl _) _) 1
  by_cases hz : i + 1 + 1 ≤ s.size
  · have HY : Hid (∀ N, Sofar s i 1 (1 + 1) N → anyHead s i = (((b / 32 : Nat) : Int), N, (i : Int) + 1 + 1)) := fun N hN => by
      have := any_yes h (by omega) (by omega) (by rw [hl]) hz hN
      rw [this, hF.maj]; rfl
    have hz' : ¬ (s.size : Int) - i - 1 < 1 := by omega
    have hl' : b % 32 = 24 := by rw [← hF.low]; exact hl
    generalize anyHead s i = R at *
    clear hF hl
    go_enter Tryd.func75, Tryd.ntmps75
    go_wp2
    go_region
    all_goals go_wp2
    all_goals
      go_loop [10, 11] (fun x y => ∃ k N : Nat, y = .int .i64 k ∧ x = .int .u64 N ∧ 1 ≤ k ∧ k ≤ 1 + 1 ∧ Hid (Sofar s i 1 k N)) (fun _ y => 1 + 1 - (intOf y).toNat)
      case atStart => exact ⟨1, 0, rfl, rfl, by omega, by omega, Sofar.start s i 1⟩
      case round =>
        obtain ⟨k, N, rfl, rfl, hk1, hk2, HN⟩ := hrel
        by_cases hk : k ≤ 1
        · have hN := HN.out.small (by omega)
          have HN2 := Lib.hid (HN.out.step hk1 hk hz)
          have q0 : (0 : Int) ≤ (i : Int) + k := by omega
          have q1 : (i : Int) + k < (s.size : Int) := by omega
          have qt : ((i : Int) + k).toNat = i + k := by omega
          obtain ⟨c, hc, hc256⟩ : ∃ c : Nat, s[i + k].toNat = c ∧ c < 256 := ⟨_, rfl, s[i + k].toNat_lt⟩
          rw [hc] at HN2
          clear hb hb256 hl' h1 hz'
          go_wp2
          exact ⟨⟨k + 1, 256 * N + c, by go_num, by go_num, by omega, by omega, HN2⟩, by simp [intOf]; omega⟩
        · have ek : k = 1 + 1 := by omega
          subst ek
          have HR := Lib.hid (HY.out N HN.out)
          clear HY HN hb hb256 hl'
          go_wp2
          go_ret3
          exact ⟨by rw [HR.out]; rfl, HB.out⟩
  · have HY : Hid (anyHead s i = (-1, 0, -1)) := any_no (by omega) (by rw [hl]) hz
    have hz' : (s.size : Int) - i - 1 < 1 := by omega
    have hl' : b % 32 = 24 := by rw [← hF.low]; exact hl
    generalize anyHead s i = R at *
    clear hF hl
    go_enter Tryd.func75, Tryd.ntmps75
    go_wp2
    go_region
    all_goals go_wp2
    all_goals go_ret3
    all_goals exact ⟨by rw [HY.out]; rfl, HB.out⟩

set_option maxHeartbeats 1000000 in
theorem any_2 (s : ByteArray) (i : Nat) (w : World) (hs : s.size ≤ 1048576) (h : i < s.size) (hl : low s i = 25) :
    Calls Tryd.prog 75 #[.string s, .int .i64 i] w fun e w' => e = .returned (triple (anyHead s i)) ∧ Below w.heap.size w w' := by
  have h0 : (0 : Int) ≤ (i : Int) := by omega
  have h1 : (i : Int) < (s.size : Int) := by omega
  obtain ⟨b, hb, hF, hb256⟩ := first_of s i h
  have HB : Hid (Below w.heap.size w (w.alloc (.cells #[.int .i64 1, .int .i64 2, .int .i64 4, .int .i64 8] 3)).drew) := belowN ((Below.refl _ _).alloc (Nat.le_refl _) _) 1
  by_cases hz : i + 1 + 2 ≤ s.size
  · have HY : Hid (∀ N, Sofar s i 2 (2 + 1) N → anyHead s i = (((b / 32 : Nat) : Int), N, (i : Int) + 1 + 2)) := fun N hN => by
      have := any_yes h (by omega) (by omega) (by rw [hl]) hz hN
      rw [this, hF.maj]; rfl
    have hz' : ¬ (s.size : Int) - i - 1 < 2 := by omega
    have hl' : b % 32 = 25 := by rw [← hF.low]; exact hl
    generalize anyHead s i = R at *
    clear hF hl
    go_enter Tryd.func75, Tryd.ntmps75
    go_wp2
    go_region
    all_goals go_wp2
    all_goals
      go_loop [10, 11] (fun x y => ∃ k N : Nat, y = .int .i64 k ∧ x = .int .u64 N ∧ 1 ≤ k ∧ k ≤ 2 + 1 ∧ Hid (Sofar s i 2 k N)) (fun _ y => 2 + 1 - (intOf y).toNat)
      case atStart => exact ⟨1, 0, rfl, rfl, by omega, by omega, Sofar.start s i 2⟩
      case round =>
        obtain ⟨k, N, rfl, rfl, hk1, hk2, HN⟩ := hrel
        by_cases hk : k ≤ 2
        · have hN := HN.out.small (by omega)
          have HN2 := Lib.hid (HN.out.step hk1 hk hz)
          have q0 : (0 : Int) ≤ (i : Int) + k := by omega
          have q1 : (i : Int) + k < (s.size : Int) := by omega
          have qt : ((i : Int) + k).toNat = i + k := by omega
          obtain ⟨c, hc, hc256⟩ : ∃ c : Nat, s[i + k].toNat = c ∧ c < 256 := ⟨_, rfl, s[i + k].toNat_lt⟩
          rw [hc] at HN2
          clear hb hb256 hl' h1 hz'
          go_wp2
          exact ⟨⟨k + 1, 256 * N + c, by go_num, by go_num, by omega, by omega, HN2⟩, by simp [intOf]; omega⟩
        · have ek : k = 2 + 1 := by omega
          subst ek
          have HR := Lib.hid (HY.out N HN.out)
          clear HY HN hb hb256 hl'
          go_wp2
          go_ret3
          exact ⟨by rw [HR.out]; rfl, HB.out⟩
  · have HY : Hid (anyHead s i = (-1, 0, -1)) := any_no (by omega) (by rw [hl]) hz
    have hz' : (s.size : Int) - i - 1 < 2 := by omega
    have hl' : b % 32 = 25 := by rw [← hF.low]; exact hl
    generalize anyHead s i = R at *
    clear hF hl
    go_enter Tryd.func75, Tryd.ntmps75
    go_wp2
    go_region
    all_goals go_wp2
    all_goals go_ret3
    all_goals exact ⟨by rw [HY.out]; rfl, HB.out⟩

set_option maxHeartbeats 1000000 in
theorem any_4 (s : ByteArray) (i : Nat) (w : World) (hs : s.size ≤ 1048576) (h : i < s.size) (hl : low s i = 26) :
    Calls Tryd.prog 75 #[.string s, .int .i64 i] w fun e w' => e = .returned (triple (anyHead s i)) ∧ Below w.heap.size w w' := by
  have h0 : (0 : Int) ≤ (i : Int) := by omega
  have h1 : (i : Int) < (s.size : Int) := by omega
  obtain ⟨b, hb, hF, hb256⟩ := first_of s i h
  have HB : Hid (Below w.heap.size w (w.alloc (.cells #[.int .i64 1, .int .i64 2, .int .i64 4, .int .i64 8] 3)).drew) := belowN ((Below.refl _ _).alloc (Nat.le_refl _) _) 1
  by_cases hz : i + 1 + 4 ≤ s.size
  · have HY : Hid (∀ N, Sofar s i 4 (4 + 1) N → anyHead s i = (((b / 32 : Nat) : Int), N, (i : Int) + 1 + 4)) := fun N hN => by
      have := any_yes h (by omega) (by omega) (by rw [hl]) hz hN
      rw [this, hF.maj]; rfl
    have hz' : ¬ (s.size : Int) - i - 1 < 4 := by omega
    have hl' : b % 32 = 26 := by rw [← hF.low]; exact hl
    generalize anyHead s i = R at *
    clear hF hl
    go_enter Tryd.func75, Tryd.ntmps75
    go_wp2
    go_region
    all_goals go_wp2
    all_goals
      go_loop [10, 11] (fun x y => ∃ k N : Nat, y = .int .i64 k ∧ x = .int .u64 N ∧ 1 ≤ k ∧ k ≤ 4 + 1 ∧ Hid (Sofar s i 4 k N)) (fun _ y => 4 + 1 - (intOf y).toNat)
      case atStart => exact ⟨1, 0, rfl, rfl, by omega, by omega, Sofar.start s i 4⟩
      case round =>
        obtain ⟨k, N, rfl, rfl, hk1, hk2, HN⟩ := hrel
        by_cases hk : k ≤ 4
        · have hN := HN.out.small (by omega)
          have HN2 := Lib.hid (HN.out.step hk1 hk hz)
          have q0 : (0 : Int) ≤ (i : Int) + k := by omega
          have q1 : (i : Int) + k < (s.size : Int) := by omega
          have qt : ((i : Int) + k).toNat = i + k := by omega
          obtain ⟨c, hc, hc256⟩ : ∃ c : Nat, s[i + k].toNat = c ∧ c < 256 := ⟨_, rfl, s[i + k].toNat_lt⟩
          rw [hc] at HN2
          clear hb hb256 hl' h1 hz'
          go_wp2
          exact ⟨⟨k + 1, 256 * N + c, by go_num, by go_num, by omega, by omega, HN2⟩, by simp [intOf]; omega⟩
        · have ek : k = 4 + 1 := by omega
          subst ek
          have HR := Lib.hid (HY.out N HN.out)
          clear HY HN hb hb256 hl'
          go_wp2
          go_ret3
          exact ⟨by rw [HR.out]; rfl, HB.out⟩
  · have HY : Hid (anyHead s i = (-1, 0, -1)) := any_no (by omega) (by rw [hl]) hz
    have hz' : (s.size : Int) - i - 1 < 4 := by omega
    have hl' : b % 32 = 26 := by rw [← hF.low]; exact hl
    generalize anyHead s i = R at *
    clear hF hl
    go_enter Tryd.func75, Tryd.ntmps75
    go_wp2
    go_region
    all_goals go_wp2
    all_goals go_ret3
    all_goals exact ⟨by rw [HY.out]; rfl, HB.out⟩

set_option maxHeartbeats 1000000 in
theorem any_8 (s : ByteArray) (i : Nat) (w : World) (hs : s.size ≤ 1048576) (h : i < s.size) (hl : low s i = 27) :
    Calls Tryd.prog 75 #[.string s, .int .i64 i] w fun e w' => e = .returned (triple (anyHead s i)) ∧ Below w.heap.size w w' := by
  have h0 : (0 : Int) ≤ (i : Int) := by omega
  have h1 : (i : Int) < (s.size : Int) := by omega
  obtain ⟨b, hb, hF, hb256⟩ := first_of s i h
  have HB : Hid (Below w.heap.size w (w.alloc (.cells #[.int .i64 1, .int .i64 2, .int .i64 4, .int .i64 8] 3)).drew) := belowN ((Below.refl _ _).alloc (Nat.le_refl _) _) 1
  by_cases hz : i + 1 + 8 ≤ s.size
  · have HY : Hid (∀ N, Sofar s i 8 (8 + 1) N → anyHead s i = (((b / 32 : Nat) : Int), N, (i : Int) + 1 + 8)) := fun N hN => by
      have := any_yes h (by omega) (by omega) (by rw [hl]) hz hN
      rw [this, hF.maj]; rfl
    have hz' : ¬ (s.size : Int) - i - 1 < 8 := by omega
    have hl' : b % 32 = 27 := by rw [← hF.low]; exact hl
    generalize anyHead s i = R at *
    clear hF hl
    go_enter Tryd.func75, Tryd.ntmps75
    go_wp2
    go_region
    all_goals go_wp2
    all_goals
      go_loop [10, 11] (fun x y => ∃ k N : Nat, y = .int .i64 k ∧ x = .int .u64 N ∧ 1 ≤ k ∧ k ≤ 8 + 1 ∧ Hid (Sofar s i 8 k N)) (fun _ y => 8 + 1 - (intOf y).toNat)
      case atStart => exact ⟨1, 0, rfl, rfl, by omega, by omega, Sofar.start s i 8⟩
      case round =>
        obtain ⟨k, N, rfl, rfl, hk1, hk2, HN⟩ := hrel
        by_cases hk : k ≤ 8
        · have hN := HN.out.small (by omega)
          have HN2 := Lib.hid (HN.out.step hk1 hk hz)
          have q0 : (0 : Int) ≤ (i : Int) + k := by omega
          have q1 : (i : Int) + k < (s.size : Int) := by omega
          have qt : ((i : Int) + k).toNat = i + k := by omega
          obtain ⟨c, hc, hc256⟩ : ∃ c : Nat, s[i + k].toNat = c ∧ c < 256 := ⟨_, rfl, s[i + k].toNat_lt⟩
          rw [hc] at HN2
          clear hb hb256 hl' h1 hz'
          go_wp2
          exact ⟨⟨k + 1, 256 * N + c, by go_num, by go_num, by omega, by omega, HN2⟩, by simp [intOf]; omega⟩
        · have ek : k = 8 + 1 := by omega
          subst ek
          have HR := Lib.hid (HY.out N HN.out)
          clear HY HN hb hb256 hl'
          go_wp2
          go_ret3
          exact ⟨by rw [HR.out]; rfl, HB.out⟩
  · have HY : Hid (anyHead s i = (-1, 0, -1)) := any_no (by omega) (by rw [hl]) hz
    have hz' : (s.size : Int) - i - 1 < 8 := by omega
    have hl' : b % 32 = 27 := by rw [← hF.low]; exact hl
    generalize anyHead s i = R at *
    clear hF hl
    go_enter Tryd.func75, Tryd.ntmps75
    go_wp2
    go_region
    all_goals go_wp2
    all_goals go_ret3
    all_goals exact ⟨by rw [HY.out]; rfl, HB.out⟩

theorem any_all (s : ByteArray) (i : Int) (w : World) (hs : s.size ≤ 1048576) : Calls Tryd.prog 75 #[.string s, .int .i64 i] w fun e w' => e = .returned (triple (anyHead s i)) ∧ Below w.heap.size w w' := by
  by_cases h : 0 ≤ i ∧ i < s.size
  · obtain ⟨k, rfl⟩ : ∃ k : Nat, i = k := ⟨i.toNat, by omega⟩
    have hk : k < s.size := by omega
    by_cases h1 : low s k < 24
    · have e : anyHead s k = ((maj s k : Int), low s k, (k : Int) + 1) := by
        have em : many s k = 0 := if_pos h1
        unfold anyHead num
        rw [Int.toNat_natCast, if_pos ⟨by omega, hk, by omega, by omega⟩, if_pos h1, em]
        simp
      rw [e]
      exact any_small s k w hs hk h1
    by_cases h2 : low s k < 28
    · rcases (show low s k = 24 ∨ low s k = 25 ∨ low s k = 26 ∨ low s k = 27 by omega) with h3 | h3 | h3 | h3
      · exact any_1 s k w hs hk h3
      · exact any_2 s k w hs hk h3
      · exact any_4 s k w hs hk h3
      · exact any_8 s k w hs hk h3
    · have e : anyHead s k = (-1, 0, -1) := by
        unfold anyHead
        rw [Int.toNat_natCast, if_neg (fun h => h2 h.2.2.1)]
      rw [e]
      exact any_bad s k w hs hk (by omega)
  · have e : anyHead s i = (-1, 0, -1) := by
      unfold anyHead
      rw [if_neg (fun h' => h ⟨h'.1, by have := h'.2.1; omega⟩)]
    rw [e]
    exact any_out s i w hs h

end Go.Proofs.YtnaghafmpncdkaaDoor.head
