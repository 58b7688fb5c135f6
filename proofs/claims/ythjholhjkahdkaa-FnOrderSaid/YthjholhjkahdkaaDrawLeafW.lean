/-
  The drawing functions of the laws on values: spec.l02Leaf.
-/
import Derived.Test.YthjholhjkahdkaaDrawLeaf
import Derived.Test.YthjholhjkahdkaaNormSpec
import Derived.Deep.Cut
namespace Go.Proofs.Ythjholhjkahdkaa.made
open Go.ChangeShapes Go.WideShapes Go.ChangeAt Go.RowKit
open Go.Proofs.Ythjholhjkahdkaa.val Go.Proofs.Ythjholhjkahdkaa.draw
set_option maxRecDepth 100000

theorem decN : ∀ k, k < 5 → ∃ z : Int, InI z ∧ (#[Value.int .i64 15, .int .i64 (-3), .int .i64 1, .int .i64 9007199254740993, .int .i64 (-999999999999999999)] : Array Value)[k]? = some (.int .i64 z) := by
  intro k hk
  have h : k = 0 ∨ k = 1 ∨ k = 2 ∨ k = 3 ∨ k = 4 := by omega
  rcases h with rfl | rfl | rfl | rfl | rfl <;> exact ⟨_, by unfold InI; omega, rfl⟩
theorem decE : ∀ k, k < 5 → ∃ z : Int, InI z ∧ (#[Value.int .i64 (-1), .int .i64 (-2), .int .i64 19, .int .i64 20, .int .i64 (-20)] : Array Value)[k]? = some (.int .i64 z) := by
  intro k hk
  have h : k = 0 ∨ k = 1 ∨ k = 2 ∨ k = 3 ∨ k = 4 := by omega
  rcases h with rfl | rfl | rfl | rfl | rfl <;> exact ⟨_, by unfold InI; omega, rfl⟩
theorem intN (x : Nat) (hx : (x : Int) < 1000) : ∀ k, k < 18 → ∃ z : Int, InI z ∧ (#[Value.int .i64 0, .int .i64 1, .int .i64 23, .int .i64 24, .int .i64 255, .int .i64 256, .int .i64 65535, .int .i64 65536, .int .i64 4294967295, .int .i64 4294967296, .int .i64 (-1), .int .i64 (-24), .int .i64 (-25), .int .i64 (-256), .int .i64 (-257), .int .i64 9223372036854775807, .int .i64 (-9223372036854775808), .int .i64 x] : Array Value)[k]? = some (.int .i64 z) := by
  intro k hk
  have h : k = 0 ∨ k = 1 ∨ k = 2 ∨ k = 3 ∨ k = 4 ∨ k = 5 ∨ k = 6 ∨ k = 7 ∨ k = 8 ∨ k = 9 ∨ k = 10 ∨ k = 11 ∨ k = 12 ∨ k = 13 ∨ k = 14 ∨ k = 15 ∨ k = 16 ∨ k = 17 := by omega
  rcases h with rfl | rfl | rfl | rfl | rfl | rfl | rfl | rfl | rfl | rfl | rfl | rfl | rfl | rfl | rfl | rfl | rfl | rfl <;> exact ⟨_, by unfold InI; omega, rfl⟩
theorem strL : ∀ k, k < 5 → ∃ s : ByteArray, s.size ≤ 20 ∧ (#[Value.string { data := #[99, 111, 109, 109, 111, 110, 32, 118, 97, 108, 117, 101] }, .string { data := #[99, 111, 109, 109, 111, 110, 32, 118, 97, 108] }, .string { data := #[97, 110, 111, 116, 104, 101, 114, 32, 99, 111, 109, 109, 111, 110, 32, 118, 97, 108, 117, 101] }, .string { data := #[120] }, .string { data := #[] }] : Array Value)[k]? = some (.string s) := by
  intro k hk
  have h : k = 0 ∨ k = 1 ∨ k = 2 ∨ k = 3 ∨ k = 4 := by omega
  rcases h with rfl | rfl | rfl | rfl | rfl <;> exact ⟨_, by decide, rfl⟩
/-- The leaf stored into the result's block. -/
theorem leaf_ret {W w1 : World} {g N : Nat} {a : Option Addr} {len cap : Nat} (k n e : Int) (s : ByteArray) (hk : InI k) (hn : InI n) (he : InI e) (hs : s.size ≤ 20) (hd : Draw w1 g a len cap) (ho : W.grownBy w1 (some g)) (hN : W.heap.size ≤ N) (hgN : g < N) :
    VRet W (five w1 N k n e s (.slice none 0 0)) g a len cap 20 (.returned (.agg #[.int .i64 k, .int .i64 n, .int .i64 e, .string s, .slice none 0 0])) :=
  ⟨.mk k n e s none 0 [], rfl, FreshO.leaf hk hn he (by omega) (five_only ho hN _ _ _ _ _), draw_five hd hgN _ _ _ _ _, by rw [LT.sz, LT.szL]; omega, own_nil _ _ _ _ _ _⟩
theorem box_only {W w1 : World} {g N : Nat} (h : (W.alloc (.cells #[.int .i64 0, .int .i64 0, .int .i64 0, .string ⟨#[]⟩, .slice none 0 0] 26)).grownBy w1 (some g)) (hg : g < W.heap.size) (hN : N = W.heap.size) : Five w1 N 0 0 0 ⟨#[]⟩ (.slice none 0 0) ∧ W.grownBy w1 (some g) := by
  subst hN
  exact ⟨(Five.new W 0 0 0 ⟨#[]⟩ (.slice none 0 0)).only h (by omega), only_after ((Below.refl _ _).alloc (Nat.le_refl _) _) h⟩
set_option maxHeartbeats 8000000 in
theorem leaf_any (W : World) (g : Nat) (a : Option Addr) (len cap : Nat) (plain : Bool) (hd : Draw W g a len cap) :
    Calls Try.prog 41 #[.pointer (some ⟨g, 0, none⟩), .bool plain] W fun e w' => VRet W w' g a len cap 20 e := by
  have hgl := hd.lt
  have HD0 := Lib.hid (hd.below ((Below.refl _ W).alloc (Nat.le_refl _) (.cells #[.int .i64 0, .int .i64 0, .int .i64 0, .string ⟨#[]⟩, .slice none 0 0] 26)))
  have C0 := Lib.hid (below_any (W.alloc (.cells #[.int .i64 0, .int .i64 0, .int .i64 0, .string ⟨#[]⟩, .slice none 0 0] 26)) g a len cap 9 (by omega) (by omega) HD0.out)
  clear hd
  go_enter Try.func41, Try.ntmps41
  go_wp2_with fail
  with_reducible refine C0.out.mono ?_
  rintro e w1 ⟨x, hx, rfl, hd1, hg1⟩
  obtain ⟨hf1, ho1⟩ := box_only hg1 hgl rfl
  have HF := Lib.hid hf1
  have HO := Lib.hid ho1
  have HD := Lib.hid hd1
  have hz1 : W.heap.size < w1.heap.size := hf1.lt
  clear C0 HD0 hd1 hg1 hf1 ho1
  rcases (show x = 0 ∨ x = 1 ∨ (x = 2 ∧ plain = false) ∨ x = 3 ∨ x = 4 ∨ x = 5 ∨ (x = 2 ∧ plain = true) ∨ (6 ≤ x ∧ x ≤ 8) by cases plain <;> simp <;> omega) with hq | hq | hq | hq | hq | hq | hq | hq
  · have q : (x : Int) = 0 := by omega
    clear hq hx
    have hgz := HD.out.lt
    go_wp2_with fail
    with_reducible refine (below_any w1 g a len cap 3 (by omega) (by omega) HD.out).mono ?_
    rintro e w2 ⟨y, hy, rfl, hd2, hg2⟩
    replace HF := Lib.hid (HF.out.only hg2 (by omega))
    replace HO := Lib.hid (HO.out.trans hg2)
    replace HD := Lib.hid hd2
    clear hd2 hg2 hgz
    have HV := Lib.hid (leaf_ret (W := W) (N := W.heap.size) (y : Int) 0 0 ⟨#[]⟩ (by unfold InI; omega) (by unfold InI; omega) (by unfold InI; omega) (by decide) HD.out HO.out (Nat.le_refl _) hgl)
    have HP := Lib.hid (HF.out.put y 0 0 ⟨#[]⟩ (.slice none 0 0))
    obtain ⟨q0, q1, q2, q3, q4, qf⟩ := HF.out.c
    obtain ⟨k0, k1, k2, k3, k4, _⟩ := HP.out.c
    unfold five at k0 k1 k2 k3 k4 HV
    clear HF HD HO HP
    go_wp2
    refine bodyPost_ret (v := .agg #[.int .i64 y, .int .i64 0, .int .i64 0, .string ⟨#[]⟩, .slice none 0 0]) (by simp [results, Try.results41, go_sem, k0, k1, k2, k3, k4]) rfl ?_
    exact HV.out
  · have q : (x : Int) = 1 := by omega
    clear hq hx
    have hgz := HD.out.lt
    go_wp2_with fail
    with_reducible refine (pickInt_any _ g a len cap w1.heap.size 5 5 _ (HD.out.below ((Below.refl _ _).alloc (Nat.le_refl _) _)) hgz (by omega) (by omega) (heap_alloc_new w1 _) InI decN).mono ?_
    rintro e w2 ⟨z1, hz1, rfl, hd2, hg2⟩
    replace HF := Lib.hid ((HF.out.below ((Below.refl _ _).alloc (Nat.le_refl _) _)).only hg2 (by omega))
    replace HO := Lib.hid ((only_below HO.out ((Below.refl _ _).alloc (Nat.le_refl _) _)).trans hg2)
    replace HD := Lib.hid hd2
    clear hd2 hg2 hgz
    have hgz := HD.out.lt
    go_wp2_with fail
    with_reducible refine (pickInt_any _ g a len cap w2.heap.size 5 5 _ (HD.out.below ((Below.refl _ _).alloc (Nat.le_refl _) _)) hgz (by omega) (by omega) (heap_alloc_new w2 _) InI decE).mono ?_
    rintro e w3 ⟨z2, hz2, rfl, hd2, hg2⟩
    replace HF := Lib.hid ((HF.out.below ((Below.refl _ _).alloc (Nat.le_refl _) _)).only hg2 (by omega))
    replace HO := Lib.hid ((only_below HO.out ((Below.refl _ _).alloc (Nat.le_refl _) _)).trans hg2)
    replace HD := Lib.hid hd2
    clear hd2 hg2 hgz
    have HZ1 := Lib.hid hz1
    have HZ2 := Lib.hid hz2
    clear hz1 hz2
    have HV := Lib.hid (leaf_ret (W := W) (N := W.heap.size) 4 z1 z2 ⟨#[]⟩ (by unfold InI; omega) HZ1.out HZ2.out (by decide) HD.out HO.out (Nat.le_refl _) hgl)
    have HP := Lib.hid (HF.out.put 4 z1 z2 ⟨#[]⟩ (.slice none 0 0))
    obtain ⟨q0, q1, q2, q3, q4, qf⟩ := HF.out.c
    obtain ⟨k0, k1, k2, k3, k4, _⟩ := HP.out.c
    unfold five at k0 k1 k2 k3 k4 HV
    clear HF HD HO HP
    go_wp2
    refine bodyPost_ret (v := .agg #[.int .i64 4, .int .i64 z1, .int .i64 z2, .string ⟨#[]⟩, .slice none 0 0]) (by simp [results, Try.results41, go_sem, k0, k1, k2, k3, k4]) rfl ?_
    exact HV.out
  · obtain ⟨hq, rfl⟩ := hq
    have q : (x : Int) = 2 := by omega
    clear hq hx
    have hgz := HD.out.lt
    go_wp2_with fail
    with_reducible refine (below_any w1 g a len cap 8 (by omega) (by omega) HD.out).mono ?_
    rintro e w2 ⟨y, hy, rfl, hd2, hg2⟩
    replace HF := Lib.hid (HF.out.only hg2 (by omega))
    replace HO := Lib.hid (HO.out.trans hg2)
    replace HD := Lib.hid hd2
    clear hd2 hg2 hgz
    have hgz := HD.out.lt
    go_wp2_with fail
    with_reducible refine (text_any w2 g a len cap y (by omega) HD.out).mono ?_
    rintro e w3 ⟨s, hs, rfl, hd2, hg2⟩
    replace HF := Lib.hid (HF.out.only hg2 (by omega))
    replace HO := Lib.hid (HO.out.trans hg2)
    replace HD := Lib.hid hd2
    clear hd2 hg2 hgz
    have HV := Lib.hid (leaf_ret (W := W) (N := W.heap.size) 6 0 0 s (by unfold InI; omega) (by unfold InI; omega) (by unfold InI; omega) (by omega) HD.out HO.out (Nat.le_refl _) hgl)
    have HP := Lib.hid (HF.out.put 6 0 0 s (.slice none 0 0))
    obtain ⟨q0, q1, q2, q3, q4, qf⟩ := HF.out.c
    obtain ⟨k0, k1, k2, k3, k4, _⟩ := HP.out.c
    unfold five at k0 k1 k2 k3 k4 HV
    clear HF HD HO HP
    go_wp2
    refine bodyPost_ret (v := .agg #[.int .i64 6, .int .i64 0, .int .i64 0, .string s, .slice none 0 0]) (by simp [results, Try.results41, go_sem, k0, k1, k2, k3, k4]) rfl ?_
    exact HV.out
  · have q : (x : Int) = 3 := by omega
    clear hq hx
    have hgz := HD.out.lt
    go_wp2_with fail
    with_reducible refine (pick_any _ g a len cap w1.heap.size 5 5 20 _ (HD.out.below ((Below.refl _ _).alloc (Nat.le_refl _) _)) hgz (by omega) (by omega) (heap_alloc_new w1 _) strL).mono ?_
    rintro e w2 ⟨s, hs, rfl, hd2, hg2⟩
    replace HF := Lib.hid ((HF.out.below ((Below.refl _ _).alloc (Nat.le_refl _) _)).only hg2 (by omega))
    replace HO := Lib.hid ((only_below HO.out ((Below.refl _ _).alloc (Nat.le_refl _) _)).trans hg2)
    replace HD := Lib.hid hd2
    clear hd2 hg2 hgz
    go_wp2_with fail
    with_reducible refine (str_any s w2).mono ?_
    rintro e w3 ⟨rfl, hb2⟩
    replace HF := Lib.hid (HF.out.below hb2)
    replace HO := Lib.hid (only_below HO.out hb2)
    replace HD := Lib.hid (HD.out.below hb2)
    clear hb2
    have HV := Lib.hid (leaf_ret (W := W) (N := W.heap.size) 5 0 0 s (by unfold InI; omega) (by unfold InI; omega) (by unfold InI; omega) hs HD.out HO.out (Nat.le_refl _) hgl)
    have HP := Lib.hid (HF.out.put 5 0 0 s (.slice none 0 0))
    obtain ⟨q0, q1, q2, q3, q4, qf⟩ := HF.out.c
    obtain ⟨k0, k1, k2, k3, k4, _⟩ := HP.out.c
    unfold five at k0 k1 k2 k3 k4 HV
    clear HF HD HO HP
    go_wp2
    refine bodyPost_ret (v := .agg #[.int .i64 5, .int .i64 0, .int .i64 0, .string s, .slice none 0 0]) (by simp [results, Try.results41, go_sem, k0, k1, k2, k3, k4]) rfl ?_
    exact HV.out
  · have q : (x : Int) = 4 := by omega
    clear hq hx
    have hgz := HD.out.lt
    go_wp2_with fail
    with_reducible refine (pick_any _ g a len cap w1.heap.size 5 5 20 _ (HD.out.below ((Below.refl _ _).alloc (Nat.le_refl _) _)) hgz (by omega) (by omega) (heap_alloc_new w1 _) strL).mono ?_
    rintro e w2 ⟨s, hs, rfl, hd2, hg2⟩
    replace HF := Lib.hid ((HF.out.below ((Below.refl _ _).alloc (Nat.le_refl _) _)).only hg2 (by omega))
    replace HO := Lib.hid ((only_below HO.out ((Below.refl _ _).alloc (Nat.le_refl _) _)).trans hg2)
    replace HD := Lib.hid hd2
    clear hd2 hg2 hgz
    go_wp2_with fail
    with_reducible refine (str_any s w2).mono ?_
    rintro e w3 ⟨rfl, hb2⟩
    replace HF := Lib.hid (HF.out.below hb2)
    replace HO := Lib.hid (only_below HO.out hb2)
    replace HD := Lib.hid (HD.out.below hb2)
    clear hb2
    have HV := Lib.hid (leaf_ret (W := W) (N := W.heap.size) 5 0 0 s (by unfold InI; omega) (by unfold InI; omega) (by unfold InI; omega) hs HD.out HO.out (Nat.le_refl _) hgl)
    have HP := Lib.hid (HF.out.put 5 0 0 s (.slice none 0 0))
    obtain ⟨q0, q1, q2, q3, q4, qf⟩ := HF.out.c
    obtain ⟨k0, k1, k2, k3, k4, _⟩ := HP.out.c
    unfold five at k0 k1 k2 k3 k4 HV
    clear HF HD HO HP
    go_wp2
    refine bodyPost_ret (v := .agg #[.int .i64 5, .int .i64 0, .int .i64 0, .string s, .slice none 0 0]) (by simp [results, Try.results41, go_sem, k0, k1, k2, k3, k4]) rfl ?_
    exact HV.out
  · have q : (x : Int) = 5 := by omega
    clear hq hx
    have hgz := HD.out.lt
    go_wp2_with fail
    with_reducible refine (some_any w1 g a len cap HD.out).mono ?_
    rintro e w2 ⟨s, hs, rfl, hd2, hg2⟩
    replace HF := Lib.hid (HF.out.only hg2 (by omega))
    replace HO := Lib.hid (HO.out.trans hg2)
    replace HD := Lib.hid hd2
    clear hd2 hg2 hgz
    go_wp2_with fail
    with_reducible refine (str_any s w2).mono ?_
    rintro e w3 ⟨rfl, hb2⟩
    replace HF := Lib.hid (HF.out.below hb2)
    replace HO := Lib.hid (only_below HO.out hb2)
    replace HD := Lib.hid (HD.out.below hb2)
    clear hb2
    have HV := Lib.hid (leaf_ret (W := W) (N := W.heap.size) 5 0 0 s (by unfold InI; omega) (by unfold InI; omega) (by unfold InI; omega) (by omega) HD.out HO.out (Nat.le_refl _) hgl)
    have HP := Lib.hid (HF.out.put 5 0 0 s (.slice none 0 0))
    obtain ⟨q0, q1, q2, q3, q4, qf⟩ := HF.out.c
    obtain ⟨k0, k1, k2, k3, k4, _⟩ := HP.out.c
    unfold five at k0 k1 k2 k3 k4 HV
    clear HF HD HO HP
    go_wp2
    refine bodyPost_ret (v := .agg #[.int .i64 5, .int .i64 0, .int .i64 0, .string s, .slice none 0 0]) (by simp [results, Try.results41, go_sem, k0, k1, k2, k3, k4]) rfl ?_
    exact HV.out
  · obtain ⟨hq, rfl⟩ := hq
    have q : (x : Int) = 2 := by omega
    clear hq hx
    have hgz := HD.out.lt
    go_wp2_with fail
    with_reducible refine (below_any w1 g a len cap 1000 (by omega) (by omega) HD.out).mono ?_
    rintro e w2 ⟨y, hy, rfl, hd2, hg2⟩
    replace HF := Lib.hid (HF.out.only hg2 (by omega))
    replace HO := Lib.hid (HO.out.trans hg2)
    replace HD := Lib.hid hd2
    clear hd2 hg2 hgz
    have hgz := HD.out.lt
    go_wp2_with fail
    with_reducible refine (pickInt_any _ g a len cap w2.heap.size 18 18 _ (HD.out.below ((Below.refl _ _).alloc (Nat.le_refl _) _)) hgz (by omega) (by omega) (heap_alloc_new w2 _) InI (intN y hy)).mono ?_
    rintro e w3 ⟨z, hz, rfl, hd2, hg2⟩
    replace HF := Lib.hid ((HF.out.below ((Below.refl _ _).alloc (Nat.le_refl _) _)).only hg2 (by omega))
    replace HO := Lib.hid ((only_below HO.out ((Below.refl _ _).alloc (Nat.le_refl _) _)).trans hg2)
    replace HD := Lib.hid hd2
    clear hd2 hg2 hgz
    have HZ := Lib.hid hz
    clear hz hy
    go_wp2_with fail
    with_reducible refine (num.int_any z w3).mono ?_
    rintro e w4 ⟨rfl, hb2⟩
    replace HF := Lib.hid (HF.out.below hb2)
    replace HO := Lib.hid (only_below HO.out hb2)
    replace HD := Lib.hid (HD.out.below hb2)
    clear hb2
    have HV := Lib.hid (leaf_ret (W := W) (N := W.heap.size) 3 z 0 ⟨#[]⟩ (by unfold InI; omega) HZ.out (by unfold InI; omega) (by decide) HD.out HO.out (Nat.le_refl _) hgl)
    have HP := Lib.hid (HF.out.put 3 z 0 ⟨#[]⟩ (.slice none 0 0))
    obtain ⟨q0, q1, q2, q3, q4, qf⟩ := HF.out.c
    obtain ⟨k0, k1, k2, k3, k4, _⟩ := HP.out.c
    unfold five at k0 k1 k2 k3 k4 HV
    clear HF HD HO HP
    go_wp2
    refine bodyPost_ret (v := .agg #[.int .i64 3, .int .i64 z, .int .i64 0, .string ⟨#[]⟩, .slice none 0 0]) (by simp [results, Try.results41, go_sem, k0, k1, k2, k3, k4]) rfl ?_
    exact HV.out
  · have q0 : ¬ (x : Int) = 0 := by omega
    have q1 : ¬ (x : Int) = 1 := by omega
    have q2 : ¬ (x : Int) = 2 := by omega
    have q3 : ¬ (x : Int) = 3 := by omega
    have q4 : ¬ (x : Int) = 4 := by omega
    have q5 : ¬ (x : Int) = 5 := by omega
    clear hq hx
    have hgz := HD.out.lt
    go_wp2_with fail
    with_reducible refine (below_any w1 g a len cap 1000 (by omega) (by omega) HD.out).mono ?_
    rintro e w2 ⟨y, hy, rfl, hd2, hg2⟩
    replace HF := Lib.hid (HF.out.only hg2 (by omega))
    replace HO := Lib.hid (HO.out.trans hg2)
    replace HD := Lib.hid hd2
    clear hd2 hg2 hgz
    have hgz := HD.out.lt
    go_wp2_with fail
    with_reducible refine (pickInt_any _ g a len cap w2.heap.size 18 18 _ (HD.out.below ((Below.refl _ _).alloc (Nat.le_refl _) _)) hgz (by omega) (by omega) (heap_alloc_new w2 _) InI (intN y hy)).mono ?_
    rintro e w3 ⟨z, hz, rfl, hd2, hg2⟩
    replace HF := Lib.hid ((HF.out.below ((Below.refl _ _).alloc (Nat.le_refl _) _)).only hg2 (by omega))
    replace HO := Lib.hid ((only_below HO.out ((Below.refl _ _).alloc (Nat.le_refl _) _)).trans hg2)
    replace HD := Lib.hid hd2
    clear hd2 hg2 hgz
    have HZ := Lib.hid hz
    clear hz hy
    go_wp2_with fail
    with_reducible refine (num.int_any z w3).mono ?_
    rintro e w4 ⟨rfl, hb2⟩
    replace HF := Lib.hid (HF.out.below hb2)
    replace HO := Lib.hid (only_below HO.out hb2)
    replace HD := Lib.hid (HD.out.below hb2)
    clear hb2
    have HV := Lib.hid (leaf_ret (W := W) (N := W.heap.size) 3 z 0 ⟨#[]⟩ (by unfold InI; omega) HZ.out (by unfold InI; omega) (by decide) HD.out HO.out (Nat.le_refl _) hgl)
    have HP := Lib.hid (HF.out.put 3 z 0 ⟨#[]⟩ (.slice none 0 0))
    obtain ⟨q0, q1, q2, q3, q4, qf⟩ := HF.out.c
    obtain ⟨k0, k1, k2, k3, k4, _⟩ := HP.out.c
    unfold five at k0 k1 k2 k3 k4 HV
    clear HF HD HO HP
    go_wp2
    refine bodyPost_ret (v := .agg #[.int .i64 3, .int .i64 z, .int .i64 0, .string ⟨#[]⟩, .slice none 0 0]) (by simp [results, Try.results41, go_sem, k0, k1, k2, k3, k4]) rfl ?_
    exact HV.out
end Go.Proofs.Ythjholhjkahdkaa.made
