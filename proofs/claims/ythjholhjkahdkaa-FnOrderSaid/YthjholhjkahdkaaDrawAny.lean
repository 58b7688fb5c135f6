/-
  The drawing functions of the laws on values: spec.l02Any.
-/
import Derived.Test.YthjholhjkahdkaaDrawAnyA
namespace Go.Proofs.Ythjholhjkahdkaa.made
open Go.ChangeShapes Go.WideShapes Go.ChangeAt Go.RowKit
open Go.Proofs.Ythjholhjkahdkaa.val Go.Proofs.Ythjholhjkahdkaa.draw
set_option maxRecDepth 100000

set_option maxHeartbeats 16000000 in
theorem any_any (W : World) (g : Nat) (a : Option Addr) (len cap : Nat) (hd : Draw W g a len cap) :
    Calls Try.prog 29 #[.pointer (some ⟨g, 0, none⟩)] W fun e w' => VRet W w' g a len cap 1400 e := by
  have hgl := hd.lt
  have HD0 := Lib.hid (hd.below ((Below.refl _ W).alloc (Nat.le_refl _) (.cells #[.int .i64 0, .int .i64 0, .int .i64 0, .string ⟨#[]⟩, .slice none 0 0] 26)))
  have C0 := Lib.hid (once_any (W.alloc (.cells #[.int .i64 0, .int .i64 0, .int .i64 0, .string ⟨#[]⟩, .slice none 0 0] 26)) g a len cap 3 (by omega) (by omega) HD0.out)
  clear hd
  go_enter Try.func29, Try.ntmps29
  go_wp2_with fail
  with_reducible refine C0.out.mono ?_
  rintro e w1 ⟨b, rfl, hd1, hg1⟩
  obtain ⟨hf1, ho1⟩ := box_only hg1 hgl rfl
  have C1 : Calls Try.prog 40 #[.pointer (some ⟨g, 0, none⟩), .int .i64 3, .bool b] w1 fun e w' => VRet w1 w' g a len cap (mz 3) e := make_any 3 (by omega) w1 g a len cap b hd1
  replace C1 := Lib.hid C1
  clear C0 HD0 hd1 hg1
  go_wp2_with fail
  with_reducible refine C1.out.mono ?_
  rintro e w2 ⟨t, rfl, hF, hd2, hz2, hw2⟩
  have hl1 := hf1.lt
  have hb2 : Below w2.heap.size w2 (w2.alloc (.cells #[.int .i64 t.k, .int .i64 t.n, .int .i64 t.e, .string t.s, t.row] 26)) := (Below.refl _ _).alloc (Nat.le_refl _) _
  have hm3 : mz 3 = 1008 := by decide
  have hA : AS W (w2.alloc (.cells #[.int .i64 t.k, .int .i64 t.n, .int .i64 t.e, .string t.s, t.row] 26)) W.heap.size w2.heap.size g a len cap 1008 t :=
    ⟨(hf1.only hF.only (by omega)).below hb2, Five.new w2 t.k t.n t.e t.s t.row, (FreshO.behind ho1 hF).more hb2, fun hm => by have := hF.new _ hm; omega, fun hm => by have := hF.tr.lt _ hm; omega, hd2.below hb2, by omega, (own_mono hw2 (by omega)).same fun k hk => hb2.block k (hw2.lt k hk).2⟩
  have hN3 : W.heap.size < w2.heap.size := by have := hF.only.size; omega
  have hrow : t.row = .slice t.a t.kids.length t.cap := rfl
  rw [hrow] at hA ⊢
  clear hrow
  have HA := Lib.hid hA
  have C2 := Lib.hid (below_any _ g a len cap 24 (by omega) (by omega) hA.dr)
  clear hA hb2 hm3 hF hd2 hz2 hw2 hf1 ho1 C1 hl1
  go_wp2_with fail
  with_reducible refine C2.out.mono ?_
  rintro e w4 ⟨x, hx, rfl, hd4, hg4⟩
  replace HA := Lib.hid (HA.out.grown hgl (by omega) (by omega) hg4 hd4)
  generalize w2.heap.size = N3 at *
  clear C2 hd4 hg4
  obtain ⟨i0, hi0, hz0, hz1, hz2⟩ := info_parts infoV
  rcases (show x = 0 ∨ x = 1 ∨ x = 2 ∨ x = 3 ∨ x = 4 ∨ x = 5 ∨ 6 ≤ x by omega) with hq | hq | hq | hq | hq | hq | hq
  · have q : (x : Int) = 0 := by omega
    clear hq hx
    have hgz := HA.out.dr.lt
    go_wp2_with fail
    with_reducible refine (below_any w4 g a len cap 12 (by omega) (by omega) HA.out.dr).mono ?_
    rintro e w5 ⟨y, hy, rfl, hd2, hg2⟩
    replace HA := Lib.hid (HA.out.grown hgl (by omega) (by omega) hg2 hd2)
    clear hd2 hg2 hgz
    obtain ⟨d0, d1, d2, d3, d4, df⟩ := HA.out.f3.c
    replace HA := Lib.hid (HA.out.kind (by omega) (by omega) (by omega) ((y : Int) - 1) (by unfold InI; omega))
    obtain ⟨hP0, hV0⟩ := (HA.out.mono (Z' := 1400) (by omega)).fin hgl (Nat.le_refl _)
    have hQ0 := HA.out.f3
    have hP : Five (five (w5.setCell ⟨N3, 0, none⟩ (.int .i64 ((y : Int) - 1))) W.heap.size ((y : Int) - 1) t.n t.e t.s (.slice t.a t.kids.length t.cap)) W.heap.size ((y : Int) - 1) t.n t.e t.s (.slice t.a t.kids.length t.cap) := hP0
    have HV : Hid (VRet W (five (w5.setCell ⟨N3, 0, none⟩ (.int .i64 ((y : Int) - 1))) W.heap.size ((y : Int) - 1) t.n t.e t.s (.slice t.a t.kids.length t.cap)) g a len cap 1400 (.returned (.agg #[.int .i64 ((y : Int) - 1), .int .i64 t.n, .int .i64 t.e, .string t.s, .slice t.a t.kids.length t.cap]))) := hV0
    have hQ : Five (w5.setCell ⟨N3, 0, none⟩ (.int .i64 ((y : Int) - 1))) N3 ((y : Int) - 1) t.n t.e t.s (.slice t.a t.kids.length t.cap) := hQ0
    obtain ⟨c0, c1, c2, c3, c4, cf⟩ := hQ.c
    obtain ⟨q0, q1, q2, q3, q4, qf⟩ := HA.out.f2.c
    obtain ⟨k0, k1, k2, k3, k4, _⟩ := hP.c
    unfold five at k0 k1 k2 k3 k4 HV
    clear HA hP hP0 hV0 hQ hQ0
    go_wp2
    refine bodyPost_ret (v := .agg #[.int .i64 ((y : Int) - 1), .int .i64 t.n, .int .i64 t.e, .string t.s, .slice t.a t.kids.length t.cap]) (by simp [results, Try.results29, go_sem, k0, k1, k2, k3, k4]) rfl ?_
    exact HV.out
  · have q : (x : Int) = 1 := by omega
    clear hq hx
    have hgz := HA.out.dr.lt
    go_wp2_with fail
    with_reducible refine (pickInt_any _ g a len cap w4.heap.size 4 4 _ (HA.out.dr.below ((Below.refl _ _).alloc (Nat.le_refl _) _)) hgz (by omega) (by omega) (heap_alloc_new w4 _) InI anyN).mono ?_
    rintro e w5 ⟨z, hz, rfl, hd2, hg2⟩
    replace HA := Lib.hid (HA.out.grown hgl (by omega) (by omega) (only_of_alloc w4 _ hg2) hd2)
    clear hd2 hg2 hgz
    obtain ⟨d0, d1, d2, d3, d4, df⟩ := HA.out.f3.c
    have HZ := Lib.hid hz
    clear hz
    replace HA := Lib.hid (HA.out.num (by omega) (by omega) (by omega) z HZ.out)
    obtain ⟨hP0, hV0⟩ := (HA.out.mono (Z' := 1400) (by omega)).fin hgl (Nat.le_refl _)
    have hQ0 := HA.out.f3
    have hP : Five (five (w5.setCell ⟨N3, 1, none⟩ (.int .i64 z)) W.heap.size t.k z t.e t.s (.slice t.a t.kids.length t.cap)) W.heap.size t.k z t.e t.s (.slice t.a t.kids.length t.cap) := hP0
    have HV : Hid (VRet W (five (w5.setCell ⟨N3, 1, none⟩ (.int .i64 z)) W.heap.size t.k z t.e t.s (.slice t.a t.kids.length t.cap)) g a len cap 1400 (.returned (.agg #[.int .i64 t.k, .int .i64 z, .int .i64 t.e, .string t.s, .slice t.a t.kids.length t.cap]))) := hV0
    have hQ : Five (w5.setCell ⟨N3, 1, none⟩ (.int .i64 z)) N3 t.k z t.e t.s (.slice t.a t.kids.length t.cap) := hQ0
    obtain ⟨c0, c1, c2, c3, c4, cf⟩ := hQ.c
    obtain ⟨q0, q1, q2, q3, q4, qf⟩ := HA.out.f2.c
    obtain ⟨k0, k1, k2, k3, k4, _⟩ := hP.c
    unfold five at k0 k1 k2 k3 k4 HV
    clear HA hP hP0 hV0 hQ hQ0
    go_wp2
    refine bodyPost_ret (v := .agg #[.int .i64 t.k, .int .i64 z, .int .i64 t.e, .string t.s, .slice t.a t.kids.length t.cap]) (by simp [results, Try.results29, go_sem, k0, k1, k2, k3, k4]) rfl ?_
    exact HV.out
  · have q : (x : Int) = 2 := by omega
    clear hq hx
    have CL := Lib.hid (fun w h => leaf_any w g a len cap false h)
    obtain ⟨c0, c1, c2, c3, c4, cf⟩ := HA.out.f3.c
    have HKL : Hid (t.kids.length ≤ 1008) := by
      have h1 := HA.out.sz
      obtain ⟨_, _, _, _, _, _, kids⟩ := t
      rw [LT.sz] at h1
      have := szL_len kids
      unfold Hid
      simp only [LT.kids]
      omega
    go_upto_region 8 with (fail)
    clear q
    go_region_law
      (first
      | (have _q := hF
         refine step_appN (by rfl) _ _ (by rfl) Try.underlying24 i0 _ hi0 hz0 hz1 hz2 rfl W.heap.size (.slice t.a t.kids.length t.cap) t.kids [u] 1 rfl (by rfl) (hA4.below ((Below.refl _ _).alloc (Nat.le_refl _) (box5 u))).own ⟨w5.heap.size, 0, none⟩ 1 (by rfl) (one_at w5 u) (by have := HKL.out; omega) (hA4.below ((Below.refl _ _).alloc (Nat.le_refl _) (box5 u))).fr.only.size ?_
         intro v' w6 ho5 hg5 hv5
         obtain ⟨va', vc', rfl⟩ := row_slice ho5
         rw [List.length_append, List.length_singleton] at ho5 hv5
         obtain ⟨g7, hAN⟩ := HA.out.app (Z' := 1400) hA4 hgl (by omega) (by omega) (by omega) hF.undrew (by omega) ho5 hg5 hv5
         have g5 : w6.cell? ⟨N3, 4, none⟩ = some (.slice t.a t.kids.length t.cap) := g7.c.c4
         have gf5 : w6.frozen? ⟨N3, 4, none⟩ = false := g7.c.fr 4)
      | (go_simp
         go_at_call 41
         with_reducible refine (CL.out _ HA.out.drew.dr).mono ?_
         rintro e w5 ⟨u, rfl, hF, hd8, hz8, hown⟩
         have hA4 := HA.out.grown hgl (by omega) (by omega) hF.undrew.only hd8
         have g4 : w5.cell? ⟨N3, 4, none⟩ = some (.slice t.a t.kids.length t.cap) := hA4.f3.c.c4
         have g4a : (w5.alloc (.cells #[.int .i64 u.k, .int .i64 u.n, .int .i64 u.e, .string u.s, u.row] 26)).cell? ⟨N3, 4, none⟩ = some (.slice t.a t.kids.length t.cap) := (hA4.f3.below ((Below.refl _ _).alloc (Nat.le_refl _) _)).c.c4)
      | fail)
    all_goals
      have HA2 := Lib.hid hAN
      clear HA hAN hA4 ho5 hg5 hv5 g5 gf5 g7 _q hF hd8 hown g4 g4a hz8 c0 c1 c2 c3 c4 cf CL HKL hi0 hz0 hz1 hz2
      obtain ⟨hP0, hV0⟩ := (HA2.out.mono (Z' := 1400) (by omega)).fin hgl (Nat.le_refl _)
      have hQ0 := HA2.out.f3
      rw [row_app] at hP0 hV0 hQ0
      have hP : Five (five (w6.setCell ⟨N3, 4, none⟩ (.slice va' (t.kids.length + 1) vc')) W.heap.size t.k t.n t.e t.s (.slice va' (t.kids.length + 1) vc')) W.heap.size t.k t.n t.e t.s (.slice va' (t.kids.length + 1) vc') := hP0
      have HV : Hid (VRet W (five (w6.setCell ⟨N3, 4, none⟩ (.slice va' (t.kids.length + 1) vc')) W.heap.size t.k t.n t.e t.s (.slice va' (t.kids.length + 1) vc')) g a len cap 1400 (.returned (.agg #[.int .i64 t.k, .int .i64 t.n, .int .i64 t.e, .string t.s, .slice va' (t.kids.length + 1) vc']))) := hV0
      have hQ : Five (w6.setCell ⟨N3, 4, none⟩ (.slice va' (t.kids.length + 1) vc')) N3 t.k t.n t.e t.s (.slice va' (t.kids.length + 1) vc') := hQ0
      obtain ⟨c0, c1, c2, c3, c4, cf⟩ := hQ.c
      obtain ⟨q0, q1, q2, q3, q4, qf⟩ := HA2.out.f2.c
      obtain ⟨k0, k1, k2, k3, k4, _⟩ := hP.c
      unfold five at k0 k1 k2 k3 k4 HV
      clear HA2 hP hP0 hV0 hQ hQ0
      go_wp2
      refine bodyPost_ret (v := .agg #[.int .i64 t.k, .int .i64 t.n, .int .i64 t.e, .string t.s, .slice va' (t.kids.length + 1) vc']) (by simp [results, Try.results29, go_sem, k0, k1, k2, k3, k4]) rfl ?_
      exact HV.out
  · have q : (x : Int) = 3 := by omega
    clear hq hx
    go_wp2_with fail
    with_reducible refine (str_any ⟨#[97]⟩ w4).mono ?_
    rintro e w5 ⟨rfl, hb2⟩
    replace HA := Lib.hid (HA.out.below hb2)
    clear hb2
    go_wp2_with fail
    with_reducible refine (num.int_any 1 w5).mono ?_
    rintro e w6 ⟨rfl, hb2⟩
    replace HA := Lib.hid (HA.out.below hb2)
    clear hb2
    go_wp2_with fail
    with_reducible refine (str_any ⟨#[97]⟩ w6).mono ?_
    rintro e w7 ⟨rfl, hb2⟩
    replace HA := Lib.hid (HA.out.below hb2)
    clear hb2
    go_wp2_with fail
    with_reducible refine (num.int_any 2 w7).mono ?_
    rintro e w8 ⟨rfl, hb2⟩
    replace HA := Lib.hid (HA.out.below hb2)
    clear hb2
    obtain ⟨hP, hV⟩ := lit_fin HA.out hgl (Nat.le_refl _)
    have HV := Lib.hid hV
    obtain ⟨q0, q1, q2, q3, q4, qf⟩ := (HA.out.f2.below ((Below.refl _ w8).alloc (Nat.le_refl _) (.cells #[.int .i64 5, .int .i64 0, .int .i64 0, .string ⟨#[97]⟩, .slice none 0 0, .int .i64 3, .int .i64 1, .int .i64 0, .string ⟨#[]⟩, .slice none 0 0, .int .i64 5, .int .i64 0, .int .i64 0, .string ⟨#[97]⟩, .slice none 0 0, .int .i64 3, .int .i64 2, .int .i64 0, .string ⟨#[]⟩, .slice none 0 0] 26))).c
    obtain ⟨k0, k1, k2, k3, k4, _⟩ := hP.c
    unfold five at k0 k1 k2 k3 k4 HV
    clear HA hP hV
    go_wp2
    refine bodyPost_ret (v := .agg #[.int .i64 8, .int .i64 0, .int .i64 0, .string ⟨#[]⟩, .slice (some ⟨w8.heap.size, 0, none⟩) 4 4]) (by simp [results, Try.results29, go_sem, k0, k1, k2, k3, k4]) rfl ?_
    exact HV.out
  · have q : (x : Int) = 4 := by omega
    clear hq hx
    have hgz := HA.out.dr.lt
    go_wp2_with fail
    with_reducible refine (below_any w4 g a len cap 3 (by omega) (by omega) HA.out.dr).mono ?_
    rintro e w5 ⟨y, hy, rfl, hd2, hg2⟩
    replace HA := Lib.hid (HA.out.grown hgl (by omega) (by omega) hg2 hd2)
    clear hd2 hg2 hgz
    go_wp2_with fail
    go_loopw [5] (fun i wr => ∃ (j : Nat) (t' : LT), i = .int .i64 j ∧ j ≤ 11 + y ∧ Hid (AS W wr W.heap.size N3 g a len cap (1008 + j) t')) (fun i _ => 11 + y - (intOf i).toNat)
    case atStart => exact ⟨0, t, rfl, Nat.zero_le _, HA⟩
    case round =>
      clear HA
      obtain ⟨j, t', rfl, hj, HA⟩ := hrel
      have hrow' : t'.row = .slice t'.a t'.kids.length t'.cap := rfl
      by_cases hjn : j < 11 + y
      · have hj1 : (j : Int) < 11 + (y : Int) := by omega
        have HW := HA.out.wrap (by omega) (Nat.le_refl _) (by omega) (by omega)
        unfold five box5 at HW
        obtain ⟨c0, c1, c2, c3, c4, cf⟩ := HA.out.f3.c
        have hbA : Below wr.heap.size wr (wr.alloc (.cells #[.int .i64 t'.k, .int .i64 t'.n, .int .i64 t'.e, .string t'.s, t'.row] 26)) := (Below.refl _ _).alloc (Nat.le_refl _) _
        obtain ⟨d0, d1, d2, d3, d4, df⟩ := (HA.out.f3.below hbA).c
        rw [hrow'] at HW c4 d0 d1 d2 d3 d4 df
        replace HW := Lib.hid HW
        clear HA hbA hrow'
        go_wp2
        go_roundw
        case rel => exact ⟨j + 1, _, by go_num, by omega, by have := HW.out; rw [Nat.add_assoc] at this; exact this⟩
        case measure => simp [intOf]; omega
      · have hj1 : ¬ (j : Int) < 11 + (y : Int) := by omega
        clear hrow'
        obtain ⟨hP0, hV0⟩ := (HA.out.mono (Z' := 1400) (by omega)).fin hgl (Nat.le_refl _)
        have hQ0 := HA.out.f3
        have hP : Five (five wr W.heap.size t'.k t'.n t'.e t'.s (.slice t'.a t'.kids.length t'.cap)) W.heap.size t'.k t'.n t'.e t'.s (.slice t'.a t'.kids.length t'.cap) := hP0
        have HV : Hid (VRet W (five wr W.heap.size t'.k t'.n t'.e t'.s (.slice t'.a t'.kids.length t'.cap)) g a len cap 1400 (.returned (.agg #[.int .i64 t'.k, .int .i64 t'.n, .int .i64 t'.e, .string t'.s, .slice t'.a t'.kids.length t'.cap]))) := hV0
        have hQ : Five wr N3 t'.k t'.n t'.e t'.s (.slice t'.a t'.kids.length t'.cap) := hQ0
        obtain ⟨c0, c1, c2, c3, c4, cf⟩ := hQ.c
        obtain ⟨q0, q1, q2, q3, q4, qf⟩ := HA.out.f2.c
        obtain ⟨k0, k1, k2, k3, k4, _⟩ := hP.c
        unfold five at k0 k1 k2 k3 k4 HV
        clear HA hP hP0 hV0 hQ hQ0
        go_wp2
        refine bodyPost_ret (v := .agg #[.int .i64 t'.k, .int .i64 t'.n, .int .i64 t'.e, .string t'.s, .slice t'.a t'.kids.length t'.cap]) (by simp [results, Try.results29, go_sem, k0, k1, k2, k3, k4]) rfl ?_
        exact HV.out
  · have q : (x : Int) = 5 := by omega
    clear hq hx
    have hgz := HA.out.dr.lt
    go_wp2_with fail
    with_reducible refine (below_any w4 g a len cap 3 (by omega) (by omega) HA.out.dr).mono ?_
    rintro e w5 ⟨y, hy, rfl, hd2, hg2⟩
    replace HA := Lib.hid (HA.out.grown hgl (by omega) (by omega) hg2 hd2)
    clear hd2 hg2 hgz
    obtain ⟨d0, d1, d2, d3, d4, df⟩ := HA.out.f3.c
    have HR := HA.out.reset (by omega) (by omega) (by omega)
    unfold five at HR
    replace HR := Lib.hid HR
    clear HA
    go_wp2_with fail
    clear d0 d1 d2 d3 d4 df
    go_loopw [7] (fun i wr => ∃ (j : Nat) (va : Option Addr) (vc : Nat) (kids : List LT), i = .int .i64 j ∧ j ≤ 298 + y ∧ Hid (kids.length = j) ∧ Hid (AS W wr W.heap.size N3 g a len cap j (.mk 7 0 0 ⟨#[]⟩ va vc kids))) (fun i _ => 298 + y - (intOf i).toNat)
    case atStart => exact ⟨0, none, 0, [], rfl, Nat.zero_le _, rfl, HR⟩
    case round =>
      clear HR
      obtain ⟨j, va, vc, kids, rfl, hj, HJ, HA⟩ := hrel
      by_cases hjn : j < 298 + y
      · have hj1 : (j : Int) < 298 + (y : Int) := by omega
        have hQ : Five wr N3 7 0 0 ⟨#[]⟩ (.slice va kids.length vc) := HA.out.f3
        obtain ⟨c0, c1, c2, c3, c4, cf⟩ := hQ.c
        have hbz : Below wr.heap.size wr (wr.alloc (.cells #[.int .i64 0, .int .i64 0, .int .i64 0, .string ⟨#[]⟩, .slice none 0 0] 26)) := (Below.refl _ _).alloc (Nat.le_refl _) _
        have HOW : Hid (OwnR (wr.alloc (.cells #[.int .i64 0, .int .i64 0, .int .i64 0, .string ⟨#[]⟩, .slice none 0 0] 26)) W.heap.size (.slice va kids.length vc) kids) := (HA.out.below hbz).own
        have HTP := Lib.hid (HA.out.below hbz).fr.only.size
        clear hQ hbz
        go_wp2_with (at_builtin; refine wpList_appN (by rfl) _ _ (by rfl) Try.underlying24 i0 _ hi0 hz0 hz1 hz2 rfl W.heap.size (.slice va kids.length vc) kids [zeroT] 1 rfl (by rfl) HOW.out ⟨wr.heap.size, 0, none⟩ 1 (by rfl) (one_at wr zeroT) (by have := HJ.out; omega) HTP.out ?_; intro v' w6 ho5 hg5 hv5; obtain ⟨va', vc', rfl⟩ := row_slice ho5;     rw [List.length_append, List.length_singleton] at ho5 hv5; obtain ⟨g7, hAN⟩ := HA.out.app (Z' := j + 1) HA.out hgl (by omega) (by omega) (by omega) (zero_fresh wr g) (by show j + 1 + 0 ≤ j + 1; omega) ho5 hg5 hv5; have g8 : Five w6 N3 7 0 0 ⟨#[]⟩ (.slice va kids.length vc) := g7; obtain ⟨b0, b1, b2, b3, b4, bf⟩ := g8.c; have HA2 : Hid (AS W (w6.setCell ⟨N3, 4, none⟩ (.slice va' (kids.length + 1) vc')) W.heap.size N3 g a len cap (j + 1) (.mk 7 0 0 ⟨#[]⟩ va' vc' (kids ++ [zeroT]))) := hAN; clear HA hAN ho5 hg5 hv5 g7 g8 HOW HTP c0 c1 c2 c3 c4 cf)
        go_roundw
        case rel => exact ⟨j + 1, va', vc', kids ++ [zeroT], by go_num, by omega, by have := HJ.out; unfold Hid; rw [List.length_append, List.length_singleton, this], HA2⟩
        case measure => simp [intOf]; omega
      · have hj1 : ¬ (j : Int) < 298 + (y : Int) := by omega
        clear HJ hi0 hz0 hz1 hz2
        obtain ⟨hP0, hV0⟩ := (HA.out.mono (Z' := 1400) (by omega)).fin hgl (Nat.le_refl _)
        have hQ0 := HA.out.f3
        have hP : Five (five wr W.heap.size 7 0 0 ⟨#[]⟩ (.slice va kids.length vc)) W.heap.size 7 0 0 ⟨#[]⟩ (.slice va kids.length vc) := hP0
        have HV : Hid (VRet W (five wr W.heap.size 7 0 0 ⟨#[]⟩ (.slice va kids.length vc)) g a len cap 1400 (.returned (.agg #[.int .i64 7, .int .i64 0, .int .i64 0, .string ⟨#[]⟩, .slice va kids.length vc]))) := hV0
        have hQ : Five wr N3 7 0 0 ⟨#[]⟩ (.slice va kids.length vc) := hQ0
        obtain ⟨c0, c1, c2, c3, c4, cf⟩ := hQ.c
        obtain ⟨q0, q1, q2, q3, q4, qf⟩ := HA.out.f2.c
        obtain ⟨k0, k1, k2, k3, k4, _⟩ := hP.c
        unfold five at k0 k1 k2 k3 k4 HV
        clear HA hP hP0 hV0 hQ hQ0
        go_wp2
        refine bodyPost_ret (v := .agg #[.int .i64 7, .int .i64 0, .int .i64 0, .string ⟨#[]⟩, .slice va kids.length vc]) (by simp [results, Try.results29, go_sem, k0, k1, k2, k3, k4]) rfl ?_
        exact HV.out
  · have q0 : ¬ (x : Int) = 0 := by omega
    have q1 : ¬ (x : Int) = 1 := by omega
    have q2 : ¬ (x : Int) = 2 := by omega
    have q3 : ¬ (x : Int) = 3 := by omega
    have q4 : ¬ (x : Int) = 4 := by omega
    have q5 : ¬ (x : Int) = 5 := by omega
    clear hq hx
    go_upto_region 24 with (fail)
    clear q0 q1 q2 q3 q4 q5
    obtain ⟨hP0, hV0⟩ := (HA.out.mono (Z' := 1400) (by omega)).fin hgl (Nat.le_refl _)
    have hQ0 := HA.out.f3
    have hP : Five (five w4 W.heap.size t.k t.n t.e t.s (.slice t.a t.kids.length t.cap)) W.heap.size t.k t.n t.e t.s (.slice t.a t.kids.length t.cap) := hP0
    have HV : Hid (VRet W (five w4 W.heap.size t.k t.n t.e t.s (.slice t.a t.kids.length t.cap)) g a len cap 1400 (.returned (.agg #[.int .i64 t.k, .int .i64 t.n, .int .i64 t.e, .string t.s, .slice t.a t.kids.length t.cap]))) := hV0
    have hQ : Five w4 N3 t.k t.n t.e t.s (.slice t.a t.kids.length t.cap) := hQ0
    obtain ⟨c0, c1, c2, c3, c4, cf⟩ := hQ.c
    obtain ⟨q0, q1, q2, q3, q4, qf⟩ := HA.out.f2.c
    obtain ⟨k0, k1, k2, k3, k4, _⟩ := hP.c
    unfold five at k0 k1 k2 k3 k4 HV
    clear HA hP hP0 hV0 hQ hQ0
    go_wp2
    refine bodyPost_ret (v := .agg #[.int .i64 t.k, .int .i64 t.n, .int .i64 t.e, .string t.s, .slice t.a t.kids.length t.cap]) (by simp [results, Try.results29, go_sem, k0, k1, k2, k3, k4]) rfl ?_
    exact HV.out
end Go.Proofs.Ythjholhjkahdkaa.made
