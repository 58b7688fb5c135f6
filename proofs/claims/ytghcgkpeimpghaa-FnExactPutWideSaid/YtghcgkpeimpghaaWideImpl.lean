/-
  What impl's MessagePack writer does with a number: it adds its lowest bytes. What impl.PutWide returns.
-/
import Derived.Test.YtghcgkpeimpghaaWidePlain
import Derived.Test.YtghcgkpeimpghaaHeadWalk
import Derived.Test.YtghcgkpeimpghaaValOwn
import Derived.Test.YtghcgkpeimpghaaAppZero
import Derived.Deep.QuietTactic
namespace Go.Proofs.Ytghcgkpeimpghaa.wide
open Go.ChangeShapes Go.WideShapes Go.ChangeAt Go.RowKit Go.Proofs.Ytghcgkpeimpghaa.head
set_option maxRecDepth 100000

/-- A writer's block: one cell, its bytes, in blocks behind it. -/
structure Wm (W : World) (b : Nat) (v : Value) (l : List UInt8) : Prop where
  row : W.heap[b]? = some (.cells #[v] 69 (0, 0))
  own : OwnL W (b + 1) 5 encB v l
theorem Wm.cell {W : World} {b : Nat} {v : Value} {l : List UInt8} (h : Wm W b v l) : W.cell? ⟨b, 0, none⟩ = some v := cell_of_row W b 0 _ _ (0, 0) h.row
theorem Wm.frozen {W : World} {b : Nat} {v : Value} {l : List UInt8} (h : Wm W b v l) : W.frozen? ⟨b, 0, none⟩ = false := frozen_of_row W b 0 _ _ h.row
theorem Wm.lt {W : World} {b : Nat} {v : Value} {l : List UInt8} (h : Wm W b v l) : b < W.heap.size := (Array.getElem?_eq_some_iff.1 h.row).1
theorem Wm.put {W w1 : World} {b : Nat} {v v' : Value} {l l' : List UInt8} {o : Obj} (h : Wm W b v l) (ho : OwnL w1 (b + 1) 5 encB v' l') (hg : (W.alloc o).grownBy w1 v.ownBlock) :
    Wm (w1.setCell ⟨b, 0, none⟩ v') b v' l' ∧ Below b W (w1.setCell ⟨b, 0, none⟩ v') ∧ w1.cell? ⟨b, 0, none⟩ = some v ∧ w1.frozen? ⟨b, 0, none⟩ = false := by
  have hlt := h.lt
  have hne : ∀ k, v.ownBlock = some k → b + 1 ≤ k := fun k hk => h.own.base_le k hk
  have hne' : ∀ k, v'.ownBlock = some k → b + 1 ≤ k := fun k hk => ho.base_le k hk
  have hr : w1.heap[b]? = some (.cells #[v] 69 (0, 0)) := by
    rw [hg.block b (by simp; omega) (fun e => by have := hne b e.symm; omega), Below.heap_alloc _ _ _ hlt]
    exact h.row
  refine ⟨⟨?_, ?_⟩, ?_, cell_of_row w1 b 0 _ _ (0, 0) hr, frozen_of_row w1 b 0 _ _ hr⟩
  · have := val.blk_set (o := 0) hr v'
    simpa using this
  · obtain ⟨h1, h2⟩ := ho
    refine ⟨h1, ?_⟩
    rcases h2 with h2 | ⟨g, cap, cur, hv, hb, hg', rest⟩
    · exact .inl h2
    · exact .inr ⟨g, cap, cur, hv, hb, (val.blk_other v' (by omega)).trans hg', rest⟩
  · exact ((((Below.refl b W).alloc (by omega) o).grown hg (by simp; omega) (fun k hk => by have := hne k hk; omega))).setCell (p := ⟨b, 0, none⟩) (Nat.le_refl _) _
theorem Wm.drew {W : World} {b : Nat} {v : Value} {l : List UInt8} (h : Wm W b v l) : Wm W.drew b v l := ⟨h.row, h.own⟩
/-- A byte of its own is written. -/
theorem own_set {w : World} {base : Nat} {e : TypeId} {g n cap j : Nat} {l : List UInt8} (h : OwnL w base e encB (.slice (some ⟨g, 0, none⟩) n cap) l) (hj : j < l.length) (x : UInt8) : OwnL (w.setCell ⟨g, j, none⟩ (encB x)) base e encB (.slice (some ⟨g, 0, none⟩) n cap) (l.set j x) ∧ base ≤ g ∧ w.frozen? ⟨g, j, none⟩ = false := by
  obtain ⟨h1, h2⟩ := h
  rcases h2 with ⟨h2, _⟩ | ⟨g', cap', cur, hv, hb, hg', hc, hm, hs, ht⟩
  · cases h2
  · injection hv with hv1 hv2 hv3
    injection hv1 with hv1
    injection hv1 with hv1
    subst hv1 hv2 hv3
    refine ⟨⟨by simp, .inr ⟨g, _, cur.setIfInBounds j (encB x), by simp, hb, val.blk_set hg' _, by simpa using hc, hm, by simpa using hs, ?_⟩⟩, hb, frozen_of_row w g j _ _ hg'⟩
    rw [List.length_set, Array.toList_setIfInBounds, List.take_set, ht, List.map_set]
theorem Wm.byte {W : World} {b g n cap j : Nat} {l : List UInt8} (h : Wm W b (.slice (some ⟨g, 0, none⟩) n cap) l) (hj : j < l.length) (x : UInt8) : Wm (W.setCell ⟨g, j, none⟩ (encB x)) b (.slice (some ⟨g, 0, none⟩) n cap) (l.set j x) ∧ Below b W (W.setCell ⟨g, j, none⟩ (encB x)) ∧ W.frozen? ⟨g, j, none⟩ = false ∧ W.cell? ⟨g, j, none⟩ = some (encB l[j]) := by
  obtain ⟨h1, h2, h3⟩ := own_set h.own hj x
  exact ⟨⟨(val.blk_other _ (by omega)).trans h.row, h1⟩, (Below.refl b W).setCell (p := ⟨g, j, none⟩) (by show b ≤ g; omega) _, h3, h.own.cell j hj⟩
theorem zeros_enc (m : Nat) : (Array.replicate m (Value.int .u8 0)).toList = (List.replicate m (0 : UInt8)).map encB := by
  rw [Array.toList_replicate, List.map_replicate]
  rfl

theorem Wm.drewN {W : World} {b : Nat} {v : Value} {l : List UInt8} (h : Wm W b v l) (n : Nat) : Wm (W.drewN n) b v l := ⟨h.row, h.own⟩
/-- Behind 'w.out = append(w.out, make(..)...)'. -/
theorem Wm.more {W w1 : World} {b : Nat} {v v' : Value} {l l' : List UInt8} (h : Wm W b v l) (ho : OwnL w1 (b + 1) 5 encB v' l') (hg : W.grownBy w1 v.ownBlock) :
    Wm (w1.setCell ⟨b, 0, none⟩ v') b v' l' ∧ Below b W (w1.setCell ⟨b, 0, none⟩ v') ∧ w1.cell? ⟨b, 0, none⟩ = some v ∧ w1.frozen? ⟨b, 0, none⟩ = false := by
  have hlt := h.lt
  have hne : ∀ k, v.ownBlock = some k → b + 1 ≤ k := fun k hk => h.own.base_le k hk
  have hne' : ∀ k, v'.ownBlock = some k → b + 1 ≤ k := fun k hk => ho.base_le k hk
  have hr : w1.heap[b]? = some (.cells #[v] 69 (0, 0)) := by
    rw [hg.block b hlt (fun e => by have := hne b e.symm; omega)]
    exact h.row
  refine ⟨⟨?_, ?_⟩, ?_, cell_of_row w1 b 0 _ _ (0, 0) hr, frozen_of_row w1 b 0 _ _ hr⟩
  · have := val.blk_set (o := 0) hr v'
    simpa using this
  · obtain ⟨h1, h2⟩ := ho
    refine ⟨h1, ?_⟩
    rcases h2 with h2 | ⟨g, cap, cur, hv, hb, hg', rest⟩
    · exact .inl h2
    · exact .inr ⟨g, cap, cur, hv, hb, (val.blk_other v' (by omega)).trans hg', rest⟩
  · exact ((Below.refl b W).grown hg (by omega) (fun k hk => by have := hne k hk; omega)).setCell (p := ⟨b, 0, none⟩) (Nat.le_refl _) _
theorem ret_sub (g L m : Nat) : Ending.returned (.slice (some ⟨g, L, none⟩) (L + m - L) (L + m - L)) = .returned (.slice (some ⟨g, L, none⟩) m m) := by rw [Nat.add_sub_cancel_left]
theorem cap_ge {w : World} {base : Nat} {e : TypeId} {g m c : Nat} {l l' : List UInt8} (h : OwnL w base e encB (.slice (some ⟨g, 0, none⟩) (l.length + m) c) l') : l.length + m ≤ c := by
  obtain ⟨a, c', e1, h1, _, _⟩ := h.shape
  injection e1 with _ e2 e3
  omega
set_option maxHeartbeats 1000000 in
theorem room_any (m b : Nat) (v : Value) (l : List UInt8) (h1 : 1 ≤ m) (h8 : m ≤ 8) (hl : l.length ≤ 1000000000) (W : World) (hw : Wm W b v l) :
    Calls Try.prog 95 #[.pointer (some ⟨b, 0, none⟩), .int .i64 m] W fun e w' => ∃ g c, e = .returned (.slice (some ⟨g, l.length, none⟩) m m) ∧ Wm w' b (.slice (some ⟨g, 0, none⟩) (l.length + m) c) (l ++ List.replicate m 0) ∧ Below b W w' := by
  obtain ⟨i0, hi0, hz0, hz1, hz2⟩ := info_parts info8
  obtain ⟨a, c, rfl, hlc, hcm, _⟩ := hw.own.shape
  have HW := Lib.hid hw
  have hc := hw.cell
  have hf := hw.frozen
  have hlt := hw.lt
  clear hw
  go_enter Try.func95, Try.ntmps95
  go_wp2
  go_quiet (fail)
  replace HW := Lib.hid (HW.out.drewN nq)
  have HB0 := Lib.hid (belowN (Below.refl b W) nq)
  go_wp2_with (at_builtin; refine wpList_appz (by rfl) _ _ _ _ (by rfl) (b + 1) 5 i0 _ Try.underlying22 Try.underlying3 hi0 hz0 hz1 hz2 rfl rfl encB 0 rfl _ l (by rfl) HW.out.own m (by rfl) (by omega) (by omega) hl (by show b + 1 ≤ W.heap.size; omega) ?_; intro g1 c1 w1 hown1 hg1; have hc1 : l.length + m ≤ c1 := cap_ge hown1; obtain ⟨KW, KB, kc, kf⟩ := HW.out.more hown1 hg1; replace KW := Lib.hid KW; replace KB := Lib.hid KB; clear hown1 hg1)
  go_ret
  exact ⟨g1, c1, ret_sub _ _ _, KW.out, HB0.out.trans KB.out⟩
set_option maxHeartbeats 1000000 in
theorem put_wide_any (n : Int) (m b : Nat) (v : Value) (l : List UInt8) (hn : -9223372036854775808 ≤ n ∧ n ≤ 9223372036854775807) (h1 : 1 ≤ m) (h8 : m ≤ 8) (hl : l.length ≤ 1000000000) (W : World) (hw : Wm W b v l) :
    Calls Try.prog 64 #[.pointer (some ⟨b, 0, none⟩), .int .i64 n, .int .i64 m] W fun e w' => (∃ u, e = .returned u) ∧ (∃ v', Wm w' b v' (l ++ wideL n m)) ∧ Below b W w' := by
  have C := Lib.hid (room_any m b v l h1 h8 hl W hw)
  clear hw
  go_enter Try.func64, Try.ntmps64
  go_wp2_with fail
  with_reducible refine C.out.mono ?_
  rintro e w1 ⟨g, c, rfl, hw1, hb1⟩
  have HW1 := Lib.hid hw1
  have HB1 := Lib.hid hb1
  clear hw1 hb1 C
  go_wp2
  go_loopw [13] (fun x wr => ∃ k : Nat, x = .int .i64 k ∧ k ≤ m ∧ Hid (Wm wr b (.slice (some ⟨g, 0, none⟩) (l.length + m) c) (l ++ List.replicate (m - k) 0 ++ bigL (n % 18446744073709551616).toNat k)) ∧ Hid (Below b W wr)) (fun x _ => m - (intOf x).toNat)
  case atStart => exact ⟨0, rfl, Nat.zero_le _, by rw [bigL, List.append_nil]; exact HW1, HB1⟩
  case round =>
    obtain ⟨k, rfl, hk, HWk, HBk⟩ := hrel
    by_cases hlt : k < m
    · obtain ⟨D, hD, HD⟩ : ∃ D : Nat, 8 * (k : Int) = (D : Int) ∧ Hid (D = 8 * k) := ⟨8 * k, by omega, rfl⟩
      have hD2 : D < 64 := by have := HD.out; omega
      have hlen : (l ++ List.replicate (m - k) 0 ++ bigL (n % 18446744073709551616).toNat k).length = l.length + m := by simp [bigL_len]; omega
      obtain ⟨KW, KB, kf, kc⟩ := HWk.out.byte (j := l.length + (m - 1 - k)) (by rw [hlen]; omega) (UInt8.ofNat ((n % 18446744073709551616).toNat / 256 ^ k))
      rw [zeros_step l _ m k hlt, byte_at n k (by omega) D HD.out] at KW
      rw [byte_at n k (by omega) D HD.out] at KB
      replace KW := Lib.hid KW
      replace KB := Lib.hid (HBk.out.trans KB)
      have k1 : (k : Int) < (m : Int) := by omega
      have q0 : (0 : Int) ≤ (m : Int) - 1 - k := by omega
      have q1 : (m : Int) - 1 - k < (m : Int) := by omega
      have q2 : ((m : Int) - 1 - k).toNat = m - 1 - k := by omega
      obtain ⟨x0, hx0⟩ : ∃ x : Int, wr.cell? ⟨g, l.length + (m - 1 - k), none⟩ = some (.int .u8 x) := ⟨_, kc⟩
      clear kc HWk HBk hlen HW1 HB1
      go_wp2
      exact ⟨⟨k + 1, by go_num, by omega, KW, KB⟩, by simp [intOf]; omega⟩
    · have k1 : ¬ (k : Int) < (m : Int) := by omega
      have ek : k = m := by omega
      subst ek
      have HF : Hid (Wm wr b (.slice (some ⟨g, 0, none⟩) (l.length + k) c) (l ++ wideL n k)) := by
        have := HWk.out
        rw [Nat.sub_self, List.replicate_zero, List.append_nil] at this
        exact this
      clear HWk HW1 HB1
      go_wp2
      go_end0
      exact ⟨⟨_, rfl⟩, ⟨_, HF.out⟩, HBk.out⟩
theorem Wm.new (W : World) : Wm (W.alloc (.cells #[.slice none 0 0] 69)) W.heap.size (.slice none 0 0) [] := ⟨heap_alloc_new W _, OwnL.nil _ _ _ _⟩
set_option maxHeartbeats 1000000 in
theorem put_wide_impl (n m : Int) (hn : (Lit.int .i64 n).wf = true) (w : World) :
    Calls Try.prog 31 #[.int .i64 n, .int .i64 m] w fun e w' => e = .returned (.string (putWide n m)) ∧ Below w.heap.size w w' := by
  have n0 : -9223372036854775808 ≤ n ∧ n ≤ 9223372036854775807 := by
    simp [Lit.wf, IntKind.min, IntKind.max, IntKind.signed, IntKind.bits] at hn
    omega
  by_cases h : 1 ≤ m ∧ m ≤ 8
  · obtain ⟨k, rfl⟩ : ∃ k : Nat, m = k := ⟨m.toNat, by omega⟩
    have HV : Hid (putWide n k = ⟨(wideL n k).toArray⟩) := by unfold Hid putWide; rw [if_pos h]; rfl
    have C := Lib.hid (put_wide_any n k w.heap.size _ [] n0 (by omega) (by omega) (by simp) _ (Wm.new w))
    generalize putWide n k = R at *
    have h1 : ¬ (k : Int) < 1 := by omega
    have h2 : ¬ (8 : Int) < (k : Int) := by omega
    clear h hn n0
    go_enter Try.func31, Try.ntmps31
    go_wp2_with fail
    with_reducible refine C.out.mono ?_
    rintro r w1 ⟨⟨u, rfl⟩, ⟨v, hw⟩, hb⟩
    rw [List.nil_append] at hw
    obtain ⟨a, c, rfl, _⟩ := hw.own.shape
    have hc := run_string_own (P := Try.prog) 22 5 9 Try.underlying22 Try.underlying5 Try.underlying9 hw.own
    have hcell := hw.cell
    have HB : Hid (Below w.heap.size w w1) := ((Below.refl _ _).alloc (Nat.le_refl _) _).trans hb
    clear hw hb C
    go_wp2
    go_ret
    exact ⟨by rw [HV.out]; rfl, HB.out⟩
  · have HV : Hid (putWide n m = ⟨#[]⟩) := by unfold Hid putWide; rw [if_neg h]
    by_cases h1 : m < 1
    · clear h
      go_enter Try.func31, Try.ntmps31
      go_wp2
      go_ret
      exact ⟨by rw [HV.out]; rfl, Below.refl _ _⟩
    · have h2 : (8 : Int) < m := by omega
      clear h
      go_enter Try.func31, Try.ntmps31
      go_wp2
      go_ret
      exact ⟨by rw [HV.out]; rfl, Below.refl _ _⟩

end Go.Proofs.Ytghcgkpeimpghaa.wide
