/-
  What impl.PutHead and the writer's putHead do: they add the shortest head of a major type and a number.
-/
import Derived.Test.YtnaghafmpncdkaaDoorHeadWalk
import Derived.Test.YtnaghafmpncdkaaDoorValOwn
namespace Go.Proofs.YtnaghafmpncdkaaDoor.head
open Go.ChangeShapes Go.WideShapes Go.ChangeAt Go.RowKit
set_option maxRecDepth 100000

/-- A writer's block: one cell, its bytes, in blocks behind it. -/
structure Wr (W : World) (b : Nat) (v : Value) (l : List UInt8) : Prop where
  row : W.heap[b]? = some (.cells #[v] 167 (0, 0))
  own : OwnL W (b + 1) 5 encB v l
theorem Wr.cell {W : World} {b : Nat} {v : Value} {l : List UInt8} (h : Wr W b v l) : W.cell? ⟨b, 0, none⟩ = some v := cell_of_row W b 0 _ _ (0, 0) h.row
theorem Wr.frozen {W : World} {b : Nat} {v : Value} {l : List UInt8} (h : Wr W b v l) : W.frozen? ⟨b, 0, none⟩ = false := frozen_of_row W b 0 _ _ h.row
theorem Wr.lt {W : World} {b : Nat} {v : Value} {l : List UInt8} (h : Wr W b v l) : b < W.heap.size := (Array.getElem?_eq_some_iff.1 h.row).1
/-- Behind 'w.out = append(w.out, ..)'. -/
theorem Wr.put {W w1 : World} {b : Nat} {v v' : Value} {l l' : List UInt8} {o : Obj} (h : Wr W b v l) (ho : OwnL w1 (b + 1) 5 encB v' l') (hg : (W.alloc o).grownBy w1 v.ownBlock) :
    Wr (w1.setCell ⟨b, 0, none⟩ v') b v' l' ∧ Below b W (w1.setCell ⟨b, 0, none⟩ v') ∧ w1.cell? ⟨b, 0, none⟩ = some v ∧ w1.frozen? ⟨b, 0, none⟩ = false := by
  have hlt := h.lt
  have hne : ∀ k, v.ownBlock = some k → b + 1 ≤ k := fun k hk => h.own.base_le k hk
  have hne' : ∀ k, v'.ownBlock = some k → b + 1 ≤ k := fun k hk => ho.base_le k hk
  have hr : w1.heap[b]? = some (.cells #[v] 167 (0, 0)) := by
    rw [hg.block b (by simp; omega) (fun e => by have := hne b e.symm; omega), Below.heap_alloc _ _ _ hlt]
    exact h.row
  refine ⟨⟨?_, ?_⟩, ?_, cell_of_row w1 b 0 _ _ (0, 0) hr, frozen_of_row w1 b 0 _ _ hr⟩
  · have := val.blk_set (o := 0) hr v'
    simpa using this
  · obtain ⟨h1, h2⟩ := ho
    refine ⟨h1, ?_⟩
    rcases h2 with h2 | ⟨g, cap, cur, hv, hb, hg', rest⟩
    · exact .inl h2
    · exact .inr ⟨g, cap, cur, hv, hb, (val.blk_other v' (by omega)).trans hg', rest⟩
  · exact ((((Below.refl b W).alloc (by omega) o).grown hg (by simp; omega) (fun k hk => by have := hne k hk; omega))).setCell (p := ⟨b, 0, none⟩) (Nat.le_refl _) _
theorem Wr.drew {W : World} {b : Nat} {v : Value} {l : List UInt8} (h : Wr W b v l) : Wr W.drew b v l := ⟨h.row, h.own⟩
theorem Wr.putDrew {W w1 : World} {b : Nat} {v v' : Value} {l l' : List UInt8} {o : Obj} (h : Wr W b v l) (ho : OwnL w1 (b + 1) 5 encB v' l') (hg : (W.alloc o).drew.grownBy w1 v.ownBlock) :
    Wr (w1.setCell ⟨b, 0, none⟩ v') b v' l' ∧ Below b W (w1.setCell ⟨b, 0, none⟩ v') ∧ w1.cell? ⟨b, 0, none⟩ = some v ∧ w1.frozen? ⟨b, 0, none⟩ = false :=
  h.put (o := o) ho ⟨hg.os, hg.tape, hg.output, hg.size, hg.block⟩
theorem enc_at (x : Int) (k : Nat) (h : x = (k : Int)) (hk : k < 256) : encB (UInt8.ofNat k) = .int .u8 x := by
  rw [enc_low, h]
  congr 1
  omega

theorem shr_at (n D k : Nat) (h : D = 8 * k) : (n : Int) / 2 ^ D = ((n / 256 ^ k : Nat) : Int) := by
  rw [h, Int.pow_mul]
  simp
/-- What a call that adds bytes leaves. -/
structure PutRet (W w' : World) (b : Nat) (l : List UInt8) : Prop where
  ex : ∃ v', Wr w' b v' l
  below : Below b W w'
set_option maxHeartbeats 1000000 in
theorem put_any (m n b : Nat) (v : Value) (l : List UInt8) (hm : m < 8) (hn : n < 18446744073709551616) (hl : l.length ≤ 1000000000) (W : World) (hw : Wr W b v l) :
    Calls Tryd.prog 121 #[.pointer (some ⟨b, 0, none⟩), .int .i64 m, .int .u64 n] W fun e w' => (∃ u, e = .returned u) ∧ PutRet W w' b (l ++ headL m n) := by
  obtain ⟨i0, hi0, hz0, hz1, hz2⟩ := info_parts info8
  obtain ⟨a, c, rfl, _⟩ := hw.own.shape
  have HW := Lib.hid hw
  have hc := hw.cell
  have hf := hw.frozen
  have hlt := hw.lt
  clear hw
  by_cases h24 : n < 24
  · rw [headL_small h24]
    have he : encB (UInt8.ofNat (32 * m + n)) = .int .u8 ((m : Int) * 32 + n) := enc_at _ _ (by omega) (by omega)
    go_enter Tryd.func121, Tryd.ntmps121
    go_wp2_with (at_builtin; refine wpList_app (by rfl) _ _ _ (by rfl) (b + 1) 5 encB i0 _ 1 Tryd.underlying109 hi0 hz0 hz1 hz2 rfl oneB _ l (by rfl) (HW.out.own.alloc _) W.heap.size 1 1 [UInt8.ofNat (32 * m + n)] (by rfl) (by rfl) _ (heap_alloc_new W _) (by rw [List.map_singleton, he]) (by unfold maxLen; omega) (by omega) (by simp; omega) ?_; intro v1 w1 hown1 hg1; obtain ⟨KW, KB, kc, kf⟩ := HW.out.put hown1 hg1; obtain ⟨a1, c1, rfl, _⟩ := hown1.shape; rw [List.length_append, List.length_singleton] at KW KB; replace KW := Lib.hid KW; replace KB := Lib.hid KB; clear hown1 hg1)
    refine bodyPost_ret (results_none rfl _ _ _) rfl ?_
    exact ⟨⟨_, rfl⟩, ⟨_, KW.out⟩, KB.out⟩
  · have HR := Lib.hid (headL_big (m := m) h24)
    generalize headL m n = R at *
    have h24' : ¬ (n : Int) < 24 := by omega
    go_enter Tryd.func121, Tryd.ntmps121
    go_wp2
    go_loop [7] (fun i => ∃ k : Nat, i = .int .i64 k ∧ k ≤ wid n) (fun i => 3 - (intOf i).toNat)
    case atStart => exact ⟨0, rfl, Nat.zero_le _⟩
    case round =>
      obtain ⟨k, rfl, hk⟩ := hrel
      have h3 := wid_le n
      by_cases h0 : k = 0
      · subst h0
        by_cases hw : n < 256
        · replace hw : wid n = 0 := by unfold wid at *; (repeat' split at *) <;> omega
          have hx : decide ((0 : Int) < (n : Int) / 256) = false := decide_eq_false (by have : n < 256 := by { unfold wid at hw; (repeat' split at hw) <;> omega }; omega)
          have he : encB (UInt8.ofNat (32 * m + 24)) = .int .u8 ((m : Int) * 32 + 24) := enc_at _ _ (by omega) (by omega)
          have HV : Hid ([UInt8.ofNat (32 * m + 24)] ++ bigL n 1 = R) := by unfold Hid; rw [HR.out, hw]; rfl
          clear hw hk h3
          go_wp2_with (at_builtin; refine wpList_app (by rfl) _ _ _ (by rfl) (b + 1) 5 encB i0 _ 1 Tryd.underlying109 hi0 hz0 hz1 hz2 rfl oneB _ l (by rfl) (HW.out.own.alloc _) W.heap.size 1 1 [UInt8.ofNat (32 * m + 24)] (by rfl) (by rfl) _ (heap_alloc_new W _) (by rw [List.map_singleton, he]) (by unfold maxLen; omega) (by omega) (by simp; omega) ?_; intro v1 w1 hown1 hg1; obtain ⟨KW, KB, kc, kf⟩ := HW.out.put hown1 hg1; obtain ⟨a1, c1, rfl, _⟩ := hown1.shape; rw [List.length_append, List.length_singleton] at KW KB; replace KW := Lib.hid KW; replace KB := Lib.hid KB; clear hown1 hg1)
          go_loopw [8] (fun x wr => ∃ (j L : Nat) (v2 : Value), j ≤ 1 ∧ x = .int .i64 L ∧ Hid (L = 8 * (1 - j)) ∧ L ≤ 64 ∧ Hid (Wr wr b v2 ((l ++ [UInt8.ofNat (32 * m + 24)]) ++ bigL (n / 256 ^ (1 - j)) j)) ∧ Hid (Below b W wr)) (fun x _ => (intOf x).toNat)
          case atStart => exact ⟨0, 8, _, Nat.zero_le _, rfl, rfl, by omega, by rw [bigL, List.append_nil]; exact KW, KB⟩
          case round =>
            clear KW KB kc kf hc hf
            obtain ⟨j, L, v2, hj, rfl, HL, hL, HW2, HB2⟩ := hrel
            by_cases hjm : j < 1
            · have hL8 : 8 ≤ L := by have := HL.out; omega
              obtain ⟨a2, c2, rfl, _⟩ := HW2.out.own.shape
              have hc2 := HW2.out.cell
              have hf2 := HW2.out.frozen
              have hlt2 := HW2.out.lt
              obtain ⟨D, q, ew, hD1, hq, HD, HQ⟩ : ∃ D q : Nat, IntKind.i64.wrap ((L : Int) - 8) = (D : Int) ∧ (D : Int) ≤ 56 ∧ (n : Int) / 2 ^ D = (q : Int) ∧ Hid (L = D + 8) ∧ Hid (q = n / 256 ^ (1 - (j + 1))) := ⟨L - 8, _, by rw [IntKind.wrap_i64]; omega, by omega, shr_at n (L - 8) (1 - (j + 1)) (by have := HL.out; omega), by unfold Hid; omega, rfl⟩
              have hln : (l ++ [UInt8.ofNat (32 * m + 24)] ++ bigL (n / 256 ^ (1 - j)) j).length ≤ 1000000010 := by rw [List.length_append, List.length_append, bigL_len, List.length_singleton]; omega
              have HX : Hid (l ++ [UInt8.ofNat (32 * m + 24)] ++ bigL (n / 256 ^ (1 - j)) j ++ [UInt8.ofNat q] = l ++ [UInt8.ofNat (32 * m + 24)] ++ bigL (n / 256 ^ (1 - (j + 1))) (j + 1)) := by unfold Hid; rw [bigL_step n 1 j hjm, HQ.out, List.append_assoc]
              generalize l ++ [UInt8.ofNat (32 * m + 24)] ++ bigL (n / 256 ^ (1 - j)) j = l2 at *
              go_wp2
              go_region_law
                ((refine step_app (by rfl) _ _ _ (by rfl) (b + 1) 5 encB i0 _ 1 Tryd.underlying109 hi0 hz0 hz1 hz2 rfl oneB (.slice a2 l2.length c2) l2 (by rfl) ((HW2.out.own.alloc _).drew) wr.heap.size 1 1 [UInt8.ofNat q] (by rfl) (by rfl) _ (heap_alloc_new wr _) (by rw [List.map_singleton, enc_low, ← IntKind.wrap_u8]) (by unfold maxLen; omega) (by omega) (by simp; omega) ?_; intro v1 w1 hown1 hg1; obtain ⟨KW, KB, kc, kf⟩ := HW2.out.putDrew hown1 hg1; obtain ⟨a1, c1, rfl, _⟩ := hown1.shape; rw [List.length_append, List.length_singleton] at KW KB; replace KW := Lib.hid KW; replace KB := Lib.hid KB; clear hown1 hg1))
              all_goals
                have HB3 := Lib.hid (HB2.out.trans KB.out)
                clear KB HB2 HW2 kc kf hc2 hf2
                have HD2 := HD.out
                go_wp2
                go_roundw
                case rel => exact ⟨j + 1, D, _, by omega, by first | rfl | go_num, by have := HL.out; unfold Hid; omega, by omega, by rw [← HX.out]; exact KW, HB3⟩
                case measure => simp [intOf]; omega
            · have hL0 : ¬ (0 : Int) < (L : Int) := by have := HL.out; omega
              have ej : j = 1 := by omega
              subst ej
              have HF : Hid (PutRet W wr b (l ++ R)) := ⟨⟨_, by rw [← HV.out, ← List.append_assoc]; have := HW2.out; simpa using this⟩, HB2.out⟩
              clear hL HV
              go_wp2
              go_end0
              exact ⟨⟨_, rfl⟩, HF.out⟩
        · have hw1 : 0 + 1 ≤ wid n := by unfold wid at *; (repeat' split at *) <;> omega
          have hx : decide ((0 : Int) < (n : Int) / 256) = true := decide_eq_true (by omega)
          replace hw := Lib.hid hw1
          clear hw1 hk h3
          go_wp2
          exact ⟨⟨1, rfl, hw.out⟩, by simp [intOf]⟩
      by_cases h1 : k = 1
      · subst h1
        by_cases hw : n < 65536
        · replace hw : wid n = 1 := by unfold wid at *; (repeat' split at *) <;> omega
          have hx : decide ((0 : Int) < (n : Int) / 65536) = false := decide_eq_false (by have : n < 65536 := by { unfold wid at hw; (repeat' split at hw) <;> omega }; omega)
          have he : encB (UInt8.ofNat (32 * m + 25)) = .int .u8 ((m : Int) * 32 + 24 + 1) := enc_at _ _ (by omega) (by omega)
          have HV : Hid ([UInt8.ofNat (32 * m + 25)] ++ bigL n 2 = R) := by unfold Hid; rw [HR.out, hw]; rfl
          clear hw hk h3
          go_wp2_with (at_builtin; refine wpList_app (by rfl) _ _ _ (by rfl) (b + 1) 5 encB i0 _ 1 Tryd.underlying109 hi0 hz0 hz1 hz2 rfl oneB _ l (by rfl) (HW.out.own.alloc _) W.heap.size 1 1 [UInt8.ofNat (32 * m + 25)] (by rfl) (by rfl) _ (heap_alloc_new W _) (by rw [List.map_singleton, he]) (by unfold maxLen; omega) (by omega) (by simp; omega) ?_; intro v1 w1 hown1 hg1; obtain ⟨KW, KB, kc, kf⟩ := HW.out.put hown1 hg1; obtain ⟨a1, c1, rfl, _⟩ := hown1.shape; rw [List.length_append, List.length_singleton] at KW KB; replace KW := Lib.hid KW; replace KB := Lib.hid KB; clear hown1 hg1)
          go_loopw [8] (fun x wr => ∃ (j L : Nat) (v2 : Value), j ≤ 2 ∧ x = .int .i64 L ∧ Hid (L = 8 * (2 - j)) ∧ L ≤ 64 ∧ Hid (Wr wr b v2 ((l ++ [UInt8.ofNat (32 * m + 25)]) ++ bigL (n / 256 ^ (2 - j)) j)) ∧ Hid (Below b W wr)) (fun x _ => (intOf x).toNat)
          case atStart => exact ⟨0, 16, _, Nat.zero_le _, rfl, rfl, by omega, by rw [bigL, List.append_nil]; exact KW, KB⟩
          case round =>
            clear KW KB kc kf hc hf
            obtain ⟨j, L, v2, hj, rfl, HL, hL, HW2, HB2⟩ := hrel
            by_cases hjm : j < 2
            · have hL8 : 8 ≤ L := by have := HL.out; omega
              obtain ⟨a2, c2, rfl, _⟩ := HW2.out.own.shape
              have hc2 := HW2.out.cell
              have hf2 := HW2.out.frozen
              have hlt2 := HW2.out.lt
              obtain ⟨D, q, ew, hD1, hq, HD, HQ⟩ : ∃ D q : Nat, IntKind.i64.wrap ((L : Int) - 8) = (D : Int) ∧ (D : Int) ≤ 56 ∧ (n : Int) / 2 ^ D = (q : Int) ∧ Hid (L = D + 8) ∧ Hid (q = n / 256 ^ (2 - (j + 1))) := ⟨L - 8, _, by rw [IntKind.wrap_i64]; omega, by omega, shr_at n (L - 8) (2 - (j + 1)) (by have := HL.out; omega), by unfold Hid; omega, rfl⟩
              have hln : (l ++ [UInt8.ofNat (32 * m + 25)] ++ bigL (n / 256 ^ (2 - j)) j).length ≤ 1000000010 := by rw [List.length_append, List.length_append, bigL_len, List.length_singleton]; omega
              have HX : Hid (l ++ [UInt8.ofNat (32 * m + 25)] ++ bigL (n / 256 ^ (2 - j)) j ++ [UInt8.ofNat q] = l ++ [UInt8.ofNat (32 * m + 25)] ++ bigL (n / 256 ^ (2 - (j + 1))) (j + 1)) := by unfold Hid; rw [bigL_step n 2 j hjm, HQ.out, List.append_assoc]
              generalize l ++ [UInt8.ofNat (32 * m + 25)] ++ bigL (n / 256 ^ (2 - j)) j = l2 at *
              go_wp2
              go_region_law
                ((refine step_app (by rfl) _ _ _ (by rfl) (b + 1) 5 encB i0 _ 1 Tryd.underlying109 hi0 hz0 hz1 hz2 rfl oneB (.slice a2 l2.length c2) l2 (by rfl) ((HW2.out.own.alloc _).drew) wr.heap.size 1 1 [UInt8.ofNat q] (by rfl) (by rfl) _ (heap_alloc_new wr _) (by rw [List.map_singleton, enc_low, ← IntKind.wrap_u8]) (by unfold maxLen; omega) (by omega) (by simp; omega) ?_; intro v1 w1 hown1 hg1; obtain ⟨KW, KB, kc, kf⟩ := HW2.out.putDrew hown1 hg1; obtain ⟨a1, c1, rfl, _⟩ := hown1.shape; rw [List.length_append, List.length_singleton] at KW KB; replace KW := Lib.hid KW; replace KB := Lib.hid KB; clear hown1 hg1))
              all_goals
                have HB3 := Lib.hid (HB2.out.trans KB.out)
                clear KB HB2 HW2 kc kf hc2 hf2
                have HD2 := HD.out
                go_wp2
                go_roundw
                case rel => exact ⟨j + 1, D, _, by omega, by first | rfl | go_num, by have := HL.out; unfold Hid; omega, by omega, by rw [← HX.out]; exact KW, HB3⟩
                case measure => simp [intOf]; omega
            · have hL0 : ¬ (0 : Int) < (L : Int) := by have := HL.out; omega
              have ej : j = 2 := by omega
              subst ej
              have HF : Hid (PutRet W wr b (l ++ R)) := ⟨⟨_, by rw [← HV.out, ← List.append_assoc]; have := HW2.out; simpa using this⟩, HB2.out⟩
              clear hL HV
              go_wp2
              go_end0
              exact ⟨⟨_, rfl⟩, HF.out⟩
        · have hw1 : 1 + 1 ≤ wid n := by unfold wid at *; (repeat' split at *) <;> omega
          have hx : decide ((0 : Int) < (n : Int) / 65536) = true := decide_eq_true (by omega)
          replace hw := Lib.hid hw1
          clear hw1 hk h3
          go_wp2
          exact ⟨⟨2, rfl, hw.out⟩, by simp [intOf]⟩
      by_cases h2 : k = 2
      · subst h2
        by_cases hw : n < 4294967296
        · replace hw : wid n = 2 := by unfold wid at *; (repeat' split at *) <;> omega
          have hx : decide ((0 : Int) < (n : Int) / 4294967296) = false := decide_eq_false (by have : n < 4294967296 := by { unfold wid at hw; (repeat' split at hw) <;> omega }; omega)
          have he : encB (UInt8.ofNat (32 * m + 26)) = .int .u8 ((m : Int) * 32 + 24 + 2) := enc_at _ _ (by omega) (by omega)
          have HV : Hid ([UInt8.ofNat (32 * m + 26)] ++ bigL n 4 = R) := by unfold Hid; rw [HR.out, hw]; rfl
          clear hw hk h3
          go_wp2_with (at_builtin; refine wpList_app (by rfl) _ _ _ (by rfl) (b + 1) 5 encB i0 _ 1 Tryd.underlying109 hi0 hz0 hz1 hz2 rfl oneB _ l (by rfl) (HW.out.own.alloc _) W.heap.size 1 1 [UInt8.ofNat (32 * m + 26)] (by rfl) (by rfl) _ (heap_alloc_new W _) (by rw [List.map_singleton, he]) (by unfold maxLen; omega) (by omega) (by simp; omega) ?_; intro v1 w1 hown1 hg1; obtain ⟨KW, KB, kc, kf⟩ := HW.out.put hown1 hg1; obtain ⟨a1, c1, rfl, _⟩ := hown1.shape; rw [List.length_append, List.length_singleton] at KW KB; replace KW := Lib.hid KW; replace KB := Lib.hid KB; clear hown1 hg1)
          go_loopw [8] (fun x wr => ∃ (j L : Nat) (v2 : Value), j ≤ 4 ∧ x = .int .i64 L ∧ Hid (L = 8 * (4 - j)) ∧ L ≤ 64 ∧ Hid (Wr wr b v2 ((l ++ [UInt8.ofNat (32 * m + 26)]) ++ bigL (n / 256 ^ (4 - j)) j)) ∧ Hid (Below b W wr)) (fun x _ => (intOf x).toNat)
          case atStart => exact ⟨0, 32, _, Nat.zero_le _, rfl, rfl, by omega, by rw [bigL, List.append_nil]; exact KW, KB⟩
          case round =>
            clear KW KB kc kf hc hf
            obtain ⟨j, L, v2, hj, rfl, HL, hL, HW2, HB2⟩ := hrel
            by_cases hjm : j < 4
            · have hL8 : 8 ≤ L := by have := HL.out; omega
              obtain ⟨a2, c2, rfl, _⟩ := HW2.out.own.shape
              have hc2 := HW2.out.cell
              have hf2 := HW2.out.frozen
              have hlt2 := HW2.out.lt
              obtain ⟨D, q, ew, hD1, hq, HD, HQ⟩ : ∃ D q : Nat, IntKind.i64.wrap ((L : Int) - 8) = (D : Int) ∧ (D : Int) ≤ 56 ∧ (n : Int) / 2 ^ D = (q : Int) ∧ Hid (L = D + 8) ∧ Hid (q = n / 256 ^ (4 - (j + 1))) := ⟨L - 8, _, by rw [IntKind.wrap_i64]; omega, by omega, shr_at n (L - 8) (4 - (j + 1)) (by have := HL.out; omega), by unfold Hid; omega, rfl⟩
              have hln : (l ++ [UInt8.ofNat (32 * m + 26)] ++ bigL (n / 256 ^ (4 - j)) j).length ≤ 1000000010 := by rw [List.length_append, List.length_append, bigL_len, List.length_singleton]; omega
              have HX : Hid (l ++ [UInt8.ofNat (32 * m + 26)] ++ bigL (n / 256 ^ (4 - j)) j ++ [UInt8.ofNat q] = l ++ [UInt8.ofNat (32 * m + 26)] ++ bigL (n / 256 ^ (4 - (j + 1))) (j + 1)) := by unfold Hid; rw [bigL_step n 4 j hjm, HQ.out, List.append_assoc]
              generalize l ++ [UInt8.ofNat (32 * m + 26)] ++ bigL (n / 256 ^ (4 - j)) j = l2 at *
              go_wp2
              go_region_law
                ((refine step_app (by rfl) _ _ _ (by rfl) (b + 1) 5 encB i0 _ 1 Tryd.underlying109 hi0 hz0 hz1 hz2 rfl oneB (.slice a2 l2.length c2) l2 (by rfl) ((HW2.out.own.alloc _).drew) wr.heap.size 1 1 [UInt8.ofNat q] (by rfl) (by rfl) _ (heap_alloc_new wr _) (by rw [List.map_singleton, enc_low, ← IntKind.wrap_u8]) (by unfold maxLen; omega) (by omega) (by simp; omega) ?_; intro v1 w1 hown1 hg1; obtain ⟨KW, KB, kc, kf⟩ := HW2.out.putDrew hown1 hg1; obtain ⟨a1, c1, rfl, _⟩ := hown1.shape; rw [List.length_append, List.length_singleton] at KW KB; replace KW := Lib.hid KW; replace KB := Lib.hid KB; clear hown1 hg1))
              all_goals
                have HB3 := Lib.hid (HB2.out.trans KB.out)
                clear KB HB2 HW2 kc kf hc2 hf2
                have HD2 := HD.out
                go_wp2
                go_roundw
                case rel => exact ⟨j + 1, D, _, by omega, by first | rfl | go_num, by have := HL.out; unfold Hid; omega, by omega, by rw [← HX.out]; exact KW, HB3⟩
                case measure => simp [intOf]; omega
            · have hL0 : ¬ (0 : Int) < (L : Int) := by have := HL.out; omega
              have ej : j = 4 := by omega
              subst ej
              have HF : Hid (PutRet W wr b (l ++ R)) := ⟨⟨_, by rw [← HV.out, ← List.append_assoc]; have := HW2.out; simpa using this⟩, HB2.out⟩
              clear hL HV
              go_wp2
              go_end0
              exact ⟨⟨_, rfl⟩, HF.out⟩
        · have hw1 : 2 + 1 ≤ wid n := by unfold wid at *; (repeat' split at *) <;> omega
          have hx : decide ((0 : Int) < (n : Int) / 4294967296) = true := decide_eq_true (by omega)
          replace hw := Lib.hid hw1
          clear hw1 hk h3
          go_wp2
          exact ⟨⟨3, rfl, hw.out⟩, by simp [intOf]⟩
      · have hk3 : k = 3 := by omega
        subst hk3
        have hw : wid n = 3 := by omega
        have he : encB (UInt8.ofNat (32 * m + 27)) = .int .u8 ((m : Int) * 32 + 24 + 3) := enc_at _ _ (by omega) (by omega)
        have HV : Hid ([UInt8.ofNat (32 * m + 27)] ++ bigL n 8 = R) := by unfold Hid; rw [HR.out, hw]; rfl
        clear hw hk h3
        go_wp2_with (at_builtin; refine wpList_app (by rfl) _ _ _ (by rfl) (b + 1) 5 encB i0 _ 1 Tryd.underlying109 hi0 hz0 hz1 hz2 rfl oneB _ l (by rfl) (HW.out.own.alloc _) W.heap.size 1 1 [UInt8.ofNat (32 * m + 27)] (by rfl) (by rfl) _ (heap_alloc_new W _) (by rw [List.map_singleton, he]) (by unfold maxLen; omega) (by omega) (by simp; omega) ?_; intro v1 w1 hown1 hg1; obtain ⟨KW, KB, kc, kf⟩ := HW.out.put hown1 hg1; obtain ⟨a1, c1, rfl, _⟩ := hown1.shape; rw [List.length_append, List.length_singleton] at KW KB; replace KW := Lib.hid KW; replace KB := Lib.hid KB; clear hown1 hg1)
        go_loopw [8] (fun x wr => ∃ (j L : Nat) (v2 : Value), j ≤ 8 ∧ x = .int .i64 L ∧ Hid (L = 8 * (8 - j)) ∧ L ≤ 64 ∧ Hid (Wr wr b v2 ((l ++ [UInt8.ofNat (32 * m + 27)]) ++ bigL (n / 256 ^ (8 - j)) j)) ∧ Hid (Below b W wr)) (fun x _ => (intOf x).toNat)
        case atStart => exact ⟨0, 64, _, Nat.zero_le _, rfl, rfl, by omega, by rw [bigL, List.append_nil]; exact KW, KB⟩
        case round =>
          clear KW KB kc kf hc hf
          obtain ⟨j, L, v2, hj, rfl, HL, hL, HW2, HB2⟩ := hrel
          by_cases hjm : j < 8
          · have hL8 : 8 ≤ L := by have := HL.out; omega
            obtain ⟨a2, c2, rfl, _⟩ := HW2.out.own.shape
            have hc2 := HW2.out.cell
            have hf2 := HW2.out.frozen
            have hlt2 := HW2.out.lt
            obtain ⟨D, q, ew, hD1, hq, HD, HQ⟩ : ∃ D q : Nat, IntKind.i64.wrap ((L : Int) - 8) = (D : Int) ∧ (D : Int) ≤ 56 ∧ (n : Int) / 2 ^ D = (q : Int) ∧ Hid (L = D + 8) ∧ Hid (q = n / 256 ^ (8 - (j + 1))) := ⟨L - 8, _, by rw [IntKind.wrap_i64]; omega, by omega, shr_at n (L - 8) (8 - (j + 1)) (by have := HL.out; omega), by unfold Hid; omega, rfl⟩
            have hln : (l ++ [UInt8.ofNat (32 * m + 27)] ++ bigL (n / 256 ^ (8 - j)) j).length ≤ 1000000010 := by rw [List.length_append, List.length_append, bigL_len, List.length_singleton]; omega
            have HX : Hid (l ++ [UInt8.ofNat (32 * m + 27)] ++ bigL (n / 256 ^ (8 - j)) j ++ [UInt8.ofNat q] = l ++ [UInt8.ofNat (32 * m + 27)] ++ bigL (n / 256 ^ (8 - (j + 1))) (j + 1)) := by unfold Hid; rw [bigL_step n 8 j hjm, HQ.out, List.append_assoc]
            generalize l ++ [UInt8.ofNat (32 * m + 27)] ++ bigL (n / 256 ^ (8 - j)) j = l2 at *
            go_wp2
            go_region_law
              ((refine step_app (by rfl) _ _ _ (by rfl) (b + 1) 5 encB i0 _ 1 Tryd.underlying109 hi0 hz0 hz1 hz2 rfl oneB (.slice a2 l2.length c2) l2 (by rfl) ((HW2.out.own.alloc _).drew) wr.heap.size 1 1 [UInt8.ofNat q] (by rfl) (by rfl) _ (heap_alloc_new wr _) (by rw [List.map_singleton, enc_low, ← IntKind.wrap_u8]) (by unfold maxLen; omega) (by omega) (by simp; omega) ?_; intro v1 w1 hown1 hg1; obtain ⟨KW, KB, kc, kf⟩ := HW2.out.putDrew hown1 hg1; obtain ⟨a1, c1, rfl, _⟩ := hown1.shape; rw [List.length_append, List.length_singleton] at KW KB; replace KW := Lib.hid KW; replace KB := Lib.hid KB; clear hown1 hg1))
            all_goals
              have HB3 := Lib.hid (HB2.out.trans KB.out)
              clear KB HB2 HW2 kc kf hc2 hf2
              have HD2 := HD.out
              go_wp2
              go_roundw
              case rel => exact ⟨j + 1, D, _, by omega, by first | rfl | go_num, by have := HL.out; unfold Hid; omega, by omega, by rw [← HX.out]; exact KW, HB3⟩
              case measure => simp [intOf]; omega
          · have hL0 : ¬ (0 : Int) < (L : Int) := by have := HL.out; omega
            have ej : j = 8 := by omega
            subst ej
            have HF : Hid (PutRet W wr b (l ++ R)) := ⟨⟨_, by rw [← HV.out, ← List.append_assoc]; have := HW2.out; simpa using this⟩, HB2.out⟩
            clear hL HV
            go_wp2
            go_end0
            exact ⟨⟨_, rfl⟩, HF.out⟩

end Go.Proofs.YtnaghafmpncdkaaDoor.head
