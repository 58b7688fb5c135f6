/-
  What impl.Norm and spec.Norm return.
-/
import Derived.Test.YtlkfaehfkapfnaaValOkNum
import Derived.Test.YtlkfaehfkapfnaaSpecNumOk
namespace Go.Proofs.Ytlkfaehfkapfnaa.num
open Go.ChangeShapes Go.WideShapes Go.ChangeAt Go.RowKit
open Go.Proofs.Ytlkfaehfkapfnaa.val
set_option maxRecDepth 100000

def normV (p : Int × Int × Int × Bool) : Value := .tuple #[.agg #[.int .i64 p.1, .int .i64 p.2.1, .int .i64 p.2.2.1, .string ⟨#[]⟩, .slice none 0 0], .bool p.2.2.2]
def decT (n e : Int) : LT := .mk 4 n e ⟨#[]⟩ none 0 []
theorem dec_in (n e : Int) (hn : InI n) (he : InI e) (W : World) : In W W.heap.size (decT n e) := .mk (by unfold InI; decide) hn he (by decide) (by simp) (fun i hi => by simp at hi) (fun i hi => by simp at hi)
theorem dec_num (n e : Int) : numOk (decT n e) = decOk n e := by
  unfold decT
  rw [num_dec', decide_eq_true ⟨rfl, rfl⟩, Bool.true_and]
theorem impl_dec (n e : Int) (hn : InI n) (he : InI e) (W : World) : Calls Try.prog 52 #[.agg #[.int .i64 4, .int .i64 n, .int .i64 e, .string ⟨#[]⟩, .slice none 0 0]] W fun r w' => r = .returned (.bool (decOk n e)) ∧ Below W.heap.size W w' := by
  have := value_num W (decT n e) (dec_in n e hn he W) (by show 1 + 0 ≤ 2000000; omega) (.inr rfl)
  rw [dec_num] at this
  exact this
theorem spec_dec (n e : Int) (W : World) : Calls Try.prog 50 #[.agg #[.int .i64 4, .int .i64 n, .int .i64 e, .string ⟨#[]⟩, .slice none 0 0]] W fun r w' => r = .returned (.bool (decOk n e)) ∧ Below W.heap.size W w' := by
  have := spec_value_num (decT n e) (.inr rfl) W
  rw [dec_num] at this
  exact this
/-- What Norm's loop keeps. -/
structure StripAt (n e m f : Int) : Prop where
  ne : m ≠ 0
  isIn : InI m
  room : Room m f
  eq : strip m f = strip n e
theorem StripAt.start {n e : Int} (h0 : n ≠ 0) (hn : InI n) (h1 : -1000 ≤ e) (h2 : e ≤ 1000) : StripAt n e n e := ⟨h0, hn, room_start hn h1 h2, rfl⟩
theorem StripAt.step {n e m f : Int} (h : StripAt n e m f) (hm : m.tmod 10 = 0) : StripAt n e (m.tdiv 10) (f + 1) := ⟨div_ne h.ne hm, div_in h.isIn, room_step h.room h.ne hm, by rw [← h.eq, strip_yes h.ne hm]⟩
theorem StripAt.fin {n e m f : Int} (h : StripAt n e m f) (hm : m.tmod 10 ≠ 0) : strip n e = (m, f) := by rw [← h.eq, strip_no hm]
theorem norm_at {n e m f : Int} (h0 : n ≠ 0) (h1 : -1000 ≤ e) (h2 : e ≤ 1000) (h : StripAt n e m f) (hm : m.tmod 10 ≠ 0) : norm n e = normAt m f := by
  unfold norm
  rw [if_neg (by omega), if_neg h0, h.fin hm]

set_option maxHeartbeats 2000000 in
theorem impl_norm (n e : Int) (hn : InI n) (w : World) : Calls Try.prog 22 #[.int .i64 n, .int .i64 e] w fun r w' => r = .returned (normV (norm n e)) ∧ Below w.heap.size w w' := by
  by_cases h1 : e < -1000
  · have HV : Hid (norm n e = (0, 0, 0, false)) := by unfold Hid norm; rw [if_pos (.inl h1)]
    go_enter Try.func22, Try.ntmps22
    go_wp2
    obtain ⟨hl, k0, k1, k2, k3, k4⟩ := OwnAt.new w 0 0 0 ⟨#[]⟩ (.slice none 0 0)
    refine bodyPost_ret (v := .tuple #[.agg #[.int .i64 0, .int .i64 0, .int .i64 0, .string ⟨#[]⟩, .slice none 0 0], .bool false]) (by simp [results, Try.results22, go_sem, k0, k1, k2, k3, k4]) rfl ?_
    exact ⟨by rw [HV.out]; rfl, hl⟩
  · by_cases h2 : 1000 < e
    · have HV : Hid (norm n e = (0, 0, 0, false)) := by unfold Hid norm; rw [if_pos (.inr h2)]
      go_enter Try.func22, Try.ntmps22
      go_wp2
      obtain ⟨hl, k0, k1, k2, k3, k4⟩ := OwnAt.new w 0 0 0 ⟨#[]⟩ (.slice none 0 0)
      refine bodyPost_ret (v := .tuple #[.agg #[.int .i64 0, .int .i64 0, .int .i64 0, .string ⟨#[]⟩, .slice none 0 0], .bool false]) (by simp [results, Try.results22, go_sem, k0, k1, k2, k3, k4]) rfl ?_
      exact ⟨by rw [HV.out]; rfl, hl⟩
    · by_cases h0 : n = 0
      · subst h0
        have HV : Hid (norm 0 e = (3, 0, 0, true)) := by unfold Hid norm; rw [if_neg (by omega), if_pos rfl]
        go_enter Try.func22, Try.ntmps22
        go_wp2
        obtain ⟨hl, k0, k1, k2, k3, k4⟩ := OwnAt.new w 3 0 0 ⟨#[]⟩ (.slice none 0 0)
        refine bodyPost_ret (v := .tuple #[.agg #[.int .i64 3, .int .i64 0, .int .i64 0, .string ⟨#[]⟩, .slice none 0 0], .bool true]) (by simp [results, Try.results22, go_sem, k0, k1, k2, k3, k4]) rfl ?_
        exact ⟨by rw [HV.out]; rfl, hl⟩
      · have HS := Lib.hid (StripAt.start h0 hn (by omega : -1000 ≤ e) (by omega))
        have HA : Hid (∀ m f, StripAt n e m f → m.tmod 10 ≠ 0 → norm n e = normAt m f) := fun m f h hm => norm_at h0 (by omega) (by omega) h hm
        generalize norm n e = P at *
        go_enter Try.func22, Try.ntmps22
        go_wp2
        go_loop [0, 1] (fun x y => ∃ m f : Int, x = .int .i64 m ∧ y = .int .i64 f ∧ StripAt n e m f) (fun x _ => (intOf x).natAbs)
        case atStart => exact ⟨n, e, rfl, rfl, HS.out⟩
        case round =>
          obtain ⟨m, f, rfl, rfl, HT⟩ := hrel
          clear HS h0 hn h1 h2
          obtain ⟨hf1, hf2⟩ := HT.room.le
          have HM := Lib.hid HT.isIn
          by_cases hm : m.tmod 10 = 0
          · have HN := Lib.hid (HT.step hm)
            have HL := Lib.hid (div_less HT.ne)
            have hd : wrap64 (m.tdiv 10) = m.tdiv 10 := wrap_in (div_in HM.out)
            have hg : wrap64 (f + 1) = f + 1 := wrap_in (by unfold InI; omega)
            clear HT
            go_wp2
            exact ⟨⟨m.tdiv 10, f + 1, by first | rfl | rw [hd], by first | rfl | rw [hg], HN.out⟩, by
              show (intOf (.int .i64 _)).natAbs < m.natAbs
              simp only [intOf]
              first
              | exact HL.out
              | (rw [hd]; exact HL.out)⟩
          · have HV := Lib.hid (HA.out m f HT hm)
            clear HT HA
            by_cases hf : 0 ≤ f
            · obtain ⟨k, rfl⟩ : ∃ k : Nat, f = k := ⟨f.toNat, by omega⟩
              have CS := fun W => scaled_any m k (by omega) W
              cases hr : scal m k with
              | some z =>
                rw [hr] at CS
                have HV2 : Hid (normAt m k = (3, z, 0, true)) := by
                  unfold Hid normAt
                  rw [if_pos ⟨by omega, by rw [Int.toNat_natCast, hr]; rfl⟩, Int.toNat_natCast, hr]
                  rfl
                replace CS := Lib.hid CS
                simp only [Option.getD_some, Option.isSome_some] at CS
                go_wp2_with (go_at_call 51; with_reducible refine (CS.out _).mono ?_; rintro r w2 ⟨rfl, rfl⟩)
                obtain ⟨hl, k0, k1, k2, k3, k4⟩ := OwnAt.new w 3 z 0 ⟨#[]⟩ (.slice none 0 0)
                refine bodyPost_ret (v := .tuple #[.agg #[.int .i64 3, .int .i64 z, .int .i64 0, .string ⟨#[]⟩, .slice none 0 0], .bool true]) (by simp [results, Try.results22, go_sem, k0, k1, k2, k3, k4]) rfl ?_
                exact ⟨by rw [HV.out, HV2.out]; rfl, hl⟩
              | none =>
                rw [hr] at CS
                have HV2 : Hid (normAt m k = if decOk m k then (4, m, (k : Int), true) else (0, 0, 0, false)) := by
                  unfold Hid normAt
                  rw [if_neg (by rw [Int.toNat_natCast, hr]; simp)]
                replace CS := Lib.hid CS
                simp only [Option.getD_none, Option.isSome_none] at CS
                have CD := fun W => impl_dec m k HM.out (by unfold InI; omega) W
                clear hr
                cases hd : decOk m k with
                | true =>
                  rw [hd] at CD HV2
                  replace CD := Lib.hid CD
                  clear hd
                  go_wp2_with fail
                  with_reducible refine (CS.out _).mono ?_
                  rintro r w2 ⟨rfl, rfl⟩
                  go_wp2_with fail
                  with_reducible refine (CD.out _).mono ?_
                  rintro r w3 ⟨rfl, hb3⟩
                  have hx3 : w3.heap[w.heap.size]? = some (.cells #[.int .i64 0, .int .i64 0, .int .i64 0, .string ⟨#[]⟩, .slice none 0 0] 29 (0, 0)) := (hb3.block _ (by simp; omega)).trans ((Below.heap_alloc _ _ _ (by simp)).trans (heap_alloc_new w _))
                  have HB3 : Hid (Below w.heap.size w w3) := (((Below.refl w.heap.size w).alloc (Nat.le_refl _) _).alloc (by simp) _).trans (hb3.mono (by simp; omega))
                  have HY : Hid (w3.heap[w.heap.size + 1]? = some (.cells #[.int .i64 4, .int .i64 m, .int .i64 k, .string ⟨#[]⟩, .slice none 0 0] 29 (0, 0))) := by
                    refine (hb3.block _ (by simp)).trans ?_
                    have := heap_alloc_new (w.alloc (.cells #[.int .i64 0, .int .i64 0, .int .i64 0, .string ⟨#[]⟩, .slice none 0 0] 29)) (.cells #[.int .i64 4, .int .i64 m, .int .i64 k, .string ⟨#[]⟩, .slice none 0 0] 29)
                    simpa using this
                  have d0 : w3.cell? ⟨w.heap.size + 1, 0, none⟩ = some (.int .i64 4) := cell_of_row w3 _ 0 _ _ (0, 0) HY.out
                  have d1 : w3.cell? ⟨w.heap.size + 1, 1, none⟩ = some (.int .i64 m) := cell_of_row w3 _ 1 _ _ (0, 0) HY.out
                  have d2 : w3.cell? ⟨w.heap.size + 1, 2, none⟩ = some (.int .i64 k) := cell_of_row w3 _ 2 _ _ (0, 0) HY.out
                  have d3 : w3.cell? ⟨w.heap.size + 1, 3, none⟩ = some (.string ⟨#[]⟩) := cell_of_row w3 _ 3 _ _ (0, 0) HY.out
                  have d4 : w3.cell? ⟨w.heap.size + 1, 4, none⟩ = some (.slice none 0 0) := cell_of_row w3 _ 4 _ _ (0, 0) HY.out
                  obtain ⟨z0, z1, z2, z3, z4, y0, y1, y2, y3, y4, z5⟩ := Res5.of hx3
                  have KB : Hid (Box (put5 w3 w.heap.size 0 (decT m k)) w.heap.size (decT m k)) := put_box hx3
                  have KL : Hid (Below w.heap.size w (put5 w3 w.heap.size 0 (decT m k))) := put_below HB3.out (Nat.le_refl _)
                  clear hb3 hx3 CD
                  go_wp2
                  obtain ⟨k0, k1, k2, k3, k4⟩ := KB.out
                  simp only [put5, Nat.zero_add, decT, LT.row, LT.k, LT.n, LT.e, LT.s, LT.a, LT.cap, LT.kids, List.length_nil] at k0 k1 k2 k3 k4
                  refine bodyPost_ret (v := .tuple #[.agg #[.int .i64 4, .int .i64 m, .int .i64 k, .string ⟨#[]⟩, .slice none 0 0], .bool true]) (by simp [results, Try.results22, go_sem, k0, k1, k2, k3, k4]) rfl ?_
                  exact ⟨by rw [HV.out, HV2.out]; rfl, KL.out⟩
                | false =>
                  rw [hd] at CD HV2
                  replace CD := Lib.hid CD
                  clear hd
                  go_wp2_with fail
                  with_reducible refine (CS.out _).mono ?_
                  rintro r w2 ⟨rfl, rfl⟩
                  go_wp2_with fail
                  with_reducible refine (CD.out _).mono ?_
                  rintro r w3 ⟨rfl, hb3⟩
                  have hx3 : w3.heap[w.heap.size]? = some (.cells #[.int .i64 0, .int .i64 0, .int .i64 0, .string ⟨#[]⟩, .slice none 0 0] 29 (0, 0)) := (hb3.block _ (by simp; omega)).trans ((Below.heap_alloc _ _ _ (by simp)).trans (heap_alloc_new w _))
                  have HB3 : Hid (Below w.heap.size w w3) := (((Below.refl w.heap.size w).alloc (Nat.le_refl _) _).alloc (by simp) _).trans (hb3.mono (by simp; omega))
                  have HY : Hid (w3.heap[w.heap.size + 1]? = some (.cells #[.int .i64 4, .int .i64 m, .int .i64 k, .string ⟨#[]⟩, .slice none 0 0] 29 (0, 0))) := by
                    refine (hb3.block _ (by simp)).trans ?_
                    have := heap_alloc_new (w.alloc (.cells #[.int .i64 0, .int .i64 0, .int .i64 0, .string ⟨#[]⟩, .slice none 0 0] 29)) (.cells #[.int .i64 4, .int .i64 m, .int .i64 k, .string ⟨#[]⟩, .slice none 0 0] 29)
                    simpa using this
                  have d0 : w3.cell? ⟨w.heap.size + 1, 0, none⟩ = some (.int .i64 4) := cell_of_row w3 _ 0 _ _ (0, 0) HY.out
                  have d1 : w3.cell? ⟨w.heap.size + 1, 1, none⟩ = some (.int .i64 m) := cell_of_row w3 _ 1 _ _ (0, 0) HY.out
                  have d2 : w3.cell? ⟨w.heap.size + 1, 2, none⟩ = some (.int .i64 k) := cell_of_row w3 _ 2 _ _ (0, 0) HY.out
                  have d3 : w3.cell? ⟨w.heap.size + 1, 3, none⟩ = some (.string ⟨#[]⟩) := cell_of_row w3 _ 3 _ _ (0, 0) HY.out
                  have d4 : w3.cell? ⟨w.heap.size + 1, 4, none⟩ = some (.slice none 0 0) := cell_of_row w3 _ 4 _ _ (0, 0) HY.out
                  obtain ⟨z0, z1, z2, z3, z4, y0, y1, y2, y3, y4, z5⟩ := Res5.of hx3
                  have KB : Hid (Box (put5 w3 w.heap.size 0 (.mk 0 0 0 ⟨#[]⟩ none 0 [] : LT)) w.heap.size (.mk 0 0 0 ⟨#[]⟩ none 0 [] : LT)) := put_box hx3
                  have KL : Hid (Below w.heap.size w (put5 w3 w.heap.size 0 (.mk 0 0 0 ⟨#[]⟩ none 0 [] : LT))) := put_below HB3.out (Nat.le_refl _)
                  clear hb3 hx3 CD
                  go_wp2
                  obtain ⟨k0, k1, k2, k3, k4⟩ := KB.out
                  simp only [put5, Nat.zero_add, decT, LT.row, LT.k, LT.n, LT.e, LT.s, LT.a, LT.cap, LT.kids, List.length_nil] at k0 k1 k2 k3 k4
                  refine bodyPost_ret (v := .tuple #[.agg #[.int .i64 0, .int .i64 0, .int .i64 0, .string ⟨#[]⟩, .slice none 0 0], .bool false]) (by simp [results, Try.results22, go_sem, k0, k1, k2, k3, k4]) rfl ?_
                  exact ⟨by rw [HV.out, HV2.out]; rfl, KL.out⟩
            · have HV2 : Hid (normAt m f = if decOk m f then (4, m, f, true) else (0, 0, 0, false)) := by
                unfold Hid normAt
                rw [if_neg (fun h => hf h.1)]
              have CD := fun W => impl_dec m f HM.out (by unfold InI; omega) W
              cases hd : decOk m f with
              | true =>
                rw [hd] at CD HV2
                replace CD := Lib.hid CD
                clear hd
                go_wp2_with fail
                with_reducible refine (CD.out _).mono ?_
                rintro r w3 ⟨rfl, hb3⟩
                have hx3 : w3.heap[w.heap.size]? = some (.cells #[.int .i64 0, .int .i64 0, .int .i64 0, .string ⟨#[]⟩, .slice none 0 0] 29 (0, 0)) := (hb3.block _ (by simp; omega)).trans ((Below.heap_alloc _ _ _ (by simp)).trans (heap_alloc_new w _))
                have HB3 : Hid (Below w.heap.size w w3) := (((Below.refl w.heap.size w).alloc (Nat.le_refl _) _).alloc (by simp) _).trans (hb3.mono (by simp; omega))
                have HY : Hid (w3.heap[w.heap.size + 1]? = some (.cells #[.int .i64 4, .int .i64 m, .int .i64 f, .string ⟨#[]⟩, .slice none 0 0] 29 (0, 0))) := by
                  refine (hb3.block _ (by simp)).trans ?_
                  have := heap_alloc_new (w.alloc (.cells #[.int .i64 0, .int .i64 0, .int .i64 0, .string ⟨#[]⟩, .slice none 0 0] 29)) (.cells #[.int .i64 4, .int .i64 m, .int .i64 f, .string ⟨#[]⟩, .slice none 0 0] 29)
                  simpa using this
                have d0 : w3.cell? ⟨w.heap.size + 1, 0, none⟩ = some (.int .i64 4) := cell_of_row w3 _ 0 _ _ (0, 0) HY.out
                have d1 : w3.cell? ⟨w.heap.size + 1, 1, none⟩ = some (.int .i64 m) := cell_of_row w3 _ 1 _ _ (0, 0) HY.out
                have d2 : w3.cell? ⟨w.heap.size + 1, 2, none⟩ = some (.int .i64 f) := cell_of_row w3 _ 2 _ _ (0, 0) HY.out
                have d3 : w3.cell? ⟨w.heap.size + 1, 3, none⟩ = some (.string ⟨#[]⟩) := cell_of_row w3 _ 3 _ _ (0, 0) HY.out
                have d4 : w3.cell? ⟨w.heap.size + 1, 4, none⟩ = some (.slice none 0 0) := cell_of_row w3 _ 4 _ _ (0, 0) HY.out
                obtain ⟨z0, z1, z2, z3, z4, y0, y1, y2, y3, y4, z5⟩ := Res5.of hx3
                have KB : Hid (Box (put5 w3 w.heap.size 0 (decT m f)) w.heap.size (decT m f)) := put_box hx3
                have KL : Hid (Below w.heap.size w (put5 w3 w.heap.size 0 (decT m f))) := put_below HB3.out (Nat.le_refl _)
                clear hb3 hx3 CD
                go_wp2
                obtain ⟨k0, k1, k2, k3, k4⟩ := KB.out
                simp only [put5, Nat.zero_add, decT, LT.row, LT.k, LT.n, LT.e, LT.s, LT.a, LT.cap, LT.kids, List.length_nil] at k0 k1 k2 k3 k4
                refine bodyPost_ret (v := .tuple #[.agg #[.int .i64 4, .int .i64 m, .int .i64 f, .string ⟨#[]⟩, .slice none 0 0], .bool true]) (by simp [results, Try.results22, go_sem, k0, k1, k2, k3, k4]) rfl ?_
                exact ⟨by rw [HV.out, HV2.out]; rfl, KL.out⟩
              | false =>
                rw [hd] at CD HV2
                replace CD := Lib.hid CD
                clear hd
                go_wp2_with fail
                with_reducible refine (CD.out _).mono ?_
                rintro r w3 ⟨rfl, hb3⟩
                have hx3 : w3.heap[w.heap.size]? = some (.cells #[.int .i64 0, .int .i64 0, .int .i64 0, .string ⟨#[]⟩, .slice none 0 0] 29 (0, 0)) := (hb3.block _ (by simp; omega)).trans ((Below.heap_alloc _ _ _ (by simp)).trans (heap_alloc_new w _))
                have HB3 : Hid (Below w.heap.size w w3) := (((Below.refl w.heap.size w).alloc (Nat.le_refl _) _).alloc (by simp) _).trans (hb3.mono (by simp; omega))
                have HY : Hid (w3.heap[w.heap.size + 1]? = some (.cells #[.int .i64 4, .int .i64 m, .int .i64 f, .string ⟨#[]⟩, .slice none 0 0] 29 (0, 0))) := by
                  refine (hb3.block _ (by simp)).trans ?_
                  have := heap_alloc_new (w.alloc (.cells #[.int .i64 0, .int .i64 0, .int .i64 0, .string ⟨#[]⟩, .slice none 0 0] 29)) (.cells #[.int .i64 4, .int .i64 m, .int .i64 f, .string ⟨#[]⟩, .slice none 0 0] 29)
                  simpa using this
                have d0 : w3.cell? ⟨w.heap.size + 1, 0, none⟩ = some (.int .i64 4) := cell_of_row w3 _ 0 _ _ (0, 0) HY.out
                have d1 : w3.cell? ⟨w.heap.size + 1, 1, none⟩ = some (.int .i64 m) := cell_of_row w3 _ 1 _ _ (0, 0) HY.out
                have d2 : w3.cell? ⟨w.heap.size + 1, 2, none⟩ = some (.int .i64 f) := cell_of_row w3 _ 2 _ _ (0, 0) HY.out
                have d3 : w3.cell? ⟨w.heap.size + 1, 3, none⟩ = some (.string ⟨#[]⟩) := cell_of_row w3 _ 3 _ _ (0, 0) HY.out
                have d4 : w3.cell? ⟨w.heap.size + 1, 4, none⟩ = some (.slice none 0 0) := cell_of_row w3 _ 4 _ _ (0, 0) HY.out
                obtain ⟨z0, z1, z2, z3, z4, y0, y1, y2, y3, y4, z5⟩ := Res5.of hx3
                have KB : Hid (Box (put5 w3 w.heap.size 0 (.mk 0 0 0 ⟨#[]⟩ none 0 [] : LT)) w.heap.size (.mk 0 0 0 ⟨#[]⟩ none 0 [] : LT)) := put_box hx3
                have KL : Hid (Below w.heap.size w (put5 w3 w.heap.size 0 (.mk 0 0 0 ⟨#[]⟩ none 0 [] : LT))) := put_below HB3.out (Nat.le_refl _)
                clear hb3 hx3 CD
                go_wp2
                obtain ⟨k0, k1, k2, k3, k4⟩ := KB.out
                simp only [put5, Nat.zero_add, decT, LT.row, LT.k, LT.n, LT.e, LT.s, LT.a, LT.cap, LT.kids, List.length_nil] at k0 k1 k2 k3 k4
                refine bodyPost_ret (v := .tuple #[.agg #[.int .i64 0, .int .i64 0, .int .i64 0, .string ⟨#[]⟩, .slice none 0 0], .bool false]) (by simp [results, Try.results22, go_sem, k0, k1, k2, k3, k4]) rfl ?_
                exact ⟨by rw [HV.out, HV2.out]; rfl, KL.out⟩

end Go.Proofs.Ytlkfaehfkapfnaa.num
