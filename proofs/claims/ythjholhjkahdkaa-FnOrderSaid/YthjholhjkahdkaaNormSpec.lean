/-
  What spec.Norm returns.
-/
import Derived.Test.YthjholhjkahdkaaNormWalk
namespace Go.Proofs.Ythjholhjkahdkaa.num
open Go.ChangeShapes Go.WideShapes Go.ChangeAt Go.RowKit
open Go.Proofs.Ythjholhjkahdkaa.val
set_option maxRecDepth 100000

theorem int_any (n : Int) (w : World) : Calls Try.prog 26 #[.int .i64 n] w fun r w' => r = .returned (.agg #[.int .i64 3, .int .i64 n, .int .i64 0, .string ⟨#[]⟩, .slice none 0 0]) ∧ Below w.heap.size w w' := by
  go_enter Try.func26, Try.ntmps26
  go_wp2
  obtain ⟨hl, k0, k1, k2, k3, k4⟩ := OwnAt.new w 3 n 0 ⟨#[]⟩ (.slice none 0 0)
  refine bodyPost_ret (v := .agg #[.int .i64 3, .int .i64 n, .int .i64 0, .string ⟨#[]⟩, .slice none 0 0]) (by simp [results, Try.results26, go_sem, k0, k1, k2, k3, k4]) rfl ?_
  exact ⟨rfl, hl⟩
theorem norm_far {m f : Int} (hm : InI m) (h0 : m ≠ 0) (h : ¬ (0 ≤ f ∧ f ≤ 20)) : normAt m f = if decOk m f then (4, m, f, true) else (0, 0, 0, false) := by
  unfold normAt
  rw [if_neg]
  rintro ⟨h1, h2⟩
  rw [scal_far hm h0 (by omega)] at h2
  cases h2
/-- What the second loop keeps. -/
def TenAt (m : Int) (f k : Nat) (z : Int) (b : Bool) : Prop := k ≤ f ∧ ((b = true ∧ ScalAt m f z k) ∨ (b = false ∧ scal m f = none))
structure TenIs (m : Int) (f k : Nat) (z : Int) (b : Bool) : Prop where
  h : TenAt m f k z b

/-- The result's block, still as it was made. -/
structure ZeroAt (w wr : World) : Prop where
  low : Below w.heap.size w wr
  row : wr.heap[w.heap.size]? = some (.cells #[.int .i64 0, .int .i64 0, .int .i64 0, .string ⟨#[]⟩, .slice none 0 0] 26 (0, 0))
theorem ZeroAt.new (w : World) : ZeroAt w (w.alloc (.cells #[.int .i64 0, .int .i64 0, .int .i64 0, .string ⟨#[]⟩, .slice none 0 0] 26)) := ⟨(Below.refl _ _).alloc (Nat.le_refl _) _, heap_alloc_new w _⟩
theorem ZeroAt.lt {w wr : World} (h : ZeroAt w wr) : w.heap.size < wr.heap.size := lt_heap h.row
theorem ZeroAt.drew {w wr : World} (h : ZeroAt w wr) : ZeroAt w wr.drew := ⟨below_drew h.low, h.row⟩
set_option maxHeartbeats 4000000 in
theorem spec_norm (n e : Int) (hn : InI n) (w : World) : Calls Try.prog 12 #[.int .i64 n, .int .i64 e] w fun r w' => r = .returned (normV (norm n e)) ∧ Below w.heap.size w w' := by
  by_cases h1 : e < -1000 ∨ 1000 < e
  · have HV : Hid (norm n e = (0, 0, 0, false)) := by unfold Hid norm; rw [if_pos h1]
    have CI := fun W => in_any e (-1000) 1000 W
    rw [decide_eq_false (by omega)] at CI
    replace CI := Lib.hid CI
    go_enter Try.func12, Try.ntmps12
    go_wp2_with fail
    with_reducible refine (CI.out _).mono ?_
    rintro r w0 ⟨rfl, rfl⟩
    go_wp2
    obtain ⟨hl, k0, k1, k2, k3, k4⟩ := OwnAt.new w 0 0 0 ⟨#[]⟩ (.slice none 0 0)
    refine bodyPost_ret (v := .tuple #[.agg #[.int .i64 0, .int .i64 0, .int .i64 0, .string ⟨#[]⟩, .slice none 0 0], .bool false]) (by simp [results, Try.results12, go_sem, k0, k1, k2, k3, k4]) rfl ?_
    exact ⟨by rw [HV.out]; rfl, hl⟩
  · have h3 : -1000 ≤ e := by omega
    have h2 : e ≤ 1000 := by omega
    clear h1
    have CI := fun W => in_any e (-1000) 1000 W
    rw [decide_eq_true (by omega)] at CI
    replace CI := Lib.hid CI
    by_cases h0 : n = 0
    · subst h0
      have HV : Hid (norm 0 e = (3, 0, 0, true)) := by unfold Hid norm; rw [if_neg (by omega), if_pos rfl]
      go_enter Try.func12, Try.ntmps12
      go_wp2_with fail
      with_reducible refine (CI.out _).mono ?_
      rintro r w0 ⟨rfl, rfl⟩
      go_wp2_with fail
      with_reducible refine (int_any 0 _).mono ?_
      rintro r w3 ⟨rfl, hb3⟩
      have hx3 : w3.heap[w.heap.size]? = some (.cells #[.int .i64 0, .int .i64 0, .int .i64 0, .string ⟨#[]⟩, .slice none 0 0] 26 (0, 0)) := (hb3.block _ (by simp)).trans (heap_alloc_new w _)
      have HB3 : Hid (Below w.heap.size w w3) := ((Below.refl w.heap.size w).alloc (Nat.le_refl _) _).trans (hb3.mono (by simp))
      obtain ⟨z0, z1, z2, z3, z4, y0, y1, y2, y3, y4, z5⟩ := Res5.of hx3
      have KB : Hid (Box (put5 w3 w.heap.size 0 (.mk 3 0 0 ⟨#[]⟩ none 0 [] : LT)) w.heap.size (.mk 3 0 0 ⟨#[]⟩ none 0 [] : LT)) := put_box hx3
      have KL : Hid (Below w.heap.size w (put5 w3 w.heap.size 0 (.mk 3 0 0 ⟨#[]⟩ none 0 [] : LT))) := put_below HB3.out (Nat.le_refl _)
      clear hb3 hx3
      go_wp2
      obtain ⟨k0, k1, k2, k3, k4⟩ := KB.out
      simp only [put5, Nat.zero_add, LT.row, LT.k, LT.n, LT.e, LT.s, LT.a, LT.cap, LT.kids, List.length_nil] at k0 k1 k2 k3 k4
      refine bodyPost_ret (v := .tuple #[.agg #[.int .i64 3, .int .i64 0, .int .i64 0, .string ⟨#[]⟩, .slice none 0 0], .bool true]) (by simp [results, Try.results12, go_sem, k0, k1, k2, k3, k4]) rfl ?_
      exact ⟨by rw [HV.out]; rfl, KL.out⟩
    · have HS := Lib.hid (StripAt.start h0 hn h3 h2)
      have HA : Hid (∀ m f, StripAt n e m f → m.tmod 10 ≠ 0 → norm n e = normAt m f) := fun m f h hm => norm_at h0 h3 h2 h hm
      generalize norm n e = P at *
      go_enter Try.func12, Try.ntmps12
      go_wp2_with fail
      with_reducible refine (CI.out _).mono ?_
      rintro r w0 ⟨rfl, rfl⟩
      go_wp2
      go_loop [0, 1] (fun x y => ∃ m f : Int, x = .int .i64 m ∧ y = .int .i64 f ∧ StripAt n e m f) (fun x _ => (intOf x).natAbs)
      case atStart => exact ⟨n, e, rfl, rfl, HS.out⟩
      case round =>
        obtain ⟨m, f, rfl, rfl, HT⟩ := hrel
        clear HS h0 hn h2 h3
        obtain ⟨hf1, hf2⟩ := HT.room.le
        have HM := Lib.hid HT.isIn
        have HNE := Lib.hid HT.ne
        by_cases hm : m.tmod 10 = 0
        · have HN := Lib.hid (HT.step hm)
          have HL := Lib.hid (div_less HT.ne)
          have hd : wrap64 (m.tdiv 10) = m.tdiv 10 := wrap_in (div_in HM.out)
          have hg : wrap64 (f + 1) = f + 1 := wrap_in (by unfold InI; omega)
          clear HT
          go_wp2
          exact ⟨⟨m.tdiv 10, f + 1, by first | rfl | rw [hd], by first | rfl | rw [hg], HN.out⟩, by
            show (intOf (.int .i64 _)).natAbs < m.natAbs
            simp only [intOf]
            first
            | exact HL.out
            | (rw [hd]; exact HL.out)⟩
        · have HV := Lib.hid (HA.out m f HT hm)
          clear HT HA
          by_cases hf : 0 ≤ f ∧ f ≤ 20
          · obtain ⟨g1, g2⟩ := hf
            obtain ⟨k, rfl⟩ : ∃ k : Nat, f = k := ⟨f.toNat, by omega⟩
            have HSC := Lib.hid (ScalAt.start m k)
            have HTN := Lib.hid ten_any
            go_wp2
            go_loopw [6, 7, 8] (fun x y i wr => ∃ (j : Nat) (z : Int) (b : Bool), i = .int .i64 j ∧ x = .int .i64 z ∧ y = .bool b ∧ TenIs m k j z b ∧ ZeroAt w wr) (fun _ _ i _ => k - (intOf i).toNat)
            case atStart => exact ⟨0, m, true, rfl, rfl, rfl, ⟨Nat.zero_le _, .inl ⟨rfl, HSC.out⟩⟩, ZeroAt.new w⟩
            case round =>
              obtain ⟨j, z, b, rfl, rfl, rfl, ⟨hjk, HT⟩, hz⟩ := hrel
              have HZ := Lib.hid hz
              clear hz HSC
              cases b with
              | false =>
                have hnone : scal m k = none := by rcases HT with ⟨h, _⟩ | ⟨_, h⟩; cases h; exact h
                have HV2 : Hid (normAt m k = if decOk m k then (4, m, (k : Int), true) else (0, 0, 0, false)) := by
                  unfold Hid normAt
                  rw [if_neg (by rw [Int.toNat_natCast, hnone]; simp)]
                have CD := fun W => spec_dec m k W
                clear HT hnone HTN
                by_cases hj : j < k
                · have hj1 : (j : Int) < (k : Int) := by omega
                  cases hd : decOk m k with
                  | true =>
                    rw [hd] at CD HV2
                    replace CD := Lib.hid CD
                    clear hd
                    go_wp2_with fail
                    with_reducible refine (CD.out _).mono ?_
                    rintro r w3 ⟨rfl, hb3⟩
                    have hlt := HZ.out.lt
                    have hx3 : w3.heap[w.heap.size]? = some (.cells #[.int .i64 0, .int .i64 0, .int .i64 0, .string ⟨#[]⟩, .slice none 0 0] 26 (0, 0)) := (hb3.block _ (by simp; omega)).trans ((Below.heap_alloc _ _ _ hlt).trans HZ.out.row)
                    have HB3 : Hid (Below w.heap.size w w3) := below_of2 (HZ.out.low.alloc (Nat.le_of_lt hlt) _) hb3
                    have HY : Hid (w3.heap[wr.heap.size]? = some (.cells #[.int .i64 4, .int .i64 m, .int .i64 k, .string ⟨#[]⟩, .slice none 0 0] 26 (0, 0))) := (hb3.block _ (by simp)).trans (heap_alloc_new wr _)
                    have d0 : w3.cell? ⟨wr.heap.size, 0, none⟩ = some (.int .i64 4) := cell_of_row w3 _ 0 _ _ (0, 0) HY.out
                    have d1 : w3.cell? ⟨wr.heap.size, 1, none⟩ = some (.int .i64 m) := cell_of_row w3 _ 1 _ _ (0, 0) HY.out
                    have d2 : w3.cell? ⟨wr.heap.size, 2, none⟩ = some (.int .i64 k) := cell_of_row w3 _ 2 _ _ (0, 0) HY.out
                    have d3 : w3.cell? ⟨wr.heap.size, 3, none⟩ = some (.string ⟨#[]⟩) := cell_of_row w3 _ 3 _ _ (0, 0) HY.out
                    have d4 : w3.cell? ⟨wr.heap.size, 4, none⟩ = some (.slice none 0 0) := cell_of_row w3 _ 4 _ _ (0, 0) HY.out
                    obtain ⟨z0, z1, z2, z3, z4, y0, y1, y2, y3, y4, z5⟩ := Res5.of hx3
                    have KB : Hid (Box (put5 w3 w.heap.size 0 (decT m k)) w.heap.size (decT m k)) := put_box hx3
                    have KL : Hid (Below w.heap.size w (put5 w3 w.heap.size 0 (decT m k))) := put_below HB3.out (Nat.le_refl _)
                    clear hb3 hx3 CD hlt
                    go_wp2
                    obtain ⟨k0, k1, k2, k3, k4⟩ := KB.out
                    simp only [put5, Nat.zero_add, decT, LT.row, LT.k, LT.n, LT.e, LT.s, LT.a, LT.cap, LT.kids, List.length_nil] at k0 k1 k2 k3 k4
                    refine bodyPost_ret (v := .tuple #[.agg #[.int .i64 4, .int .i64 m, .int .i64 k, .string ⟨#[]⟩, .slice none 0 0], .bool true]) (by simp [results, Try.results12, go_sem, k0, k1, k2, k3, k4]) rfl ?_
                    exact ⟨by rw [HV.out, HV2.out]; rfl, KL.out⟩
                  | false =>
                    rw [hd] at CD HV2
                    replace CD := Lib.hid CD
                    clear hd
                    go_wp2_with fail
                    with_reducible refine (CD.out _).mono ?_
                    rintro r w3 ⟨rfl, hb3⟩
                    have hlt := HZ.out.lt
                    have hx3 : w3.heap[w.heap.size]? = some (.cells #[.int .i64 0, .int .i64 0, .int .i64 0, .string ⟨#[]⟩, .slice none 0 0] 26 (0, 0)) := (hb3.block _ (by simp; omega)).trans ((Below.heap_alloc _ _ _ hlt).trans HZ.out.row)
                    have HB3 : Hid (Below w.heap.size w w3) := below_of2 (HZ.out.low.alloc (Nat.le_of_lt hlt) _) hb3
                    have HY : Hid (w3.heap[wr.heap.size]? = some (.cells #[.int .i64 4, .int .i64 m, .int .i64 k, .string ⟨#[]⟩, .slice none 0 0] 26 (0, 0))) := (hb3.block _ (by simp)).trans (heap_alloc_new wr _)
                    have d0 : w3.cell? ⟨wr.heap.size, 0, none⟩ = some (.int .i64 4) := cell_of_row w3 _ 0 _ _ (0, 0) HY.out
                    have d1 : w3.cell? ⟨wr.heap.size, 1, none⟩ = some (.int .i64 m) := cell_of_row w3 _ 1 _ _ (0, 0) HY.out
                    have d2 : w3.cell? ⟨wr.heap.size, 2, none⟩ = some (.int .i64 k) := cell_of_row w3 _ 2 _ _ (0, 0) HY.out
                    have d3 : w3.cell? ⟨wr.heap.size, 3, none⟩ = some (.string ⟨#[]⟩) := cell_of_row w3 _ 3 _ _ (0, 0) HY.out
                    have d4 : w3.cell? ⟨wr.heap.size, 4, none⟩ = some (.slice none 0 0) := cell_of_row w3 _ 4 _ _ (0, 0) HY.out
                    obtain ⟨z0, z1, z2, z3, z4, y0, y1, y2, y3, y4, z5⟩ := Res5.of hx3
                    have KB : Hid (Box (put5 w3 w.heap.size 0 (.mk 0 0 0 ⟨#[]⟩ none 0 [] : LT)) w.heap.size (.mk 0 0 0 ⟨#[]⟩ none 0 [] : LT)) := put_box hx3
                    have KL : Hid (Below w.heap.size w (put5 w3 w.heap.size 0 (.mk 0 0 0 ⟨#[]⟩ none 0 [] : LT))) := put_below HB3.out (Nat.le_refl _)
                    clear hb3 hx3 CD hlt
                    go_wp2
                    obtain ⟨k0, k1, k2, k3, k4⟩ := KB.out
                    simp only [put5, Nat.zero_add, decT, LT.row, LT.k, LT.n, LT.e, LT.s, LT.a, LT.cap, LT.kids, List.length_nil] at k0 k1 k2 k3 k4
                    refine bodyPost_ret (v := .tuple #[.agg #[.int .i64 0, .int .i64 0, .int .i64 0, .string ⟨#[]⟩, .slice none 0 0], .bool false]) (by simp [results, Try.results12, go_sem, k0, k1, k2, k3, k4]) rfl ?_
                    exact ⟨by rw [HV.out, HV2.out]; rfl, KL.out⟩
                · have hj1 : ¬ (j : Int) < (k : Int) := by omega
                  cases hd : decOk m k with
                  | true =>
                    rw [hd] at CD HV2
                    replace CD := Lib.hid CD
                    clear hd
                    go_wp2_with fail
                    with_reducible refine (CD.out _).mono ?_
                    rintro r w3 ⟨rfl, hb3⟩
                    have hlt := HZ.out.lt
                    have hx3 : w3.heap[w.heap.size]? = some (.cells #[.int .i64 0, .int .i64 0, .int .i64 0, .string ⟨#[]⟩, .slice none 0 0] 26 (0, 0)) := (hb3.block _ (by simp; omega)).trans ((Below.heap_alloc _ _ _ hlt).trans HZ.out.row)
                    have HB3 : Hid (Below w.heap.size w w3) := below_of2 (HZ.out.low.alloc (Nat.le_of_lt hlt) _) hb3
                    have HY : Hid (w3.heap[wr.heap.size]? = some (.cells #[.int .i64 4, .int .i64 m, .int .i64 k, .string ⟨#[]⟩, .slice none 0 0] 26 (0, 0))) := (hb3.block _ (by simp)).trans (heap_alloc_new wr _)
                    have d0 : w3.cell? ⟨wr.heap.size, 0, none⟩ = some (.int .i64 4) := cell_of_row w3 _ 0 _ _ (0, 0) HY.out
                    have d1 : w3.cell? ⟨wr.heap.size, 1, none⟩ = some (.int .i64 m) := cell_of_row w3 _ 1 _ _ (0, 0) HY.out
                    have d2 : w3.cell? ⟨wr.heap.size, 2, none⟩ = some (.int .i64 k) := cell_of_row w3 _ 2 _ _ (0, 0) HY.out
                    have d3 : w3.cell? ⟨wr.heap.size, 3, none⟩ = some (.string ⟨#[]⟩) := cell_of_row w3 _ 3 _ _ (0, 0) HY.out
                    have d4 : w3.cell? ⟨wr.heap.size, 4, none⟩ = some (.slice none 0 0) := cell_of_row w3 _ 4 _ _ (0, 0) HY.out
                    obtain ⟨z0, z1, z2, z3, z4, y0, y1, y2, y3, y4, z5⟩ := Res5.of hx3
                    have KB : Hid (Box (put5 w3 w.heap.size 0 (decT m k)) w.heap.size (decT m k)) := put_box hx3
                    have KL : Hid (Below w.heap.size w (put5 w3 w.heap.size 0 (decT m k))) := put_below HB3.out (Nat.le_refl _)
                    clear hb3 hx3 CD hlt
                    go_wp2
                    obtain ⟨k0, k1, k2, k3, k4⟩ := KB.out
                    simp only [put5, Nat.zero_add, decT, LT.row, LT.k, LT.n, LT.e, LT.s, LT.a, LT.cap, LT.kids, List.length_nil] at k0 k1 k2 k3 k4
                    refine bodyPost_ret (v := .tuple #[.agg #[.int .i64 4, .int .i64 m, .int .i64 k, .string ⟨#[]⟩, .slice none 0 0], .bool true]) (by simp [results, Try.results12, go_sem, k0, k1, k2, k3, k4]) rfl ?_
                    exact ⟨by rw [HV.out, HV2.out]; rfl, KL.out⟩
                  | false =>
                    rw [hd] at CD HV2
                    replace CD := Lib.hid CD
                    clear hd
                    go_wp2_with fail
                    with_reducible refine (CD.out _).mono ?_
                    rintro r w3 ⟨rfl, hb3⟩
                    have hlt := HZ.out.lt
                    have hx3 : w3.heap[w.heap.size]? = some (.cells #[.int .i64 0, .int .i64 0, .int .i64 0, .string ⟨#[]⟩, .slice none 0 0] 26 (0, 0)) := (hb3.block _ (by simp; omega)).trans ((Below.heap_alloc _ _ _ hlt).trans HZ.out.row)
                    have HB3 : Hid (Below w.heap.size w w3) := below_of2 (HZ.out.low.alloc (Nat.le_of_lt hlt) _) hb3
                    have HY : Hid (w3.heap[wr.heap.size]? = some (.cells #[.int .i64 4, .int .i64 m, .int .i64 k, .string ⟨#[]⟩, .slice none 0 0] 26 (0, 0))) := (hb3.block _ (by simp)).trans (heap_alloc_new wr _)
                    have d0 : w3.cell? ⟨wr.heap.size, 0, none⟩ = some (.int .i64 4) := cell_of_row w3 _ 0 _ _ (0, 0) HY.out
                    have d1 : w3.cell? ⟨wr.heap.size, 1, none⟩ = some (.int .i64 m) := cell_of_row w3 _ 1 _ _ (0, 0) HY.out
                    have d2 : w3.cell? ⟨wr.heap.size, 2, none⟩ = some (.int .i64 k) := cell_of_row w3 _ 2 _ _ (0, 0) HY.out
                    have d3 : w3.cell? ⟨wr.heap.size, 3, none⟩ = some (.string ⟨#[]⟩) := cell_of_row w3 _ 3 _ _ (0, 0) HY.out
                    have d4 : w3.cell? ⟨wr.heap.size, 4, none⟩ = some (.slice none 0 0) := cell_of_row w3 _ 4 _ _ (0, 0) HY.out
                    obtain ⟨z0, z1, z2, z3, z4, y0, y1, y2, y3, y4, z5⟩ := Res5.of hx3
                    have KB : Hid (Box (put5 w3 w.heap.size 0 (.mk 0 0 0 ⟨#[]⟩ none 0 [] : LT)) w.heap.size (.mk 0 0 0 ⟨#[]⟩ none 0 [] : LT)) := put_box hx3
                    have KL : Hid (Below w.heap.size w (put5 w3 w.heap.size 0 (.mk 0 0 0 ⟨#[]⟩ none 0 [] : LT))) := put_below HB3.out (Nat.le_refl _)
                    clear hb3 hx3 CD hlt
                    go_wp2
                    obtain ⟨k0, k1, k2, k3, k4⟩ := KB.out
                    simp only [put5, Nat.zero_add, decT, LT.row, LT.k, LT.n, LT.e, LT.s, LT.a, LT.cap, LT.kids, List.length_nil] at k0 k1 k2 k3 k4
                    refine bodyPost_ret (v := .tuple #[.agg #[.int .i64 0, .int .i64 0, .int .i64 0, .string ⟨#[]⟩, .slice none 0 0], .bool false]) (by simp [results, Try.results12, go_sem, k0, k1, k2, k3, k4]) rfl ?_
                    exact ⟨by rw [HV.out, HV2.out]; rfl, KL.out⟩
              | true =>
                have HT2 : ScalAt m k z j := by rcases HT with ⟨_, h⟩ | ⟨h, _⟩; exact h; cases h
                clear HT
                by_cases hj : j < k
                · have hj1 : (j : Int) < (k : Int) := by omega
                  have CM := fun W => HTN.out z W
                  cases hq : tenFits z with
                  | true =>
                    rw [hq] at CM
                    have HN := Lib.hid (HT2.step hj hq)
                    replace CM := Lib.hid CM
                    clear hq HT2 HTN
                    go_wp2_with (go_at_call 27; with_reducible refine (CM.out _).mono ?_; rintro r w4 ⟨rfl, rfl⟩)
                    exact ⟨⟨j + 1, _, true, by first | rfl | simp, rfl, rfl, ⟨hj, .inl ⟨rfl, HN.out⟩⟩, HZ.out⟩, by simp [intOf]; omega⟩
                  | false =>
                    rw [hq] at CM
                    have HN := Lib.hid (HT2.stop hj hq)
                    replace CM := Lib.hid CM
                    clear hq HT2 HTN
                    go_wp2_with (go_at_call 27; with_reducible refine (CM.out _).mono ?_; rintro r w4 ⟨rfl, rfl⟩)
                    exact ⟨⟨j + 1, _, false, by first | rfl | simp, rfl, rfl, ⟨hj, .inr ⟨rfl, HN.out⟩⟩, HZ.out⟩, by simp [intOf]; omega⟩
                · have hj1 : ¬ (j : Int) < (k : Int) := by omega
                  have hsome : scal m k = some z := HT2.fin hj
                  have HV2 : Hid (normAt m k = (3, z, 0, true)) := by
                    unfold Hid normAt
                    rw [if_pos ⟨by omega, by rw [Int.toNat_natCast, hsome]; rfl⟩, Int.toNat_natCast, hsome]
                    rfl
                  clear hsome HT2 HTN
                  go_wp2_with fail
                  with_reducible refine (int_any z _).mono ?_
                  rintro r w3 ⟨rfl, hb3⟩
                  have hx3 : w3.heap[w.heap.size]? = some (.cells #[.int .i64 0, .int .i64 0, .int .i64 0, .string ⟨#[]⟩, .slice none 0 0] 26 (0, 0)) := (hb3.block _ HZ.out.lt).trans HZ.out.row
                  have HB3 : Hid (Below w.heap.size w w3) := below_of2 HZ.out.low hb3
                  obtain ⟨z0, z1, z2, z3, z4, y0, y1, y2, y3, y4, z5⟩ := Res5.of hx3
                  have KB : Hid (Box (put5 w3 w.heap.size 0 (.mk 3 z 0 ⟨#[]⟩ none 0 [] : LT)) w.heap.size (.mk 3 z 0 ⟨#[]⟩ none 0 [] : LT)) := put_box hx3
                  have KL : Hid (Below w.heap.size w (put5 w3 w.heap.size 0 (.mk 3 z 0 ⟨#[]⟩ none 0 [] : LT))) := put_below HB3.out (Nat.le_refl _)
                  clear hb3 hx3
                  go_wp2
                  obtain ⟨k0, k1, k2, k3, k4⟩ := KB.out
                  simp only [put5, Nat.zero_add, LT.row, LT.k, LT.n, LT.e, LT.s, LT.a, LT.cap, LT.kids, List.length_nil] at k0 k1 k2 k3 k4
                  refine bodyPost_ret (v := .tuple #[.agg #[.int .i64 3, .int .i64 z, .int .i64 0, .string ⟨#[]⟩, .slice none 0 0], .bool true]) (by simp [results, Try.results12, go_sem, k0, k1, k2, k3, k4]) rfl ?_
                  exact ⟨by rw [HV.out, HV2.out]; rfl, KL.out⟩
          · have HV2 := norm_far HM.out HNE.out hf
            replace HV2 := Lib.hid HV2
            have CD := fun W => spec_dec m f W
            by_cases hg : 0 ≤ f
            · have hg2 : ¬ f ≤ 20 := fun h => hf ⟨hg, h⟩
              clear hf
              cases hd : decOk m f with
              | true =>
                rw [hd] at CD HV2
                replace CD := Lib.hid CD
                clear hd
                go_wp2_with fail
                with_reducible refine (CD.out _).mono ?_
                rintro r w3 ⟨rfl, hb3⟩
                have hx3 : w3.heap[w.heap.size]? = some (.cells #[.int .i64 0, .int .i64 0, .int .i64 0, .string ⟨#[]⟩, .slice none 0 0] 26 (0, 0)) := (hb3.block _ (by simp; omega)).trans ((Below.heap_alloc _ _ _ (by simp)).trans (heap_alloc_new w _))
                have HB3 : Hid (Below w.heap.size w w3) := (((Below.refl w.heap.size w).alloc (Nat.le_refl _) _).alloc (by simp) _).trans (hb3.mono (by simp; omega))
                have HY : Hid (w3.heap[w.heap.size + 1]? = some (.cells #[.int .i64 4, .int .i64 m, .int .i64 f, .string ⟨#[]⟩, .slice none 0 0] 26 (0, 0))) := by
                  refine (hb3.block _ (by simp)).trans ?_
                  have := heap_alloc_new (w.alloc (.cells #[.int .i64 0, .int .i64 0, .int .i64 0, .string ⟨#[]⟩, .slice none 0 0] 26)) (.cells #[.int .i64 4, .int .i64 m, .int .i64 f, .string ⟨#[]⟩, .slice none 0 0] 26)
                  simpa using this
                have d0 : w3.cell? ⟨w.heap.size + 1, 0, none⟩ = some (.int .i64 4) := cell_of_row w3 _ 0 _ _ (0, 0) HY.out
                have d1 : w3.cell? ⟨w.heap.size + 1, 1, none⟩ = some (.int .i64 m) := cell_of_row w3 _ 1 _ _ (0, 0) HY.out
                have d2 : w3.cell? ⟨w.heap.size + 1, 2, none⟩ = some (.int .i64 f) := cell_of_row w3 _ 2 _ _ (0, 0) HY.out
                have d3 : w3.cell? ⟨w.heap.size + 1, 3, none⟩ = some (.string ⟨#[]⟩) := cell_of_row w3 _ 3 _ _ (0, 0) HY.out
                have d4 : w3.cell? ⟨w.heap.size + 1, 4, none⟩ = some (.slice none 0 0) := cell_of_row w3 _ 4 _ _ (0, 0) HY.out
                obtain ⟨z0, z1, z2, z3, z4, y0, y1, y2, y3, y4, z5⟩ := Res5.of hx3
                have KB : Hid (Box (put5 w3 w.heap.size 0 (decT m f)) w.heap.size (decT m f)) := put_box hx3
                have KL : Hid (Below w.heap.size w (put5 w3 w.heap.size 0 (decT m f))) := put_below HB3.out (Nat.le_refl _)
                clear hb3 hx3 CD
                go_wp2
                obtain ⟨k0, k1, k2, k3, k4⟩ := KB.out
                simp only [put5, Nat.zero_add, decT, LT.row, LT.k, LT.n, LT.e, LT.s, LT.a, LT.cap, LT.kids, List.length_nil] at k0 k1 k2 k3 k4
                refine bodyPost_ret (v := .tuple #[.agg #[.int .i64 4, .int .i64 m, .int .i64 f, .string ⟨#[]⟩, .slice none 0 0], .bool true]) (by simp [results, Try.results12, go_sem, k0, k1, k2, k3, k4]) rfl ?_
                exact ⟨by rw [HV.out, HV2.out]; rfl, KL.out⟩
              | false =>
                rw [hd] at CD HV2
                replace CD := Lib.hid CD
                clear hd
                go_wp2_with fail
                with_reducible refine (CD.out _).mono ?_
                rintro r w3 ⟨rfl, hb3⟩
                have hx3 : w3.heap[w.heap.size]? = some (.cells #[.int .i64 0, .int .i64 0, .int .i64 0, .string ⟨#[]⟩, .slice none 0 0] 26 (0, 0)) := (hb3.block _ (by simp; omega)).trans ((Below.heap_alloc _ _ _ (by simp)).trans (heap_alloc_new w _))
                have HB3 : Hid (Below w.heap.size w w3) := (((Below.refl w.heap.size w).alloc (Nat.le_refl _) _).alloc (by simp) _).trans (hb3.mono (by simp; omega))
                have HY : Hid (w3.heap[w.heap.size + 1]? = some (.cells #[.int .i64 4, .int .i64 m, .int .i64 f, .string ⟨#[]⟩, .slice none 0 0] 26 (0, 0))) := by
                  refine (hb3.block _ (by simp)).trans ?_
                  have := heap_alloc_new (w.alloc (.cells #[.int .i64 0, .int .i64 0, .int .i64 0, .string ⟨#[]⟩, .slice none 0 0] 26)) (.cells #[.int .i64 4, .int .i64 m, .int .i64 f, .string ⟨#[]⟩, .slice none 0 0] 26)
                  simpa using this
                have d0 : w3.cell? ⟨w.heap.size + 1, 0, none⟩ = some (.int .i64 4) := cell_of_row w3 _ 0 _ _ (0, 0) HY.out
                have d1 : w3.cell? ⟨w.heap.size + 1, 1, none⟩ = some (.int .i64 m) := cell_of_row w3 _ 1 _ _ (0, 0) HY.out
                have d2 : w3.cell? ⟨w.heap.size + 1, 2, none⟩ = some (.int .i64 f) := cell_of_row w3 _ 2 _ _ (0, 0) HY.out
                have d3 : w3.cell? ⟨w.heap.size + 1, 3, none⟩ = some (.string ⟨#[]⟩) := cell_of_row w3 _ 3 _ _ (0, 0) HY.out
                have d4 : w3.cell? ⟨w.heap.size + 1, 4, none⟩ = some (.slice none 0 0) := cell_of_row w3 _ 4 _ _ (0, 0) HY.out
                obtain ⟨z0, z1, z2, z3, z4, y0, y1, y2, y3, y4, z5⟩ := Res5.of hx3
                have KB : Hid (Box (put5 w3 w.heap.size 0 (.mk 0 0 0 ⟨#[]⟩ none 0 [] : LT)) w.heap.size (.mk 0 0 0 ⟨#[]⟩ none 0 [] : LT)) := put_box hx3
                have KL : Hid (Below w.heap.size w (put5 w3 w.heap.size 0 (.mk 0 0 0 ⟨#[]⟩ none 0 [] : LT))) := put_below HB3.out (Nat.le_refl _)
                clear hb3 hx3 CD
                go_wp2
                obtain ⟨k0, k1, k2, k3, k4⟩ := KB.out
                simp only [put5, Nat.zero_add, decT, LT.row, LT.k, LT.n, LT.e, LT.s, LT.a, LT.cap, LT.kids, List.length_nil] at k0 k1 k2 k3 k4
                refine bodyPost_ret (v := .tuple #[.agg #[.int .i64 0, .int .i64 0, .int .i64 0, .string ⟨#[]⟩, .slice none 0 0], .bool false]) (by simp [results, Try.results12, go_sem, k0, k1, k2, k3, k4]) rfl ?_
                exact ⟨by rw [HV.out, HV2.out]; rfl, KL.out⟩
            · clear hf
              cases hd : decOk m f with
              | true =>
                rw [hd] at CD HV2
                replace CD := Lib.hid CD
                clear hd
                go_wp2_with fail
                with_reducible refine (CD.out _).mono ?_
                rintro r w3 ⟨rfl, hb3⟩
                have hx3 : w3.heap[w.heap.size]? = some (.cells #[.int .i64 0, .int .i64 0, .int .i64 0, .string ⟨#[]⟩, .slice none 0 0] 26 (0, 0)) := (hb3.block _ (by simp; omega)).trans ((Below.heap_alloc _ _ _ (by simp)).trans (heap_alloc_new w _))
                have HB3 : Hid (Below w.heap.size w w3) := (((Below.refl w.heap.size w).alloc (Nat.le_refl _) _).alloc (by simp) _).trans (hb3.mono (by simp; omega))
                have HY : Hid (w3.heap[w.heap.size + 1]? = some (.cells #[.int .i64 4, .int .i64 m, .int .i64 f, .string ⟨#[]⟩, .slice none 0 0] 26 (0, 0))) := by
                  refine (hb3.block _ (by simp)).trans ?_
                  have := heap_alloc_new (w.alloc (.cells #[.int .i64 0, .int .i64 0, .int .i64 0, .string ⟨#[]⟩, .slice none 0 0] 26)) (.cells #[.int .i64 4, .int .i64 m, .int .i64 f, .string ⟨#[]⟩, .slice none 0 0] 26)
                  simpa using this
                have d0 : w3.cell? ⟨w.heap.size + 1, 0, none⟩ = some (.int .i64 4) := cell_of_row w3 _ 0 _ _ (0, 0) HY.out
                have d1 : w3.cell? ⟨w.heap.size + 1, 1, none⟩ = some (.int .i64 m) := cell_of_row w3 _ 1 _ _ (0, 0) HY.out
                have d2 : w3.cell? ⟨w.heap.size + 1, 2, none⟩ = some (.int .i64 f) := cell_of_row w3 _ 2 _ _ (0, 0) HY.out
                have d3 : w3.cell? ⟨w.heap.size + 1, 3, none⟩ = some (.string ⟨#[]⟩) := cell_of_row w3 _ 3 _ _ (0, 0) HY.out
                have d4 : w3.cell? ⟨w.heap.size + 1, 4, none⟩ = some (.slice none 0 0) := cell_of_row w3 _ 4 _ _ (0, 0) HY.out
                obtain ⟨z0, z1, z2, z3, z4, y0, y1, y2, y3, y4, z5⟩ := Res5.of hx3
                have KB : Hid (Box (put5 w3 w.heap.size 0 (decT m f)) w.heap.size (decT m f)) := put_box hx3
                have KL : Hid (Below w.heap.size w (put5 w3 w.heap.size 0 (decT m f))) := put_below HB3.out (Nat.le_refl _)
                clear hb3 hx3 CD
                go_wp2
                obtain ⟨k0, k1, k2, k3, k4⟩ := KB.out
                simp only [put5, Nat.zero_add, decT, LT.row, LT.k, LT.n, LT.e, LT.s, LT.a, LT.cap, LT.kids, List.length_nil] at k0 k1 k2 k3 k4
                refine bodyPost_ret (v := .tuple #[.agg #[.int .i64 4, .int .i64 m, .int .i64 f, .string ⟨#[]⟩, .slice none 0 0], .bool true]) (by simp [results, Try.results12, go_sem, k0, k1, k2, k3, k4]) rfl ?_
                exact ⟨by rw [HV.out, HV2.out]; rfl, KL.out⟩
              | false =>
                rw [hd] at CD HV2
                replace CD := Lib.hid CD
                clear hd
                go_wp2_with fail
                with_reducible refine (CD.out _).mono ?_
                rintro r w3 ⟨rfl, hb3⟩
                have hx3 : w3.heap[w.heap.size]? = some (.cells #[.int .i64 0, .int .i64 0, .int .i64 0, .string ⟨#[]⟩, .slice none 0 0] 26 (0, 0)) := (hb3.block _ (by simp; omega)).trans ((Below.heap_alloc _ _ _ (by simp)).trans (heap_alloc_new w _))
                have HB3 : Hid (Below w.heap.size w w3) := (((Below.refl w.heap.size w).alloc (Nat.le_refl _) _).alloc (by simp) _).trans (hb3.mono (by simp; omega))
                have HY : Hid (w3.heap[w.heap.size + 1]? = some (.cells #[.int .i64 4, .int .i64 m, .int .i64 f, .string ⟨#[]⟩, .slice none 0 0] 26 (0, 0))) := by
                  refine (hb3.block _ (by simp)).trans ?_
                  have := heap_alloc_new (w.alloc (.cells #[.int .i64 0, .int .i64 0, .int .i64 0, .string ⟨#[]⟩, .slice none 0 0] 26)) (.cells #[.int .i64 4, .int .i64 m, .int .i64 f, .string ⟨#[]⟩, .slice none 0 0] 26)
                  simpa using this
                have d0 : w3.cell? ⟨w.heap.size + 1, 0, none⟩ = some (.int .i64 4) := cell_of_row w3 _ 0 _ _ (0, 0) HY.out
                have d1 : w3.cell? ⟨w.heap.size + 1, 1, none⟩ = some (.int .i64 m) := cell_of_row w3 _ 1 _ _ (0, 0) HY.out
                have d2 : w3.cell? ⟨w.heap.size + 1, 2, none⟩ = some (.int .i64 f) := cell_of_row w3 _ 2 _ _ (0, 0) HY.out
                have d3 : w3.cell? ⟨w.heap.size + 1, 3, none⟩ = some (.string ⟨#[]⟩) := cell_of_row w3 _ 3 _ _ (0, 0) HY.out
                have d4 : w3.cell? ⟨w.heap.size + 1, 4, none⟩ = some (.slice none 0 0) := cell_of_row w3 _ 4 _ _ (0, 0) HY.out
                obtain ⟨z0, z1, z2, z3, z4, y0, y1, y2, y3, y4, z5⟩ := Res5.of hx3
                have KB : Hid (Box (put5 w3 w.heap.size 0 (.mk 0 0 0 ⟨#[]⟩ none 0 [] : LT)) w.heap.size (.mk 0 0 0 ⟨#[]⟩ none 0 [] : LT)) := put_box hx3
                have KL : Hid (Below w.heap.size w (put5 w3 w.heap.size 0 (.mk 0 0 0 ⟨#[]⟩ none 0 [] : LT))) := put_below HB3.out (Nat.le_refl _)
                clear hb3 hx3 CD
                go_wp2
                obtain ⟨k0, k1, k2, k3, k4⟩ := KB.out
                simp only [put5, Nat.zero_add, decT, LT.row, LT.k, LT.n, LT.e, LT.s, LT.a, LT.cap, LT.kids, List.length_nil] at k0 k1 k2 k3 k4
                refine bodyPost_ret (v := .tuple #[.agg #[.int .i64 0, .int .i64 0, .int .i64 0, .string ⟨#[]⟩, .slice none 0 0], .bool false]) (by simp [results, Try.results12, go_sem, k0, k1, k2, k3, k4]) rfl ?_
                exact ⟨by rw [HV.out, HV2.out]; rfl, KL.out⟩

end Go.Proofs.Ythjholhjkahdkaa.num
