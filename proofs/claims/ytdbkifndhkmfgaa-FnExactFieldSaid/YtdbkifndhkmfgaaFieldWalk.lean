/-
  What spec.Field and impl.Field return: the value of a map's text key in new memory, or the zero value.
-/
import Derived.Test.YtdbkifndhkmfgaaCopySpec
import Derived.Test.YtdbkifndhkmfgaaCloneImpl
import Derived.Test.YtdbkifndhkmfgaaKeysWalk
import Derived.Test.YtdbkifndhkmfgaaLawKit
import Derived.Test.YtdbkifndhkmfgaaFinite
namespace Go.Proofs.Ytdbkifndhkmfgaa.val
open Go.ChangeShapes Go.WideShapes Go.ChangeAt Go.RowKit
set_option maxRecDepth 100000

/-- The value of the first text key of this text. -/
def fieldOf (key : ByteArray) : List VT → Option VT
  | a :: b :: rest => if a.k = 5 ∧ a.s = key then some b else fieldOf key rest
  | _ => none
def fieldV (v : VT) (key : ByteArray) : Option VT := if v.k = 8 then fieldOf key v.kids else none
def zeroV : VT := .mk 0 0 0 ⟨#[]⟩ []
theorem other_text {a b : ByteArray} (h : ¬ a = b) : (a.toList == b.toList) = false := by
  refine Bool.eq_false_iff.2 fun e => h ?_
  have e2 := eq_of_beq e
  rw [ByteArray.toList_eq, ByteArray.toList_eq] at e2
  exact bytes_inj e2
def zeroL : LT := .mk 0 0 0 ⟨#[]⟩ none 0 []
theorem drop_two (kids : List LT) (j : Nat) (h : j + 1 < kids.length) : (kids.map er).drop j = er (kids[j]'(Nat.lt_of_succ_lt h)) :: er kids[j + 1] :: (kids.map er).drop (j + 2) := by
  rw [List.drop_eq_getElem_cons (by simpa using Nat.lt_of_succ_lt h), List.drop_eq_getElem_cons (by simpa using h)]
  simp
theorem field_yes {key : ByteArray} (kids : List LT) (j : Nat) (h : j + 1 < kids.length) (h5 : (kids[j]'(Nat.lt_of_succ_lt h)).k = 5) (hs : (kids[j]'(Nat.lt_of_succ_lt h)).s = key) : fieldOf key ((kids.map er).drop j) = some (er kids[j + 1]) := by
  rw [drop_two kids j h, fieldOf, er_k, er_s, if_pos ⟨h5, hs⟩]
theorem field_no {key : ByteArray} (kids : List LT) (j : Nat) (h : j + 1 < kids.length) (hn : ¬ ((kids[j]'(Nat.lt_of_succ_lt h)).k = 5 ∧ (kids[j]'(Nat.lt_of_succ_lt h)).s = key)) : fieldOf key ((kids.map er).drop j) = fieldOf key ((kids.map er).drop (j + 2)) := by
  rw [drop_two kids j h, fieldOf, er_k, er_s, if_neg hn]
theorem field_end {key : ByteArray} (kids : List LT) (j : Nat) (h : ¬ j + 1 < kids.length) : fieldOf key ((kids.map er).drop j) = none := by
  have hl : ((kids.map er).drop j).length ≤ 1 := by simp; omega
  generalize (kids.map er).drop j = l at *
  match l, hl with
  | [], _ => rfl
  | [_], _ => rfl
/-- A value in new memory, as a plain value. -/
structure FreshV (w' w'' : World) (v : VT) (t' : LT) : Prop where
  er : er t' = v
  tr : Tr w'' t'
  new : ∀ b, b ∈ t'.blks → w'.heap.size ≤ b
  nodup : t'.blks.Nodup
  below : Below w'.heap.size w' w''
  sz : t'.sz ≤ 1048576
theorem FreshV.zero {w w' : World} (hb : Below w.heap.size w w') : FreshV w w' zeroV zeroL :=
  ⟨by rw [zeroL, val.er, erL_map]; rfl, .nil (by unfold InI; decide) (by unfold InI; decide) (by unfold InI; decide) (by decide), fun b hb => by simp [zeroL, LT.blks, LT.blksL] at hb, by simp [zeroL, LT.blks, LT.blksL], hb, by rw [zeroL, LT.sz, LT.szL]; decide⟩
theorem FreshV.of {w W w' : World} {t t' : LT} (h : Fresh W w' t t') (hb : Below w.heap.size w W) (hz : t.sz ≤ 1048576) : FreshV w w' (val.er t) t' :=
  ⟨h.er, h.tr, fun b hbb => Nat.le_trans hb.size (h.new b hbb), h.nodup, below_of2 hb h.below, by rw [er_sz h.er]; exact hz⟩
theorem FreshV.stored {w W w1 wf : World} {v : VT} {t' : LT} (h : FreshV W w1 v t') (hb : Below w.heap.size w W) (hz : w.heap.size + 2 ≤ W.heap.size) (hf : Below w.heap.size w1 wf) (hk : ∀ b, b ≠ w.heap.size + 1 → wf.heap[b]? = w1.heap[b]?) : FreshV w wf v t' :=
  ⟨h.er, h.tr.kept fun b hbb => hk b (by have := h.new b hbb; omega), fun b hbb => Nat.le_trans hb.size (h.new b hbb), h.nodup, (below_of2 hb h.below).trans hf, h.sz⟩
/-- The boxed parameter and the boxed result. -/
def two5 (w : World) (k n e : Int) (s : ByteArray) (row : Value) : World := (w.alloc (.cells #[.int .i64 k, .int .i64 n, .int .i64 e, .string s, row] 36)).alloc (.cells #[.int .i64 0, .int .i64 0, .int .i64 0, .string ⟨#[]⟩, .slice none 0 0] 36)
def FieldC (F : FuncId) (w : World) (t : LT) (key : ByteArray) : Prop := Calls Try.prog F #[.agg #[.int .i64 t.k, .int .i64 t.n, .int .i64 t.e, .string t.s, t.row], .string key] w fun e w' => ∃ t' : LT, e = .returned (.tuple #[.agg #[.int .i64 t'.k, .int .i64 t'.n, .int .i64 t'.e, .string t'.s, t'.row], .bool (fieldV (er t) key).isSome]) ∧ FreshV w w' ((fieldV (er t) key).getD zeroV) t'

/-- Where spec.l02Key finds the key. -/
def KeyAt (kids : List LT) (key : ByteArray) (r : Int) : Prop := (fieldOf key (kids.map er) = none ∧ r = -1) ∨ ∃ j : Nat, ∃ h : j + 1 < kids.length, r = (j : Int) ∧ fieldOf key (kids.map er) = some (er kids[j + 1])
set_option maxHeartbeats 2000000 in
theorem key_any (w : World) (B : Nat) (a : Option Addr) (cap : Nat) (kids : List LT) (key : ByteArray) (hl : kids.length ≤ 1048576) (hc : ∀ i (h : i < kids.length), ∃ x, a = some x ∧ x.block < B ∧ At5 w (x.add (i * 5)) kids[i]) (w' : World) (hb : Below B w w') (hB : B ≤ w'.heap.size) :
    Calls Try.prog 40 #[.slice a kids.length cap, .string key] w' fun e w'' => ∃ r, e = .returned (.int .i64 r) ∧ KeyAt kids key r ∧ Below w'.heap.size w' w'' := by
  have HC := Lib.hid hc
  have HB := Lib.hid hb
  clear hc hb
  go_enter Try.func40, Try.ntmps40
  go_wp2_with fail
  go_loopw [5] (fun i wr => ∃ j : Nat, i = .int .i64 j ∧ j ≤ kids.length + 1 ∧ Hid (Below w'.heap.size w' wr) ∧ Hid (fieldOf key (kids.map er) = fieldOf key ((kids.map er).drop j))) (fun i _ => kids.length + 2 - (intOf i).toNat)
  case atStart => exact ⟨0, rfl, by omega, Below.refl _ _, rfl⟩
  case round =>
    obtain ⟨j, rfl, hj, HW, HE⟩ := hrel
    by_cases hlt : j + 1 < kids.length
    · have hlt1 : (j : Int) + 1 < (kids.length : Int) := by omega
      have hj0 : (0 : Int) ≤ (j : Int) := by omega
      have hj1 : (j : Int) < (kids.length : Int) := by omega
      obtain ⟨x, rfl, hx, h5⟩ := HC.out j (Nat.lt_of_succ_lt hlt)
      have hbr := HB.out.trans (HW.out.mono hB)
      obtain ⟨c0, c1, c2, c3, c4⟩ := h5.below (by rw [add_block]; exact hx) hbr
      have HY : Hid ((kids[j]'(Nat.lt_of_succ_lt hlt)).k = 5 → (kids[j]'(Nat.lt_of_succ_lt hlt)).s = key → KeyAt kids key (j : Int)) := fun h1 h2 => .inr ⟨j, hlt, rfl, HE.out.trans (field_yes kids j hlt h1 h2)⟩
      have HN : Hid (¬ ((kids[j]'(Nat.lt_of_succ_lt hlt)).k = 5 ∧ (kids[j]'(Nat.lt_of_succ_lt hlt)).s = key) → fieldOf key (kids.map er) = fieldOf key ((kids.map er).drop (j + 2))) := fun h1 => HE.out.trans (field_no kids j hlt h1)
      generalize kids[j]'(Nat.lt_of_succ_lt hlt) = t at *
      clear h5 hbr c1 c2 c4 HE
      by_cases ht5 : t.k = 5
      · have ht5' : (t.k == 5) = true := by simp [ht5]
        by_cases hts : t.s = key
        · have HY1 := Lib.hid (HY.out ht5 hts)
          rw [hts] at c3
          clear ht5 hts HY HN
          go_wp2
          go_ret
          exact ⟨_, rfl, HY1.out, HW.out⟩
        · have HN1 := Lib.hid (HN.out fun h => hts h.2)
          have hts' := other_text hts
          clear ht5 hts HY HN
          go_wp2
          go_roundw
          case rel => exact ⟨j + 2, by go_num, by omega, HW, HN1⟩
          case measure => simp [intOf]; omega
      · have ht5' : (t.k == 5) = false := by simp [ht5]
        have HN1 := Lib.hid (HN.out fun h => ht5 h.1)
        clear ht5 HY HN
        go_wp2
        go_roundw
        case rel => exact ⟨j + 2, by go_num, by omega, HW, HN1⟩
        case measure => simp [intOf]; omega
    · have hlt1 : ¬ (j : Int) + 1 < (kids.length : Int) := by omega
      have HN := Lib.hid (HE.out.trans (field_end kids j hlt))
      clear HE
      go_wp2
      go_ret
      exact ⟨_, rfl, .inl ⟨HN.out, rfl⟩, HW.out⟩

theorem field8 {k n e : Int} {s key : ByteArray} {a : Option Addr} {cap : Nat} {kids : List LT} (h8 : k = 8) : fieldV (er (.mk k n e s a cap kids)) key = fieldOf key (kids.map er) := by
  rw [er_mk]; unfold fieldV; simp [VT.k, VT.kids, LT.k, LT.kids, h8]
theorem field_not8 {k n e : Int} {s key : ByteArray} {a : Option Addr} {cap : Nat} {kids : List LT} (h8 : k ≠ 8) : fieldV (er (.mk k n e s a cap kids)) key = none := by
  rw [er_mk]; unfold fieldV; simp [VT.k, LT.k, h8]
theorem FreshV.none {w w1 : World} (hb : Below w.heap.size w w1) : FreshV w (put5 w1 (w.heap.size + 1) 0 zeroL) zeroV zeroL := FreshV.zero (put_below hb (by omega))
theorem FreshV.some {w W w1 : World} {v : VT} {t' : LT} (h : FreshV W w1 v t') (hb : Below w.heap.size w W) (hz : w.heap.size + 2 ≤ W.heap.size) : FreshV w (put5 w1 (w.heap.size + 1) 0 t') v t' := h.stored hb hz (put5_below t' (by omega)) (fun _ hb => put5_other t' hb)
set_option maxHeartbeats 2000000 in
theorem spec_field_mk {w : World} {k n e : Int} {s : ByteArray} {a : Option Addr} {cap : Nat} {kids : List LT} (key : ByteArray) (R : Option VT) (h : In w w.heap.size (.mk k n e s a cap kids)) (hz : (LT.mk k n e s a cap kids).sz ≤ 1048576) (h8 : k = 8 → R = fieldOf key (kids.map er)) (h80 : k ≠ 8 → R = none) : Calls Try.prog 21 #[.agg #[.int .i64 k, .int .i64 n, .int .i64 e, .string s, .slice a kids.length cap], .string key] w fun e w' => ∃ t' : LT, e = .returned (.tuple #[.agg #[.int .i64 t'.k, .int .i64 t'.n, .int .i64 t'.e, .string t'.s, t'.row], .bool R.isSome]) ∧ FreshV w w' (R.getD zeroV) t' := by
  have hsl := szL_len kids
  have hsz := sz_mk (.mk k n e s a cap kids)
  simp only [LT.s, LT.kids] at hsz
  cases h with
  | mk hk hn he hs hl hc hkids =>
    have HC := Lib.hid hc
    have H8 := Lib.hid h8
    have H80 := Lib.hid h80
    have HA : Hid (Below w.heap.size w (two5 w k n e s (.slice a kids.length cap))) := ((Below.refl _ _).alloc (Nat.le_refl _) _).alloc (by simp) _
    have CK := Lib.hid (key_any w w.heap.size a cap kids key (by omega) hc _ HA.out HA.out.size)
    have HB0 : Hid (Boxed (two5 w k n e s (.slice a kids.length cap)) w.heap.size k (.slice a kids.length cap)) := boxed_of ((Below.refl _ _).alloc (by simp) _)
    have hw1 : (two5 w k n e s (.slice a kids.length cap)).heap.size = w.heap.size + 2 := by simp [two5]
    have HZ : Hid ((two5 w k n e s (.slice a kids.length cap)).heap[w.heap.size + 1]? = some (.cells #[.int .i64 0, .int .i64 0, .int .i64 0, .string ⟨#[]⟩, .slice none 0 0] 36 (0, 0))) := by
      have := heap_alloc_new (w.alloc (.cells #[.int .i64 k, .int .i64 n, .int .i64 e, .string s, .slice a kids.length cap] 36)) (.cells #[.int .i64 0, .int .i64 0, .int .i64 0, .string ⟨#[]⟩, .slice none 0 0] 36)
      rw [World.size_alloc] at this
      exact this
    have CC : Hid (∀ i (h : i < kids.length) W, Below w.heap.size w W → Calls Try.prog 41 #[.agg #[.int .i64 kids[i].k, .int .i64 kids[i].n, .int .i64 kids[i].e, .string kids[i].s, kids[i].row]] W fun e w'' => ∃ t' : LT, e = .returned (.agg #[.int .i64 t'.k, .int .i64 t'.n, .int .i64 t'.e, .string t'.s, t'.row]) ∧ FreshV W w'' (er kids[i]) t') := fun i hi W hW => by
      have hzk := sz_kid i hi
      have hzi : kids[i].sz ≤ 1048576 := by omega
      refine (copy_any (hkids i hi) (nodes_small _ hzi) W hW hW.size).mono ?_
      rintro e w'' ⟨t', rfl, hF⟩
      exact ⟨t', rfl, FreshV.of hF (Below.refl _ _) hzi⟩
    have hkl : kids.length ≤ 1048576 := by omega
    clear hsl hsz hz hc hkids h8 h80
    go_enter Try.func21, Try.ntmps21
    have ⟨b0, b4⟩ := HB0.out
    go_wp2_with fail
    refine CK.out.mono ?_
    rintro e1 w1 ⟨r, rfl, hr, hb1⟩
    have hz1 := hb1.size
    have HZ1 := Lib.hid ((hb1.block _ (by omega)).trans HZ.out)
    have HB1 := Lib.hid (below_of2 HA.out hb1)
    have hblk := hb1.block w.heap.size (by omega)
    have r0 : w1.cell? ⟨w.heap.size, 0, none⟩ = some (.int .i64 k) := (World.cell?_of_block hblk).trans b0
    have r4 : w1.cell? ⟨w.heap.size, 4, none⟩ = some (.slice a kids.length cap) := (World.cell?_of_block hblk).trans b4
    clear b0 b4 CK hb1 HB0 HA HZ hblk
    rw [hw1] at hz1
    clear hw1
    by_cases h8 : k = 8
    · have HR := H8.out h8
      subst h8
      rcases hr with ⟨hr, rfl⟩ | ⟨j, hj, rfl, hr⟩
      · rw [hr] at HR
        subst HR
        have HF := Lib.hid (FreshV.none HB1.out)
        obtain ⟨z0, z1, z2, z3, z4, y0, y1, y2, y3, y4, z5⟩ := Res5.of HZ1.out
        obtain ⟨k0, k1, k2, k3, k4⟩ := z5.out |> put_box (t := zeroL)
        simp only [put5, Nat.zero_add, zeroL, LT.row, LT.k, LT.n, LT.e, LT.s, LT.a, LT.cap, LT.kids, List.length_nil] at k0 k1 k2 k3 k4
        clear CC H8 H80 z5
        go_wp2
        refine bodyPost_ret (v := .tuple #[.agg #[.int .i64 0, .int .i64 0, .int .i64 0, .string ⟨#[]⟩, .slice none 0 0], .bool false]) (by simp [results, Try.results21, go_sem, k0, k1, k2, k3, k4]) rfl ?_
        exact ⟨zeroL, rfl, HF.out⟩
      · rw [hr] at HR
        subst HR
        clear H8 H80
        obtain ⟨x, rfl, hx, h5⟩ := HC.out (j + 1) hj
        obtain ⟨c0, c1, c2, c3, c4⟩ := h5.below (by rw [add_block]; exact hx) HB1.out
        have C := CC.out (j + 1) hj w1 HB1.out
        have hj0 : (0 : Int) ≤ (j : Int) + 1 := by omega
        have hj1 : (j : Int) + 1 < (kids.length : Int) := by omega
        have hjn : ¬ (j : Int) < 0 := by omega
        clear h5 CC HC
        generalize hkt : kids[j + 1] = t at *
        replace hkt := Lib.hid hkt
        have hrow : t.row = .slice t.a t.kids.length t.cap := rfl
        rw [hrow] at C c4
        replace C := Lib.hid C
        clear hrow
        go_wp2_with fail
        with_reducible refine C.out.mono ?_
        rintro e2 w2 ⟨t', rfl, hF⟩
        have HF := Lib.hid (hF.some HB1.out hz1)
        obtain ⟨z0, z1, z2, z3, z4, y0, y1, y2, y3, y4, z5⟩ := Res5.of ((hF.below.block _ (by omega)).trans HZ1.out)
        obtain ⟨k0, k1, k2, k3, k4⟩ := z5.out |> put_box (t := t')
        have hrow : t'.row = .slice t'.a t'.kids.length t'.cap := rfl
        simp only [put5, Nat.zero_add, hrow] at k0 k1 k2 k3 k4
        rw [hrow]
        clear C z5 hF HZ1 HB1 c0 c1 c2 c3 c4 r0 r4 hrow
        go_wp2
        refine bodyPost_ret (v := .tuple #[.agg #[.int .i64 t'.k, .int .i64 t'.n, .int .i64 t'.e, .string t'.s, .slice t'.a t'.kids.length t'.cap], .bool true]) (by simp [results, Try.results21, go_sem, k0, k1, k2, k3, k4]) rfl ?_
        exact ⟨t', rfl, by have h := HF.out; rw [← hkt.out] at h; exact h⟩
    · have HR := H80.out h8
      subst HR
      have h8' : (k == 8) = false := by simp [h8]
      have HF := Lib.hid (FreshV.none HB1.out)
      obtain ⟨z0, z1, z2, z3, z4, y0, y1, y2, y3, y4, z5⟩ := Res5.of HZ1.out
      obtain ⟨k0, k1, k2, k3, k4⟩ := z5.out |> put_box (t := zeroL)
      simp only [put5, Nat.zero_add, zeroL, LT.row, LT.k, LT.n, LT.e, LT.s, LT.a, LT.cap, LT.kids, List.length_nil] at k0 k1 k2 k3 k4
      clear CC H8 H80 z5 hr
      go_wp2
      refine bodyPost_ret (v := .tuple #[.agg #[.int .i64 0, .int .i64 0, .int .i64 0, .string ⟨#[]⟩, .slice none 0 0], .bool false]) (by simp [results, Try.results21, go_sem, k0, k1, k2, k3, k4]) rfl ?_
      exact ⟨zeroL, rfl, HF.out⟩
theorem spec_field {w : World} {t : LT} (key : ByteArray) (h : In w w.heap.size t) (hz : t.sz ≤ 1048576) : FieldC 21 w t key := by
  cases t
  exact spec_field_mk key _ h hz field8 field_not8

set_option maxHeartbeats 4000000 in
theorem impl_field_mk (HFC : FinC) {w : World} {k n e : Int} {s : ByteArray} {a : Option Addr} {cap : Nat} {kids : List LT} (key : ByteArray) (R : Option VT) (h : Mine w (.mk k n e s a cap kids)) (hz : (LT.mk k n e s a cap kids).sz ≤ 1048576) (h8 : k = 8 → R = fieldOf key (kids.map er)) (h80 : k ≠ 8 → R = none) : Calls Try.prog 22 #[.agg #[.int .i64 k, .int .i64 n, .int .i64 e, .string s, .slice a kids.length cap], .string key] w fun e w' => ∃ t' : LT, e = .returned (.tuple #[.agg #[.int .i64 t'.k, .int .i64 t'.n, .int .i64 t'.e, .string t'.s, t'.row], .bool R.isSome]) ∧ FreshV w w' (R.getD zeroV) t' := by
  have hsl := szL_len kids
  have hsz := sz_mk (.mk k n e s a cap kids)
  simp only [LT.s, LT.kids] at hsz
  have HMK : Hid (∀ i (h : i < kids.length), Mine w kids[i]) := fun i hi => by obtain ⟨lo, h⟩ := h; exact ⟨lo, h.kid i hi⟩
  have hIn := h.isIn
  cases hIn with
  | mk hk hn he hs hl hc hkids =>
    have HC := Lib.hid hc
    have HA : Hid (Below w.heap.size w (two5 w k n e s (.slice a kids.length cap))) := ((Below.refl _ _).alloc (Nat.le_refl _) _).alloc (by simp) _
    have HB0 : Hid (Boxed (two5 w k n e s (.slice a kids.length cap)) w.heap.size k (.slice a kids.length cap)) := boxed_of ((Below.refl _ _).alloc (by simp) _)
    have hw1 : (two5 w k n e s (.slice a kids.length cap)).heap.size = w.heap.size + 2 := by simp [two5]
    have HZ : Hid ((two5 w k n e s (.slice a kids.length cap)).heap[w.heap.size + 1]? = some (.cells #[.int .i64 0, .int .i64 0, .int .i64 0, .string ⟨#[]⟩, .slice none 0 0] 36 (0, 0))) := by
      have := heap_alloc_new (w.alloc (.cells #[.int .i64 k, .int .i64 n, .int .i64 e, .string s, .slice a kids.length cap] 36)) (.cells #[.int .i64 0, .int .i64 0, .int .i64 0, .string ⟨#[]⟩, .slice none 0 0] 36)
      rw [World.size_alloc] at this
      exact this
    have CC : Hid (∀ i (h : i < kids.length) W, Below w.heap.size w W → Calls Try.prog 42 #[.agg #[.int .i64 kids[i].k, .int .i64 kids[i].n, .int .i64 kids[i].e, .string kids[i].s, kids[i].row]] W fun e w'' => ∃ t' : LT, e = .returned (.agg #[.int .i64 t'.k, .int .i64 t'.n, .int .i64 t'.e, .string t'.s, t'.row]) ∧ FreshV W w'' (er kids[i]) t') := fun i hi W hW => by
      have hzk := sz_kid i hi
      have hzi : kids[i].sz ≤ 1048576 := by omega
      refine (clone_val HFC W kids[i] ((HMK.out i hi).behind hW) (nodes_small _ hzi) hzi).mono ?_
      rintro e w'' ⟨t', rfl, hF⟩
      exact ⟨t', rfl, FreshV.of hF (Below.refl _ _) hzi⟩
    have hkl : kids.length ≤ 1048576 := by omega
    clear hsl hsz hz hc hkids HMK h
    have hrel0 : ∃ W, W = two5 w k n e s (.slice a kids.length cap) := ⟨_, rfl⟩
    obtain ⟨W1, hW1⟩ := hrel0
    rw [← hW1] at HA HB0 hw1 HZ
    have ⟨b0, b4⟩ := HB0.out
    obtain ⟨z0, z1, z2, z3, z4, y0, y1, y2, y3, y4, z5⟩ := Res5.of HZ.out
    unfold two5 at hW1
    by_cases hk8 : k = 8
    · have HR := Lib.hid (h8 hk8)
      subst hk8
      clear h8 h80
      go_enter Try.func22, Try.ntmps22
      go_wp2_with fail
      rw [← hW1]
      clear hW1
      have hwz : w.heap.size + 2 ≤ W1.heap.size := by omega
      clear hw1
      go_loopw [6] (fun i wr => ∃ j : Nat, i = .int .i64 j ∧ j ≤ kids.length + 1 ∧ wr = W1 ∧ Hid (R = fieldOf key ((kids.map er).drop j))) (fun i _ => kids.length + 2 - (intOf i).toNat)
      case atStart => exact ⟨0, rfl, by omega, rfl, HR⟩
      case round =>
        clear HR
        obtain ⟨j, rfl, hj, rfl, HE⟩ := hrel
        by_cases hlt : j + 1 < kids.length
        · have hlt1 : (j : Int) + 1 < (kids.length : Int) := by omega
          have hj0 : (0 : Int) ≤ (j : Int) := by omega
          have hj1 : (j : Int) < (kids.length : Int) := by omega
          have hjn0 : (0 : Int) ≤ (j : Int) + 1 := by omega
          obtain ⟨x, rfl, hx, h5⟩ := HC.out j (Nat.lt_of_succ_lt hlt)
          obtain ⟨c0, c1, c2, c3, c4⟩ := h5.below (by rw [add_block]; exact hx) HA.out
          have HY : Hid ((kids[j]'(Nat.lt_of_succ_lt hlt)).k = 5 → (kids[j]'(Nat.lt_of_succ_lt hlt)).s = key → R = some (er kids[j + 1])) := fun h1 h2 => HE.out.trans (field_yes kids j hlt h1 h2)
          have HN : Hid (¬ ((kids[j]'(Nat.lt_of_succ_lt hlt)).k = 5 ∧ (kids[j]'(Nat.lt_of_succ_lt hlt)).s = key) → R = fieldOf key ((kids.map er).drop (j + 2))) := fun h1 => HE.out.trans (field_no kids j hlt h1)
          generalize kids[j]'(Nat.lt_of_succ_lt hlt) = t at *
          clear h5 c1 c2 c4 HE
          by_cases ht5 : t.k = 5
          · have ht5' : (t.k == 5) = true := by simp [ht5]
            by_cases hts : t.s = key
            · have HR := Lib.hid (HY.out ht5 hts)
              rw [hts] at c3
              clear ht5 hts HY HN
              obtain ⟨x', ex, hx', h5⟩ := HC.out (j + 1) hlt
              obtain rfl : x = x' := by injection ex
              obtain ⟨d0, d1, d2, d3, d4⟩ := h5.below (by rw [add_block]; exact hx') HA.out
              have C := CC.out (j + 1) hlt _ HA.out
              clear h5 CC HC ex
              generalize hkt : kids[j + 1] = t2 at *
              clear hkt
              have hrow : t2.row = .slice t2.a t2.kids.length t2.cap := rfl
              rw [hrow] at C d4
              replace C := Lib.hid C
              clear hrow z0 z1 z2 z3 z4 y0 y1 y2 y3 y4 z5
              go_wp2_with fail
              with_reducible refine C.out.mono ?_
              rintro e2 w2 ⟨t', rfl, hF⟩
              have HF := Lib.hid (hF.some HA.out hwz)
              obtain ⟨z0, z1, z2, z3, z4, y0, y1, y2, y3, y4, z5⟩ := Res5.of ((hF.below.block _ (by omega)).trans HZ.out)
              obtain ⟨k0, k1, k2, k3, k4⟩ := z5.out |> put_box (t := t')
              have hrow : t'.row = .slice t'.a t'.kids.length t'.cap := rfl
              simp only [put5, Nat.zero_add, hrow] at k0 k1 k2 k3 k4
              rw [hrow]
              clear C z5 hF HZ HA c0 c3 d0 d1 d2 d3 d4 b0 b4 hrow
              go_wp2
              refine bodyPost_ret (v := .tuple #[.agg #[.int .i64 t'.k, .int .i64 t'.n, .int .i64 t'.e, .string t'.s, .slice t'.a t'.kids.length t'.cap], .bool true]) (by simp [results, Try.results22, go_sem, k0, k1, k2, k3, k4]) rfl ?_
              exact ⟨t', by rw [HR.out]; rfl, by rw [HR.out]; exact HF.out⟩
            · have HN1 := Lib.hid (HN.out fun h => hts h.2)
              have hts' := other_text hts
              clear ht5 hts HY HN CC HC z0 z1 z2 z3 z4 y0 y1 y2 y3 y4 z5 HZ HA
              go_wp2
              go_roundw
              case rel => exact ⟨j + 2, by go_num, by omega, trivial, HN1⟩
              case measure => simp [intOf]; omega
          · have ht5' : (t.k == 5) = false := by simp [ht5]
            have HN1 := Lib.hid (HN.out fun h => ht5 h.1)
            clear ht5 HY HN CC HC z0 z1 z2 z3 z4 y0 y1 y2 y3 y4 z5 HZ HA c3
            go_wp2
            go_roundw
            case rel => exact ⟨j + 2, by go_num, by omega, trivial, HN1⟩
            case measure => simp [intOf]; omega
        · have hlt1 : ¬ (j : Int) + 1 < (kids.length : Int) := by omega
          have HR := Lib.hid (HE.out.trans (field_end kids j hlt))
          have HF := Lib.hid (FreshV.none HA.out)
          obtain ⟨k0, k1, k2, k3, k4⟩ := z5.out |> put_box (t := zeroL)
          simp only [put5, Nat.zero_add, zeroL, LT.row, LT.k, LT.n, LT.e, LT.s, LT.a, LT.cap, LT.kids, List.length_nil] at k0 k1 k2 k3 k4
          clear HE CC HC z5
          go_wp2
          refine bodyPost_ret (v := .tuple #[.agg #[.int .i64 0, .int .i64 0, .int .i64 0, .string ⟨#[]⟩, .slice none 0 0], .bool false]) (by simp [results, Try.results22, go_sem, k0, k1, k2, k3, k4]) rfl ?_
          exact ⟨zeroL, by rw [HR.out]; rfl, by rw [HR.out]; exact HF.out⟩
    · have HR := h80 hk8
      subst HR
      have h8' : (k == 8) = false := by simp [hk8]
      have HF := Lib.hid (FreshV.none HA.out)
      obtain ⟨k0, k1, k2, k3, k4⟩ := z5.out |> put_box (t := zeroL)
      simp only [put5, Nat.zero_add, zeroL, LT.row, LT.k, LT.n, LT.e, LT.s, LT.a, LT.cap, LT.kids, List.length_nil] at k0 k1 k2 k3 k4
      clear CC h8 h80 z5 hw1 HC
      go_enter Try.func22, Try.ntmps22
      go_upto_region 2 with (fail)
      rw [← hW1]
      clear hW1
      go_wp2
      refine bodyPost_ret (v := .tuple #[.agg #[.int .i64 0, .int .i64 0, .int .i64 0, .string ⟨#[]⟩, .slice none 0 0], .bool false]) (by simp [results, Try.results22, go_sem, k0, k1, k2, k3, k4]) rfl ?_
      exact ⟨zeroL, rfl, HF.out⟩
theorem impl_field (HFC : FinC) {w : World} {t : LT} (key : ByteArray) (h : Mine w t) (hz : t.sz ≤ 1048576) : FieldC 22 w t key := by
  cases t
  exact impl_field_mk HFC key _ h hz field8 field_not8


end Go.Proofs.Ytdbkifndhkmfgaa.val
