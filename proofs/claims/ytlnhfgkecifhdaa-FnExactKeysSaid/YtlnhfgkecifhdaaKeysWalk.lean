/-
  What spec.Keys and impl.Keys return: the texts of a map's text keys, in order.
-/
import Derived.Test.YtlnhfgkecifhdaaValOwn
import Derived.Test.YtlnhfgkecifhdaaStrRead
import Derived.Test.YtlnhfgkecifhdaaShelfClone
namespace Go.Proofs.Ytlnhfgkecifhdaa.val
open Go.ChangeShapes Go.WideShapes Go.ChangeAt Go.RowKit
open Go.Proofs.Ytlnhfgkecifhdaa.strs (encS oneS)
set_option maxRecDepth 100000

def VT.k : VT → Int | .mk k _ _ _ _ => k
def VT.s : VT → ByteArray | .mk _ _ _ s _ => s
def VT.kids : VT → List VT | .mk _ _ _ _ l => l
theorem er_k (t : LT) : (er t).k = t.k := by rw [er_mk]; rfl
theorem er_s (t : LT) : (er t).s = t.s := by rw [er_mk]; rfl
/-- The text keys among the first m keys. -/
def keyAt (l : List VT) (m : Nat) : List ByteArray := match l[2 * m]? with | some v => if v.k = 5 then [v.s] else [] | none => []
def keysTo (l : List VT) : Nat → List ByteArray
  | 0 => []
  | m + 1 => keysTo l m ++ keyAt l m
def keysOf (v : VT) : List ByteArray := if v.k = 8 then keysTo v.kids ((v.kids.length + 1) / 2) else []
theorem keyAt_len (l : List VT) (m : Nat) : (keyAt l m).length ≤ 1 := by unfold keyAt; (repeat' split) <;> simp
theorem keysTo_len (l : List VT) : ∀ m, (keysTo l m).length ≤ m
  | 0 => by simp [keysTo]
  | m + 1 => by have := keysTo_len l m; have := keyAt_len l m; simp only [keysTo, List.length_append]; omega
theorem keyAt_yes (kids : List LT) (m i : Nat) (hi : i = 2 * m) (h : i < kids.length) (h5 : kids[i].k = 5) : keyAt (kids.map er) m = [kids[i].s] := by
  subst hi
  unfold keyAt
  rw [List.getElem?_map, List.getElem?_eq_getElem h]
  simp only [Option.map_some, er_k, er_s, h5, if_true]
theorem keyAt_no (kids : List LT) (m i : Nat) (hi : i = 2 * m) (h : i < kids.length) (h5 : kids[i].k ≠ 5) : keyAt (kids.map er) m = [] := by
  subst hi
  unfold keyAt
  rw [List.getElem?_map, List.getElem?_eq_getElem h]
  simp only [Option.map_some, er_k, if_neg h5]
theorem info9 : (Try.prog.info? 9).map (fun i => (i.zero, i.size, i.bytes)) = some (some (.string ⟨#[]⟩), 1, 16) := by kernel_rfl

def KeysC (F : FuncId) (w' : World) (t : LT) : Prop := Calls Try.prog F #[t.val] w' fun e w'' => ∃ v, e = .returned v ∧ OwnL w'' w'.heap.size 9 encS v (keysOf (er t)) ∧ Below w'.heap.size w' w''
/-- The boxed parameter's cells. -/
structure Boxed (wr : World) (N : Nat) (k : Int) (row : Value) : Prop where
  c0 : wr.cell? ⟨N, 0, none⟩ = some (.int .i64 k)
  c4 : wr.cell? ⟨N, 4, none⟩ = some row
theorem boxed_of {w' wr : World} {k n e : Int} {s : ByteArray} {row : Value} {T : TypeId} (h : Below (w'.heap.size + 1) (w'.alloc (.cells #[.int .i64 k, .int .i64 n, .int .i64 e, .string s, row] T)) wr) : Boxed wr w'.heap.size k row := by
  have hb := heap_alloc_new w' (.cells #[.int .i64 k, .int .i64 n, .int .i64 e, .string s, row] T)
  have hb2 := (h.block w'.heap.size (by omega)).trans hb
  exact ⟨cell_of_row wr _ 0 _ _ (0, 0) hb2, cell_of_row wr _ 4 _ _ (0, 0) hb2⟩

theorem clone_any (s : ByteArray) (w : World) (hs : s.size ≤ 281474976710656) :
    Calls Try.prog 65 #[.string s] w fun e w' => e = .returned (.string s) ∧ Below w.heap.size w w' := by
  have C := Lib.hid (Try.stringslite_Clone s w hs)
  go_enter Try.func65, Try.ntmps65
  go_wp2_with fail
  with_reducible refine C.out.mono ?_
  rintro e w1 ⟨rfl, hb⟩
  go_wp2
  go_ret
  exact ⟨rfl, hb⟩

set_option maxHeartbeats 2000000 in
theorem spec_keys {w : World} {B : Nat} {t : LT} (h : In w B t) (hz : t.sz ≤ 1048576) : ∀ w', Below B w w' → B ≤ w'.heap.size → KeysC 33 w' t := by
  obtain ⟨i0, hi0, hz0, hz1, hz2⟩ := info_parts info9
  have hsl := szL_len t.kids
  have hsz := sz_mk t
  cases h with
  | mk hk hn he hs hl hc hkids =>
    rename_i k n e s a cap kids
    intro w' hb hB
    have HC := Lib.hid hc
    have HB := Lib.hid hb
    unfold KeysC LT.val LT.row
    simp only [LT.k, LT.n, LT.e, LT.s, LT.a, LT.cap, LT.kids] at *
    have HS : Hid (∀ i (h : i < kids.length), kids[i].s.size ≤ 1048576) := fun i h => by
      have h1 := szL_take kids i h
      have h2 := szL_le kids (i + 1)
      have h3 := sz_mk kids[i]
      omega
    have hkl : kids.length ≤ 1048576 := by omega
    clear hsl hsz hz
    have HX : Hid (Below (w'.heap.size + 1) (w'.alloc (.cells #[.int .i64 k, .int .i64 n, .int .i64 e, .string s, .slice a kids.length cap] 29)) ((w'.alloc (.cells #[.int .i64 k, .int .i64 n, .int .i64 e, .string s, .slice a kids.length cap] 29)).alloc (.cells #[] 9))) := (Below.refl _ _).alloc (by simp) _
    have HA : Hid (Below w'.heap.size w' (w'.alloc (.cells #[.int .i64 k, .int .i64 n, .int .i64 e, .string s, .slice a kids.length cap] 29))) := (Below.refl _ _).alloc (Nat.le_refl _) _
    have H0 : Hid (OwnL ((w'.alloc (.cells #[.int .i64 k, .int .i64 n, .int .i64 e, .string s, .slice a kids.length cap] 29)).alloc (.cells #[] 9)) (w'.heap.size + 1) 9 encS (.slice (some ⟨w'.heap.size + 1, 0, none⟩) 0 0) []) := by
      have := OwnL.empty (base := w'.heap.size + 1) (w'.alloc (.cells #[.int .i64 k, .int .i64 n, .int .i64 e, .string s, .slice a kids.length cap] 29)) 9 encS (by simp)
      unfold Hid
      simpa using this
    have HR : Hid (k = 8 → keysOf (er (.mk k n e s a cap kids)) = keysTo (kids.map er) ((kids.length + 1) / 2)) := fun h8 => by
      rw [er_mk]; unfold keysOf; simp [VT.k, VT.kids, LT.k, LT.kids, h8]
    have HR0 : Hid (k ≠ 8 → keysOf (er (.mk k n e s a cap kids)) = []) := fun h8 => by
      rw [er_mk]; unfold keysOf; simp [VT.k, LT.k, h8]
    clear hc hkids hb
    generalize keysOf (er (.mk k n e s a cap kids)) = R at *
    by_cases h8 : k = 8
    · subst h8
      replace HR := Lib.hid (HR.out rfl)
      clear HR0
      go_enter Try.func33, Try.ntmps33
      go_wp2_with fail
      go_loopw [3, 4] (fun v i wr => ∃ (j m : Nat), i = .int .i64 j ∧ j ≤ kids.length + 1 ∧ Hid (j = 2 * m) ∧ m ≤ 1048577 ∧ w'.heap.size + 1 ≤ wr.heap.size ∧ Hid (OwnL wr (w'.heap.size + 1) 9 encS v (keysTo (kids.map er) m)) ∧ Hid (Below (w'.heap.size + 1) (w'.alloc (.cells #[.int .i64 8, .int .i64 n, .int .i64 e, .string s, .slice a kids.length cap] 29)) wr)) (fun _ i _ => kids.length + 2 - (intOf i).toNat)
      case atStart => exact ⟨0, 0, rfl, by omega, rfl, by omega, by simp, H0, HX⟩
      case round =>
        clear HX H0
        obtain ⟨j, m, rfl, hj, HJ, hm, hwz, HO, HW⟩ := hrel
        obtain ⟨x0, x4⟩ := boxed_of HW.out
        have hlk := keysTo_len (kids.map er) m
        by_cases hlt : j < kids.length
        · have hj0 : (0 : Int) ≤ (j : Int) := by omega
          have hj1 : (j : Int) < (kids.length : Int) := by omega
          obtain ⟨x, rfl, hx, h5⟩ := HC.out j hlt
          have hbr := HB.out.trans ((HA.out.trans (HW.out.mono (by omega))).mono hB)
          obtain ⟨c0, c1, c2, c3, c4⟩ := h5.below (by rw [add_block]; exact hx) hbr
          have HY : Hid (kids[j].k = 5 → keysTo (kids.map er) (m + 1) = keysTo (kids.map er) m ++ [kids[j].s]) := fun h => by rw [keysTo, keyAt_yes kids m j HJ.out hlt h]
          have HN : Hid (kids[j].k ≠ 5 → keysTo (kids.map er) (m + 1) = keysTo (kids.map er) m) := fun h => by rw [keysTo, keyAt_no kids m j HJ.out hlt h, List.append_nil]
          have hts := HS.out j hlt
          generalize kids[j] = t at *
          clear h5 hbr c1 c2 c4
          by_cases ht5 : t.k = 5
          · have ht5' : (t.k == 5) = true := by simp [ht5]
            have HY1 := Lib.hid (HY.out ht5)
            clear ht5 HY HN
            go_wp2_with (first
            | (at_builtin; refine wpList_app (by rfl) _ _ _ (by rfl) (w'.heap.size + 1) 9 encS i0 _ 16 Try.underlying41 hi0 hz0 hz1 hz2 rfl oneS _ _ (by rfl) (HO.out.alloc _) wr.heap.size 1 1 [t.s] (by rfl) (by rfl) _ (heap_alloc_new wr _) (by rfl) (by unfold maxLen; omega) (by omega) (by simp; omega) ?_; intro v1 w3 hown3 hg3))
            have b3 := grown_below (HW.out.alloc (by omega) _) (by simp; omega) (HO.out.alloc _) hg3
            have HO4 : Hid (OwnL w3 (w'.heap.size + 1) 9 encS v1 (keysTo (kids.map er) (m + 1))) := by unfold Hid; rw [HY1.out]; exact hown3
            have HW4 := Lib.hid b3
            have hz4 : w'.heap.size + 1 ≤ w3.heap.size := by have := hg3.size; simp at this; omega
            clear hown3 hg3 b3 HO HW x0 x4 c0 c3
            go_wp2
            go_roundw
            case rel => exact ⟨j + 2, m + 1, by go_num, by omega, by have := HJ.out; unfold Hid; omega, by have := HJ.out; omega, hz4, HO4, HW4⟩
            case measure => simp [intOf]; omega
          · have ht5' : (t.k == 5) = false := by simp [ht5]
            have HY1 := Lib.hid (HN.out ht5)
            clear ht5 HY HN
            have HO4 : Hid (OwnL wr (w'.heap.size + 1) 9 encS u3 (keysTo (kids.map er) (m + 1))) := by unfold Hid; rw [HY1.out]; exact HO.out
            clear HO c3
            go_wp2
            go_roundw
            case rel => exact ⟨j + 2, m + 1, by go_num, by omega, by have := HJ.out; unfold Hid; omega, by have := HJ.out; omega, hwz, HO4, HW⟩
            case measure => simp [intOf]; omega
        · have hj1 : ¬ (j : Int) < (kids.length : Int) := by omega
          have e : (kids.length + 1) / 2 = m := by have := HJ.out; omega
          have HF : Hid (OwnL wr w'.heap.size 9 encS u3 R) := by rw [HR.out, e]; exact HO.out.mono (by omega)
          have HB2 := Lib.hid (HA.out.trans (HW.out.mono (by omega)))
          clear HO HW
          go_wp2
          go_ret
          exact ⟨_, rfl, HF.out, HB2.out⟩
    · have h8' : (k == 8) = false := by simp [h8]
      have HF : Hid (OwnL ((w'.alloc (.cells #[.int .i64 k, .int .i64 n, .int .i64 e, .string s, .slice a kids.length cap] 29)).alloc (.cells #[] 9)) w'.heap.size 9 encS (.slice (some ⟨w'.heap.size + 1, 0, none⟩) 0 0) R) := by rw [HR0.out h8]; exact H0.out.mono (by omega)
      have HB2 := Lib.hid (HA.out.trans (HX.out.mono (by omega)))
      clear HR HR0 h8 H0 HX
      go_enter Try.func33, Try.ntmps33
      go_wp2_with fail
      have hbx := boxed_of (Below.refl (w'.heap.size + 1) (w'.alloc (.cells #[.int .i64 k, .int .i64 n, .int .i64 e, .string s, .slice a kids.length cap] 29)))
      go_loopw [3, 4] (fun v i wr => v = .slice (some ⟨w'.heap.size + 1, 0, none⟩) 0 0 ∧ i = .int .i64 0 ∧ wr = (w'.alloc (.cells #[.int .i64 k, .int .i64 n, .int .i64 e, .string s, .slice a kids.length cap] 29)).alloc (.cells #[] 9)) (fun _ _ _ => 0)
      case atStart => exact ⟨rfl, rfl, rfl⟩
      case round =>
        obtain ⟨rfl, rfl, rfl⟩ := hrel
        by_cases hl0 : 0 < kids.length
        · have hl0' : (0 : Int) < (kids.length : Int) := by omega
          go_wp2
          go_ret
          exact ⟨_, rfl, HF.out, HB2.out⟩
        · have hl0' : ¬ (0 : Int) < (kids.length : Int) := by omega
          go_wp2
          go_ret
          exact ⟨_, rfl, HF.out, HB2.out⟩

set_option maxHeartbeats 2000000 in
theorem impl_keys {w : World} {B : Nat} {t : LT} (h : In w B t) (hz : t.sz ≤ 1048576) : ∀ w', Below B w w' → B ≤ w'.heap.size → KeysC 34 w' t := by
  obtain ⟨i0, hi0, hz0, hz1, hz2⟩ := info_parts info9
  have hsl := szL_len t.kids
  have hsz := sz_mk t
  cases h with
  | mk hk hn he hs hl hc hkids =>
    rename_i k n e s a cap kids
    intro w' hb hB
    have HC := Lib.hid hc
    have HB := Lib.hid hb
    unfold KeysC LT.val LT.row
    simp only [LT.k, LT.n, LT.e, LT.s, LT.a, LT.cap, LT.kids] at *
    have HS : Hid (∀ i (h : i < kids.length), kids[i].s.size ≤ 1048576) := fun i h => by
      have h1 := szL_take kids i h
      have h2 := szL_le kids (i + 1)
      have h3 := sz_mk kids[i]
      omega
    have hkl : kids.length ≤ 1048576 := by omega
    clear hsl hsz hz
    have HX : Hid (Below (w'.heap.size + 1) (w'.alloc (.cells #[.int .i64 k, .int .i64 n, .int .i64 e, .string s, .slice a kids.length cap] 29)) ((w'.alloc (.cells #[.int .i64 k, .int .i64 n, .int .i64 e, .string s, .slice a kids.length cap] 29)).alloc (.cells #[] 9))) := (Below.refl _ _).alloc (by simp) _
    have HA : Hid (Below w'.heap.size w' (w'.alloc (.cells #[.int .i64 k, .int .i64 n, .int .i64 e, .string s, .slice a kids.length cap] 29))) := (Below.refl _ _).alloc (Nat.le_refl _) _
    have H0 : Hid (OwnL ((w'.alloc (.cells #[.int .i64 k, .int .i64 n, .int .i64 e, .string s, .slice a kids.length cap] 29)).alloc (.cells #[] 9)) (w'.heap.size + 1) 9 encS (.slice (some ⟨w'.heap.size + 1, 0, none⟩) 0 0) []) := by
      have := OwnL.empty (base := w'.heap.size + 1) (w'.alloc (.cells #[.int .i64 k, .int .i64 n, .int .i64 e, .string s, .slice a kids.length cap] 29)) 9 encS (by simp)
      unfold Hid
      simpa using this
    have HR : Hid (k = 8 → keysOf (er (.mk k n e s a cap kids)) = keysTo (kids.map er) ((kids.length + 1) / 2)) := fun h8 => by
      rw [er_mk]; unfold keysOf; simp [VT.k, VT.kids, LT.k, LT.kids, h8]
    have HR0 : Hid (k ≠ 8 → keysOf (er (.mk k n e s a cap kids)) = []) := fun h8 => by
      rw [er_mk]; unfold keysOf; simp [VT.k, LT.k, h8]
    clear hc hkids hb
    generalize keysOf (er (.mk k n e s a cap kids)) = R at *
    by_cases h8 : k = 8
    · subst h8
      replace HR := Lib.hid (HR.out rfl)
      clear HR0
      go_enter Try.func34, Try.ntmps34
      go_wp2_with fail
      go_loopw [3, 4] (fun v i wr => ∃ (j m : Nat), i = .int .i64 j ∧ j ≤ kids.length + 1 ∧ Hid (j = 2 * m) ∧ m ≤ 1048577 ∧ w'.heap.size + 1 ≤ wr.heap.size ∧ Hid (OwnL wr (w'.heap.size + 1) 9 encS v (keysTo (kids.map er) m)) ∧ Hid (Below (w'.heap.size + 1) (w'.alloc (.cells #[.int .i64 8, .int .i64 n, .int .i64 e, .string s, .slice a kids.length cap] 29)) wr)) (fun _ i _ => kids.length + 2 - (intOf i).toNat)
      case atStart => exact ⟨0, 0, rfl, by omega, rfl, by omega, by simp, H0, HX⟩
      case round =>
        clear HX H0
        obtain ⟨j, m, rfl, hj, HJ, hm, hwz, HO, HW⟩ := hrel
        obtain ⟨x0, x4⟩ := boxed_of HW.out
        have hlk := keysTo_len (kids.map er) m
        by_cases hlt : j < kids.length
        · have hj0 : (0 : Int) ≤ (j : Int) := by omega
          have hj1 : (j : Int) < (kids.length : Int) := by omega
          obtain ⟨x, rfl, hx, h5⟩ := HC.out j hlt
          have hbr := HB.out.trans ((HA.out.trans (HW.out.mono (by omega))).mono hB)
          obtain ⟨c0, c1, c2, c3, c4⟩ := h5.below (by rw [add_block]; exact hx) hbr
          have HY : Hid (kids[j].k = 5 → keysTo (kids.map er) (m + 1) = keysTo (kids.map er) m ++ [kids[j].s]) := fun h => by rw [keysTo, keyAt_yes kids m j HJ.out hlt h]
          have HN : Hid (kids[j].k ≠ 5 → keysTo (kids.map er) (m + 1) = keysTo (kids.map er) m) := fun h => by rw [keysTo, keyAt_no kids m j HJ.out hlt h, List.append_nil]
          have hts := HS.out j hlt
          generalize kids[j] = t at *
          clear h5 hbr c1 c2 c4
          by_cases ht5 : t.k = 5
          · have ht5' : (t.k == 5) = true := by simp [ht5]
            have HY1 := Lib.hid (HY.out ht5)
            clear ht5 HY HN
            have CC := Lib.hid (clone_any t.s wr (by omega))
            go_wp2_with fail
            with_reducible refine CC.out.mono ?_
            rintro e2 w2 ⟨rfl, hb2⟩
            have HO2 := Lib.hid (HO.out.below hb2)
            have HW2 := Lib.hid (HW.out.trans (hb2.mono hwz))
            have hwz2 := hb2.size
            clear CC hb2
            go_wp2_with (first
            | (at_builtin; refine wpList_app (by rfl) _ _ _ (by rfl) (w'.heap.size + 1) 9 encS i0 _ 16 Try.underlying41 hi0 hz0 hz1 hz2 rfl oneS _ _ (by rfl) (HO2.out.alloc _) w2.heap.size 1 1 [t.s] (by rfl) (by rfl) _ (heap_alloc_new w2 _) (by rfl) (by unfold maxLen; omega) (by omega) (by simp; omega) ?_; intro v1 w3 hown3 hg3))
            have b3 := grown_below (HW2.out.alloc (by omega) _) (by simp; omega) (HO2.out.alloc _) hg3
            have HO4 : Hid (OwnL w3 (w'.heap.size + 1) 9 encS v1 (keysTo (kids.map er) (m + 1))) := by unfold Hid; rw [HY1.out]; exact hown3
            have HW4 := Lib.hid b3
            have hz4 : w'.heap.size + 1 ≤ w3.heap.size := by have := hg3.size; simp at this; omega
            clear hown3 hg3 b3 HO HW x0 x4 c0 c3
            go_wp2
            go_roundw
            case rel => exact ⟨j + 2, m + 1, by go_num, by omega, by have := HJ.out; unfold Hid; omega, by have := HJ.out; omega, hz4, HO4, HW4⟩
            case measure => simp [intOf]; omega
          · have ht5' : (t.k == 5) = false := by simp [ht5]
            have HY1 := Lib.hid (HN.out ht5)
            clear ht5 HY HN
            have HO4 : Hid (OwnL wr (w'.heap.size + 1) 9 encS u3 (keysTo (kids.map er) (m + 1))) := by unfold Hid; rw [HY1.out]; exact HO.out
            clear HO c3
            go_wp2
            go_roundw
            case rel => exact ⟨j + 2, m + 1, by go_num, by omega, by have := HJ.out; unfold Hid; omega, by have := HJ.out; omega, hwz, HO4, HW⟩
            case measure => simp [intOf]; omega
        · have hj1 : ¬ (j : Int) < (kids.length : Int) := by omega
          have e : (kids.length + 1) / 2 = m := by have := HJ.out; omega
          have HF : Hid (OwnL wr w'.heap.size 9 encS u3 R) := by rw [HR.out, e]; exact HO.out.mono (by omega)
          have HB2 := Lib.hid (HA.out.trans (HW.out.mono (by omega)))
          clear HO HW
          go_wp2
          go_ret
          exact ⟨_, rfl, HF.out, HB2.out⟩
    · have h8' : (k == 8) = false := by simp [h8]
      have HF : Hid (OwnL ((w'.alloc (.cells #[.int .i64 k, .int .i64 n, .int .i64 e, .string s, .slice a kids.length cap] 29)).alloc (.cells #[] 9)) w'.heap.size 9 encS (.slice (some ⟨w'.heap.size + 1, 0, none⟩) 0 0) R) := by rw [HR0.out h8]; exact H0.out.mono (by omega)
      have HB2 := Lib.hid (HA.out.trans (HX.out.mono (by omega)))
      clear HR HR0 h8 H0 HX
      go_enter Try.func34, Try.ntmps34
      go_wp2
      go_ret
      exact ⟨_, rfl, HF.out, HB2.out⟩

end Go.Proofs.Ytlnhfgkecifhdaa.val
