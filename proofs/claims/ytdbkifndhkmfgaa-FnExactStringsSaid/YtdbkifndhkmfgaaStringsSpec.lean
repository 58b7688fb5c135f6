/-
  What spec.Strings returns: the texts of all nodes that have one, each node ahead of its kids.
-/
import Derived.Test.YtdbkifndhkmfgaaValTell
import Derived.Test.YtdbkifndhkmfgaaStrRead
import Derived.Test.YtdbkifndhkmfgaaApp2
import Derived.Deep.Cut
namespace Go.Proofs.Ytdbkifndhkmfgaa.val
open Go.ChangeShapes Go.WideShapes Go.ChangeAt Go.RowKit
open Go.Proofs.Ytdbkifndhkmfgaa.strs (encS oneS)
set_option maxRecDepth 100000

def isText (k : Int) : Bool := decide (k = 5) || decide (k = 6)
mutual
def VT.strs : VT → List ByteArray
  | .mk k _ _ s kids => (if isText k then [s] else []) ++ VT.strsL kids
def VT.strsL : List VT → List ByteArray
  | [] => []
  | t :: ts => VT.strs t ++ VT.strsL ts
end
def textsOf (pre : List (Nat × LT)) : List ByteArray := (pre.filter (fun x => isText x.2.k)).map (fun x => x.2.s)
theorem textsOf_append (a b : List (Nat × LT)) : textsOf (a ++ b) = textsOf a ++ textsOf b := by simp [textsOf]
theorem textsOf_cons (x : Nat × LT) (l : List (Nat × LT)) : textsOf (x :: l) = (if isText x.2.k then [x.2.s] else []) ++ textsOf l := by
  unfold textsOf
  cases h : isText x.2.k <;> simp [h]
theorem textsOf_yes (pre : List (Nat × LT)) (x : Nat × LT) (h : isText x.2.k = true) : textsOf (pre ++ [x]) = textsOf pre ++ [x.2.s] := by
  rw [textsOf_append, textsOf_cons, if_pos h]; rfl
theorem textsOf_no (pre : List (Nat × LT)) (x : Nat × LT) (h : isText x.2.k = false) : textsOf (pre ++ [x]) = textsOf pre := by
  rw [textsOf_append, textsOf_cons, h]; simp [textsOf]
theorem textsOf_len (pre : List (Nat × LT)) : (textsOf pre).length ≤ pre.length := by
  unfold textsOf
  rw [List.length_map]
  exact List.length_filter_le _ _
mutual
theorem texts_pre : ∀ (d : Nat) (t : LT), textsOf (t.pre d) = (er t).strs
  | d, .mk k n e s a cap kids => by rw [LT.pre, textsOf_cons, er, VT.strs, texts_preL (d + 1) kids]; rfl
theorem texts_preL : ∀ (d : Nat) (l : List LT), textsOf (preL d l) = VT.strsL (erL l)
  | d, [] => by rw [preL, erL, VT.strsL]; rfl
  | d, t :: ts => by rw [preL, textsOf_append, erL, VT.strsL, texts_pre d t, texts_preL d ts]
end
theorem strs_len (t : LT) : (er t).strs.length ≤ t.nodes := by
  rw [← texts_pre 0 t, ← pre_len 0 t]
  exact textsOf_len _
theorem strsL_take (l : List VT) : ∀ j (h : j < l.length), VT.strsL (l.take (j + 1)) = VT.strsL (l.take j) ++ l[j].strs := by
  induction l with
  | nil => intro j h; simp at h
  | cons t ts ih =>
    intro j h
    cases j with
    | zero => simp [VT.strsL]
    | succ j => have := ih j (by simpa using h); simp only [List.take_succ_cons, VT.strsL, List.getElem_cons_succ, this, List.append_assoc]
theorem strsL_len : ∀ l : List LT, (VT.strsL (erL l)).length ≤ LT.nodesL l
  | [] => by rw [erL, VT.strsL, LT.nodesL]; simp
  | t :: ts => by rw [erL, VT.strsL, LT.nodesL, List.length_append]; have := strs_len t; have := strsL_len ts; omega
theorem strsL_take_len (l : List LT) (j : Nat) : (VT.strsL ((l.map er).take j)).length ≤ LT.nodesL l := by
  have h : ∀ (l : List VT) (j : Nat), (VT.strsL (l.take j)).length ≤ (VT.strsL l).length := by
    intro l
    induction l with
    | nil => intro j; simp
    | cons t ts ih =>
      intro j
      cases j with
      | zero => simp [VT.strsL]
      | succ j => have := ih j; simp only [List.take_succ_cons, VT.strsL, List.length_append]; omega
  have h1 := h (l.map er) j
  have h2 := strsL_len l
  rw [erL_map] at h2
  omega
theorem infoS : (Try.prog.info? 9).map (fun i => (i.zero, i.size, i.bytes)) = some (some (.string ⟨#[]⟩), 1, 16) := by kernel_rfl

structure Held4 (wr : World) (N : Nat) (k : Int) (row : Value) : Prop where
  c0 : wr.cell? ⟨N, 0, none⟩ = some (.int .i64 k)
  c4 : wr.cell? ⟨N, 4, none⟩ = some row
theorem held4_of {w' wr : World} {k n e : Int} {s : ByteArray} {row : Value} {T : TypeId} (h : Below (w'.heap.size + 1) (w'.alloc (.cells #[.int .i64 k, .int .i64 n, .int .i64 e, .string s, row] T)) wr) : Held4 wr w'.heap.size k row := by
  have hb := heap_alloc_new w' (.cells #[.int .i64 k, .int .i64 n, .int .i64 e, .string s, row] T)
  have hb2 := (h.block w'.heap.size (by omega)).trans hb
  exact ⟨cell_of_row wr _ 0 _ _ (0, 0) hb2, cell_of_row wr _ 4 _ _ (0, 0) hb2⟩
/-- spec.Strings returns the texts, in a slice of its own. -/
def StrsC (w : World) (B : Nat) (t : LT) : Prop := t.nodes ≤ 2000000 → ∀ w', Below B w w' → B ≤ w'.heap.size → Calls Try.prog 13 #[.agg #[.int .i64 t.k, .int .i64 t.n, .int .i64 t.e, .string t.s, t.row]] w' fun e w'' => ∃ g c, e = .returned (.slice (some ⟨g, 0, none⟩) (er t).strs.length c) ∧ OwnL w'' w'.heap.size 9 encS (.slice (some ⟨g, 0, none⟩) (er t).strs.length c) (er t).strs ∧ Below w'.heap.size w' w''

set_option maxHeartbeats 2000000 in
theorem spec_strings {w : World} {B : Nat} {t : LT} (h : In w B t) : StrsC w B t := by
  obtain ⟨i0, hi0, hz0, hz1, hz2⟩ := info_parts infoS
  induction h with
  | mk hk hn he hs hl hc hkids ih =>
    rename_i k n e s a cap kids
    intro hz w' hb hB
    have HC := Lib.hid hc
    have IH := Lib.hid ih
    have HB := Lib.hid hb
    have hml : (kids.map er).length = kids.length := by simp
    have HZK : Hid (LT.nodesL kids ≤ 2000000) := by rw [LT.nodes] at hz; unfold Hid; omega
    have HA : Hid (Below w'.heap.size w' (w'.alloc (.cells #[.int .i64 k, .int .i64 n, .int .i64 e, .string s, .slice a kids.length cap] 36))) := (Below.refl _ _).alloc (Nat.le_refl _) _
    have HR : Hid ((er (.mk k n e s a cap kids)).strs = (if isText k then [s] else []) ++ VT.strsL ((kids.map er).take kids.length)) := by
      unfold Hid; rw [er, VT.strs, erL_map, List.take_of_length_le (by omega)]
    have hkl : kids.length ≤ 9223372036854775807 := by omega
    unfold LT.row
    simp only [LT.k, LT.n, LT.e, LT.s, LT.a, LT.cap, LT.kids]
    generalize (er (.mk k n e s a cap kids)).strs = R at *
    clear hc ih hkids hb hz
    by_cases h5k : k = 5
    · subst h5k
      replace HR : Hid (R = [s] ++ VT.strsL ((kids.map er).take kids.length)) := by rw [HR.out, show isText 5 = true by rfl]; rfl
      have H0 : Hid (OwnL (((w'.alloc (.cells #[.int .i64 5, .int .i64 n, .int .i64 e, .string s, .slice a kids.length cap] 36))).alloc (.cells #[] 9)) (w'.heap.size + 1) 9 encS (.slice (some ⟨w'.heap.size + 1, 0, none⟩) 0 0) []) := by
        have := OwnL.empty (base := w'.heap.size + 1) (w'.alloc (.cells #[.int .i64 5, .int .i64 n, .int .i64 e, .string s, .slice a kids.length cap] 36)) 9 encS (by simp)
        unfold Hid
        simpa using this
      have HB00 : Hid (Below (w'.heap.size + 1) (w'.alloc (.cells #[.int .i64 5, .int .i64 n, .int .i64 e, .string s, .slice a kids.length cap] 36)) (((w'.alloc (.cells #[.int .i64 5, .int .i64 n, .int .i64 e, .string s, .slice a kids.length cap] 36))).alloc (.cells #[] 9))) := (Below.refl _ _).alloc (by simp) _
      go_enter Try.func13, Try.ntmps13
      have hc3 : (((w'.alloc (.cells #[.int .i64 5, .int .i64 n, .int .i64 e, .string s, .slice a kids.length cap] 36))).alloc (.cells #[] 9)).cell? ⟨w'.heap.size, 3, none⟩ = some (.string s) := cell_of_row _ _ 3 _ _ (0, 0) ((Below.heap_alloc _ _ _ (by simp)).trans (heap_alloc_new w' (.cells #[.int .i64 5, .int .i64 n, .int .i64 e, .string s, .slice a kids.length cap] 36)))
      have hzz : w'.heap.size + 2 ≤ (((w'.alloc (.cells #[.int .i64 5, .int .i64 n, .int .i64 e, .string s, .slice a kids.length cap] 36))).alloc (.cells #[] 9)).heap.size := by simp
      go_upto_region 3 with (fail)
      generalize ((w'.alloc (.cells #[.int .i64 5, .int .i64 n, .int .i64 e, .string s, .slice a kids.length cap] 36))).alloc (.cells #[] 9) = W0 at *
      generalize Value.slice (some ⟨w'.heap.size + 1, 0, none⟩) 0 0 = v0 at *
      go_wp2_with (at_builtin; refine wpList_app (by rfl) _ _ _ (by rfl) (w'.heap.size + 1) 9 encS i0 _ 16 Try.underlying32 hi0 hz0 hz1 hz2 rfl oneS v0 [] (by rfl) (H0.out.alloc _) W0.heap.size 1 1 [s] (by rfl) (by rfl) _ (heap_alloc_new W0 _) (by rfl) (by unfold maxLen; simp) (by simp) (by simp; omega) ?_; intro v1 w3 hown3 hg3)
      obtain ⟨g3, cc3, hv1⟩ := own_some hown3 (fun e => by obtain ⟨_, _, h1, _, _, h4⟩ := hown3.shape; obtain ⟨g, h5, _⟩ := h4 (by simp); rw [e] at h1; injection h1 with h1; rw [h5] at h1; cases h1)
      obtain rfl : v1 = .slice (some ⟨g3, 0, none⟩) 1 cc3 := hv1
      have b3 := grown_below (HB00.out.alloc (by omega) _) (by simp; omega) (H0.out.alloc _) hg3
      have hz3 : w'.heap.size + 1 ≤ w3.heap.size := by have := hg3.size; simp at this; omega
      have HO3 := Lib.hid hown3
      have HB0 := Lib.hid b3
      clear hown3 hg3 b3 H0 HB00 hc3 hzz
      go_wp2_with fail
      have HX : Hid (Below (w'.heap.size + 1) (w'.alloc (.cells #[.int .i64 5, .int .i64 n, .int .i64 e, .string s, .slice a kids.length cap] 36)) w3) := HB0
      go_loopw [3, 4] (fun v i wr => ∃ (j g c : Nat) (L : List ByteArray), i = .int .i64 j ∧ j ≤ kids.length ∧ v = .slice (some ⟨g, 0, none⟩) L.length c ∧ Hid (L = [s] ++ VT.strsL ((kids.map er).take j)) ∧ Hid (OwnL wr (w'.heap.size + 1) 9 encS (.slice (some ⟨g, 0, none⟩) L.length c) L) ∧ w'.heap.size + 1 ≤ wr.heap.size ∧ Hid (Below (w'.heap.size + 1) (w'.alloc (.cells #[.int .i64 5, .int .i64 n, .int .i64 e, .string s, .slice a kids.length cap] 36)) wr)) (fun _ i _ => kids.length - (intOf i).toNat)
      case atStart => exact ⟨0, g3, cc3, [s], rfl, by omega, rfl, by simp [Hid, VT.strsL], HO3, hz3, HB0⟩
      case round =>
        clear HO3 HB0 HX hz3
        obtain ⟨j, g, c, L, rfl, hj, rfl, HL, HO, hwz, HW⟩ := hrel
        have hLl : L.length ≤ 2000001 := by
          have h1 := strsL_take_len kids j
          have h2 := HZK.out
          have h3 := congrArg List.length HL.out
          rw [List.length_append] at h3
          have h4 : ([s] : List ByteArray).length ≤ 1 := by simp
          omega
        obtain ⟨x0, x4⟩ := held4_of HW.out
        by_cases hlt : j < kids.length
        · have hj0 : (0 : Int) ≤ (j : Int) := by omega
          have hj1 : (j : Int) < (kids.length : Int) := by omega
          obtain ⟨x, rfl, hx, h5⟩ := HC.out j hlt
          have hbr := HB.out.trans ((HA.out.trans (HW.out.mono (by omega))).mono hB)
          obtain ⟨c0, c1, c2, c3, c4⟩ := h5.below (by rw [add_block]; exact hx) hbr
          have hkn := kid_nodes kids j hlt
          have C := IH.out j hlt (by have := HZK.out; omega) wr hbr (by omega)
          have hsl := strs_len kids[j]
          have HT := strsL_take (kids.map er) j (by omega)
          rw [List.getElem_map] at HT
          have HL1 : Hid (L ++ (er kids[j]).strs = [s] ++ VT.strsL ((kids.map er).take (j + 1))) := by unfold Hid; rw [HT, HL.out, List.append_assoc]
          have hsz : (er kids[j]).strs.length ≤ 2000000 := by have := HZK.out; omega
          generalize (er kids[j]).strs = S at *
          generalize kids[j] = t at *
          have hrow : t.row = .slice t.a t.kids.length t.cap := rfl
          rw [hrow] at C c4
          replace C := Lib.hid C
          clear h5 hbr HT hkn HC IH HB hrow hsl HL
          go_wp2_with fail
          with_reducible refine C.out.mono ?_
          rintro e w1 ⟨g2, cc2, rfl, ho1, hb1⟩
          have HO1 := Lib.hid (HO.out.below hb1)
          have HS := Lib.hid ho1
          have HW1 := Lib.hid (HW.out.trans (hb1.mono (by omega)))
          have hz1' := Nat.le_trans hwz hb1.size
          clear C ho1 hb1 c0 c1 c2 c3 c4 HW HO x0 x4
          go_wp2_with (at_builtin; refine wpList_app2 (by rfl) _ _ _ (by rfl) (w'.heap.size + 1) 9 encS i0 _ 16 Try.underlying32 hi0 hz0 hz1 hz2 rfl oneS g c L L.length rfl (by rfl) HO1.out wr.heap.size g2 cc2 S S.length rfl (by rfl) HS.out (by unfold maxLen; omega) (by omega) hz1' ?_; intro g' c' w3 hown3 hg3)
          have b3 := grown_below HW1.out hz1' HO1.out hg3
          have hz3 : w'.heap.size + 1 ≤ w3.heap.size := by have := hg3.size; omega
          have HO3 := Lib.hid hown3
          have HW3 := Lib.hid b3
          clear hown3 hg3 b3 HO1 HS HW1
          go_wp2
          go_roundw
          case rel => exact ⟨j + 1, g', c', L ++ S, by go_num, by omega, by rw [List.length_append], HL1, by rw [List.length_append]; exact HO3, hz3, HW3⟩
          case measure => simp [intOf]; omega
        · have hj1 : ¬ (j : Int) < (kids.length : Int) := by omega
          have he : j = kids.length := by omega
          subst he
          have HF : Hid (L = R) := by unfold Hid; rw [HL.out, HR.out]
          have HBF := Lib.hid (HA.out.trans (HW.out.mono (by omega)))
          have HOF : Hid (OwnL wr w'.heap.size 9 encS (.slice (some ⟨g, 0, none⟩) L.length c) L) := HO.out.mono (by omega)
          clear HC IH HB HW HO
          go_wp2
          go_ret
          exact ⟨g, c, by rw [← HF.out]; rfl, by rw [← HF.out]; exact HOF.out, HBF.out⟩
    by_cases h6k : k = 6
    · subst h6k
      clear h5k
      replace HR : Hid (R = [s] ++ VT.strsL ((kids.map er).take kids.length)) := by rw [HR.out, show isText 6 = true by rfl]; rfl
      have H0 : Hid (OwnL (((w'.alloc (.cells #[.int .i64 6, .int .i64 n, .int .i64 e, .string s, .slice a kids.length cap] 36))).alloc (.cells #[] 9)) (w'.heap.size + 1) 9 encS (.slice (some ⟨w'.heap.size + 1, 0, none⟩) 0 0) []) := by
        have := OwnL.empty (base := w'.heap.size + 1) (w'.alloc (.cells #[.int .i64 6, .int .i64 n, .int .i64 e, .string s, .slice a kids.length cap] 36)) 9 encS (by simp)
        unfold Hid
        simpa using this
      have HB00 : Hid (Below (w'.heap.size + 1) (w'.alloc (.cells #[.int .i64 6, .int .i64 n, .int .i64 e, .string s, .slice a kids.length cap] 36)) (((w'.alloc (.cells #[.int .i64 6, .int .i64 n, .int .i64 e, .string s, .slice a kids.length cap] 36))).alloc (.cells #[] 9))) := (Below.refl _ _).alloc (by simp) _
      go_enter Try.func13, Try.ntmps13
      have hc3 : (((w'.alloc (.cells #[.int .i64 6, .int .i64 n, .int .i64 e, .string s, .slice a kids.length cap] 36))).alloc (.cells #[] 9)).cell? ⟨w'.heap.size, 3, none⟩ = some (.string s) := cell_of_row _ _ 3 _ _ (0, 0) ((Below.heap_alloc _ _ _ (by simp)).trans (heap_alloc_new w' (.cells #[.int .i64 6, .int .i64 n, .int .i64 e, .string s, .slice a kids.length cap] 36)))
      have hzz : w'.heap.size + 2 ≤ (((w'.alloc (.cells #[.int .i64 6, .int .i64 n, .int .i64 e, .string s, .slice a kids.length cap] 36))).alloc (.cells #[] 9)).heap.size := by simp
      go_upto_region 3 with (fail)
      generalize ((w'.alloc (.cells #[.int .i64 6, .int .i64 n, .int .i64 e, .string s, .slice a kids.length cap] 36))).alloc (.cells #[] 9) = W0 at *
      generalize Value.slice (some ⟨w'.heap.size + 1, 0, none⟩) 0 0 = v0 at *
      go_wp2_with (at_builtin; refine wpList_app (by rfl) _ _ _ (by rfl) (w'.heap.size + 1) 9 encS i0 _ 16 Try.underlying32 hi0 hz0 hz1 hz2 rfl oneS v0 [] (by rfl) (H0.out.alloc _) W0.heap.size 1 1 [s] (by rfl) (by rfl) _ (heap_alloc_new W0 _) (by rfl) (by unfold maxLen; simp) (by simp) (by simp; omega) ?_; intro v1 w3 hown3 hg3)
      obtain ⟨g3, cc3, hv1⟩ := own_some hown3 (fun e => by obtain ⟨_, _, h1, _, _, h4⟩ := hown3.shape; obtain ⟨g, h5, _⟩ := h4 (by simp); rw [e] at h1; injection h1 with h1; rw [h5] at h1; cases h1)
      obtain rfl : v1 = .slice (some ⟨g3, 0, none⟩) 1 cc3 := hv1
      have b3 := grown_below (HB00.out.alloc (by omega) _) (by simp; omega) (H0.out.alloc _) hg3
      have hz3 : w'.heap.size + 1 ≤ w3.heap.size := by have := hg3.size; simp at this; omega
      have HO3 := Lib.hid hown3
      have HB0 := Lib.hid b3
      clear hown3 hg3 b3 H0 HB00 hc3 hzz
      go_wp2_with fail
      have HX : Hid (Below (w'.heap.size + 1) (w'.alloc (.cells #[.int .i64 6, .int .i64 n, .int .i64 e, .string s, .slice a kids.length cap] 36)) w3) := HB0
      go_loopw [3, 4] (fun v i wr => ∃ (j g c : Nat) (L : List ByteArray), i = .int .i64 j ∧ j ≤ kids.length ∧ v = .slice (some ⟨g, 0, none⟩) L.length c ∧ Hid (L = [s] ++ VT.strsL ((kids.map er).take j)) ∧ Hid (OwnL wr (w'.heap.size + 1) 9 encS (.slice (some ⟨g, 0, none⟩) L.length c) L) ∧ w'.heap.size + 1 ≤ wr.heap.size ∧ Hid (Below (w'.heap.size + 1) (w'.alloc (.cells #[.int .i64 6, .int .i64 n, .int .i64 e, .string s, .slice a kids.length cap] 36)) wr)) (fun _ i _ => kids.length - (intOf i).toNat)
      case atStart => exact ⟨0, g3, cc3, [s], rfl, by omega, rfl, by simp [Hid, VT.strsL], HO3, hz3, HB0⟩
      case round =>
        clear HO3 HB0 HX hz3
        obtain ⟨j, g, c, L, rfl, hj, rfl, HL, HO, hwz, HW⟩ := hrel
        have hLl : L.length ≤ 2000001 := by
          have h1 := strsL_take_len kids j
          have h2 := HZK.out
          have h3 := congrArg List.length HL.out
          rw [List.length_append] at h3
          have h4 : ([s] : List ByteArray).length ≤ 1 := by simp
          omega
        obtain ⟨x0, x4⟩ := held4_of HW.out
        by_cases hlt : j < kids.length
        · have hj0 : (0 : Int) ≤ (j : Int) := by omega
          have hj1 : (j : Int) < (kids.length : Int) := by omega
          obtain ⟨x, rfl, hx, h5⟩ := HC.out j hlt
          have hbr := HB.out.trans ((HA.out.trans (HW.out.mono (by omega))).mono hB)
          obtain ⟨c0, c1, c2, c3, c4⟩ := h5.below (by rw [add_block]; exact hx) hbr
          have hkn := kid_nodes kids j hlt
          have C := IH.out j hlt (by have := HZK.out; omega) wr hbr (by omega)
          have hsl := strs_len kids[j]
          have HT := strsL_take (kids.map er) j (by omega)
          rw [List.getElem_map] at HT
          have HL1 : Hid (L ++ (er kids[j]).strs = [s] ++ VT.strsL ((kids.map er).take (j + 1))) := by unfold Hid; rw [HT, HL.out, List.append_assoc]
          have hsz : (er kids[j]).strs.length ≤ 2000000 := by have := HZK.out; omega
          generalize (er kids[j]).strs = S at *
          generalize kids[j] = t at *
          have hrow : t.row = .slice t.a t.kids.length t.cap := rfl
          rw [hrow] at C c4
          replace C := Lib.hid C
          clear h5 hbr HT hkn HC IH HB hrow hsl HL
          go_wp2_with fail
          with_reducible refine C.out.mono ?_
          rintro e w1 ⟨g2, cc2, rfl, ho1, hb1⟩
          have HO1 := Lib.hid (HO.out.below hb1)
          have HS := Lib.hid ho1
          have HW1 := Lib.hid (HW.out.trans (hb1.mono (by omega)))
          have hz1' := Nat.le_trans hwz hb1.size
          clear C ho1 hb1 c0 c1 c2 c3 c4 HW HO x0 x4
          go_wp2_with (at_builtin; refine wpList_app2 (by rfl) _ _ _ (by rfl) (w'.heap.size + 1) 9 encS i0 _ 16 Try.underlying32 hi0 hz0 hz1 hz2 rfl oneS g c L L.length rfl (by rfl) HO1.out wr.heap.size g2 cc2 S S.length rfl (by rfl) HS.out (by unfold maxLen; omega) (by omega) hz1' ?_; intro g' c' w3 hown3 hg3)
          have b3 := grown_below HW1.out hz1' HO1.out hg3
          have hz3 : w'.heap.size + 1 ≤ w3.heap.size := by have := hg3.size; omega
          have HO3 := Lib.hid hown3
          have HW3 := Lib.hid b3
          clear hown3 hg3 b3 HO1 HS HW1
          go_wp2
          go_roundw
          case rel => exact ⟨j + 1, g', c', L ++ S, by go_num, by omega, by rw [List.length_append], HL1, by rw [List.length_append]; exact HO3, hz3, HW3⟩
          case measure => simp [intOf]; omega
        · have hj1 : ¬ (j : Int) < (kids.length : Int) := by omega
          have he : j = kids.length := by omega
          subst he
          have HF : Hid (L = R) := by unfold Hid; rw [HL.out, HR.out]
          have HBF := Lib.hid (HA.out.trans (HW.out.mono (by omega)))
          have HOF : Hid (OwnL wr w'.heap.size 9 encS (.slice (some ⟨g, 0, none⟩) L.length c) L) := HO.out.mono (by omega)
          clear HC IH HB HW HO
          go_wp2
          go_ret
          exact ⟨g, c, by rw [← HF.out]; rfl, by rw [← HF.out]; exact HOF.out, HBF.out⟩
    · have t5 : (k == 5) = false := by simpa using h5k
      have t6 : (k == 6) = false := by simpa using h6k
      replace HR : Hid (R = [] ++ VT.strsL ((kids.map er).take kids.length)) := by rw [HR.out, show isText k = false by simp [isText, h5k, h6k]]; rfl
      have HO3 : Hid (OwnL (((w'.alloc (.cells #[.int .i64 k, .int .i64 n, .int .i64 e, .string s, .slice a kids.length cap] 36))).alloc (.cells #[] 9)) (w'.heap.size + 1) 9 encS (.slice (some ⟨w'.heap.size + 1, 0, none⟩) 0 0) []) := by
        have := OwnL.empty (base := w'.heap.size + 1) (w'.alloc (.cells #[.int .i64 k, .int .i64 n, .int .i64 e, .string s, .slice a kids.length cap] 36)) 9 encS (by simp)
        unfold Hid
        simpa using this
      have HB0 : Hid (Below (w'.heap.size + 1) (w'.alloc (.cells #[.int .i64 k, .int .i64 n, .int .i64 e, .string s, .slice a kids.length cap] 36)) (((w'.alloc (.cells #[.int .i64 k, .int .i64 n, .int .i64 e, .string s, .slice a kids.length cap] 36))).alloc (.cells #[] 9))) := (Below.refl _ _).alloc (by simp) _
      clear h5k h6k
      go_enter Try.func13, Try.ntmps13
      go_wp2_with fail
      have HX : Hid (Below (w'.heap.size + 1) (w'.alloc (.cells #[.int .i64 k, .int .i64 n, .int .i64 e, .string s, .slice a kids.length cap] 36)) (((w'.alloc (.cells #[.int .i64 k, .int .i64 n, .int .i64 e, .string s, .slice a kids.length cap] 36))).alloc (.cells #[] 9))) := HB0
      go_loopw [3, 4] (fun v i wr => ∃ (j g c : Nat) (L : List ByteArray), i = .int .i64 j ∧ j ≤ kids.length ∧ v = .slice (some ⟨g, 0, none⟩) L.length c ∧ Hid (L = ([] : List ByteArray) ++ VT.strsL ((kids.map er).take j)) ∧ Hid (OwnL wr (w'.heap.size + 1) 9 encS (.slice (some ⟨g, 0, none⟩) L.length c) L) ∧ w'.heap.size + 1 ≤ wr.heap.size ∧ Hid (Below (w'.heap.size + 1) (w'.alloc (.cells #[.int .i64 k, .int .i64 n, .int .i64 e, .string s, .slice a kids.length cap] 36)) wr)) (fun _ i _ => kids.length - (intOf i).toNat)
      case atStart => exact ⟨0, w'.heap.size + 1, 0, [], rfl, by omega, rfl, by simp [Hid, VT.strsL], HO3, by simp, HB0⟩
      case round =>
        clear HO3 HB0 HX
        obtain ⟨j, g, c, L, rfl, hj, rfl, HL, HO, hwz, HW⟩ := hrel
        have hLl : L.length ≤ 2000001 := by
          have h1 := strsL_take_len kids j
          have h2 := HZK.out
          have h3 := congrArg List.length HL.out
          rw [List.length_append] at h3
          have h4 : (([] : List ByteArray) : List ByteArray).length ≤ 1 := by simp
          omega
        obtain ⟨x0, x4⟩ := held4_of HW.out
        by_cases hlt : j < kids.length
        · have hj0 : (0 : Int) ≤ (j : Int) := by omega
          have hj1 : (j : Int) < (kids.length : Int) := by omega
          obtain ⟨x, rfl, hx, h5⟩ := HC.out j hlt
          have hbr := HB.out.trans ((HA.out.trans (HW.out.mono (by omega))).mono hB)
          obtain ⟨c0, c1, c2, c3, c4⟩ := h5.below (by rw [add_block]; exact hx) hbr
          have hkn := kid_nodes kids j hlt
          have C := IH.out j hlt (by have := HZK.out; omega) wr hbr (by omega)
          have hsl := strs_len kids[j]
          have HT := strsL_take (kids.map er) j (by omega)
          rw [List.getElem_map] at HT
          have HL1 : Hid (L ++ (er kids[j]).strs = ([] : List ByteArray) ++ VT.strsL ((kids.map er).take (j + 1))) := by unfold Hid; rw [HT, HL.out, List.append_assoc]
          have hsz : (er kids[j]).strs.length ≤ 2000000 := by have := HZK.out; omega
          generalize (er kids[j]).strs = S at *
          generalize kids[j] = t at *
          have hrow : t.row = .slice t.a t.kids.length t.cap := rfl
          rw [hrow] at C c4
          replace C := Lib.hid C
          clear h5 hbr HT hkn HC IH HB hrow hsl HL
          go_wp2_with fail
          with_reducible refine C.out.mono ?_
          rintro e w1 ⟨g2, cc2, rfl, ho1, hb1⟩
          have HO1 := Lib.hid (HO.out.below hb1)
          have HS := Lib.hid ho1
          have HW1 := Lib.hid (HW.out.trans (hb1.mono (by omega)))
          have hz1' := Nat.le_trans hwz hb1.size
          clear C ho1 hb1 c0 c1 c2 c3 c4 HW HO x0 x4
          go_wp2_with (at_builtin; refine wpList_app2 (by rfl) _ _ _ (by rfl) (w'.heap.size + 1) 9 encS i0 _ 16 Try.underlying32 hi0 hz0 hz1 hz2 rfl oneS g c L L.length rfl (by rfl) HO1.out wr.heap.size g2 cc2 S S.length rfl (by rfl) HS.out (by unfold maxLen; omega) (by omega) hz1' ?_; intro g' c' w3 hown3 hg3)
          have b3 := grown_below HW1.out hz1' HO1.out hg3
          have hz3 : w'.heap.size + 1 ≤ w3.heap.size := by have := hg3.size; omega
          have HO3 := Lib.hid hown3
          have HW3 := Lib.hid b3
          clear hown3 hg3 b3 HO1 HS HW1
          go_wp2
          go_roundw
          case rel => exact ⟨j + 1, g', c', L ++ S, by go_num, by omega, by rw [List.length_append], HL1, by rw [List.length_append]; exact HO3, hz3, HW3⟩
          case measure => simp [intOf]; omega
        · have hj1 : ¬ (j : Int) < (kids.length : Int) := by omega
          have he : j = kids.length := by omega
          subst he
          have HF : Hid (L = R) := by unfold Hid; rw [HL.out, HR.out]
          have HBF := Lib.hid (HA.out.trans (HW.out.mono (by omega)))
          have HOF : Hid (OwnL wr w'.heap.size 9 encS (.slice (some ⟨g, 0, none⟩) L.length c) L) := HO.out.mono (by omega)
          clear HC IH HB HW HO
          go_wp2
          go_ret
          exact ⟨g, c, by rw [← HF.out]; rfl, by rw [← HF.out]; exact HOF.out, HBF.out⟩

end Go.Proofs.Ytdbkifndhkmfgaa.val
