/-
  What spec.Compare returns: the order of two values.
-/
import Derived.Test.YtlkfaehfkapfnaaCmpFields
namespace Go.Proofs.Ytlkfaehfkapfnaa.val
open Go.ChangeShapes Go.WideShapes Go.ChangeAt Go.RowKit
set_option maxRecDepth 100000

def VT.vk : VT → Int | .mk k _ _ _ _ => k
def VT.vn : VT → Int | .mk _ n _ _ _ => n
def VT.ve : VT → Int | .mk _ _ e _ _ => e
def VT.vs : VT → ByteArray | .mk _ _ _ s _ => s
def VT.vl : VT → List VT | .mk _ _ _ _ l => l
mutual
def cmpV : VT → VT → Int
  | .mk k n e s kids, u => firstOf [cmpI k u.vk, cmpI n u.vn, cmpI e u.ve, cmpS s u.vs, cmpI kids.length u.vl.length, cmpVL kids u.vl]
def cmpVL : List VT → List VT → Int
  | [], _ => 0
  | t :: ts, us => match us with
    | [] => 0
    | u :: us' => firstOf [cmpV t u, cmpVL ts us']
end
theorem firstOf_append (l m : List Int) : firstOf (l ++ m) = if firstOf l = 0 then firstOf m else firstOf l := by
  induction l with
  | nil => simp [firstOf]
  | cons x l ih =>
    rw [List.cons_append, firstOf, firstOf, ih]
    by_cases h : x = 0
    · simp [h]
    · simp [h]
theorem firstOf_zero {l : List Int} (h : firstOf l = 0) : ∀ x ∈ l, x = 0 := by
  induction l with
  | nil => intro x hx; cases hx
  | cons y l ih =>
    rw [firstOf] at h
    by_cases hy : y = 0
    · rw [if_pos hy] at h
      intro x hx
      rcases List.mem_cons.1 hx with rfl | hx
      · exact hy
      · exact ih h x hx
    · rw [if_neg hy] at h; exact absurd h hy
theorem cmpI_eq {a b : Int} (h : cmpI a b = 0) : a = b := by
  unfold cmpI at h
  split at h
  · cases h
  · split at h
    · cases h
    · omega
/-- The order of two values is by their own fields, and then by their kids. -/
theorem cmpV_er (x y : LT) : cmpV (er x) (er y) = if cmpF x y = 0 then cmpVL (x.kids.map er) (y.kids.map er) else cmpF x y := by
  rw [er_mk x, er_mk y, cmpV]
  simp only [VT.vk, VT.vn, VT.ve, VT.vs, VT.vl, List.length_map]
  have := firstOf_append [cmpI x.k y.k, cmpI x.n y.n, cmpI x.e y.e, cmpS x.s y.s, cmpI x.kids.length y.kids.length] [cmpVL (x.kids.map er) (y.kids.map er)]
  simp only [List.cons_append, List.nil_append] at this
  rw [this]
  unfold cmpF
  split
  · rw [firstOf, firstOf]; split
    · rename_i h; exact h.symm
    · rfl
  · rfl
theorem cmpF_len {x y : LT} (h : cmpF x y = 0) : x.kids.length = y.kids.length := by
  have := cmpI_eq (firstOf_zero h (cmpI x.kids.length y.kids.length) (by simp))
  omega
theorem cmpVL_drop (l m : List VT) (j : Nat) (h1 : j < l.length) (h2 : j < m.length) : cmpVL (l.drop j) (m.drop j) = if cmpV l[j] m[j] = 0 then cmpVL (l.drop (j + 1)) (m.drop (j + 1)) else cmpV l[j] m[j] := by
  rw [List.drop_eq_getElem_cons h1, List.drop_eq_getElem_cons h2, cmpVL]
  simp only [firstOf]
  split
  · split
    · rename_i h; exact h.symm
    · rfl
  · rfl

def CmpC (w' : World) (t u : LT) : Prop := Calls Try.prog 13 #[.agg #[.int .i64 t.k, .int .i64 t.n, .int .i64 t.e, .string t.s, t.row], .agg #[.int .i64 u.k, .int .i64 u.n, .int .i64 u.e, .string u.s, u.row]] w' fun e w'' => e = .returned (.int .i64 (cmpV (er t) (er u))) ∧ Below w'.heap.size w' w''

/-- Two values in boxes, one behind the other. -/
structure Box2 (W : World) (N : Nat) (x y : LT) : Prop where
  b1 : Box W N x
  b2 : Box W (N + 1) y
theorem Box2.new (w : World) (x y : LT) (T : TypeId) : Box2 ((w.alloc (.cells #[.int .i64 x.k, .int .i64 x.n, .int .i64 x.e, .string x.s, x.row] T)).alloc (.cells #[.int .i64 y.k, .int .i64 y.n, .int .i64 y.e, .string y.s, y.row] T)) w.heap.size x y := by
  refine ⟨(Box.new w x T).of_block (Below.heap_alloc _ _ _ (by simp)), ?_⟩
  have := Box.new (w.alloc (.cells #[.int .i64 x.k, .int .i64 x.n, .int .i64 x.e, .string x.s, x.row] T)) y T
  simp only [World.size_alloc] at this
  exact this
theorem Box2.kept {W W' : World} {N : Nat} {x y : LT} (h : Box2 W N x y) (hb : Below (N + 2) W W') : Box2 W' N x y := ⟨h.b1.of_block (hb.block _ (by omega)), h.b2.of_block (hb.block _ (by omega))⟩
theorem below_drew {B : Nat} {a w : World} (h : Below B a w) : Below B a w.drew := h.trans ⟨rfl, rfl, rfl, Nat.le_refl _, fun _ _ => rfl⟩

set_option maxHeartbeats 4000000 in
theorem spec_cmp {w : World} {B : Nat} {t : LT} (h : In w B t) : ∀ u, In w B u → ∀ w', Below B w w' → B ≤ w'.heap.size → CmpC w' t u := by
  induction h with
  | mk hk hn he hs hl hc hkids ih =>
    rename_i k n e s a cap kids
    intro u hu w' hb hB
    obtain ⟨x, hx⟩ : ∃ x : LT, x = .mk k n e s a cap kids := ⟨_, rfl⟩
    have hxk : x.kids = kids := by rw [hx]; rfl
    have HC : Hid (∀ i (h : i < x.kids.length), ∃ p, x.a = some p ∧ p.block < B ∧ At5 w (p.add (i * 5)) x.kids[i]) := by subst hx; exact hc
    have HD : Hid (∀ i (h : i < u.kids.length), ∃ p, u.a = some p ∧ p.block < B ∧ At5 w (p.add (i * 5)) u.kids[i]) := by cases hu; assumption
    have HU : Hid (∀ i (h : i < u.kids.length), In w B u.kids[i]) := by cases hu; assumption
    have IH : Hid (∀ i (h : i < x.kids.length), ∀ u, In w B u → ∀ w', Below B w w' → B ≤ w'.heap.size → CmpC w' x.kids[i] u) := by subst hx; exact ih
    have hkl : x.kids.length ≤ 9223372036854775807 := by rw [hxk]; omega
    rw [← hx]
    have HB := Lib.hid hb
    clear hc ih hkids hb hu hk hn he hs hl hxk hx
    unfold CmpC
    have HR := Lib.hid (cmpV_er x u)
    have HX : Hid (Box2 ((w'.alloc (.cells #[.int .i64 x.k, .int .i64 x.n, .int .i64 x.e, .string x.s, x.row] 29)).alloc (.cells #[.int .i64 u.k, .int .i64 u.n, .int .i64 u.e, .string u.s, u.row] 29)).drew w'.heap.size x u) := by
      have := Box2.new w' x u 29
      exact ⟨this.b1.of_block rfl, this.b2.of_block rfl⟩
    have HA : Hid (Below w'.heap.size w' ((w'.alloc (.cells #[.int .i64 x.k, .int .i64 x.n, .int .i64 x.e, .string x.s, x.row] 29)).alloc (.cells #[.int .i64 u.k, .int .i64 u.n, .int .i64 u.e, .string u.s, u.row] 29)).drew) := below_drew (((Below.refl _ _).alloc (Nat.le_refl _) _).alloc (by simp) _)
    have HSZ : Hid (((w'.alloc (.cells #[.int .i64 x.k, .int .i64 x.n, .int .i64 x.e, .string x.s, x.row] 29)).alloc (.cells #[.int .i64 u.k, .int .i64 u.n, .int .i64 u.e, .string u.s, u.row] 29)).drew.heap.size = w'.heap.size + 2) := by show _ = _; simp [World.drew]
    have hrx : x.row = .slice x.a x.kids.length x.cap := rfl
    have hru : u.row = .slice u.a u.kids.length u.cap := rfl
    simp only [hrx, hru] at *
    generalize cmpV (er x) (er u) = R at *
    clear hrx hru
    go_enter Try.func13, Try.ntmps13
    go_wp2_with fail
    refine wp_region_still_tail 27 (by kernel_rfl) (by kernel_rfl) ?_
    obtain ⟨W, hW⟩ : ∃ W, W = ((w'.alloc (.cells #[.int .i64 x.k, .int .i64 x.n, .int .i64 x.e, .string x.s, .slice x.a x.kids.length x.cap] 29)).alloc (.cells #[.int .i64 u.k, .int .i64 u.n, .int .i64 u.e, .string u.s, .slice u.a u.kids.length u.cap] 29)).drew := ⟨_, rfl⟩
    change wpStill _ _ ((w'.alloc (.cells #[.int .i64 x.k, .int .i64 x.n, .int .i64 x.e, .string x.s, .slice x.a x.kids.length x.cap] 29)).alloc (.cells #[.int .i64 u.k, .int .i64 u.n, .int .i64 u.e, .string u.s, .slice u.a u.kids.length u.cap] 29)).drew (fun a' => wpList _ _ _ _ a' ((w'.alloc (.cells #[.int .i64 x.k, .int .i64 x.n, .int .i64 x.e, .string x.s, .slice x.a x.kids.length x.cap] 29)).alloc (.cells #[.int .i64 u.k, .int .i64 u.n, .int .i64 u.e, .string u.s, .slice u.a u.kids.length u.cap] 29)).drew) _ _
    rw [← hW]
    rw [← hW] at HX HA HSZ
    clear hW
    obtain ⟨⟨p0, p1, p2, p3, p4⟩, ⟨q0, q1, q2, q3, q4⟩⟩ := HX.out
    unfold LT.row at p4 q4
    simp only [List.take_succ_cons, List.take_zero, List.drop_succ_cons, List.drop_zero]
    repeat still_step
    still_call (lessS _ _ _)
    repeat still_step
    still_call (lessS _ _ _)
    repeat still_step
    still_call (lessS _ _ _)
    repeat still_step
    still_call (textsS _ _ _)
    repeat still_step
    still_call (lessS _ _ _)
    refine wpStill_nil ?_
    have HW1 : Hid (∀ j (h : j < 5), (W.alloc (.cells #[.int .i64 (cmpI x.k u.k), .int .i64 (cmpI x.n u.n), .int .i64 (cmpI x.e u.e), .int .i64 (cmpS x.s u.s), .int .i64 (cmpI x.kids.length u.kids.length)] 3)).cell? ⟨W.heap.size, j, none⟩ = some (.int .i64 ([cmpI x.k u.k, cmpI x.n u.n, cmpI x.e u.e, cmpS x.s u.s, cmpI x.kids.length u.kids.length][j]'h))) := by
      intro j h
      have hb := heap_alloc_new W (.cells #[.int .i64 (cmpI x.k u.k), .int .i64 (cmpI x.n u.n), .int .i64 (cmpI x.e u.e), .int .i64 (cmpS x.s u.s), .int .i64 (cmpI x.kids.length u.kids.length)] 3)
      have hj : j = 0 ∨ j = 1 ∨ j = 2 ∨ j = 3 ∨ j = 4 := by omega
      rcases hj with rfl | rfl | rfl | rfl | rfl <;> exact cell_of_row _ _ _ _ _ (0, 0) hb
    have HX1 := Lib.hid (HX.out.kept (((Below.refl _ W).alloc (Nat.le_of_eq HSZ.out.symm) (.cells #[.int .i64 (cmpI x.k u.k), .int .i64 (cmpI x.n u.n), .int .i64 (cmpI x.e u.e), .int .i64 (cmpS x.s u.s), .int .i64 (cmpI x.kids.length u.kids.length)] 3))))
    have HA1 := Lib.hid (HA.out.alloc (by rw [HSZ.out]; omega) (.cells #[.int .i64 (cmpI x.k u.k), .int .i64 (cmpI x.n u.n), .int .i64 (cmpI x.e u.e), .int .i64 (cmpS x.s u.s), .int .i64 (cmpI x.kids.length u.kids.length)] 3))
    have HSZ1 : Hid ((W.alloc (.cells #[.int .i64 (cmpI x.k u.k), .int .i64 (cmpI x.n u.n), .int .i64 (cmpI x.e u.e), .int .i64 (cmpS x.s u.s), .int .i64 (cmpI x.kids.length u.kids.length)] 3)).heap.size = w'.heap.size + 3) := by unfold Hid; rw [World.size_alloc, HSZ.out]
    have HCF : Hid (cmpF x u = firstOf [cmpI x.k u.k, cmpI x.n u.n, cmpI x.e u.e, cmpS x.s u.s, cmpI x.kids.length u.kids.length]) := rfl
    clear p0 p1 p2 p3 p4 q0 q1 q2 q3 q4 HX HA HSZ
    go_wp2_with fail
    obtain ⟨l, hl⟩ : ∃ l : List Int, l = [cmpI x.k u.k, cmpI x.n u.n, cmpI x.e u.e, cmpS x.s u.s, cmpI x.kids.length u.kids.length] := ⟨_, rfl⟩
    have hl5 : l.length = 5 := by rw [hl]; rfl
    have HCL : Hid (∀ j (h : j < l.length), (W.alloc (.cells #[.int .i64 (cmpI x.k u.k), .int .i64 (cmpI x.n u.n), .int .i64 (cmpI x.e u.e), .int .i64 (cmpS x.s u.s), .int .i64 (cmpI x.kids.length u.kids.length)] 3)).cell? ⟨W.heap.size, j, none⟩ = some (.int .i64 l[j])) := by subst hl; exact HW1.out
    rw [← hl] at HCF
    clear HW1 hl
    generalize W.alloc (.cells #[.int .i64 (cmpI x.k u.k), .int .i64 (cmpI x.n u.n), .int .i64 (cmpI x.e u.e), .int .i64 (cmpS x.s u.s), .int .i64 (cmpI x.kids.length u.kids.length)] 3) = W1 at *
    generalize W.heap.size = G at *
    go_loopw [6] (fun i wr => ∃ j : Nat, i = .int .i64 j ∧ j ≤ 5 ∧ Hid (firstOf l = firstOf (l.drop j)) ∧ Hid (wr = W1)) (fun i _ => 5 - (intOf i).toNat)
    case atStart => exact ⟨0, rfl, by omega, rfl, rfl⟩
    case round =>
      obtain ⟨j, rfl, hj, HF, HW⟩ := hrel
      obtain rfl := HW.out
      by_cases hlt : j < 5
      · have hj0 : (0 : Int) ≤ (j : Int) := by omega
        have hj1 : (j : Int) < (5 : Int) := by omega
        have hcell := HCL.out j (by omega)
        have HDr := Lib.hid (firstOf_drop l j (by omega))
        generalize l[j]'(by omega) = z at *
        by_cases h0 : z = 0
        · subst h0
          have HF1 : Hid (firstOf l = firstOf (l.drop (j + 1))) := by have := HDr.out; rw [if_pos rfl] at this; unfold Hid; rw [HF.out, this]
          clear HDr HF
          go_wp2
          go_roundw
          case rel => exact ⟨j + 1, by go_num, by omega, HF1, by unfold Hid; trivial⟩
          case measure => simp [intOf]; omega
        · have HF1 : Hid (R = z) := by
            have h1 := HDr.out
            rw [if_neg h0] at h1
            have h2 : cmpF x u = z := by rw [HCF.out, HF.out, h1]
            unfold Hid
            rw [HR.out, h2, if_neg h0]
          have h0' : (z != 0) = true := by simp [h0]
          clear HDr HF
          go_wp2
          go_ret
          exact ⟨by rw [HF1.out]; rfl, HA1.out⟩
      · have hj1 : ¬ (j : Int) < (5 : Int) := by omega
        have h5 : cmpF x u = 0 := by rw [HCF.out, HF.out, List.drop_of_length_le (by omega)]; rfl
        have HRL : Hid (R = cmpVL (x.kids.map er) (u.kids.map er)) := by unfold Hid; rw [HR.out, if_pos h5]
        have hlen := cmpF_len h5
        clear HF HCL HCF HR h5
        go_wp2_with fail
        go_loopw [7] (fun i wr => ∃ j : Nat, i = .int .i64 j ∧ j ≤ x.kids.length ∧ Hid (R = cmpVL ((x.kids.map er).drop j) ((u.kids.map er).drop j)) ∧ Hid (Below w'.heap.size w' wr) ∧ Hid (Box2 wr w'.heap.size x u) ∧ w'.heap.size + 2 ≤ wr.heap.size) (fun i _ => x.kids.length - (intOf i).toNat)
        case atStart => exact ⟨0, rfl, by omega, HRL, HA1, HX1, by have := HSZ1.out; omega⟩
        case round =>
          clear HRL HA1 HX1 HSZ1
          obtain ⟨j, rfl, hj, HRJ, HW, HX, hwz⟩ := hrel
          obtain ⟨⟨p0, p1, p2, p3, p4⟩, ⟨q0, q1, q2, q3, q4⟩⟩ := HX.out
          unfold LT.row at p4 q4
          by_cases hlt : j < x.kids.length
          · have hltu : j < u.kids.length := by omega
            have hj0 : (0 : Int) ≤ (j : Int) := by omega
            have hj1 : (j : Int) < (x.kids.length : Int) := by omega
            have hj2 : (j : Int) < (u.kids.length : Int) := by omega
            have hbr := HB.out.trans (HW.out.mono hB)
            obtain ⟨px, hpx, hpb, h5⟩ := HC.out j hlt
            obtain ⟨pu, hpu, hqb, h6⟩ := HD.out j hltu
            rw [hpx] at p4
            rw [hpu] at q4
            have hcx := h5.below (by rw [add_block]; exact hpb) hbr
            have hcu := h6.below (by rw [add_block]; exact hqb) hbr
            have C := IH.out j hlt _ (HU.out j hltu) wr.drew (below_drew hbr) (by show B ≤ wr.heap.size; omega)
            unfold CmpC at C
            have HDr := Lib.hid (cmpVL_drop (x.kids.map er) (u.kids.map er) j (by simpa using hlt) (by simpa using hltu))
            simp only [List.getElem_map] at HDr
            generalize x.kids[j] = y at *
            generalize u.kids[j] = v at *
            have hry : y.row = .slice y.a y.kids.length y.cap := rfl
            have hrv : v.row = .slice v.a v.kids.length v.cap := rfl
            obtain ⟨c0, c1, c2, c3, c4⟩ := hcx
            obtain ⟨d0, d1, d2, d3, d4⟩ := hcu
            rw [hry, hrv] at C
            rw [hry] at c4
            rw [hrv] at d4
            generalize cmpV (er y) (er v) = z at *
            replace C := Lib.hid C
            clear h5 h6 hbr hry hrv HC HD HU IH p0 p1 p2 p3 q0 q1 q2 q3 hpx hpu
            go_wp2_with fail
            refine wp_region_still_tail 10 (by kernel_rfl) (by kernel_rfl) ?_
            change wpStill _ _ wr.drew (fun a' => wpList _ _ _ _ a' wr.drew) _ _
            simp only [List.take_succ_cons, List.take_zero, List.drop_succ_cons, List.drop_zero]
            repeat still_step
            refine wpStill_nil ?_
            go_wp2_with fail
            with_reducible refine C.out.mono ?_
            rintro e w1 ⟨rfl, hb1⟩
            have HW1 := Lib.hid ((below_drew HW.out).trans (hb1.mono HW.out.size))
            have HX1 := Lib.hid (HX.out.kept ((below_drew (Below.refl _ wr)).trans (hb1.mono hwz)))
            have hz1 : w'.heap.size + 2 ≤ w1.heap.size := Nat.le_trans hwz hb1.size
            clear C hb1 c0 c1 c2 c3 c4 d0 d1 d2 d3 d4 HW HX p4 q4
            by_cases h0 : z = 0
            · subst h0
              have HR1 : Hid (R = cmpVL ((x.kids.map er).drop (j + 1)) ((u.kids.map er).drop (j + 1))) := by have := HDr.out; rw [if_pos rfl] at this; unfold Hid; rw [HRJ.out, this]
              clear HDr HRJ
              go_wp2
              go_roundw
              case rel => exact ⟨j + 1, by go_num, by omega, HR1, HW1, HX1, hz1⟩
              case measure => simp [intOf]; omega
            · have HR1 : Hid (R = z) := by have := HDr.out; rw [if_neg h0] at this; unfold Hid; rw [HRJ.out, this]
              have h0' : (z != 0) = true := by simp [h0]
              clear HDr HRJ
              go_wp2
              go_ret
              exact ⟨by rw [HR1.out]; rfl, HW1.out⟩
          · have hj1 : ¬ (j : Int) < (x.kids.length : Int) := by omega
            have HR1 : Hid (R = 0) := by unfold Hid; rw [HRJ.out, List.drop_of_length_le (by simp; omega), cmpVL]
            clear HC HD HU IH HRJ p0 p1 p2 p3 q0 q1 q2 q3 q4
            go_wp2
            go_ret
            exact ⟨by rw [HR1.out]; rfl, HW.out⟩

end Go.Proofs.Ytlkfaehfkapfnaa.val
