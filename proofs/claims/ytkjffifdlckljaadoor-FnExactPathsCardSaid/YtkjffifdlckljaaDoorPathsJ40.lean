/-
  spec.CborFits at every value; the two sides agree.
-/
import Derived.Test.YtkjffifdlckljaaDoorPathsJ39
import Derived.Test.YtkjffifdlckljaaDoorPathsJ27
import Derived.Test.YtkjffifdlckljaaDoorPathsJ38
import Derived.Test.YtkjffifdlckljaaDoorPathsJ20
import Derived.Test.YtkjffifdlckljaaDoorPathsJ5
namespace Go.Proofs.YtkjffifdlckljaaDoor.node
open Go.ChangeShapes Go.WideShapes Go.ChangeAt Go.RowKit
open Go.Proofs.YtkjffifdlckljaaDoor.val Go.Proofs.YtkjffifdlckljaaDoor.num
set_option maxRecDepth 100000

theorem fits_iff (t : LT) : FitsC t ↔ ValidT t ∧ ¬ FourT t := by
  unfold FitsC
  rw [valid_iff, four_pre t 0]
  constructor
  · rintro ⟨h1, h2⟩
    exact ⟨h1, fun ⟨y, hy, h⟩ => h (h2 y hy)⟩
  · rintro ⟨h1, h2⟩
    exact ⟨h1, fun y hy => Classical.not_not.1 fun h => h2 ⟨y, hy, h⟩⟩
set_option maxHeartbeats 1000000 in
theorem spec_fits {w : World} {B : Nat} {t : LT} (h : In w B t) (hz : t.sz ≤ 1048576) (w' : World) (hb : Below B w w') (hB : B ≤ w'.heap.size) :
    Calls Tryd.prog 39 #[.agg #[.int .i64 t.k, .int .i64 t.n, .int .i64 t.e, .string t.s, t.row]] w' (OwnR (FitsC t) w') := by
  have hrow : t.row = .slice t.a t.kids.length t.cap := rfl
  have HA : Hid (Below w'.heap.size w' (w'.alloc (.cells #[.int .i64 t.k, .int .i64 t.n, .int .i64 t.e, .string t.s, .slice t.a t.kids.length t.cap] 24))) := (Below.refl _ _).alloc (Nat.le_refl _) _
  have HX : Hid (Box (w'.alloc (.cells #[.int .i64 t.k, .int .i64 t.n, .int .i64 t.e, .string t.s, .slice t.a t.kids.length t.cap] 24)) w'.heap.size t) := Box.new w' t 24
  have CV : Hid (∀ W, Below w'.heap.size w' W → Calls Tryd.prog 51 #[.agg #[.int .i64 t.k, .int .i64 t.n, .int .i64 t.e, .string t.s, t.row]] W (OwnR (ValidT t) W)) := fun W hW => spec_value h hz (nodes_small t hz) W (hb.trans (hW.mono hB)) (Nat.le_trans hB hW.size)
  have CF : Hid (∀ W, Below w'.heap.size w' W → Calls Tryd.prog 74 #[.agg #[.int .i64 t.k, .int .i64 t.n, .int .i64 t.e, .string t.s, t.row]] W (OwnR (FourT t) W)) := fun W hW => four_any h hz W (hb.trans (hW.mono hB)) (Nat.le_trans hB hW.size)
  have HV : Hid (FitsC t ↔ ValidT t ∧ ¬ FourT t) := fits_iff t
  simp only [hrow] at CV CF ⊢
  generalize FitsC t = V at *
  generalize ValidT t = R at *
  generalize FourT t = Q at *
  clear h hz hb hB hrow
  go_enter Tryd.func39, Tryd.ntmps39
  go_wp2_with fail
  with_reducible refine (CV.out _ HA.out).mono ?_
  rintro r w1 ⟨b, rfl, hbi, hb1⟩
  replace HX := Lib.hid (HX.out.behind hb1)
  replace HA := Lib.hid (below_of2 HA.out hb1)
  clear hb1 CV
  obtain ⟨p0, p1, p2, p3, p4⟩ := HX.out
  unfold LT.row at p4
  cases b with
  | false =>
    have HF : Hid (¬ V) := fun hv => by have := hbi.2 (HV.out.1 hv).1; cases this
    clear hbi
    go_wp2
    go_ret
    exact ⟨false, rfl, ⟨fun h => (by cases h), fun h => (HF.out h).elim⟩, HA.out⟩
  | true =>
    have HP : Hid R := hbi.1 rfl
    clear hbi
    go_wp2_with fail
    with_reducible refine (CF.out _ HA.out).mono ?_
    rintro r w2 ⟨b, rfl, hbi, hb2⟩
    have HD : Hid ((!b) = true ↔ V) := by
      unfold Hid
      rw [HV.out]
      cases b with
      | false => exact ⟨fun _ => ⟨HP.out, fun h => by have := hbi.2 h; cases this⟩, fun _ => rfl⟩
      | true => exact ⟨fun h => (by cases h), fun h => (h.2 (hbi.1 rfl)).elim⟩
    replace HA := Lib.hid (below_of2 HA.out hb2)
    clear hb2 CF hbi
    go_wp2
    go_ret
    exact ⟨_, rfl, HD.out, HA.out⟩
end Go.Proofs.YtkjffifdlckljaaDoor.node
/-
  Plain: whether a value is valid, whether CBOR holds it, hangs on what the value tells apart from its places alone.
-/
namespace Go.Proofs.YtkjffifdlckljaaDoor.erase
open Go.RowKit
open Go.Proofs.YtkjffifdlckljaaDoor.val Go.Proofs.YtkjffifdlckljaaDoor.num Go.Proofs.YtkjffifdlckljaaDoor.node
set_option maxRecDepth 100000

mutual
/-- A value without places. -/
def ofV : VT → LT
  | .mk k n e s kids => .mk k n e s none 0 (ofVL kids)
def ofVL : List VT → List LT
  | [] => []
  | t :: ts => ofV t :: ofVL ts
end
def bare (t : LT) : LT := ofV (er t)
theorem ofVL_map (l : List LT) : ofVL (erL l) = l.map bare := by
  induction l with
  | nil => rfl
  | cons t ts ih => rw [erL, ofVL, ih]; rfl
theorem bare_mk (k n e : Int) (s : ByteArray) (a : Option Addr) (cap : Nat) (kids : List LT) : bare (.mk k n e s a cap kids) = .mk k n e s none 0 (kids.map bare) := by
  rw [bare, er, ofV, ofVL_map]
theorem bare_f (t : LT) : (bare t).k = t.k ∧ (bare t).n = t.n ∧ (bare t).e = t.e ∧ (bare t).s = t.s ∧ (bare t).kids = t.kids.map bare := by
  cases t
  rw [bare_mk]
  exact ⟨rfl, rfl, rfl, rfl, rfl⟩
theorem num_bare (t : LT) : numOk (bare t) = numOk t := by
  obtain ⟨h1, h2, h3, h4, h5⟩ := bare_f t
  unfold numOk
  rw [h1, h2, h3, h4, h5, List.length_map]
theorem key_bare (t : LT) : LT.key (bare t) = LT.key t := by
  obtain ⟨h1, h2, _, h4, _⟩ := bare_f t
  unfold LT.key
  rw [h1, h2, h4]
theorem pairs_bare (l : List LT) : Pairs (l.map bare) ↔ Pairs l := by
  have hg : ∀ i, GoodKey (l.map bare) i ↔ GoodKey l i := fun i => by
    unfold GoodKey
    constructor
    · intro h hi
      obtain ⟨h1, h2⟩ := h (by simpa using hi)
      simp only [List.getElem_map, key_bare, (bare_f _).1] at h1 h2
      exact ⟨h1, h2⟩
    · intro h hi
      obtain ⟨h1, h2⟩ := h (by simpa using hi)
      simp only [List.getElem_map, key_bare, (bare_f _).1]
      exact ⟨h1, h2⟩
  unfold Pairs KeysGood
  simp only [hg, List.length_map]
theorem own_bare (t : LT) : OwnP (bare t) ↔ OwnP t := by
  obtain ⟨h1, h2, h3, h4, h5⟩ := bare_f t
  unfold OwnP
  rw [h1, h2, h3, h4, h5, num_bare, List.length_map, pairs_bare]
mutual
theorem right_bare : ∀ (t : LT) (d : Int), RightT (bare t) d ↔ RightT t d
  | .mk k n e s a cap kids, d => by
    have h := own_bare (.mk k n e s a cap kids)
    rw [bare_mk] at h ⊢
    rw [RightT, RightT, h, rightL_bare kids (d - 1)]
theorem rightL_bare : ∀ (l : List LT) (d : Int), RightL (l.map bare) d ↔ RightL l d
  | [], d => Iff.rfl
  | t :: ts, d => by rw [List.map_cons, RightL, RightL, right_bare t d, rightL_bare ts d]
end
theorem valid_er {t u : LT} (h : er t = er u) : ValidT t ↔ ValidT u := by
  unfold ValidT
  rw [← right_bare t, ← right_bare u, er_nodes h, bare, bare, h]
mutual
theorem four_bare : ∀ t : LT, FourT (bare t) ↔ FourT t
  | .mk k n e s a cap kids => by rw [bare_mk, FourT, FourT, fourL_bare kids]
theorem fourL_bare : ∀ l : List LT, FourL (l.map bare) ↔ FourL l
  | [] => Iff.rfl
  | t :: ts => by rw [List.map_cons, FourL, FourL, four_bare t, fourL_bare ts]
end
theorem fits_er {t u : LT} (h : er t = er u) : FitsC t ↔ FitsC u := by
  rw [node.fits_iff, node.fits_iff, valid_er h, ← four_bare t, ← four_bare u, bare, bare, h]
end Go.Proofs.YtkjffifdlckljaaDoor.erase
/-
  What spec.Paths and impl.Paths return at every value.
-/
namespace Go.Proofs.YtkjffifdlckljaaDoor.path
open Go.ChangeShapes Go.WideShapes Go.ChangeAt Go.RowKit
open Go.Proofs.YtkjffifdlckljaaDoor.strs (encS oneS ReadS)
open Go.Proofs.YtkjffifdlckljaaDoor.val Go.Proofs.YtkjffifdlckljaaDoor.node
set_option maxRecDepth 100000

mutual
theorem er_ofV : ∀ v : VT, er (erase.ofV v) = v
  | .mk k n e s kids => by rw [erase.ofV, er, erL_ofVL kids]
theorem erL_ofVL : ∀ l : List VT, erL (erase.ofVL l) = l
  | [] => by rw [erase.ofVL, erL]
  | t :: ts => by rw [erase.ofVL, erL, er_ofV t, erL_ofVL ts]
end
theorem valid_of (t : LT) : ValidT (erase.ofV (er t)) ↔ ValidT t := erase.valid_er (er_ofV _)
open Classical in
/-- What Paths returns. -/
noncomputable def resV (v : VT) : List ByteArray := if ValidT (erase.ofV v) then pathsV v else []
theorem resV_yes {t : LT} (h : ValidT t) : resV (er t) = (pathsT (er t) []).map putP := by unfold resV; rw [if_pos ((valid_of t).2 h)]; rfl
theorem resV_no {t : LT} (h : ¬ ValidT t) : resV (er t) = [] := by unfold resV; rw [if_neg (fun k => h ((valid_of t).1 k))]
theorem resV_len (t : LT) : (resV (er t)).length ≤ t.nodes := by
  by_cases h : ValidT t
  · rw [resV_yes h, List.length_map]; exact paths_len t []
  · rw [resV_no h]; exact Nat.zero_le _
set_option maxHeartbeats 2000000 in
theorem spec_paths {w : World} {t : LT} (h : In w w.heap.size t) (hz : t.sz ≤ 1048576) :
    Calls Tryd.prog 28 #[.agg #[.int .i64 t.k, .int .i64 t.n, .int .i64 t.e, .string t.s, t.row]] w (RowR w (resV (er t))) := by
  have hrow : t.row = .slice t.a t.kids.length t.cap := rfl
  have HA : Hid (Below w.heap.size w (w.alloc (.cells #[.int .i64 t.k, .int .i64 t.n, .int .i64 t.e, .string t.s, .slice t.a t.kids.length t.cap] 24))) := (Below.refl _ _).alloc (Nat.le_refl _) _
  have HX := Lib.hid (B5.new w (.int .i64 t.k) (.int .i64 t.n) (.int .i64 t.e) (.string t.s) (.slice t.a t.kids.length t.cap))
  have CV : Hid (∀ W, Below w.heap.size w W → Calls Tryd.prog 51 #[.agg #[.int .i64 t.k, .int .i64 t.n, .int .i64 t.e, .string t.s, .slice t.a t.kids.length t.cap]] W (node.OwnR (ValidT t) W)) := fun W hW => by
    have := node.spec_value h hz (nodes_small t hz) W hW hW.size
    rwa [hrow] at this
  have CP : Hid (ValidT t → ∀ W g, Below w.heap.size w W → OwnL W 0 9 encS (.slice (some ⟨g, 0, none⟩) 0 0) [] → Calls Tryd.prog 52 #[.agg #[.int .i64 t.k, .int .i64 t.n, .int .i64 t.e, .string t.s, .slice t.a t.kids.length t.cap], .slice (some ⟨g, 0, none⟩) 0 0] W (RowR W ((pathsT (er t) []).map putP))) := fun hv W g hW ho => l08_paths h hz 12 [] g 0 W hW hW.size hv.1 StOk.start ho
  have HY : Hid (ValidT t → resV (er t) = (pathsT (er t) []).map putP) := resV_yes
  have HN : Hid (¬ ValidT t → resV (er t) = []) := resV_no
  rw [hrow]
  unfold RowR at CP ⊢
  unfold node.OwnR at CV
  generalize resV (er t) = R at *
  generalize (pathsT (er t) []).map putP = PS at *
  generalize ValidT t = V at *
  clear h hz hrow
  obtain ⟨b0, b1, b2, b3, b4, bf⟩ := HX.out.c
  go_enter Tryd.func28, Tryd.ntmps28
  go_wp2_with fail
  with_reducible refine (CV.out _ HA.out).mono ?_
  rintro r w1 ⟨b, rfl, hbi, hb1⟩
  have HX1 := Lib.hid (HX.out.behind hb1)
  have HA1 := Lib.hid (below_ofP HA.out hb1)
  clear hb1 CV HX HA b0 b1 b2 b3 b4 bf
  obtain ⟨b0, b1, b2, b3, b4, bf⟩ := HX1.out.c
  cases b with
  | false =>
    have HE := Lib.hid (HN.out (fun hv => by have := hbi.2 hv; cases this))
    clear CP HY HN hbi
    go_wp2
    go_ret
    refine ⟨w1.heap.size, 0, by rw [HE.out]; rfl, by rw [HE.out]; exact OwnL.empty _ _ _ HA1.out.size, HA1.out.alloc HA1.out.size _⟩
  | true =>
    have HV := Lib.hid (hbi.1 rfl)
    have HE := Lib.hid (HY.out HV.out)
    have D := Lib.hid (CP.out HV.out (w1.alloc (.cells #[] 9)) w1.heap.size (HA1.out.alloc HA1.out.size _) (OwnL.empty w1 _ encS (Nat.zero_le _)))
    have HA2 := Lib.hid (HA1.out.alloc HA1.out.size (.cells #[] 9))
    clear CP HY HN hbi HV
    go_wp2_with fail
    with_reducible refine D.out.mono ?_
    rintro r w2 ⟨g2, c2, rfl, ho2, hb2⟩
    have HO2 := Lib.hid (ho2.mono HA2.out.size)
    have HA3 := Lib.hid (below_ofP HA2.out hb2)
    clear D hb2 ho2 HA1 HA2 HX1 b0 b1 b2 b3 b4 bf
    go_wp2
    go_ret
    exact ⟨g2, c2, by rw [HE.out]; rfl, by rw [HE.out]; exact HO2.out, HA3.out⟩
set_option maxHeartbeats 2000000 in
theorem impl_paths {w : World} {t : LT} (h : In w w.heap.size t) (hz : t.sz ≤ 1048576) (hT : signs.Tabs w) (m : Int) (hM : MaxCell m w) (hP : Pow w) (hl1 : 6 < w.heap.size) (hl2 : 7 < w.heap.size) :
    Calls Tryd.prog 30 #[.agg #[.int .i64 t.k, .int .i64 t.n, .int .i64 t.e, .string t.s, t.row]] w (RowR w (resV (er t))) := by
  have hrow : t.row = .slice t.a t.kids.length t.cap := rfl
  have HA : Hid (Below w.heap.size w (w.alloc (.cells #[.int .i64 t.k, .int .i64 t.n, .int .i64 t.e, .string t.s, .slice t.a t.kids.length t.cap] 24))) := (Below.refl _ _).alloc (Nat.le_refl _) _
  have HX := Lib.hid (B5.new w (.int .i64 t.k) (.int .i64 t.n) (.int .i64 t.e) (.string t.s) (.slice t.a t.kids.length t.cap))
  have CV : Hid (∀ W, Below w.heap.size w W → Calls Tryd.prog 54 #[.agg #[.int .i64 t.k, .int .i64 t.n, .int .i64 t.e, .string t.s, .slice t.a t.kids.length t.cap]] W (TellR (ValidI t) W)) := fun W hW => by
    have := val.value_any W t ((h.behind hW).mono hW.size) hz (signs.tabs_below hT hW)
    rwa [hrow] at this
  rw [valid_iff] at CV
  have CP : Hid (ValidT t → ∀ W g, Below w.heap.size w W → OwnL W w.heap.size 9 encS (.slice (some ⟨g, 0, none⟩) 0 0) [] → Calls Tryd.prog 55 #[.slice (some ⟨g, 0, none⟩) 0 0, .string ⟨#[]⟩, .agg #[.int .i64 t.k, .int .i64 t.n, .int .i64 t.e, .string t.s, .slice t.a t.kids.length t.cap]] W (AppR W w.heap.size g ((pathsT (er t) []).map putP))) := fun hv W g hW ho => by
    have := app_paths h hz 12 [] g 0 0 w.heap.size m [] W hW (Nat.le_refl _) hW.size hv.1 StOk.start ((⟨hM, hP, hl1, hl2⟩ : TbB w.heap.size m w).below hW) rfl (by have := nodes_small t hz; omega) ho
    rwa [show putP [] = ⟨#[]⟩ from rfl, List.nil_append] at this
  have HY : Hid (ValidT t → resV (er t) = (pathsT (er t) []).map putP) := resV_yes
  have HN : Hid (¬ ValidT t → resV (er t) = []) := resV_no
  rw [hrow]
  unfold RowR
  unfold TellR at CV
  generalize resV (er t) = R at *
  generalize (pathsT (er t) []).map putP = PS at *
  generalize ValidT t = V at *
  clear h hz hrow hT hM hP hl1 hl2
  obtain ⟨b0, b1, b2, b3, b4, bf⟩ := HX.out.c
  go_enter Tryd.func30, Tryd.ntmps30
  go_wp2_with fail
  with_reducible refine (CV.out _ HA.out).mono ?_
  rintro r w1 ⟨b, rfl, hbi, hb1⟩
  have HX1 := Lib.hid (HX.out.behind hb1)
  have HA1 := Lib.hid (below_ofP HA.out hb1)
  clear hb1 CV HX HA b0 b1 b2 b3 b4 bf
  obtain ⟨b0, b1, b2, b3, b4, bf⟩ := HX1.out.c
  cases b with
  | false =>
    have HE := Lib.hid (HN.out (fun hv => by have := hbi.2 hv; cases this))
    clear CP HY HN hbi
    go_wp2
    go_ret
    refine ⟨w1.heap.size, 0, by rw [HE.out]; rfl, by rw [HE.out]; exact OwnL.empty _ _ _ HA1.out.size, HA1.out.alloc HA1.out.size _⟩
  | true =>
    have HV := Lib.hid (hbi.1 rfl)
    have HE := Lib.hid (HY.out HV.out)
    have D := Lib.hid (CP.out HV.out (w1.alloc (.cells #[] 9)) w1.heap.size (HA1.out.alloc HA1.out.size _) (OwnL.empty w1 _ encS HA1.out.size))
    have HA2 := Lib.hid (HA1.out.alloc HA1.out.size (.cells #[] 9))
    have HX2 := Lib.hid (HX1.out.behind ((Below.refl _ w1).alloc (Nat.le_refl _) (.cells #[] 9)))
    have hz1 := HA1.out.size
    clear CP HY HN hbi HV
    obtain ⟨d0, d1, d2, d3, d4, df⟩ := HX2.out.c
    go_wp2_with fail
    with_reducible refine D.out.mono ?_
    rintro r w2 ⟨g2, c2, rfl, ho2, hg2, _⟩
    have HO2 := Lib.hid ho2
    have HA3 := Lib.hid (HA2.out.grown hg2 HA2.out.size (fun k hk => by injection hk with hk; omega))
    clear D hg2 ho2 HA1 HA2 HX1 HX2 b0 b1 b2 b3 b4 bf d0 d1 d2 d3 d4 df
    go_wp2
    go_ret
    exact ⟨g2, c2, by rw [HE.out]; rfl, by rw [HE.out]; exact HO2.out, HA3.out⟩
end Go.Proofs.YtkjffifdlckljaaDoor.path
