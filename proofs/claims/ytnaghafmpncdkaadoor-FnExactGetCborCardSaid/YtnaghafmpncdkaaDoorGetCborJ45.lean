/-
  impl.GetCbor at a right index.
-/
import Derived.Test.YtnaghafmpncdkaaDoorGetCborJ44
import Derived.Test.YtnaghafmpncdkaaDoorGetCborJ5
import Derived.Test.YtnaghafmpncdkaaDoorGetCborJ20
import Derived.Test.YtnaghafmpncdkaaDoorGetCborJ0
import Derived.ChangeArms
import Derived.DataReads
import Derived.Test.YtnaghafmpncdkaaDoorRows
import Derived.Test.YtnaghafmpncdkaaDoorGetCborJ18
import Derived.Lib.LaidU8T
import Derived.PinnedBridge
import Derived.Below
import Derived.WalkKit
import Derived.Handed
import Derived.HandedShaped
namespace Go.Proofs.YtnaghafmpncdkaaDoor.cbor
open Go.ChangeShapes Go.WideShapes Go.ChangeAt Go.RowKit
open Go.Proofs.YtnaghafmpncdkaaDoor.val Go.Proofs.YtnaghafmpncdkaaDoor.head
set_option maxRecDepth 100000

set_option maxHeartbeats 4000000 in
theorem impl_get_ok (s : ByteArray) (i : Int) (W : World) (hs : s.size ≤ 1048576) (hI : InI i) (hbad : badAt s i = false) (hT : simpTab.Tab W) (hU : signs.Tabs W) :
    Calls Tryd.prog 8 #[.string s, .int .i64 i] W fun e w' => Res W w' s i e := by
  have CR0 := Lib.hid (fun W => reader_any s i W hs)
  rw [hbad] at CR0
  have HB := Lib.hid ((Below.refl W.heap.size W).alloc (Nat.le_refl _) (.cells #[.int .i64 0, .int .i64 0, .int .i64 0, .string ⟨#[]⟩, .slice none 0 0] 24))
  have HR := Lib.hid (V5.new W (.int .i64 0) (.int .i64 0) (.int .i64 0) (.string ⟨#[]⟩) (.slice none 0 0))
  go_enter Tryd.func8, Tryd.ntmps8
  go_wp2_with fail
  with_reducible refine (CR0.out _).mono ?_
  rintro r w1 ⟨rfl, hb1⟩
  replace HB := Lib.hid (below_of2 HB.out hb1)
  replace HR := Lib.hid (HR.out.behind hb1)
  clear hb1 CR0
  go_upto_region 2 with (fail)
  have hC : CR (w1.alloc (.cells #[.string s, .int .i64 i, .bool false, .bool false, .int .i64 0] 53)) w1.heap.size s i false 0 := ⟨heap_alloc_new w1 _⟩
  have hAL : Below w1.heap.size w1 (w1.alloc (.cells #[.string s, .int .i64 i, .bool false, .bool false, .int .i64 0] 53)) := (Below.refl _ w1).alloc (Nat.le_refl _) _
  have hwz : W.heap.size + 1 ≤ w1.heap.size := by have := (Array.getElem?_eq_some_iff.1 HR.out.row).1; omega
  have hWr := HB.out.trans (hAL.mono HB.out.size)
  replace HR := Lib.hid (HR.out.behind hAL)
  have hgl := hT.lt
  have hTR : simpTab.Tab (w1.alloc (.cells #[.string s, .int .i64 i, .bool false, .bool false, .int .i64 0] 53)) := hT.below hgl hWr
  have HWR := Lib.hid hWr
  generalize hWRe : w1.alloc (.cells #[.string s, .int .i64 i, .bool false, .bool false, .int .i64 0] 53) = WR at *
  have hlb : w1.heap.size < WR.heap.size := hC.lt
  generalize w1.heap.size = b at *
  clear HB hAL hWr hWRe
  have hi := good_iff hbad
  have HII := Lib.hid hi
  have hgb : 0 ≠ b := by omega
  have hiv : ((i.toNat : Nat) : Int) = i := by omega
  have hC1 : CR WR b s ((i.toNat : Nat) : Int) false ((0 : Nat) : Int) := by rw [hiv]; exact hC
  have C := Lib.hid (value_any Lim WR b s i.toNat 0 hs (by omega) (Nat.zero_le _) (Nat.le_add_left _ _) hC1 hTR hgb)
  have HS := Lib.hid hs
  have HU := Lib.hid hU
  clear hC hT hU hTR hbad hgl hC1 hiv hgb hi hs
  go_wp2_with fail
  with_reducible refine C.out.mono ?_
  rintro r w2 ⟨t, J, c', bad, rfl, hF, hr, hg, hp⟩
  have HGT := Lib.hid hg
  have HPT := Lib.hid hp
  have HNE : Hid (∀ k, k ∈ t.blks → W.heap.size + 1 ≤ k) := fun k hk => Nat.le_trans (by omega) (hF.new k hk)
  have HND := Lib.hid hF.nodup
  replace HR := Lib.hid (HR.out.only hF.only (by omega))
  have HB := Lib.hid (below_only HWR.out hF.only (by omega))
  have HTR := Lib.hid hF.tr
  have HC := Lib.hid hr
  have hrow : t.row = .slice t.a t.kids.length t.cap := rfl
  have hzb : WR.heap.size ≤ w2.heap.size := hF.only.size
  clear C hF hr HWR hg hp
  go_upto_region 3 with (fail)
  have hAL : Below w2.heap.size w2 (w2.alloc (.cells #[.int .i64 t.k, .int .i64 t.n, .int .i64 t.e, .string t.s, .slice t.a t.kids.length t.cap] 24)) := (Below.refl _ w2).alloc (Nat.le_refl _) _
  replace HR := Lib.hid (HR.out.behind hAL)
  replace HB := Lib.hid (below_of2 HB.out hAL)
  replace HC : Hid (CR (w2.alloc (.cells #[.int .i64 t.k, .int .i64 t.n, .int .i64 t.e, .string t.s, .slice t.a t.kids.length t.cap] 24)) b s J bad c') := Rd.alloc HC.out (.cells #[.int .i64 t.k, .int .i64 t.n, .int .i64 t.e, .string t.s, .slice t.a t.kids.length t.cap] 24)
  replace HTR := Lib.hid (HTR.out.behind hAL)
  have HV := Lib.hid (V5.new w2 (.int .i64 t.k) (.int .i64 t.n) (.int .i64 t.e) (.string t.s) (.slice t.a t.kids.length t.cap))
  have hN5 : b + 1 ≤ w2.heap.size := by omega
  clear hAL hzb
  generalize w2.alloc (.cells #[.int .i64 t.k, .int .i64 t.n, .int .i64 t.e, .string t.s, .slice t.a t.kids.length t.cap] 24) = WV at *
  generalize w2.heap.size = N5 at *
  cases bad with
  | true =>
    have HNO := Lib.hid (none_bad HGT.out)
    have c2 := HC.out.c2
    clear HGT HPT hrow
    have HF := Lib.hid (HR.out.put (.int .i64 0) (.int .i64 0) (.int .i64 0) (.string ⟨#[]⟩) (.slice none 0 0))
    have HBF := Lib.hid (put5v_below HB.out (Nat.le_refl _) (.int .i64 0) (.int .i64 0) (.int .i64 0) (.string ⟨#[]⟩) (.slice none 0 0))
    obtain ⟨q0, q1, q2, q3, q4, qf⟩ := HR.out.c
    obtain ⟨r0, r1, r2, r3, r4, rf⟩ := HV.out.c
    obtain ⟨k0, k1, k2, k3, k4, _⟩ := HF.out.c
    clear HF HR HV HC HB HTR HNE HND hN5
    unfold put5v at k0 k1 k2 k3 k4 HBF
    go_wp2
    refine bodyPost_ret (v := .tuple #[.agg #[.int .i64 0, .int .i64 0, .int .i64 0, .string ⟨#[]⟩, .slice none 0 0], .int .i64 (-1)]) (by simp [results, Tryd.results8, go_sem, k0, k1, k2, k3, k4]) rfl ?_
    exact ⟨.inr ⟨rfl, HBF.out, HNO.out⟩⟩
  | false =>
    have hsz : t.sz ≤ 1048576 := by have := HPT.out (by simp); have := HS.out; have := HII.out; omega
    have CF := Lib.hid (cbor_fits WV t (tr_in HTR.out) hsz (signs.tabs_below HU.out HB.out))
    rw [hrow] at CF
    have HZ := Lib.hid hsz
    have c2 := HC.out.c2
    obtain ⟨q0, q1, q2, q3, q4, qf⟩ := HR.out.c
    obtain ⟨r0, r1, r2, r3, r4, rf⟩ := HV.out.c
    clear hsz
    go_wp2_with fail
    with_reducible refine CF.out.mono ?_
    rintro r w3 ⟨fit, rfl, hfit, hb3⟩
    replace HR := Lib.hid (HR.out.behind hb3)
    replace HB := Lib.hid (below_of2 HB.out hb3)
    replace HC := Lib.hid (Rd.behind HC.out hb3 HC.out.lt)
    replace HTR := Lib.hid (HTR.out.behind hb3)
    replace HV := Lib.hid (HV.out.behind hb3)
    clear hb3 CF q0 q1 q2 q3 q4 qf r0 r1 r2 r3 r4 rf c2
    cases fit with
    | false =>
      have HNO := Lib.hid (none_unfit HGT.out (fun h => by have := hfit.2 h; cases this))
      clear HGT HPT hrow hfit HZ
      have HF := Lib.hid (HR.out.put (.int .i64 0) (.int .i64 0) (.int .i64 0) (.string ⟨#[]⟩) (.slice none 0 0))
      have HBF := Lib.hid (put5v_below HB.out (Nat.le_refl _) (.int .i64 0) (.int .i64 0) (.int .i64 0) (.string ⟨#[]⟩) (.slice none 0 0))
      obtain ⟨q0, q1, q2, q3, q4, qf⟩ := HR.out.c
      obtain ⟨r0, r1, r2, r3, r4, rf⟩ := HV.out.c
      obtain ⟨k0, k1, k2, k3, k4, _⟩ := HF.out.c
      clear HF HR HV HC HB HTR HNE HND hN5
      unfold put5v at k0 k1 k2 k3 k4 HBF
      go_wp2
      refine bodyPost_ret (v := .tuple #[.agg #[.int .i64 0, .int .i64 0, .int .i64 0, .string ⟨#[]⟩, .slice none 0 0], .int .i64 (-1)]) (by simp [results, Tryd.results8, go_sem, k0, k1, k2, k3, k4]) rfl ?_
      exact ⟨.inr ⟨rfl, HBF.out, HNO.out⟩⟩
    | true =>
      have HFC := Lib.hid (hfit.1 rfl)
      have HFV := Lib.hid (fits_fit (tr_in HTR.out) HFC.out)
      have hst := stands HGT.out HFV.out HII.out (by have := HPT.out (by simp); have := HII.out; omega)
      have HST := Lib.hid hst
      have c1 := HC.out.c1
      have HF := Lib.hid (HR.out.put (.int .i64 t.k) (.int .i64 t.n) (.int .i64 t.e) (.string t.s) (.slice t.a t.kids.length t.cap))
      have HBF := Lib.hid (put5v_below HB.out (Nat.le_refl _) (.int .i64 t.k) (.int .i64 t.n) (.int .i64 t.e) (.string t.s) (.slice t.a t.kids.length t.cap))
      have HTF : Hid (Tr (put5v w3 W.heap.size (.int .i64 t.k) (.int .i64 t.n) (.int .i64 t.e) (.string t.s) (.slice t.a t.kids.length t.cap)) t) := HTR.out.kept fun k hk => put5v_other _ _ _ _ _ _ _ _ (by have := HNE.out k hk; omega)
      obtain ⟨q0, q1, q2, q3, q4, qf⟩ := HR.out.c
      obtain ⟨r0, r1, r2, r3, r4, rf⟩ := HV.out.c
      obtain ⟨k0, k1, k2, k3, k4, _⟩ := HF.out.c
      clear HF HR HV HC HB HTR HGT HPT hst hfit
      unfold put5v at k0 k1 k2 k3 k4 HBF HTF
      go_wp2
      go_region
      all_goals
        go_wp2
        refine bodyPost_ret (v := .tuple #[.agg #[.int .i64 t.k, .int .i64 t.n, .int .i64 t.e, .string t.s, .slice t.a t.kids.length t.cap], .int .i64 J]) (by simp [results, Tryd.results8, go_sem, k0, k1, k2, k3, k4]) rfl ?_
        obtain ⟨h1, h2, h3⟩ := HST.out
        exact ⟨.inl ⟨t, by rw [← h2]; rfl, tr_drew HTF.out, fun k hk => Nat.le_of_succ_le (HNE.out k hk), HND.out, HZ.out, below_drew HBF.out, HFC.out, HFV.out, h1, h3⟩⟩
end Go.Proofs.YtnaghafmpncdkaaDoor.cbor
/-
  What impl.GetCbor returns: the value that stands at a place, if one does that fits.
-/
namespace Go.Proofs.YtnaghafmpncdkaaDoor.cbor
open Go.ChangeShapes Go.WideShapes Go.ChangeAt Go.RowKit
open Go.Proofs.YtnaghafmpncdkaaDoor.val Go.Proofs.YtnaghafmpncdkaaDoor.head
set_option maxRecDepth 100000

theorem impl_get (s : ByteArray) (i : Int) (W : World) (hs : s.size ≤ 1048576) (hI : InI i) (hT : simpTab.Tab W) (hU : signs.Tabs W) :
    Calls Tryd.prog 8 #[.string s, .int .i64 i] W fun e w' => Res W w' s i e := by
  cases h : badAt s i with
  | true => exact impl_get_bad s i W hs hI h hT hU
  | false => exact impl_get_ok s i W hs hI h hT hU
end Go.Proofs.YtnaghafmpncdkaaDoor.cbor
/-
  The law FnExactGetCbor at a text of at most 1048576 bytes: true, old memory kept.
-/
namespace Go.Proofs.YtnaghafmpncdkaaDoor.fnExactGetCbor
open Go.ChangeShapes Go.WideShapes Go.ChangeAt Go.RowKit
open Go.Proofs.YtnaghafmpncdkaaDoor.val Go.Proofs.YtnaghafmpncdkaaDoor.cbor
open Go.Proofs.YtnaghafmpncdkaaDoor.newval (NewV zeroV zeroL St Sm Far)
set_option maxRecDepth 100000

/-- What both tell: the value v and the place nx. -/
def GetC (F : FuncId) (W : World) (s : ByteArray) (i : Int) (v : VT) (nx : Int) : Prop :=
  Calls Tryd.prog F #[.string s, .int .i64 i] W fun e w' => ∃ t' : LT, e = .returned (.tuple #[.agg #[.int .i64 t'.k, .int .i64 t'.n, .int .i64 t'.e, .string t'.s, t'.row], .int .i64 nx]) ∧ NewV W w' v t'
theorem spec_any (s : ByteArray) (i : Int) (W : World) (hs : s.size ≤ 1048576) : Calls Tryd.prog 7 #[.string s, .int .i64 i] W fun e w' => SRes W w' s i e := by
  by_cases h : i < 0 ∨ (s.size : Int) ≤ i
  · exact spec_get_bad s i W hs h
  · obtain ⟨k, rfl⟩ : ∃ k : Nat, i = k := ⟨i.toNat, by omega⟩
    exact spec_get_ok s k W hs (by omega)
theorem get_same (s : ByteArray) (i : Int) (hs : s.size ≤ 1048576) (hI : InI i) : ∃ v nx, (∀ W, GetC 7 W s i v nx) ∧ ∀ W, simpTab.Tab W → signs.Tabs W → GetC 8 W s i v nx := by
  by_cases hP : ∃ u : LT, FitsC u ∧ FitV (er u) ∧ StandsAt s i (er u)
  · obtain ⟨u, h1, h2, h3⟩ := hP
    refine ⟨er u, i + (cborT (er u)).length, fun W => (spec_any s i W hs).mono ?_, fun W hT hU => (impl_get s i W hs hI hT hU).mono ?_⟩
    · rintro e w' ⟨⟨t, g1, g2, g3, g4, g5, g6, g7, g8, g9, g10⟩ | ⟨g1, g2, g3⟩⟩
      · have he := g10 u h1 h2 h3
        exact ⟨t, by rw [g1, he], he, g2, g3, g4, g6, g5⟩
      · exact (g3 u h1 h2 h3).elim
    · rintro e w' ⟨⟨t, g1, g2, g3, g4, g5, g6, g7, g8, g9, g10⟩ | ⟨g1, g2, g3⟩⟩
      · have he := g10 (er u) h2 h3 (heads_lim h1)
        exact ⟨t, by rw [g1, he], he, g2, g3, g4, g6, g5⟩
      · exact (g3 u h1 h2 h3).elim
  · refine ⟨zeroV, -1, fun W => (spec_any s i W hs).mono ?_, fun W hT hU => (impl_get s i W hs hI hT hU).mono ?_⟩
    · rintro e w' ⟨⟨t, g1, g2, g3, g4, g5, g6, g7, g8, g9, g10⟩ | ⟨g1, g2, g3⟩⟩
      · exact (hP ⟨t, g7, g8, g9⟩).elim
      · exact ⟨zeroL, by rw [g1]; rfl, NewV.zero g2⟩
    · rintro e w' ⟨⟨t, g1, g2, g3, g4, g5, g6, g7, g8, g9, g10⟩ | ⟨g1, g2, g3⟩⟩
      · exact (hP ⟨t, g7, g8, g9⟩).elim
      · exact ⟨zeroL, by rw [g1]; rfl, NewV.zero g2⟩
/-- The tables, as long as old memory is kept. -/
def Kit (W : World) : Prop := simpTab.Tab W ∧ signs.Tabs W
theorem Kit.below {W w' : World} (h : Kit W) (hb : Below W.heap.size W w') : Kit w' := ⟨h.1.below h.1.lt hb, signs.tabs_below h.2 hb⟩
set_option maxHeartbeats 8000000 in
theorem core (s : ByteArray) (i : Int) (w : World) (hs : s.size ≤ 1048576) (hI : InI i) (hK : Kit w) :
    Calls Tryd.prog 3 #[.string s, .int .i64 i] w fun e w' => e = .returned (.bool true) ∧ Below w.heap.size w w' := by
  obtain ⟨V, nx, hS, hIm⟩ := get_same s i hs hI
  have CS := Lib.hid (hS w)
  have CI : Hid (∀ W, Below w.heap.size w W → GetC 8 W s i V nx) := fun W hb => hIm W (hK.below hb).1 (hK.below hb).2
  unfold GetC at CS CI
  have hsz : ¬ (1048576 : Int) < (s.size : Int) := by omega
  have hnx : (nx != nx) = false := by simp
  clear hS hIm hK hI hs
  go_enter Tryd.func3, Tryd.ntmps3
  go_wp2_with fail
  with_reducible refine CS.out.mono ?_
  rintro e w1 ⟨t0, rfl, hF0⟩
  have hbA : Below w1.heap.size w1 (w1.alloc (.cells #[.int .i64 t0.k, .int .i64 t0.n, .int .i64 t0.e, .string t0.s, t0.row] 24)) := (Below.refl _ _).alloc (Nat.le_refl _) _
  have WB := Lib.hid (Box.new w1 t0 24)
  have hrow : t0.row = .slice t0.a t0.kids.length t0.cap := rfl
  rw [hrow] at hbA WB ⊢
  have B := Lib.hid (below_of2 hF0.below hbA)
  have T0 := Lib.hid (hF0.tr.behind hbA)
  have L0 := Lib.hid hF0.tr.lt
  have E0 := Lib.hid hF0.er
  have hN0 := WB.out.lt
  have hz1 : w.heap.size ≤ w1.heap.size := hF0.below.size
  have hz3 := hbA.size
  have C2 := Lib.hid (CI.out _ B.out)
  clear CS hF0 hbA hrow
  go_wp2_with fail
  with_reducible refine C2.out.mono ?_
  generalize w1.alloc (.cells #[.int .i64 t0.k, .int .i64 t0.n, .int .i64 t0.e, .string t0.s, .slice t0.a t0.kids.length t0.cap] 24) = w3' at *
  rintro e w5 ⟨tg, rfl, hFg⟩
  have hz45 := hFg.below.size
  have hbB : Below w5.heap.size w5 (w5.alloc (.cells #[.int .i64 tg.k, .int .i64 tg.n, .int .i64 tg.e, .string tg.s, tg.row] 24)) := (Below.refl _ _).alloc (Nat.le_refl _) _
  have S := Lib.hid (St.mk (below_of2 (below_of2 B.out hFg.below) hbB) ((WB.out.behind hFg.below).behind hbB) (Box.new w5 tg 24) ((T0.out.behind hFg.below).behind hbB) (hFg.tr.behind hbB))
  have FA : Hid (Far w w3'.heap.size t0 tg w1.heap.size w5.heap.size) := ⟨by omega, hN0, fun b hb => Nat.lt_of_lt_of_le (L0.out b hb) hz3, fun b hb => ⟨hFg.new b hb, hFg.tr.lt b hb⟩⟩
  have EG := Lib.hid hFg.er
  have ND := Lib.hid hFg.nodup
  have SG := Lib.hid hFg.sz
  have CE := eqL_any (newval.tr_in S.out.TG) (newval.tr_in S.out.T0) (EG.out.trans E0.out.symm)
  have hrow : tg.row = .slice tg.a tg.kids.length tg.cap := rfl
  have hrow0 : t0.row = .slice t0.a t0.kids.length t0.cap := rfl
  obtain ⟨r0, r1, r2, r3, r4⟩ := S.out.WB
  rw [hrow0] at r4
  rw [hrow] at S CE r0 r1 r2 r3 r4 hbB ⊢
  rw [hrow0] at CE
  replace CE := Lib.hid CE
  clear C2 hFg hbB B WB T0 L0 hrow hrow0
  go_wp2_with fail
  with_reducible refine CE.out.mono ?_
  clear r0 r1 r2 r3 r4
  generalize w5.alloc (.cells #[.int .i64 tg.k, .int .i64 tg.n, .int .i64 tg.e, .string tg.s, .slice tg.a tg.kids.length tg.cap] 24) = wB at *
  rintro e w6 ⟨rfl, hb⟩
  replace S := Lib.hid (S.out.behind hb)
  clear CE hb
  have CM := Lib.hid (mark_full (S.out.TG.sh SG.out) ND.out SG.out)
  obtain ⟨g0, g1, g2, g3, g4⟩ := S.out.GB
  go_wp2_with fail
  with_reducible refine CM.out.mono ?_
  rintro e w11 ⟨rfl, hM, hW⟩
  have S11 := Lib.hid (S.out.marked FA.out hM hW)
  have CH := Lib.hid (held_full S11.out.MG SG.out)
  have hm0 : ¬ ((1 + 4 * val.LT.nodesL tg.kids : Nat) : Int) < 0 := by omega
  clear CM hM hW S g0 g1 g2 g3 g4
  obtain ⟨g0, g1, g2, g3, g4⟩ := S11.out.GB
  generalize hmm : ((1 + 4 * val.LT.nodesL tg.kids : Nat) : Int) = M at *
  go_wp2_with fail
  with_reducible refine CH.out.mono ?_
  rintro e w12 ⟨rfl, hb⟩
  have S12 := Lib.hid (S11.out.behind hb)
  have C3 := Lib.hid (CI.out _ S12.out.B)
  clear CH hb S11 g0 g1 g2 g3 g4
  go_wp2_with fail
  with_reducible refine C3.out.mono ?_
  rintro e w14 ⟨th, rfl, hFh⟩
  have hbC : Below w14.heap.size w14 (w14.alloc (.cells #[.int .i64 th.k, .int .i64 th.n, .int .i64 th.e, .string th.s, th.row] 24)) := (Below.refl _ _).alloc (Nat.le_refl _) _
  have S14 := Lib.hid ((S12.out.behind hFh.below).behind hbC)
  have CE := eqL_any (newval.tr_in (hFh.tr.behind hbC)) (newval.tr_in S14.out.T0) (hFh.er.trans E0.out.symm)
  have hrowh : th.row = .slice th.a th.kids.length th.cap := rfl
  obtain ⟨r0, r1, r2, r3, r4⟩ := S14.out.WB
  rw [hrowh] at S14 CE r0 r1 r2 r3 r4 ⊢
  replace CE := Lib.hid CE
  clear C3 hFh hbC S12 hrowh
  go_wp2_with fail
  with_reducible refine CE.out.mono ?_
  clear r0 r1 r2 r3 r4
  generalize w14.alloc (.cells #[.int .i64 th.k, .int .i64 th.n, .int .i64 th.e, .string th.s, .slice th.a th.kids.length th.cap] 24) = wC at *
  rintro e w15 ⟨rfl, hb⟩
  have S15 := Lib.hid (S14.out.behind hb)
  have CH := held_full S15.out.MG SG.out
  rw [hmm] at CH
  replace CH := Lib.hid CH
  clear CE hb S14
  obtain ⟨g0, g1, g2, g3, g4⟩ := S15.out.GB
  go_wp2_with fail
  with_reducible refine CH.out.mono ?_
  rintro e w16 ⟨rfl, hb⟩
  have B16 := Lib.hid (S15.out.behind hb).B
  clear CH hb S15
  go_wp2
  go_ret
  exact ⟨rfl, B16.out⟩
end Go.Proofs.YtnaghafmpncdkaaDoor.fnExactGetCbor
/-
  An argument of the law's type Value, read as data, is a tree that lies in memory.
-/
namespace Go.Proofs.YtnaghafmpncdkaaDoor.val
open Go.ChangeShapes Go.WideShapes Go.ChangeAt Go.RowKit
set_option maxRecDepth 100000

instance : Inhabited LT := ⟨.mk 0 0 0 ⟨#[]⟩ none 0 []⟩
theorem inI_of {n : Int} (h : (Lit.int .i64 n).wf = true) : InI n := by
  unfold InI
  simpa [Lit.wf, IntKind.min, IntKind.max, IntKind.signed, IntKind.bits] using h
theorem add_at (p : Addr) (j : Nat) : p.add (j + 1) = ⟨p.block, p.off + (j + 1), none⟩ := by unfold Addr.add; simp
theorem five {l : List Value} (h : l.length = 5) : ∃ c0 c1 c2 c3 c4, l = [c0, c1, c2, c3, c4] := by
  match l, h with
  | [c0, c1, c2, c3, c4], _ => exact ⟨c0, c1, c2, c3, c4, rfl⟩
theorem cells5 : Tryd.prog.cellsOf 35 = 5 := by kernel_rfl
theorem cells1i : Tryd.prog.cellsOf 3 = 1 := by kernel_rfl
theorem cells1s : Tryd.prog.cellsOf 9 = 1 := by kernel_rfl
theorem cells1l : Tryd.prog.cellsOf 33 = 1 := by kernel_rfl

theorem open_val {H : Type} {enc : TypeId × Value → H} {W : World} : ∀ (fuel : Nat) (cs : List Value) (x : DataW H × List MemPlace), DataW.trod enc Tryd.prog W 0 (fun _ => true) true fuel 35 cs = some x →
    ∃ t : LT, cs = [.int .i64 t.k, .int .i64 t.n, .int .i64 t.e, .string t.s, t.row] ∧ In W W.heap.size t := by
  intro fuel
  induction fuel using Nat.strongRecOn with
  | ind fuel ih =>
    intro cs x h
    obtain ⟨xs, n, rfl, hx, hlen, hxl, hf⟩ := DataW.trod_struct Tryd.underlying35 h
    rw [cells5] at hlen
    obtain ⟨c0, c1, c2, c3, c4, rfl⟩ := five hlen
    have hxl5 : xs.length = 5 := hxl
    have g : ∀ i (hi : i < 5), xs[i]? = some (xs[i]'(by omega)) := fun i hi => List.getElem?_eq_getElem (by omega)
    have h0 := (hf 0 _ rfl).trans (g 0 (by omega))
    have h1 := (hf 1 _ rfl).trans (g 1 (by omega))
    have h2 := (hf 2 _ rfl).trans (g 2 (by omega))
    have h3 := (hf 3 _ rfl).trans (g 3 (by omega))
    have h4 := (hf 4 _ rfl).trans (g 4 (by omega))
    have q0 : DataW.trod enc Tryd.prog W 0 (fun _ => true) true n 3 ([c0, c1, c2, c3, c4].take (Tryd.prog.cellsOf 3)) = _ := h0
    have q1 : DataW.trod enc Tryd.prog W 0 (fun _ => true) true n 3 ([c1, c2, c3, c4].take (Tryd.prog.cellsOf 3)) = _ := h1
    have q2 : DataW.trod enc Tryd.prog W 0 (fun _ => true) true n 3 ([c2, c3, c4].take (Tryd.prog.cellsOf 3)) = _ := h2
    have q3 : DataW.trod enc Tryd.prog W 0 (fun _ => true) true n 9 ([c3, c4].take (Tryd.prog.cellsOf 9)) = _ := h3
    have q4 : DataW.trod enc Tryd.prog W 0 (fun _ => true) true n 33 ([c4].take (Tryd.prog.cellsOf 33)) = _ := h4
    rw [cells1i] at q0 q1 q2
    rw [cells1s] at q3
    rw [cells1l] at q4
    simp only [List.take_succ_cons, List.take_zero] at q0 q1 q2 q3 q4
    obtain ⟨k, e0, _, w0⟩ := DataW.trod_int Tryd.underlying3 q0
    obtain ⟨m, e1, _, w1⟩ := DataW.trod_int Tryd.underlying3 q1
    obtain ⟨e, e2, _, w2⟩ := DataW.trod_int Tryd.underlying3 q2
    obtain ⟨s, e3, _, w3⟩ := DataW.trod_string Tryd.underlying9 q3
    injection e0 with e0
    injection e1 with e1
    injection e2 with e2
    injection e3 with e3
    subst e0; subst e1; subst e2; subst e3
    have hs : s.size ≤ 9223372036854775807 := by unfold maxLen at w3; exact w3
    rcases DataW.trod_slice Tryd.underlying33 q4 with ⟨e4, _⟩ | ⟨a, len, cap, elems, rest, n2, hn2, e4, _, _, hlc, hcm, hel, hall, _, _⟩
    · injection e4 with e4
      subst e4
      exact ⟨.mk k m e s none 0 [], rfl, .mk (inI_of w0) (inI_of w1) (inI_of w2) hs (by simp) (fun i hi => by simp at hi) (fun i hi => by simp at hi)⟩
    · injection e4 with e4
      subst e4
      have key : ∀ i, i < len → ∃ t : LT, At5 W (a.add (i * 5)) t ∧ (a.add (i * 5)).block < W.heap.size ∧ In W W.heap.size t := by
        intro i hi
        have h5 := hall i hi
        rw [List.getElem?_eq_getElem (by omega), cells5] at h5
        obtain ⟨cs', hc', ht'⟩ := Option.bind_eq_some_iff.1 h5
        obtain ⟨t, rfl, ht⟩ := ih n2 (by omega) cs' _ ht'
        obtain ⟨_, _, hat⟩ := World.cells?_some hc'
        have a0 := hat 0 (by omega)
        have a1 := hat 1 (by omega)
        have a2 := hat 2 (by omega)
        have a3 := hat 3 (by omega)
        have a4 := hat 4 (by omega)
        rw [show (a.add (i * 5)).add 0 = a.add (i * 5) by unfold Addr.add; simp] at a0
        rw [add_at _ 0] at a1
        rw [add_at _ 1] at a2
        rw [add_at _ 2] at a3
        rw [add_at _ 3] at a4
        exact ⟨t, ⟨a0, a1, a2, a3, a4⟩, World.block_lt_of_cell? W _ a0, ht⟩
      obtain ⟨T, hT⟩ := Go.Deep.choose_lt key
      have hl : ((List.range len).map T).length = len := by simp
      have hg : ∀ i (hi : i < ((List.range len).map T).length), ((List.range len).map T)[i] = T i := fun i hi => by simp
      refine ⟨.mk k m e s (some a) cap ((List.range len).map T), ?_, .mk (inI_of w0) (inI_of w1) (inI_of w2) hs (by rw [hl]; unfold maxLen at hcm; exact ⟨hlc, hcm⟩) (fun i hi => ⟨a, rfl, ?_, ?_⟩) (fun i hi => ?_)⟩
      · show _ = [Value.int .i64 k, .int .i64 m, .int .i64 e, .string s, .slice (some a) ((List.range len).map T).length cap]
        rw [hl]
      · have := (hT i (by omega)).2.1
        rw [add_block] at this
        exact this
      · rw [hg i hi]; exact (hT i (by omega)).1
      · rw [hg i hi]; exact (hT i (by omega)).2.2

end Go.Proofs.YtnaghafmpncdkaaDoor.val
/-
  The tables of unicode/utf8 as a row of this seat lists them, where the seat has ValidString and no DecodeRuneInString.
-/
namespace Go.Proofs.YtnaghafmpncdkaaDoor.tabsT
open Go.Lib Go.RowKit
theorem extra : U8Extra Tryd.prog Tryd.lays196_ren := ⟨by kernel_rfl, by kernel_rfl, by kernel_rfl, by kernel_rfl, by kernel_rfl, by kernel_rfl, by kernel_rfl⟩
theorem accept_eq : Rows.laid_unicode_utf8_acceptRanges = acceptData := by kernel_rfl
theorem first_eq : Rows.laid_unicode_utf8_first = firstData := Pinned.utf8First_eq
theorem utf8 {l : List (String × DataW Unit)} {w : World} (hL : laidMet Tryd.prog l w) (h1 : ("unicode/utf8.first", Rows.laid_unicode_utf8_first) ∈ l) (h2 : ("unicode/utf8.acceptRanges", Rows.laid_unicode_utf8_acceptRanges) ∈ l) : Lib.Utf8Tabs 6 7 w :=
  utf8Tabs_of_readsT (P := Tryd.prog) (ρ := Tryd.lays196_ren) (U8Types.of196 Tryd.lays196) extra (first_eq ▸ laidMet.reads hL h1) (accept_eq ▸ laidMet.reads hL h2)
end Go.Proofs.YtnaghafmpncdkaaDoor.tabsT
/-
  From a contract to a row that lists variables, the world's shape at hand: what the form asks of every world that fits.
-/
namespace Go.Proofs.YtnaghafmpncdkaaDoor
variable {H : Type} {enc : TypeId × Value → H}
theorem returns_and_shaped {C : Checked} {os : Os} {f : FuncId} {fn : Func} {s : ChangeSpec} {conds : List PathCond} {apart fresh handsOn again : Bool} {X : World → Array Value → Prop}
    (hX : ∀ (w w' : World) (args : Array Value), w.heap = w'.heap → X w args → X w' args)
    (own : ownKnob C.prog.godebug = none) (started : os.Started) (noInit : C.prog.inits.idxOf? f = none) (hfn : C.prog.funcs[f]? = some fn)
    (witness : ∃ (w : World) (tape : Tape) (i : Input), w.os = os ∧ (w.forCall tape i).Shaped C.prog ∧ i.vars = [] ∧ Input.okWide C.prog (w.forCall tape i) .any w.heap.size f i ∧
      ((s.pre enc C.prog fn conds apart (w.forCall tape i).memory i.args ∧ X (w.forCall tape i).memory i.args) ∧ sizedMet enc C.prog fn (OpenSpec.ofChange s) apart (w.forCall tape i).memory i.args) ∧ Assume.holds {} C.prog (lone (Frame.enter C.prog f i.args .normal) [] (w.forCall tape i)))
    (contract : ∀ (W : World) (base : Nat) (args : Array Value) (ds gs : List (DataW H)) (before : List MemPlace),
      (∀ (j : Nat) t v, fn.params[j]? = some t → args[j]? = some v → Value.okWide C.prog W .any base t v) →
      DataW.Whole enc C.prog fn.params.toList s.vars apart W args.toList ds gs before → X W args → W.ShapedOpen C.prog →
      Calls C.prog f args W fun e W' => ∃ v, e = .returned v ∧ s.post enc C.prog fn apart fresh handsOn again W args v W') :
    ReturnsInHanded {} C os f .any (fun w args => (s.pre enc C.prog fn conds apart w args ∧ X w args) ∧ sizedMet enc C.prog fn (OpenSpec.ofChange s) apart w args) (s.post enc C.prog fn apart fresh handsOn again) := by
  refine returnsInHanded_of_calls own started noInit witness ?_
  intro w tape i _ hsh _ hok hpre _
  obtain ⟨_, _, _, g, hg, _, _, _, _, hval⟩ := hok
  obtain rfl : g = fn := Option.some.inj (hg.symm.trans hfn)
  obtain ⟨⟨⟨ds, gs, before, hw, _⟩, hx⟩, _⟩ := hpre
  refine (contract (w.forCall tape i) w.heap.size i.args ds gs before hval (DataW.Whole.of_heap (w' := w.forCall tape i) (by rfl) hw) (hX _ _ _ (by rfl) hx) hsh).mono fun e W' ⟨v, he, hp⟩ => ?_
  subst he
  exact ChangeSpec.post_blind hp
end Go.Proofs.YtnaghafmpncdkaaDoor
