/-
  The law FnExactField at a value and a key of at most 1048576 letters and elements: true, old memory kept.
-/
import Derived.Test.YtdbkifndhkmfgaaValBox
import Derived.Test.YtdbkifndhkmfgaaFieldWalk
import Derived.Test.YtdbkifndhkmfgaaHelds
import Derived.Test.YtdbkifndhkmfgaaEndless
namespace Go.Proofs.Ytdbkifndhkmfgaa.fnExactField
open Go.ChangeShapes Go.WideShapes Go.ChangeAt Go.RowKit
open Go.Proofs.Ytdbkifndhkmfgaa.val
set_option maxRecDepth 100000

theorem tr_in {w : World} {t : LT} (h : Tr w t) : In w w.heap.size t := h.isIn h.lt
theorem tr_drewN {w : World} {t : LT} (h : Tr w t) (n : Nat) : Tr (w.drewN n) t := h.kept fun _ _ => rfl
theorem tr_touched {w w' : World} {lo hi : Nat} {t : LT} (h : Tr w t) (ht : Touched lo hi w w') (hn : ∀ b, b ∈ t.blks → b < lo ∨ hi ≤ b) : Tr w' t := h.kept fun b hb => ht.out b (h.lt b hb) (hn b hb)
theorem wrt_below {bs : List Nat} {B : Nat} {a b : World} (h : Wrt bs a b) (hB : B ≤ a.heap.size) (hn : ∀ x, x ∈ bs → B ≤ x) : Below B a b := ⟨h.os, h.tape, h.output, h.size, fun k hk => h.out k (by omega) (fun hx => by have := hn k hx; omega)⟩
/-- What is kept: the argument's box, the wanted value and the got value with their boxes. -/
structure St (w W : World) (t t0 tg : LT) (N0 Ng : Nat) : Prop where
  B : Below w.heap.size w W
  PB : Box W w.heap.size t
  WB : Box W N0 t0
  GB : Box W Ng tg
  T0 : Tr W t0
  TG : Tr W tg
theorem St.behind {w W W' : World} {t t0 tg : LT} {N0 Ng : Nat} (h : St w W t t0 tg N0 Ng) (hb : Below W.heap.size W W') : St w W' t t0 tg N0 Ng :=
  ⟨below_of2 h.B hb, h.PB.behind hb, h.WB.behind hb, h.GB.behind hb, h.T0.behind hb, h.TG.behind hb⟩
theorem St.drewN {w W : World} {t t0 tg : LT} {N0 Ng : Nat} (h : St w W t t0 tg N0 Ng) (n : Nat) : St w (W.drewN n) t t0 tg N0 Ng :=
  ⟨belowN h.B n, h.PB.drewN n, h.WB.drewN n, h.GB.drewN n, tr_drewN h.T0 n, tr_drewN h.TG n⟩
/-- The blocks of the wanted value are old, those of the got value new. -/
structure Far (w : World) (lo hi : Nat) (t0 tg : LT) (N0 Ng : Nat) : Prop where
  z : w.heap.size < lo
  lh : lo ≤ hi
  n0 : N0 < lo
  ng : hi ≤ Ng
  b0 : ∀ b, b ∈ t0.blks → b < lo
  bg : ∀ b, b ∈ tg.blks → hi ≤ b ∧ b < Ng
theorem St.touched {w W W' : World} {t t0 tg : LT} {N0 Ng lo hi : Nat} (h : St w W t t0 tg N0 Ng) (hf : Far w lo hi t0 tg N0 Ng) (hl : lo ≤ W.heap.size) (ht : Touched lo hi W W') : St w W' t t0 tg N0 Ng :=
  ⟨h.B.trans ((ht.below hl).mono (Nat.le_of_lt hf.z)), h.PB.touched ht (.inl hf.z), h.WB.touched ht (.inl hf.n0), h.GB.touched ht (.inr hf.ng), tr_touched h.T0 ht (fun b hb => .inl (hf.b0 b hb)), tr_touched h.TG ht (fun b hb => .inr (hf.bg b hb).1)⟩
/-- Behind the marks of the got value. -/
structure Sm (w W : World) (t t0 tg : LT) (N0 Ng : Nat) : Prop where
  B : Below w.heap.size w W
  PB : Box W w.heap.size t
  WB : Box W N0 t0
  GB : Box W Ng tg
  T0 : Tr W t0
  MG : Marked W 1 tg
theorem Sm.behind {w W W' : World} {t t0 tg : LT} {N0 Ng : Nat} (h : Sm w W t t0 tg N0 Ng) (hb : Below W.heap.size W W') : Sm w W' t t0 tg N0 Ng :=
  ⟨below_of2 h.B hb, h.PB.behind hb, h.WB.behind hb, h.GB.behind hb, h.T0.behind hb, h.MG.kept fun b hbb => hb.block b (h.MG.lt b hbb)⟩
theorem St.marked {w W W' : World} {t t0 tg : LT} {N0 Ng lo hi : Nat} (h : St w W t t0 tg N0 Ng) (hf : Far w lo hi t0 tg N0 Ng) (hm : Marked W' 1 tg) (ht : Wrt tg.blks W W') : Sm w W' t t0 tg N0 Ng := by
  have hz := h.B.size
  refine ⟨h.B.trans (wrt_below ht hz fun x hx => ?_), h.PB.of_block (ht.out _ h.PB.lt fun hx => ?_), h.WB.of_block (ht.out _ h.WB.lt fun hx => ?_), h.GB.of_block (ht.out _ h.GB.lt fun hx => ?_), h.T0.kept fun b hb => ht.out b (h.T0.lt b hb) fun hx => ?_, hm⟩
  · have := (hf.bg x hx).1; have := hf.z; have := hf.lh; omega
  · have := (hf.bg _ hx).1; have := hf.z; have := hf.lh; omega
  · have := (hf.bg _ hx).1; have := hf.n0; have := hf.lh; omega
  · have := (hf.bg _ hx).2; omega
  · have := (hf.bg b hx).1; have := hf.b0 b hb; have := hf.lh; omega

theorem fieldI {w : World} {t : LT} (key : ByteArray) (h : Mine w t) (hz : t.sz ≤ 1048576) : FieldC 22 w t key := impl_field (finite_any endless_any) key h hz
set_option maxHeartbeats 8000000 in
theorem core {w : World} {t : LT} (key : ByteArray) (hkey : key.size ≤ 1048576) (h : In w w.heap.size t) (hz : t.sz ≤ 1048576) :
    Calls Try.prog 6 #[.agg #[.int .i64 t.k, .int .i64 t.n, .int .i64 t.e, .string t.s, t.row], .string key] w fun e w' => e = .returned (.bool true) ∧ Below w.heap.size w w' := by
  have TO := Lib.hid (toL h hz)
  have B := Lib.hid ((Below.refl w.heap.size w).alloc (Nat.le_refl _) (.cells #[.int .i64 t.k, .int .i64 t.n, .int .i64 t.e, .string t.s, t.row] 30))
  have PB := Lib.hid (Box.new w t 30)
  have SZ := Lib.hid (szYes h B.out hz)
  have hnn : ¬ ((1048576 - t.sz : Nat) : Int) < 0 := by omega
  have hky : ¬ (1048576 : Int) < (key.size : Int) := by omega
  have hzz := Lib.hid hz
  have hV : ∃ V ok, (fieldV (er t) key).getD zeroV = V ∧ (fieldV (er t) key).isSome = ok := ⟨_, _, rfl, rfl⟩
  obtain ⟨V, ok, hV, hok⟩ := hV
  have CS : Hid (∀ W (t1 : LT), er t1 = er t → In W W.heap.size t1 → Calls Try.prog 21 #[.agg #[.int .i64 t1.k, .int .i64 t1.n, .int .i64 t1.e, .string t1.s, t1.row], .string key] W fun e w' => ∃ t' : LT, e = .returned (.tuple #[.agg #[.int .i64 t'.k, .int .i64 t'.n, .int .i64 t'.e, .string t'.s, t'.row], .bool ok]) ∧ FreshV W w' V t') := fun W t1 he h1 => by
    have := spec_field key h1 (by rw [er_sz he]; exact hz)
    unfold FieldC at this
    rw [he, hV, hok] at this
    exact this
  have CI : Hid (∀ W (t1 : LT), er t1 = er t → Mine W t1 → Calls Try.prog 22 #[.agg #[.int .i64 t1.k, .int .i64 t1.n, .int .i64 t1.e, .string t1.s, t1.row], .string key] W fun e w' => ∃ t' : LT, e = .returned (.tuple #[.agg #[.int .i64 t'.k, .int .i64 t'.n, .int .i64 t'.e, .string t'.s, t'.row], .bool ok]) ∧ FreshV W w' V t') := fun W t1 he h1 => by
    have := fieldI key h1 (by rw [er_sz he]; exact hz)
    unfold FieldC at this
    rw [he, hV, hok] at this
    exact this
  clear h hz hV hok hkey
  go_enter Try.func6, Try.ntmps6
  go_wp2_with fail
  with_reducible refine SZ.out.mono ?_
  rintro e w1 ⟨rfl, hb⟩
  replace B := Lib.hid (below_of2 B.out hb)
  replace PB := Lib.hid (PB.out.behind hb)
  obtain ⟨p0, p1, p2, p3, p4⟩ := PB.out
  clear SZ hb
  -- w0, w1 := spec.Field(toValue(aV), aKey)
  go_wp2_with fail
  with_reducible refine (TO.out.run _ B.out).mono ?_
  rintro e w2 ⟨t1, rfl, he1, ho1, hb⟩
  replace B := Lib.hid (below_of2 B.out hb)
  replace PB := Lib.hid (PB.out.behind hb)
  have C1 := Lib.hid (CS.out w2 t1 he1 ho1.isIn)
  clear hb he1 ho1 p0 p1 p2 p3 p4 CS
  go_wp2_with fail
  with_reducible refine C1.out.mono ?_
  rintro e w3 ⟨t0, rfl, hF0⟩
  have hbA : Below w3.heap.size w3 (w3.alloc (.cells #[.int .i64 t0.k, .int .i64 t0.n, .int .i64 t0.e, .string t0.s, t0.row] 36)) := (Below.refl _ _).alloc (Nat.le_refl _) _
  have WB := Lib.hid (Box.new w3 t0 36)
  have hrow : t0.row = .slice t0.a t0.kids.length t0.cap := rfl
  rw [hrow] at hbA WB ⊢
  replace B := Lib.hid (below_of2 (below_of2 B.out hF0.below) hbA)
  replace PB := Lib.hid ((PB.out.behind hF0.below).behind hbA)
  have T0 := Lib.hid (hF0.tr.behind hbA)
  have L0 := Lib.hid hF0.tr.lt
  have E0 := Lib.hid hF0.er
  have hN3 := PB.out.lt
  have hN0 := WB.out.lt
  have hz3 := hbA.size
  obtain ⟨p0, p1, p2, p3, p4⟩ := PB.out
  clear C1 hF0 hbA hrow
  -- x0 := toValue(aV)
  go_wp2_with fail
  with_reducible refine (TO.out.run _ B.out).mono ?_
  generalize w3.alloc (.cells #[.int .i64 t0.k, .int .i64 t0.n, .int .i64 t0.e, .string t0.s, .slice t0.a t0.kids.length t0.cap] 36) = w3' at *
  rintro e w4 ⟨t2, rfl, he2, ho2, hb⟩
  have hz34 := hb.size
  replace B := Lib.hid (below_of2 B.out hb)
  replace PB := Lib.hid (PB.out.behind hb)
  replace WB := Lib.hid (WB.out.behind hb)
  replace T0 := Lib.hid (T0.out.behind hb)
  have X2 := Lib.hid ho2
  have HE2 := Lib.hid he2
  clear hb he2 ho2 p0 p1 p2 p3 p4
  have hbA : Below w4.heap.size w4 (w4.alloc (.cells #[.int .i64 t2.k, .int .i64 t2.n, .int .i64 t2.e, .string t2.s, t2.row] 36)) := (Below.refl _ _).alloc (Nat.le_refl _) _
  have XB := Lib.hid (Box.new w4 t2 36)
  have hrow : t2.row = .slice t2.a t2.kids.length t2.cap := rfl
  rw [hrow] at hbA XB
  replace B := Lib.hid (below_of2 B.out hbA)
  replace PB := Lib.hid (PB.out.behind hbA)
  replace WB := Lib.hid (WB.out.behind hbA)
  replace T0 := Lib.hid (T0.out.behind hbA)
  replace X2 := Lib.hid (X2.out.behind hbA)
  have C2 := CI.out _ t2 HE2.out (X2.out.mine hbA.size)
  rw [hrow] at C2
  replace C2 := Lib.hid C2
  have hzA := hbA.size
  rw [hrow]
  clear hbA hrow
  -- g0, g1 := impl.Field(x0, aKey)
  go_wp2_with fail
  with_reducible refine C2.out.mono ?_
  generalize w4.alloc (.cells #[.int .i64 t2.k, .int .i64 t2.n, .int .i64 t2.e, .string t2.s, .slice t2.a t2.kids.length t2.cap] 36) = wA at *
  rintro e w5 ⟨tg, rfl, hFg⟩
  have hz45 := hFg.below.size
  have hMA := XB.out.lt
  have hbB : Below w5.heap.size w5 (w5.alloc (.cells #[.int .i64 tg.k, .int .i64 tg.n, .int .i64 tg.e, .string tg.s, tg.row] 36)) := (Below.refl _ _).alloc (Nat.le_refl _) _
  have S := Lib.hid (St.mk (below_of2 (below_of2 B.out hFg.below) hbB) ((PB.out.behind hFg.below).behind hbB) ((WB.out.behind hFg.below).behind hbB) (Box.new w5 tg 36) ((T0.out.behind hFg.below).behind hbB) (hFg.tr.behind hbB))
  have FA : Hid (Far w w3'.heap.size w4.heap.size t0 tg w3.heap.size w5.heap.size) := ⟨hN3, hz34, hN0, by omega, fun b hb => Nat.lt_of_lt_of_le (L0.out b hb) hz3, fun b hb => ⟨Nat.le_trans hzA (hFg.new b hb), hFg.tr.lt b hb⟩⟩
  replace XB := Lib.hid ((XB.out.behind hFg.below).behind hbB)
  replace X2 := Lib.hid ((X2.out.behind (hFg.below.mono hzA)).behind (hbB.mono (by omega)))
  have EG := Lib.hid hFg.er
  have ND := Lib.hid hFg.nodup
  have SG := Lib.hid hFg.sz
  have hz5 := hbB.size
  have CE := eqL_any (tr_in S.out.TG) (tr_in S.out.T0) (EG.out.trans E0.out.symm)
  have hrow : tg.row = .slice tg.a tg.kids.length tg.cap := rfl
  have hrow0 : t0.row = .slice t0.a t0.kids.length t0.cap := rfl
  obtain ⟨r0, r1, r2, r3, r4⟩ := S.out.WB
  rw [hrow0] at r4
  rw [hrow] at S XB X2 CE r0 r1 r2 r3 r4 hbB hz5 ⊢
  rw [hrow0] at CE
  replace CE := Lib.hid CE
  clear C2 hFg hbB B PB WB T0 L0 hrow hrow0
  go_wp2_with fail
  with_reducible refine CE.out.mono ?_
  clear r0 r1 r2 r3 r4
  generalize w5.alloc (.cells #[.int .i64 tg.k, .int .i64 tg.n, .int .i64 tg.e, .string tg.s, .slice tg.a tg.kids.length tg.cap] 36) = wB at *
  rintro e w6 ⟨rfl, hb⟩
  have hz56 := hb.size
  replace S := Lib.hid (S.out.behind hb)
  replace XB := Lib.hid (XB.out.behind hb)
  replace X2 := Lib.hid (X2.out.behind (hb.mono (by omega)))
  clear CE hb
  obtain ⟨p0, p1, p2, p3, p4⟩ := S.out.PB
  obtain ⟨q0, q1, q2, q3, q4⟩ := XB.out
  -- eqValue(x0, toValue(aV))
  have hok : (ok != ok) = false := by simp
  go_wp2
  go_region_with (first
    | (go_at_call 14; refine (TO.out.run _ (belowN S.out.B 1)).mono ?_; rintro e w7 ⟨t3, rfl, he3, ho3, hb⟩
       have hz67 : w6.heap.size ≤ w7.heap.size := hb.size
       have S7 := Lib.hid ((S.out.drewN 1).behind hb)
       have XB7 := Lib.hid ((XB.out.drewN 1).behind hb)
       have X27 := Lib.hid ((X2.out.drewN 1).behind (hb.mono (by simp; omega)))
       have CE := Lib.hid (eqL_any (X27.out.isIn.mono (by omega)) ho3.isIn (HE2.out.trans he3.symm))
       obtain ⟨s0, s1, s2, s3, s4⟩ := XB7.out
       clear hb he3 ho3)
    | (go_at_call 17; refine CE.out.mono ?_; rintro e w8 ⟨rfl, hb8⟩))
  all_goals
    have hz78 := hb8.size
    have S8 := Lib.hid (S7.out.behind hb8)
    have XB8 := Lib.hid (XB7.out.behind hb8)
    have X28 := Lib.hid (X27.out.behind (hb8.mono (by omega)))
    have CM := Lib.hid (markL X28.out (by rw [er_sz HE2.out]; exact hzz.out) (by omega))
    clear CE hb8 S7 XB7 X27 S XB X2 p0 p1 p2 p3 p4 q0 q1 q2 q3 q4
    try clear s0 s1 s2 s3 s4
    obtain ⟨q0, q1, q2, q3, q4⟩ := XB8.out
    go_wp2_with fail
    with_reducible refine CM.out.mono ?_
    rintro e w9 ⟨K, hK, rfl, ht⟩
    have hK0 : ¬ (K : Int) < 0 := by omega
    have S9 := Lib.hid (S8.out.touched FA.out (by omega) ht)
    have hz89 := ht.size
    clear CM ht S8 XB8 X28 q0 q1 q2 q3 q4
    obtain ⟨r0, r1, r2, r3, r4⟩ := S9.out.WB
    obtain ⟨g0, g1, g2, g3, g4⟩ := S9.out.GB
    have CE := Lib.hid (eqL_any (tr_in S9.out.TG) (tr_in S9.out.T0) (EG.out.trans E0.out.symm))
    go_wp2_with fail
    with_reducible refine CE.out.mono ?_
    rintro e w10 ⟨rfl, hb⟩
    have S10 := Lib.hid (S9.out.behind hb)
    clear CE S9 hb r0 r1 r2 r3 r4 g0 g1 g2 g3 g4
    have CM := Lib.hid (mark_full (S10.out.TG.sh SG.out) ND.out SG.out)
    obtain ⟨g0, g1, g2, g3, g4⟩ := S10.out.GB
    go_wp2_with fail
    with_reducible refine CM.out.mono ?_
    rintro e w11 ⟨rfl, hM, hW⟩
    have S11 := Lib.hid (S10.out.marked FA.out hM hW)
    have CH := Lib.hid (held_full S11.out.MG SG.out)
    have hm0 : ¬ ((1 + 4 * val.LT.nodesL tg.kids : Nat) : Int) < 0 := by omega
    clear CM hM hW S10 g0 g1 g2 g3 g4
    obtain ⟨g0, g1, g2, g3, g4⟩ := S11.out.GB
    generalize hmm : ((1 + 4 * val.LT.nodesL tg.kids : Nat) : Int) = M at *
    go_wp2_with fail
    with_reducible refine CH.out.mono ?_
    rintro e w12 ⟨rfl, hb⟩
    have S12 := Lib.hid (S11.out.behind hb)
    clear CH hb S11 g0 g1 g2 g3 g4
    obtain ⟨p0, p1, p2, p3, p4⟩ := S12.out.PB
    go_wp2_with fail
    with_reducible refine (TO.out.run _ S12.out.B).mono ?_
    rintro e w13 ⟨t4, rfl, he4, ho4, hb⟩
    have S13 := Lib.hid (S12.out.behind hb)
    have C3 := Lib.hid (CI.out w13 t4 he4 (ho4.mine (Nat.le_refl _)))
    clear hb he4 ho4 p0 p1 p2 p3 p4 S12
    go_wp2_with fail
    with_reducible refine C3.out.mono ?_
    rintro e w14 ⟨th, rfl, hFh⟩
    have hbC : Below w14.heap.size w14 (w14.alloc (.cells #[.int .i64 th.k, .int .i64 th.n, .int .i64 th.e, .string th.s, th.row] 36)) := (Below.refl _ _).alloc (Nat.le_refl _) _
    have S14 := Lib.hid ((S13.out.behind hFh.below).behind hbC)
    have CE := eqL_any (tr_in (hFh.tr.behind hbC)) (tr_in S14.out.T0) (hFh.er.trans E0.out.symm)
    have hrowh : th.row = .slice th.a th.kids.length th.cap := rfl
    obtain ⟨r0, r1, r2, r3, r4⟩ := S14.out.WB
    rw [hrowh] at S14 CE r0 r1 r2 r3 r4 ⊢
    replace CE := Lib.hid CE
    clear C3 hFh hbC S13 hrowh
    go_wp2_with fail
    with_reducible refine CE.out.mono ?_
    clear r0 r1 r2 r3 r4
    generalize w14.alloc (.cells #[.int .i64 th.k, .int .i64 th.n, .int .i64 th.e, .string th.s, .slice th.a th.kids.length th.cap] 36) = wC at *
    rintro e w15 ⟨rfl, hb⟩
    have S15 := Lib.hid (S14.out.behind hb)
    have CH := held_full S15.out.MG SG.out
    rw [hmm] at CH
    replace CH := Lib.hid CH
    clear CE hb S14
    obtain ⟨g0, g1, g2, g3, g4⟩ := S15.out.GB
    go_wp2_with fail
    with_reducible refine CH.out.mono ?_
    rintro e w16 ⟨rfl, hb⟩
    have B16 := Lib.hid (S15.out.behind hb).B
    clear CH hb S15
    go_wp2
    go_ret
    exact ⟨rfl, B16.out⟩

end Go.Proofs.Ytdbkifndhkmfgaa.fnExactField
