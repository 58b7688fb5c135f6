/-
  The law FnExactStrings at a value of at most 1048576 letters and elements: true, old memory kept.
-/
import Derived.Test.YtdbkifndhkmfgaaValBox
import Derived.Test.YtdbkifndhkmfgaaStringsImpl
import Derived.Test.YtdbkifndhkmfgaaLawKit
namespace Go.Proofs.Ytdbkifndhkmfgaa.fnExactStrings
open Go.ChangeShapes Go.WideShapes Go.ChangeAt Go.RowKit
open Go.Proofs.Ytdbkifndhkmfgaa.val
open Go.Proofs.Ytdbkifndhkmfgaa.strs (encS oneS)
set_option maxRecDepth 100000

/-- A slice of the call's own in an older block is kept where only a younger row is written. -/
theorem own_kept {α : Type} {w w' : World} {base base' : Nat} {e : TypeId} {enc : α → Value} {v v' : Value} {l : List α} {l' : List α} {w0 : World} (h0 : OwnL w0 base e enc v l) (h : OwnL w base e enc v l) (h' : OwnL w base' e enc v' l') (hb : w0.heap.size ≤ base') (hg : w.grownBy w' v'.ownBlock) : OwnL w' base e enc v l := by
  refine World.ownsRow.kept h hg ?_
  cases hv : v.ownBlock with
  | none => exact .inl rfl
  | some k =>
    right
    intro e1
    have h1 := (World.ownsRow.lt h0 k hv).2
    have h2 := (World.ownsRow.lt h' k e1.symm).1
    omega
theorem mark_at (v : Value) (l : List ByteArray) (x : Int) (k0 base : Nat) (w : World) (hx : x = (k0 : Int)) (h : OwnL w base 9 strs.encS v l) (hl : l.length ≤ 1048577) (h0 : 0 < k0) (hk : k0 ≤ 1000000000) :
    Calls Try.prog 19 #[v, .int .i64 x] w fun e w' => e = .returned (.int .i64 (x + l.length)) ∧ OwnL w' base 9 strs.encS v (strs.marks k0 l.length) ∧ w.grownBy w' v.ownBlock := by
  subst hx
  exact strs.mark_any v l k0 base w h hl h0 hk
theorem held_at (v : Value) (n : Nat) (x : Int) (k0 : Nat) (w : World) (hx : x = (k0 : Int)) (a : Option Addr) (c g : Nat) (h : strs.ReadS w v (strs.marks k0 n) a c g) (hl : n ≤ 1048577) (h0 : 0 < k0) (hk : k0 ≤ 1000000000) :
    Calls Try.prog 20 #[v, .int .i64 x] w fun e w' => e = .returned (.int .i64 (x + n)) ∧ Below w.heap.size w w' := by
  subst hx
  exact strs.held_any v n k0 w a c g h hl h0 hk
theorem keysOf_len (t : LT) (hz : t.sz ≤ 1048576) : (er t).strs.length ≤ 1048577 := by
  have h1 := nodesL_sz t.kids
  have h2 := sz_mk t
  have h3 := strs_len t
  rw [nodes_mk] at h3
  omega
theorem keysI {w : World} {t : LT} (h : Mine w t) (hz : t.sz ≤ 1048576) : Calls Try.prog 15 #[.agg #[.int .i64 t.k, .int .i64 t.n, .int .i64 t.e, .string t.s, t.row]] w fun e w'' => ∃ v, e = .returned v ∧ OwnL w'' w.heap.size 9 encS v (er t).strs ∧ Below w.heap.size w w'' := strings_any (finite_any endless_any) w t h (nodes_small t hz) hz
theorem keysS {w : World} {t : LT} (h : In w w.heap.size t) (hz : t.sz ≤ 1048576) : Calls Try.prog 13 #[.agg #[.int .i64 t.k, .int .i64 t.n, .int .i64 t.e, .string t.s, t.row]] w fun e w'' => ∃ v, e = .returned v ∧ OwnL w'' w.heap.size 9 encS v (er t).strs ∧ Below w.heap.size w w'' := by
  refine (spec_strings h (nodes_small t hz) w (Below.refl _ _) (Nat.le_refl _)).mono ?_
  rintro e w' ⟨g, c, rfl, h1, h2⟩
  exact ⟨_, rfl, h1, h2⟩

set_option maxHeartbeats 8000000 in
theorem core {w : World} {t : LT} (h : In w w.heap.size t) (hz : t.sz ≤ 1048576) :
    Calls Try.prog 5 #[.agg #[.int .i64 t.k, .int .i64 t.n, .int .i64 t.e, .string t.s, t.row]] w fun e w' => e = .returned (.bool true) ∧ Below w.heap.size w w' := by
  have TO := Lib.hid (toL h hz)
  have B := Lib.hid ((Below.refl w.heap.size w).alloc (Nat.le_refl _) (.cells #[.int .i64 t.k, .int .i64 t.n, .int .i64 t.e, .string t.s, t.row] 30))
  have PB := Lib.hid (Box.new w t 30)
  have SZ := Lib.hid (szYes h B.out hz)
  have hnn : ¬ ((1048576 - t.sz : Nat) : Int) < 0 := by omega
  have hlk := keysOf_len t hz
  have hzz := Lib.hid hz
  clear h hz
  go_enter Try.func5, Try.ntmps5
  go_wp2_with fail
  with_reducible refine SZ.out.mono ?_
  rintro e w1 ⟨rfl, hb⟩
  replace B := Lib.hid (below_of2 B.out hb)
  replace PB := Lib.hid (PB.out.behind hb)
  obtain ⟨p0, p1, p2, p3, p4⟩ := PB.out
  clear SZ hb
  -- w0 := spec.Keys(toValue(aV))
  go_wp2_with fail
  with_reducible refine (TO.out.run _ B.out).mono ?_
  rintro e w2 ⟨t1, rfl, he1, ho1, hb⟩
  replace B := Lib.hid (below_of2 B.out hb)
  replace PB := Lib.hid (PB.out.behind hb)
  have CK := keysS ho1.isIn (by rw [er_sz he1]; exact hzz.out)
  rw [he1] at CK
  replace CK := Lib.hid CK
  clear hb he1 ho1 p0 p1 p2 p3 p4
  go_wp2_with fail
  with_reducible refine CK.out.mono ?_
  rintro e w3 ⟨v0, rfl, o0, hb⟩
  replace B := Lib.hid (below_of2 B.out hb)
  replace PB := Lib.hid (PB.out.behind hb)
  obtain ⟨p0, p1, p2, p3, p4⟩ := PB.out
  have O0 := Lib.hid o0
  have O00 := Lib.hid o0
  have hN3 := PB.out.lt
  clear CK hb o0
  -- x0 := toValue(aV)
  go_wp2_with fail
  with_reducible refine (TO.out.run _ B.out).mono ?_
  rintro e w4 ⟨t2, rfl, he2, ho2, hb⟩
  have hz34 := hb.size
  replace B := Lib.hid (below_of2 B.out hb)
  replace PB := Lib.hid (PB.out.behind hb)
  replace O0 := Lib.hid (O0.out.below hb)
  have X2 := Lib.hid ho2
  have HE2 := Lib.hid he2
  clear hb he2 ho2 p0 p1 p2 p3 p4
  have hbA : Below w4.heap.size w4 (w4.alloc (.cells #[.int .i64 t2.k, .int .i64 t2.n, .int .i64 t2.e, .string t2.s, t2.row] 36)) := (Below.refl _ _).alloc (Nat.le_refl _) _
  have XB := Lib.hid (Box.new w4 t2 36)
  have hrow : t2.row = .slice t2.a t2.kids.length t2.cap := rfl
  rw [hrow] at hbA XB
  replace B := Lib.hid (below_of2 B.out hbA)
  replace PB := Lib.hid (PB.out.behind hbA)
  replace O0 := Lib.hid (O0.out.below hbA)
  replace X2 := Lib.hid (X2.out.behind hbA)
  have CI := keysI (X2.out.mine hbA.size) (by rw [er_sz HE2.out]; exact hzz.out)
  rw [HE2.out, hrow] at CI
  replace CI := Lib.hid CI
  have HXR := Lib.hid hrow
  rw [hrow]
  clear hbA hrow
  go_wp2_with fail
  with_reducible refine CI.out.mono ?_
  rintro e w5 ⟨v1, rfl, o1, hb⟩
  have hz45 := hb.size
  have hMA := XB.out.lt
  replace B := Lib.hid (below_of2 B.out hb)
  replace PB := Lib.hid (PB.out.behind hb)
  replace XB := Lib.hid (XB.out.behind hb)
  replace O0 := Lib.hid (O0.out.below hb)
  replace X2 := Lib.hid (X2.out.behind (hb.mono (by omega)))
  have O1 := Lib.hid o1
  generalize w4.alloc (.cells #[.int .i64 t2.k, .int .i64 t2.n, .int .i64 t2.e, .string t2.s, .slice t2.a t2.kids.length t2.cap] 36) = wA at *
  clear CI hb o1
  obtain ⟨a1, c1, g1, r1⟩ := strs.readS_of O1.out
  obtain ⟨a0, c0, g0, r0⟩ := strs.readS_of O0.out
  have CE := Lib.hid (strs.eq_true v1 v0 _ _ a1 a0 c1 c0 g1 g0 r1 r0 hlk)
  clear r1 r0
  go_wp2_with fail
  with_reducible refine CE.out.mono ?_
  rintro e w6 ⟨rfl, n6, rfl⟩
  replace B := Lib.hid (belowN B.out n6)
  replace PB := Lib.hid (PB.out.drewN n6)
  replace XB := Lib.hid (XB.out.drewN n6)
  replace O0 := Lib.hid (O0.out.drewN n6)
  replace O1 := Lib.hid (O1.out.drewN n6)
  replace X2 := Lib.hid (X2.out.drewN n6)
  have hz56 : w5.heap.size = (w5.drewN n6).heap.size := rfl
  generalize w5.drewN n6 = w6 at *
  clear CE
  obtain ⟨p0, p1, p2, p3, p4⟩ := PB.out
  obtain ⟨q0, q1, q2, q3, q4⟩ := XB.out
  -- eqValue(x0, toValue(aV))
  go_wp2
  go_region_with (first
    | (go_at_call 14; refine (TO.out.run _ (belowN B.out 1)).mono ?_; rintro e w7 ⟨t3, rfl, he3, ho3, hb⟩
       have hz67 : w6.heap.size ≤ w7.heap.size := hb.size
       have B7 := Lib.hid (below_of2 (belowN B.out 1) hb)
       have PB7 := Lib.hid ((PB.out.drewN 1).behind hb)
       have XB7 := Lib.hid ((XB.out.drewN 1).behind hb)
       have O07 := Lib.hid ((O0.out.drewN 1).below hb)
       have O17 := Lib.hid ((O1.out.drewN 1).below hb)
       have X27 := Lib.hid ((X2.out.drewN 1).behind (hb.mono (by simp; omega)))
       have CE := Lib.hid (eqL_any (X27.out.isIn.mono (by omega)) ho3.isIn (HE2.out.trans he3.symm))
       obtain ⟨s0, s1, s2, s3, s4⟩ := XB7.out
       clear hb he3 ho3)
    | (go_at_call 17; refine CE.out.mono ?_; rintro e w8 ⟨rfl, hb8⟩))
  all_goals
    have hz78 := hb8.size
    have B8 := Lib.hid (below_of2 B7.out hb8)
    have PB8 := Lib.hid (PB7.out.behind hb8)
    have XB8 := Lib.hid (XB7.out.behind hb8)
    have O08 := Lib.hid (O07.out.below hb8)
    have O18 := Lib.hid (O17.out.below hb8)
    have X28 := Lib.hid (X27.out.behind (hb8.mono (by omega)))
    have CM := Lib.hid (markL X28.out (by rw [er_sz HE2.out]; exact hzz.out) (by omega))
    have HV0 : Hid (∀ k, v0.ownBlock = some k → k < w3.heap.size ∨ w4.heap.size ≤ k) := fun k hk => .inl (World.ownsRow.lt O00.out k hk).2
    have HV1 : Hid (∀ k, v1.ownBlock = some k → k < w3.heap.size ∨ w4.heap.size ≤ k) := fun k hk => .inr (by have := O18.out.base_le k hk; omega)
    clear CE hb8 B7 PB7 XB7 O07 O17 X27 B PB XB O0 O1 X2 p0 p1 p2 p3 p4 q0 q1 q2 q3 q4
    try clear s0 s1 s2 s3 s4
    obtain ⟨q0, q1, q2, q3, q4⟩ := XB8.out
    go_wp2_with fail
    with_reducible refine CM.out.mono ?_
    rintro e w9 ⟨K, hK, rfl, ht⟩
    have hK0 : ¬ (K : Int) < 0 := by omega
    have B9 := Lib.hid (B8.out.trans ((ht.below (by omega)).mono (by omega)))
    have PB9 := Lib.hid (PB8.out.touched ht (.inl hN3))
    have O09 := Lib.hid (own_touched O08.out ht HV0.out)
    have O19 := Lib.hid (own_touched O18.out ht HV1.out)
    have hz89 := ht.size
    clear CM ht B8 PB8 XB8 O08 O18 X28 q0 q1 q2 q3 q4 HV0 HV1
    obtain ⟨a1, c1, g1, r1⟩ := strs.readS_of O19.out
    obtain ⟨a0, c0, g0, r0⟩ := strs.readS_of O09.out
    have CE := Lib.hid (strs.eq_true v1 v0 _ _ a1 a0 c1 c0 g1 g0 r1 r0 hlk)
    clear r1 r0
    go_wp2_with fail
    with_reducible refine CE.out.mono ?_
    rintro e w10 ⟨rfl, n10, rfl⟩
    have B10 := Lib.hid (belowN B9.out n10)
    have PB10 := Lib.hid (PB9.out.drewN n10)
    have O010 := Lib.hid (O09.out.drewN n10)
    have O110 := Lib.hid (O19.out.drewN n10)
    have hz910 : w9.heap.size = (w9.drewN n10).heap.size := rfl
    generalize w9.drewN n10 = w10 at *
    clear CE B9 PB9 O09 O19
    have CM := Lib.hid (mark_at v1 _ 1 1 wA.heap.size w10 rfl O110.out hlk (by omega) (by omega))
    go_wp2_with fail
    with_reducible refine CM.out.mono ?_
    rintro e w11 ⟨rfl, o4, g4⟩
    have O111 := Lib.hid o4
    have O011 := Lib.hid (own_kept O00.out O010.out O110.out (by omega) g4)
    have B11 := Lib.hid (B10.out.grown g4 (by omega) (fun k hk => by have := O110.out.base_le k hk; omega))
    have PB11 := Lib.hid (PB10.out.grown g4 (fun e => by have := O110.out.base_le _ e.symm; omega))
    have hz1011 := g4.size
    clear CM o4 g4 B10 PB10 O010 O110
    obtain ⟨a5, c5, g5, r5⟩ := strs.readS_of O111.out
    have CH := Lib.hid (held_at v1 (er t).strs.length 1 1 w11 rfl a5 c5 g5 r5 hlk (by omega) (by omega))
    clear r5
    go_wp2_with fail
    with_reducible refine CH.out.mono ?_
    rintro e w12 ⟨rfl, hb⟩
    have B12 := Lib.hid (below_of2 B11.out hb)
    have PB12 := Lib.hid (PB11.out.behind hb)
    have O012 := Lib.hid (O011.out.below hb)
    have O112 := Lib.hid (O111.out.below hb)
    clear CH hb B11 PB11 O011 O111
    obtain ⟨p0, p1, p2, p3, p4⟩ := PB12.out
    go_wp2_with fail
    with_reducible refine (TO.out.run _ B12.out).mono ?_
    rintro e w13 ⟨t4, rfl, he4, ho4, hb⟩
    have B13 := Lib.hid (below_of2 B12.out hb)
    have O013 := Lib.hid (O012.out.below hb)
    have O113 := Lib.hid (O112.out.below hb)
    have CI := keysI (ho4.mine (Nat.le_refl _)) (by rw [er_sz he4]; exact hzz.out)
    rw [he4] at CI
    replace CI := Lib.hid CI
    clear hb he4 ho4 p0 p1 p2 p3 p4 B12 PB12 O012 O112
    go_wp2_with fail
    with_reducible refine CI.out.mono ?_
    rintro e w14 ⟨v6, rfl, o6, hb⟩
    have B14 := Lib.hid (below_of2 B13.out hb)
    have O014 := Lib.hid (O013.out.below hb)
    have O114 := Lib.hid (O113.out.below hb)
    obtain ⟨a7, c7, g7, r7⟩ := strs.readS_of o6
    obtain ⟨a8, c8, g8, r8⟩ := strs.readS_of O014.out
    have CE := Lib.hid (strs.eq_true v6 v0 _ _ a7 a8 c7 c8 g7 g8 r7 r8 hlk)
    clear CI hb o6 r7 r8 B13 O013 O113
    go_wp2_with fail
    with_reducible refine CE.out.mono ?_
    rintro e w15 ⟨rfl, n15, rfl⟩
    have B15 := Lib.hid (belowN B14.out n15)
    obtain ⟨a9, c9, g9, r9⟩ := strs.readS_of (O114.out.drewN n15)
    have CH := Lib.hid (held_at v1 (er t).strs.length 1 1 _ rfl a9 c9 g9 r9 hlk (by omega) (by omega))
    clear CE r9 B14 O014 O114
    go_wp2_with fail
    with_reducible refine CH.out.mono ?_
    rintro e w16 ⟨rfl, hb⟩
    have B16 := Lib.hid (below_of2 B15.out hb)
    clear CH hb
    go_wp2
    go_ret
    exact ⟨rfl, B16.out⟩

end Go.Proofs.Ytdbkifndhkmfgaa.fnExactStrings
