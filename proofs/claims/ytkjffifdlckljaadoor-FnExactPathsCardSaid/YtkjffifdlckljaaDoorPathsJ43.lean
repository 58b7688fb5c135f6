/-
  The law FnExactPaths at a value of at most 1048576 letters and elements: true, old memory kept.
-/
import Derived.Test.YtkjffifdlckljaaDoorPathsJ5
import Derived.Test.YtkjffifdlckljaaDoorPathsJ40
import Derived.Test.YtkjffifdlckljaaDoorPathsJ37
import Derived.Test.YtkjffifdlckljaaDoorPathsJ42
import Derived.Test.YtkjffifdlckljaaDoorPathsJ0
import Derived.ChangeArms
import Derived.DataReads
namespace Go.Proofs.YtkjffifdlckljaaDoor.fnExactPaths
open Go.ChangeShapes Go.WideShapes Go.ChangeAt Go.RowKit
open Go.Proofs.YtkjffifdlckljaaDoor.val
open Go.Proofs.YtkjffifdlckljaaDoor.strs (encS oneS)
set_option maxRecDepth 100000

/-- A slice of the call's own in an older block is kept where only a younger row is written. -/
theorem own_kept {α : Type} {w w' : World} {base base' : Nat} {e : TypeId} {enc : α → Value} {v v' : Value} {l : List α} {l' : List α} {w0 : World} (h0 : OwnL w0 base e enc v l) (h : OwnL w base e enc v l) (h' : OwnL w base' e enc v' l') (hb : w0.heap.size ≤ base') (hg : w.grownBy w' v'.ownBlock) : OwnL w' base e enc v l := by
  refine World.ownsRow.kept h hg ?_
  cases hv : v.ownBlock with
  | none => exact .inl rfl
  | some k =>
    right
    intro e1
    have h1 := (World.ownsRow.lt h0 k hv).2
    have h2 := (World.ownsRow.lt h' k e1.symm).1
    omega
theorem mark_at (v : Value) (l : List ByteArray) (x : Int) (k0 base : Nat) (w : World) (hx : x = (k0 : Int)) (h : OwnL w base 9 strs.encS v l) (hl : l.length ≤ 1048577) (h0 : 0 < k0) (hk : k0 ≤ 1000000000) :
    Calls Tryd.prog 25 #[v, .int .i64 x] w fun e w' => e = .returned (.int .i64 (x + l.length)) ∧ OwnL w' base 9 strs.encS v (strs.marks k0 l.length) ∧ w.grownBy w' v.ownBlock := by
  subst hx
  exact strs.mark_any v l k0 base w h hl h0 hk
theorem held_at (v : Value) (n : Nat) (x : Int) (k0 : Nat) (w : World) (hx : x = (k0 : Int)) (a : Option Addr) (c g : Nat) (h : strs.ReadS w v (strs.marks k0 n) a c g) (hl : n ≤ 1048577) (h0 : 0 < k0) (hk : k0 ≤ 1000000000) :
    Calls Tryd.prog 26 #[v, .int .i64 x] w fun e w' => e = .returned (.int .i64 (x + n)) ∧ Below w.heap.size w w' := by
  subst hx
  exact strs.held_any v n k0 w a c g h hl h0 hk
theorem keysOf_len (t : LT) (hz : t.sz ≤ 1048576) : (path.resV (er t)).length ≤ 1048577 := by
  have h1 := nodesL_sz t.kids
  have h2 := sz_mk t
  have h3 := path.resV_len t
  rw [nodes_mk] at h3
  omega
/-- What is laid of the library's variables. -/
structure Kit (m : Int) (w : World) : Prop where
  tabs : signs.Tabs w
  max : path.MaxCell m w
  pow : path.Pow w
  l1 : 6 < w.heap.size
  l2 : 7 < w.heap.size
theorem Kit.below {m : Int} {w w' : World} (h : Kit m w) (hb : Below w.heap.size w w') : Kit m w' :=
  ⟨signs.tabs_below h.tabs hb, path.maxCell_below h.max hb, decText.pow10_below h.pow hb, Nat.lt_of_lt_of_le h.l1 hb.size, Nat.lt_of_lt_of_le h.l2 hb.size⟩
theorem keysI {w : World} {t : LT} (h : In w w.heap.size t) (hz : t.sz ≤ 1048576) {m : Int} (hK : Kit m w) : Calls Tryd.prog 30 #[.agg #[.int .i64 t.k, .int .i64 t.n, .int .i64 t.e, .string t.s, t.row]] w fun e w'' => ∃ v, e = .returned v ∧ OwnL w'' w.heap.size 9 encS v (path.resV (er t)) ∧ Below w.heap.size w w'' := by
  refine (path.impl_paths h hz hK.tabs m hK.max hK.pow hK.l1 hK.l2).mono ?_
  rintro e w' ⟨g, c, rfl, h1, h2⟩
  exact ⟨_, rfl, h1, h2⟩
theorem keysS {w : World} {t : LT} (h : In w w.heap.size t) (hz : t.sz ≤ 1048576) : Calls Tryd.prog 28 #[.agg #[.int .i64 t.k, .int .i64 t.n, .int .i64 t.e, .string t.s, t.row]] w fun e w'' => ∃ v, e = .returned v ∧ OwnL w'' w.heap.size 9 encS v (path.resV (er t)) ∧ Below w.heap.size w w'' := by
  refine (path.spec_paths h hz).mono ?_
  rintro e w' ⟨g, c, rfl, h1, h2⟩
  exact ⟨_, rfl, h1, h2⟩

set_option maxHeartbeats 8000000 in
theorem core {w : World} {t : LT} (h : In w w.heap.size t) (hz : t.sz ≤ 1048576) {m : Int} (hK : Kit m w) :
    Calls Tryd.prog 8 #[.agg #[.int .i64 t.k, .int .i64 t.n, .int .i64 t.e, .string t.s, t.row]] w fun e w' => e = .returned (.bool true) ∧ Below w.heap.size w w' := by
  have TO := Lib.hid (toL h hz)
  have B := Lib.hid ((Below.refl w.heap.size w).alloc (Nat.le_refl _) (.cells #[.int .i64 t.k, .int .i64 t.n, .int .i64 t.e, .string t.s, t.row] 43))
  have PB := Lib.hid (Box.new w t 43)
  have SZ := Lib.hid (szYes h B.out hz)
  have hnn : ¬ ((1048576 - t.sz : Nat) : Int) < 0 := by omega
  have hlk := keysOf_len t hz
  have hzz := Lib.hid hz
  have HK := Lib.hid hK
  clear h hz hK
  go_enter Tryd.func8, Tryd.ntmps8
  go_wp2_with fail
  with_reducible refine SZ.out.mono ?_
  rintro e w1 ⟨rfl, hb⟩
  replace B := Lib.hid (below_of2 B.out hb)
  replace PB := Lib.hid (PB.out.behind hb)
  obtain ⟨p0, p1, p2, p3, p4⟩ := PB.out
  clear SZ hb
  -- w0 := spec.Keys(toValue(aV))
  go_wp2_with fail
  with_reducible refine (TO.out.run _ B.out).mono ?_
  rintro e w2 ⟨t1, rfl, he1, ho1, hb⟩
  replace B := Lib.hid (below_of2 B.out hb)
  replace PB := Lib.hid (PB.out.behind hb)
  have CK := keysS ho1.isIn (by rw [er_sz he1]; exact hzz.out)
  rw [he1] at CK
  replace CK := Lib.hid CK
  clear hb he1 ho1 p0 p1 p2 p3 p4
  go_wp2_with fail
  with_reducible refine CK.out.mono ?_
  rintro e w3 ⟨v0, rfl, o0, hb⟩
  replace B := Lib.hid (below_of2 B.out hb)
  replace PB := Lib.hid (PB.out.behind hb)
  obtain ⟨p0, p1, p2, p3, p4⟩ := PB.out
  have O0 := Lib.hid o0
  have O00 := Lib.hid o0
  have hN3 := PB.out.lt
  clear CK hb o0
  -- x0 := toValue(aV)
  go_wp2_with fail
  with_reducible refine (TO.out.run _ B.out).mono ?_
  rintro e w4 ⟨t2, rfl, he2, ho2, hb⟩
  have hz34 := hb.size
  replace B := Lib.hid (below_of2 B.out hb)
  replace PB := Lib.hid (PB.out.behind hb)
  replace O0 := Lib.hid (O0.out.below hb)
  have X2 := Lib.hid ho2
  have HE2 := Lib.hid he2
  clear hb he2 ho2 p0 p1 p2 p3 p4
  have hbA : Below w4.heap.size w4 (w4.alloc (.cells #[.int .i64 t2.k, .int .i64 t2.n, .int .i64 t2.e, .string t2.s, t2.row] 24)) := (Below.refl _ _).alloc (Nat.le_refl _) _
  have XB := Lib.hid (Box.new w4 t2 24)
  have hrow : t2.row = .slice t2.a t2.kids.length t2.cap := rfl
  rw [hrow] at hbA XB
  replace B := Lib.hid (below_of2 B.out hbA)
  replace PB := Lib.hid (PB.out.behind hbA)
  replace O0 := Lib.hid (O0.out.below hbA)
  replace X2 := Lib.hid (X2.out.behind hbA)
  have CI := keysI (X2.out.isIn.mono hbA.size) (by rw [er_sz HE2.out]; exact hzz.out) (HK.out.below B.out)
  rw [HE2.out, hrow] at CI
  replace CI := Lib.hid CI
  have HXR := Lib.hid hrow
  rw [hrow]
  clear hbA hrow
  go_wp2_with fail
  with_reducible refine CI.out.mono ?_
  rintro e w5 ⟨v1, rfl, o1, hb⟩
  have hz45 := hb.size
  have hMA := XB.out.lt
  replace B := Lib.hid (below_of2 B.out hb)
  replace PB := Lib.hid (PB.out.behind hb)
  replace XB := Lib.hid (XB.out.behind hb)
  replace O0 := Lib.hid (O0.out.below hb)
  replace X2 := Lib.hid (X2.out.behind (hb.mono (by omega)))
  have O1 := Lib.hid o1
  generalize w4.alloc (.cells #[.int .i64 t2.k, .int .i64 t2.n, .int .i64 t2.e, .string t2.s, .slice t2.a t2.kids.length t2.cap] 24) = wA at *
  clear CI hb o1
  obtain ⟨a1, c1, g1, r1⟩ := strs.readS_of O1.out
  obtain ⟨a0, c0, g0, r0⟩ := strs.readS_of O0.out
  have CE := Lib.hid (strs.eq_true v1 v0 _ _ a1 a0 c1 c0 g1 g0 r1 r0 hlk)
  clear r1 r0
  go_wp2_with fail
  with_reducible refine CE.out.mono ?_
  rintro e w6 ⟨rfl, n6, rfl⟩
  replace B := Lib.hid (belowN B.out n6)
  replace PB := Lib.hid (PB.out.drewN n6)
  replace XB := Lib.hid (XB.out.drewN n6)
  replace O0 := Lib.hid (O0.out.drewN n6)
  replace O1 := Lib.hid (O1.out.drewN n6)
  replace X2 := Lib.hid (X2.out.drewN n6)
  have hz56 : w5.heap.size = (w5.drewN n6).heap.size := rfl
  generalize w5.drewN n6 = w6 at *
  clear CE
  obtain ⟨p0, p1, p2, p3, p4⟩ := PB.out
  obtain ⟨q0, q1, q2, q3, q4⟩ := XB.out
  -- eqValue(x0, toValue(aV))
  go_wp2
  go_region_with (first
    | (go_at_call 29; refine (TO.out.run _ (belowN B.out 1)).mono ?_; rintro e w7 ⟨t3, rfl, he3, ho3, hb⟩
       have hz67 : w6.heap.size ≤ w7.heap.size := hb.size
       have B7 := Lib.hid (below_of2 (belowN B.out 1) hb)
       have PB7 := Lib.hid ((PB.out.drewN 1).behind hb)
       have XB7 := Lib.hid ((XB.out.drewN 1).behind hb)
       have O07 := Lib.hid ((O0.out.drewN 1).below hb)
       have O17 := Lib.hid ((O1.out.drewN 1).below hb)
       have X27 := Lib.hid ((X2.out.drewN 1).behind (hb.mono (by simp; omega)))
       have CE := Lib.hid (eqL_any (X27.out.isIn.mono (by omega)) ho3.isIn (HE2.out.trans he3.symm))
       obtain ⟨s0, s1, s2, s3, s4⟩ := XB7.out
       clear hb he3 ho3)
    | (go_at_call 11; refine CE.out.mono ?_; rintro e w8 ⟨rfl, hb8⟩))
  all_goals
    have hz78 := hb8.size
    have B8 := Lib.hid (below_of2 B7.out hb8)
    have PB8 := Lib.hid (PB7.out.behind hb8)
    have XB8 := Lib.hid (XB7.out.behind hb8)
    have O08 := Lib.hid (O07.out.below hb8)
    have O18 := Lib.hid (O17.out.below hb8)
    have X28 := Lib.hid (X27.out.behind (hb8.mono (by omega)))
    have CM := Lib.hid (markL X28.out (by rw [er_sz HE2.out]; exact hzz.out) (by omega))
    have HV0 : Hid (∀ k, v0.ownBlock = some k → k < w3.heap.size ∨ w4.heap.size ≤ k) := fun k hk => .inl (World.ownsRow.lt O00.out k hk).2
    have HV1 : Hid (∀ k, v1.ownBlock = some k → k < w3.heap.size ∨ w4.heap.size ≤ k) := fun k hk => .inr (by have := O18.out.base_le k hk; omega)
    clear CE hb8 B7 PB7 XB7 O07 O17 X27 B PB XB O0 O1 X2 p0 p1 p2 p3 p4 q0 q1 q2 q3 q4
    try clear s0 s1 s2 s3 s4
    obtain ⟨q0, q1, q2, q3, q4⟩ := XB8.out
    go_wp2_with fail
    with_reducible refine CM.out.mono ?_
    rintro e w9 ⟨K, hK, rfl, ht⟩
    have hK0 : ¬ (K : Int) < 0 := by omega
    have B9 := Lib.hid (B8.out.trans ((ht.below (by omega)).mono (by omega)))
    have PB9 := Lib.hid (PB8.out.touched ht (.inl hN3))
    have O09 := Lib.hid (own_touched O08.out ht HV0.out)
    have O19 := Lib.hid (own_touched O18.out ht HV1.out)
    have hz89 := ht.size
    clear CM ht B8 PB8 XB8 O08 O18 X28 q0 q1 q2 q3 q4 HV0 HV1
    obtain ⟨a1, c1, g1, r1⟩ := strs.readS_of O19.out
    obtain ⟨a0, c0, g0, r0⟩ := strs.readS_of O09.out
    have CE := Lib.hid (strs.eq_true v1 v0 _ _ a1 a0 c1 c0 g1 g0 r1 r0 hlk)
    clear r1 r0
    go_wp2_with fail
    with_reducible refine CE.out.mono ?_
    rintro e w10 ⟨rfl, n10, rfl⟩
    have B10 := Lib.hid (belowN B9.out n10)
    have PB10 := Lib.hid (PB9.out.drewN n10)
    have O010 := Lib.hid (O09.out.drewN n10)
    have O110 := Lib.hid (O19.out.drewN n10)
    have hz910 : w9.heap.size = (w9.drewN n10).heap.size := rfl
    generalize w9.drewN n10 = w10 at *
    clear CE B9 PB9 O09 O19
    have CM := Lib.hid (mark_at v1 _ 1 1 wA.heap.size w10 rfl O110.out hlk (by omega) (by omega))
    go_wp2_with fail
    with_reducible refine CM.out.mono ?_
    rintro e w11 ⟨rfl, o4, g4⟩
    have O111 := Lib.hid o4
    have O011 := Lib.hid (own_kept O00.out O010.out O110.out (by omega) g4)
    have B11 := Lib.hid (B10.out.grown g4 (by omega) (fun k hk => by have := O110.out.base_le k hk; omega))
    have PB11 := Lib.hid (PB10.out.grown g4 (fun e => by have := O110.out.base_le _ e.symm; omega))
    have hz1011 := g4.size
    clear CM o4 g4 B10 PB10 O010 O110
    obtain ⟨a5, c5, g5, r5⟩ := strs.readS_of O111.out
    have CH := Lib.hid (held_at v1 (path.resV (er t)).length 1 1 w11 rfl a5 c5 g5 r5 hlk (by omega) (by omega))
    clear r5
    go_wp2_with fail
    with_reducible refine CH.out.mono ?_
    rintro e w12 ⟨rfl, hb⟩
    have B12 := Lib.hid (below_of2 B11.out hb)
    have PB12 := Lib.hid (PB11.out.behind hb)
    have O012 := Lib.hid (O011.out.below hb)
    have O112 := Lib.hid (O111.out.below hb)
    clear CH hb B11 PB11 O011 O111
    obtain ⟨p0, p1, p2, p3, p4⟩ := PB12.out
    go_wp2_with fail
    with_reducible refine (TO.out.run _ B12.out).mono ?_
    rintro e w13 ⟨t4, rfl, he4, ho4, hb⟩
    have B13 := Lib.hid (below_of2 B12.out hb)
    have O013 := Lib.hid (O012.out.below hb)
    have O113 := Lib.hid (O112.out.below hb)
    have CI := keysI ho4.isIn (by rw [er_sz he4]; exact hzz.out) (HK.out.below B13.out)
    rw [he4] at CI
    replace CI := Lib.hid CI
    clear hb he4 ho4 p0 p1 p2 p3 p4 B12 PB12 O012 O112
    go_wp2_with fail
    with_reducible refine CI.out.mono ?_
    rintro e w14 ⟨v6, rfl, o6, hb⟩
    have B14 := Lib.hid (below_of2 B13.out hb)
    have O014 := Lib.hid (O013.out.below hb)
    have O114 := Lib.hid (O113.out.below hb)
    obtain ⟨a7, c7, g7, r7⟩ := strs.readS_of o6
    obtain ⟨a8, c8, g8, r8⟩ := strs.readS_of O014.out
    have CE := Lib.hid (strs.eq_true v6 v0 _ _ a7 a8 c7 c8 g7 g8 r7 r8 hlk)
    clear CI hb o6 r7 r8 B13 O013 O113
    go_wp2_with fail
    with_reducible refine CE.out.mono ?_
    rintro e w15 ⟨rfl, n15, rfl⟩
    have B15 := Lib.hid (belowN B14.out n15)
    obtain ⟨a9, c9, g9, r9⟩ := strs.readS_of (O114.out.drewN n15)
    have CH := Lib.hid (held_at v1 (path.resV (er t)).length 1 1 _ rfl a9 c9 g9 r9 hlk (by omega) (by omega))
    clear CE r9 B14 O014 O114
    go_wp2_with fail
    with_reducible refine CH.out.mono ?_
    rintro e w16 ⟨rfl, hb⟩
    have B16 := Lib.hid (below_of2 B15.out hb)
    clear CH hb
    go_wp2
    go_ret
    exact ⟨rfl, B16.out⟩

end Go.Proofs.YtkjffifdlckljaaDoor.fnExactPaths
/-
  An argument of the law's type Value, read as data, is a tree that lies in memory.
-/
namespace Go.Proofs.YtkjffifdlckljaaDoor.val
open Go.ChangeShapes Go.WideShapes Go.ChangeAt Go.RowKit
set_option maxRecDepth 100000

instance : Inhabited LT := ⟨.mk 0 0 0 ⟨#[]⟩ none 0 []⟩
theorem inI_of {n : Int} (h : (Lit.int .i64 n).wf = true) : InI n := by
  unfold InI
  simpa [Lit.wf, IntKind.min, IntKind.max, IntKind.signed, IntKind.bits] using h
theorem add_at (p : Addr) (j : Nat) : p.add (j + 1) = ⟨p.block, p.off + (j + 1), none⟩ := by unfold Addr.add; simp
theorem five {l : List Value} (h : l.length = 5) : ∃ c0 c1 c2 c3 c4, l = [c0, c1, c2, c3, c4] := by
  match l, h with
  | [c0, c1, c2, c3, c4], _ => exact ⟨c0, c1, c2, c3, c4, rfl⟩
theorem cells5 : Tryd.prog.cellsOf 43 = 5 := by kernel_rfl
theorem cells1i : Tryd.prog.cellsOf 3 = 1 := by kernel_rfl
theorem cells1s : Tryd.prog.cellsOf 9 = 1 := by kernel_rfl
theorem cells1l : Tryd.prog.cellsOf 41 = 1 := by kernel_rfl

theorem open_val {H : Type} {enc : TypeId × Value → H} {W : World} : ∀ (fuel : Nat) (cs : List Value) (x : DataW H × List MemPlace), DataW.trod enc Tryd.prog W 0 (fun _ => true) true fuel 43 cs = some x →
    ∃ t : LT, cs = [.int .i64 t.k, .int .i64 t.n, .int .i64 t.e, .string t.s, t.row] ∧ In W W.heap.size t := by
  intro fuel
  induction fuel using Nat.strongRecOn with
  | ind fuel ih =>
    intro cs x h
    obtain ⟨xs, n, rfl, hx, hlen, hxl, hf⟩ := DataW.trod_struct Tryd.underlying43 h
    rw [cells5] at hlen
    obtain ⟨c0, c1, c2, c3, c4, rfl⟩ := five hlen
    have hxl5 : xs.length = 5 := hxl
    have g : ∀ i (hi : i < 5), xs[i]? = some (xs[i]'(by omega)) := fun i hi => List.getElem?_eq_getElem (by omega)
    have h0 := (hf 0 _ rfl).trans (g 0 (by omega))
    have h1 := (hf 1 _ rfl).trans (g 1 (by omega))
    have h2 := (hf 2 _ rfl).trans (g 2 (by omega))
    have h3 := (hf 3 _ rfl).trans (g 3 (by omega))
    have h4 := (hf 4 _ rfl).trans (g 4 (by omega))
    have q0 : DataW.trod enc Tryd.prog W 0 (fun _ => true) true n 3 ([c0, c1, c2, c3, c4].take (Tryd.prog.cellsOf 3)) = _ := h0
    have q1 : DataW.trod enc Tryd.prog W 0 (fun _ => true) true n 3 ([c1, c2, c3, c4].take (Tryd.prog.cellsOf 3)) = _ := h1
    have q2 : DataW.trod enc Tryd.prog W 0 (fun _ => true) true n 3 ([c2, c3, c4].take (Tryd.prog.cellsOf 3)) = _ := h2
    have q3 : DataW.trod enc Tryd.prog W 0 (fun _ => true) true n 9 ([c3, c4].take (Tryd.prog.cellsOf 9)) = _ := h3
    have q4 : DataW.trod enc Tryd.prog W 0 (fun _ => true) true n 41 ([c4].take (Tryd.prog.cellsOf 41)) = _ := h4
    rw [cells1i] at q0 q1 q2
    rw [cells1s] at q3
    rw [cells1l] at q4
    simp only [List.take_succ_cons, List.take_zero] at q0 q1 q2 q3 q4
    obtain ⟨k, e0, _, w0⟩ := DataW.trod_int Tryd.underlying3 q0
    obtain ⟨m, e1, _, w1⟩ := DataW.trod_int Tryd.underlying3 q1
    obtain ⟨e, e2, _, w2⟩ := DataW.trod_int Tryd.underlying3 q2
    obtain ⟨s, e3, _, w3⟩ := DataW.trod_string Tryd.underlying9 q3
    injection e0 with e0
    injection e1 with e1
    injection e2 with e2
    injection e3 with e3
    subst e0; subst e1; subst e2; subst e3
    have hs : s.size ≤ 9223372036854775807 := by unfold maxLen at w3; exact w3
    rcases DataW.trod_slice Tryd.underlying41 q4 with ⟨e4, _⟩ | ⟨a, len, cap, elems, rest, n2, hn2, e4, _, _, hlc, hcm, hel, hall, _, _⟩
    · injection e4 with e4
      subst e4
      exact ⟨.mk k m e s none 0 [], rfl, .mk (inI_of w0) (inI_of w1) (inI_of w2) hs (by simp) (fun i hi => by simp at hi) (fun i hi => by simp at hi)⟩
    · injection e4 with e4
      subst e4
      have key : ∀ i, i < len → ∃ t : LT, At5 W (a.add (i * 5)) t ∧ (a.add (i * 5)).block < W.heap.size ∧ In W W.heap.size t := by
        intro i hi
        have h5 := hall i hi
        rw [List.getElem?_eq_getElem (by omega), cells5] at h5
        obtain ⟨cs', hc', ht'⟩ := Option.bind_eq_some_iff.1 h5
        obtain ⟨t, rfl, ht⟩ := ih n2 (by omega) cs' _ ht'
        obtain ⟨_, _, hat⟩ := World.cells?_some hc'
        have a0 := hat 0 (by omega)
        have a1 := hat 1 (by omega)
        have a2 := hat 2 (by omega)
        have a3 := hat 3 (by omega)
        have a4 := hat 4 (by omega)
        rw [show (a.add (i * 5)).add 0 = a.add (i * 5) by unfold Addr.add; simp] at a0
        rw [add_at _ 0] at a1
        rw [add_at _ 1] at a2
        rw [add_at _ 2] at a3
        rw [add_at _ 3] at a4
        exact ⟨t, ⟨a0, a1, a2, a3, a4⟩, World.block_lt_of_cell? W _ a0, ht⟩
      obtain ⟨T, hT⟩ := Go.Deep.choose_lt key
      have hl : ((List.range len).map T).length = len := by simp
      have hg : ∀ i (hi : i < ((List.range len).map T).length), ((List.range len).map T)[i] = T i := fun i hi => by simp
      refine ⟨.mk k m e s (some a) cap ((List.range len).map T), ?_, .mk (inI_of w0) (inI_of w1) (inI_of w2) hs (by rw [hl]; unfold maxLen at hcm; exact ⟨hlc, hcm⟩) (fun i hi => ⟨a, rfl, ?_, ?_⟩) (fun i hi => ?_)⟩
      · show _ = [Value.int .i64 k, .int .i64 m, .int .i64 e, .string s, .slice (some a) ((List.range len).map T).length cap]
        rw [hl]
      · have := (hT i (by omega)).2.1
        rw [add_block] at this
        exact this
      · rw [hg i hi]; exact (hT i (by omega)).1
      · rw [hg i hi]; exact (hT i (by omega)).2.2

end Go.Proofs.YtkjffifdlckljaaDoor.val
