/-
  For every text and all sizes the law FnExactCut answers true: impl.Cut is spec.Cut, it writes into no argument, its list is its own memory, behind another call too (the law itself passes texts and lists of more than 1048576 bytes or sizes). No condition.
-/
import Derived.Test.YtnfbjcpoealkoaaCutImpl
import Derived.Test.YtnfbjcpoealkoaaToInts
import Derived.Test.YtnfbjcpoealkoaaStrS
import Derived.ShutString
import Derived.Below
namespace Go.Proofs.Ytnfbjcpoealkoaa.fnExactCut
open Go.ChangeShapes Go.WideShapes Go.ChangeAt Go.RowKit
open Go.ChangeMaps (open_string shut_string)
open Go.Proofs.Ytnfbjcpoealkoaa.ints (ArgI)
set_option maxRecDepth 100000

def IsRow (k : IntKind) (w : World) (a : Option Addr) (len cap : Nat) (zs : List Int) : Prop :=
  (a = none ∧ len = 0 ∧ cap = 0 ∧ zs = []) ∨
  ∃ x, a = some x ∧ len ≤ cap ∧ cap ≤ maxLen ∧ zs.length = cap ∧ (∀ i, i < zs.length → w.cell? (x.add i) = some (.int k (zs.getD i 0))) ∧ ∀ n ∈ zs, (Lit.int k n).wf = true

theorem arg_of {w : World} {a : Option Addr} {len cap : Nat} {zs : List Int} (h : IsRow .i64 w a len cap zs) : ArgI w a (zs.take len) ∧ (zs.take len).length = len := by
  rcases h with ⟨rfl, rfl, rfl, rfl⟩ | ⟨x, rfl, hc, hm, hz, hcell, hwf⟩
  · exact ⟨⟨fun j h => by simp at h, fun j h => by simp at h⟩, rfl⟩
  · have hl : (zs.take len).length = len := by simp; omega
    refine ⟨⟨fun j h => ⟨x, rfl, ?_⟩, fun j h => ?_⟩, hl⟩
    · have hj : j < zs.length := by omega
      rw [hcell j hj, List.getD_eq_getElem?_getD, List.getElem?_eq_getElem hj]
      simp
    · have hj : j < zs.length := by omega
      have := hwf zs[j] (List.getElem_mem hj)
      rw [List.getElem_take]
      simpa [Lit.wf, IntKind.min, IntKind.max, IntKind.signed, IntKind.bits] using this
/-- What a call has made is kept where only another row of its own is written. -/
theorem own_apart {α : Type} {w w' : World} {base : Nat} {e : TypeId} {enc : α → Value} {v v' : Value} {l : List α} (h : OwnL w base e enc v l) (hg : w.grownBy w' v'.ownBlock) (hne : ∀ k, v.ownBlock = some k → v'.ownBlock = some k → False) : OwnL w' base e enc v l := by
  refine World.ownsRow.kept h hg ?_
  cases hv : v.ownBlock with
  | none => exact .inl rfl
  | some k => exact .inr fun e1 => hne k hv e1.symm
theorem below_of2 {w w1 w2 : World} (h : Below w.heap.size w w1) (h2 : Below w1.heap.size w1 w2) : Below w.heap.size w w2 := h.trans (h2.mono h.size)
theorem mark_at (v : Value) (l : List ByteArray) (x : Int) (k0 base : Nat) (w : World) (hx : x = (k0 : Int)) (h : OwnL w base 9 strs.encS v l) (hl : l.length ≤ 1048577) (h0 : 0 < k0) (hk : k0 ≤ 1000000000) :
    Calls Try.prog 16 #[v, .int .i64 x] w fun e w' => e = .returned (.int .i64 (x + l.length)) ∧ OwnL w' base 9 strs.encS v (strs.marks k0 l.length) ∧ w.grownBy w' v.ownBlock := by
  subst hx
  exact strs.mark_any v l k0 base w h hl h0 hk
theorem held_at (v : Value) (n : Nat) (x : Int) (k0 : Nat) (w : World) (hx : x = (k0 : Int)) (a : Option Addr) (c g : Nat) (h : strs.ReadS w v (strs.marks k0 n) a c g) (hl : n ≤ 1048577) (h0 : 0 < k0) (hk : k0 ≤ 1000000000) :
    Calls Try.prog 17 #[v, .int .i64 x] w fun e w' => e = .returned (.int .i64 (x + n)) ∧ Below w.heap.size w w' := by
  subst hx
  exact strs.held_any v n k0 w a c g h hl h0 hk

set_option maxHeartbeats 4000000 in
theorem core (w : World) (s : ByteArray) (a : Option Addr) (cap : Nat) (l : List Int) (hs : s.size ≤ 1048576) (hl : l.length ≤ 1048576) (h : ArgI w a l) :
    Calls Try.prog 4 #[.string s, .slice a l.length cap] w fun e w' => e = .returned (.bool true) ∧ Below w.heap.size w w' := by
  have TO := Lib.hid (fun w' hb => ints.to_any w a cap l hl h w' hb)
  have CS : Hid (∀ v b W, OwnL W b 3 encI v l → Calls Try.prog 10 #[.string s, v] W fun e w' => ∃ v, e = .returned v ∧ OwnL w' W.heap.size 9 strs.encS v (cut.pieces l s) ∧ Below W.heap.size W w') := fun v b W ho => by
    obtain ⟨a, c, g, r⟩ := ints.readI_of ho
    exact cut.spec_any s l v a c g W hs hl h.wf r
  have CI : Hid (∀ v b W, OwnL W b 3 encI v l → Calls Try.prog 12 #[.string s, v] W fun e w' => ∃ v, e = .returned v ∧ OwnL w' W.heap.size 9 strs.encS v (cut.pieces l s) ∧ Below W.heap.size W w') := fun v b W ho => by
    obtain ⟨a, c, g, r⟩ := ints.readI_of ho
    exact cut.impl_any s l v a c g W hs hl h.wf r
  have hlp : (cut.pieces l s).length ≤ 1048577 := Nat.le_trans (cut.pieces_len l s) (by omega)
  have B := Lib.hid (Below.refl w.heap.size w)
  have hs' : (s.size : Int) ≤ 1048576 := by omega
  have hl' : (l.length : Int) ≤ 1048576 := by omega
  clear h
  generalize cut.pieces l s = T at *
  go_enter Try.func4, Try.ntmps4
  -- w0 := spec.Cut(aS, toIntS(aSizes))
  go_wp2_with fail
  with_reducible refine (TO.out _ B.out).mono ?_
  rintro e w1 ⟨vt, rfl, ot, hb⟩
  have OT := Lib.hid ot
  replace B := Lib.hid (below_of2 B.out hb)
  clear ot hb
  go_wp2_with fail
  with_reducible refine (CS.out _ _ _ OT.out).mono ?_
  rintro e w2 ⟨v0, rfl, o0, hb⟩
  have O0 := Lib.hid o0
  replace B := Lib.hid (below_of2 B.out hb)
  clear o0 hb OT
  have hwz2 := B.out.size
  -- x1 := toIntS(aSizes)
  go_wp2_with fail
  with_reducible refine (TO.out _ B.out).mono ?_
  rintro e w3 ⟨vx, rfl, ox, hb⟩
  have hz23 := hb.size
  have OX := Lib.hid ox
  have L0 : Hid (∀ k, v0.ownBlock = some k → k < w2.heap.size) := fun k hk => (World.ownsRow.lt O0.out k hk).2
  replace O0 := Lib.hid (O0.out.below hb)
  replace B := Lib.hid (below_of2 B.out hb)
  clear ox hb
  -- g0 := impl.Cut(aS, x1)
  go_wp2_with fail
  with_reducible refine (CI.out _ _ _ OX.out).mono ?_
  rintro e w4 ⟨v1, rfl, o1, hb⟩
  have hz34 := hb.size
  have O1 := Lib.hid o1
  have LX : Hid (∀ k, vx.ownBlock = some k → w2.heap.size ≤ k ∧ k < w3.heap.size) := fun k hk => ⟨OX.out.base_le k hk, (World.ownsRow.lt OX.out k hk).2⟩
  have L1 : Hid (∀ k, v1.ownBlock = some k → w3.heap.size ≤ k) := fun k hk => O1.out.base_le k hk
  replace O0 := Lib.hid (O0.out.below hb)
  replace OX := Lib.hid (OX.out.below hb)
  replace B := Lib.hid (below_of2 B.out hb)
  clear o1 hb
  have AX0 : Hid (∀ k, v0.ownBlock = some k → vx.ownBlock = some k → False) := fun k h1 h2 => by have := L0.out k h1; have := LX.out k h2; omega
  have AX1 : Hid (∀ k, v1.ownBlock = some k → vx.ownBlock = some k → False) := fun k h1 h2 => by have := L1.out k h1; have := LX.out k h2; omega
  have A10 : Hid (∀ k, v0.ownBlock = some k → v1.ownBlock = some k → False) := fun k h1 h2 => by have := L0.out k h1; have := L1.out k h2; omega
  have HW1 : Hid (∀ k, v1.ownBlock = some k → w.heap.size ≤ k) := fun k hk => by have := L1.out k hk; omega
  have HWX : Hid (∀ k, vx.ownBlock = some k → w.heap.size ≤ k) := fun k hk => by have := (LX.out k hk).1; omega
  clear L0 LX L1 CS
  -- eqStringS(g0, w0)
  obtain ⟨a1, c1, g1, r1⟩ := strs.readS_of O1.out
  obtain ⟨a0, c0, g0, r0⟩ := strs.readS_of O0.out
  have CE := Lib.hid (strs.eq_true v1 v0 T _ a1 a0 c1 c0 g1 g0 r1 r0 hlp)
  clear r1 r0
  go_wp2_with fail
  with_reducible refine CE.out.mono ?_
  rintro e w5 ⟨rfl, n5, rfl⟩
  replace B := Lib.hid (belowN B.out n5)
  replace O0 := Lib.hid (O0.out.drewN n5)
  replace O1 := Lib.hid (O1.out.drewN n5)
  replace OX := Lib.hid (OX.out.drewN n5)
  generalize w4.drewN n5 = w5 at *
  clear CE
  -- eqIntS(x1, toIntS(aSizes))
  go_wp2_with fail
  with_reducible refine (TO.out _ B.out).mono ?_
  rintro e w6 ⟨vy, rfl, oy, hb⟩
  replace B := Lib.hid (below_of2 B.out hb)
  replace O0 := Lib.hid (O0.out.below hb)
  replace O1 := Lib.hid (O1.out.below hb)
  replace OX := Lib.hid (OX.out.below hb)
  obtain ⟨a2, c2, g2, r2⟩ := ints.readI_of OX.out
  obtain ⟨a3, c3, g3, r3⟩ := ints.readI_of oy
  have CE := Lib.hid (ints.eq_true vx vy l w6 a2 a3 c2 c3 g2 g3 r2 r3 hl)
  clear hb oy r2 r3
  go_wp2_with fail
  with_reducible refine CE.out.mono ?_
  rintro e w7 ⟨rfl, n7, rfl⟩
  replace B := Lib.hid (belowN B.out n7)
  replace O0 := Lib.hid (O0.out.drewN n7)
  replace O1 := Lib.hid (O1.out.drewN n7)
  replace OX := Lib.hid (OX.out.drewN n7)
  generalize w6.drewN n7 = w7 at *
  clear CE
  -- k = markIntS(x1, k)
  have CM := Lib.hid (ints.mark_at vx l 1 1 _ w7 rfl OX.out hl (by omega))
  go_wp2_with fail
  with_reducible refine CM.out.mono ?_
  rintro e w8 ⟨rfl, _, g8⟩
  replace B := Lib.hid (B.out.grown g8 B.out.size HWX.out)
  replace O0 := Lib.hid (own_apart O0.out g8 AX0.out)
  replace O1 := Lib.hid (own_apart O1.out g8 AX1.out)
  have hk0 : ¬ (1 : Int) + l.length < 0 := by omega
  clear CM g8 OX
  -- eqStringS(g0, w0)
  obtain ⟨a1, c1, g1, r1⟩ := strs.readS_of O1.out
  obtain ⟨a0, c0, g0, r0⟩ := strs.readS_of O0.out
  have CE := Lib.hid (strs.eq_true v1 v0 T _ a1 a0 c1 c0 g1 g0 r1 r0 hlp)
  clear r1 r0
  go_wp2_with fail
  with_reducible refine CE.out.mono ?_
  rintro e w9 ⟨rfl, n9, rfl⟩
  replace B := Lib.hid (belowN B.out n9)
  replace O0 := Lib.hid (O0.out.drewN n9)
  replace O1 := Lib.hid (O1.out.drewN n9)
  generalize w8.drewN n9 = w9 at *
  clear CE
  -- m = markStringS(g0, m)
  have CM := Lib.hid (mark_at v1 T 1 1 _ w9 rfl O1.out hlp (by omega) (by omega))
  go_wp2_with fail
  with_reducible refine CM.out.mono ?_
  rintro e w10 ⟨rfl, o1, g10⟩
  replace B := Lib.hid (B.out.grown g10 B.out.size HW1.out)
  replace O0 := Lib.hid (own_apart O0.out g10 A10.out)
  have OM := Lib.hid o1
  clear CM g10 o1 O1
  -- q = heldStringS(g0, q)
  obtain ⟨a5, c5, g5, r5⟩ := strs.readS_of OM.out
  have CH := Lib.hid (held_at v1 T.length 1 1 w10 rfl a5 c5 g5 r5 hlp (by omega) (by omega))
  clear r5
  go_wp2_with fail
  with_reducible refine CH.out.mono ?_
  rintro e w11 ⟨rfl, hb⟩
  replace B := Lib.hid (below_of2 B.out hb)
  replace O0 := Lib.hid (O0.out.below hb)
  replace OM := Lib.hid (OM.out.below hb)
  clear CH hb
  -- h0 := impl.Cut(aS, toIntS(aSizes))
  go_wp2_with fail
  with_reducible refine (TO.out _ B.out).mono ?_
  rintro e w12 ⟨vz, rfl, oz, hb⟩
  have OZ := Lib.hid oz
  replace B := Lib.hid (below_of2 B.out hb)
  replace O0 := Lib.hid (O0.out.below hb)
  replace OM := Lib.hid (OM.out.below hb)
  clear hb oz
  go_wp2_with fail
  with_reducible refine (CI.out _ _ _ OZ.out).mono ?_
  rintro e w13 ⟨v6, rfl, o6, hb⟩
  replace B := Lib.hid (below_of2 B.out hb)
  replace O0 := Lib.hid (O0.out.below hb)
  replace OM := Lib.hid (OM.out.below hb)
  obtain ⟨a7, c7, g7, r7⟩ := strs.readS_of o6
  obtain ⟨a8, c8, g8, r8⟩ := strs.readS_of O0.out
  have CE := Lib.hid (strs.eq_true v6 v0 T _ a7 a8 c7 c8 g7 g8 r7 r8 hlp)
  clear hb o6 r7 r8 OZ CI
  go_wp2_with fail
  with_reducible refine CE.out.mono ?_
  rintro e w14 ⟨rfl, n14, rfl⟩
  replace B := Lib.hid (belowN B.out n14)
  replace OM := Lib.hid (OM.out.drewN n14)
  generalize w13.drewN n14 = w14 at *
  clear CE O0
  obtain ⟨a9, c9, g9, r9⟩ := strs.readS_of OM.out
  have CH := Lib.hid (held_at v1 T.length 1 1 _ rfl a9 c9 g9 r9 hlp (by omega) (by omega))
  clear r9
  go_wp2_with fail
  with_reducible refine CH.out.mono ?_
  rintro e w15 ⟨rfl, hb⟩
  replace B := Lib.hid (below_of2 B.out hb)
  clear CH hb OM
  go_wp2
  go_ret
  exact ⟨rfl, B.out⟩
set_option maxHeartbeats 1000000 in
theorem walk (w : World) (s : ByteArray) (hs : s.size ≤ maxLen) (a : Option Addr) (len cap : Nat) (zs : List Int) (hr : IsRow .i64 w a len cap zs) :
    Calls Try.prog 4 #[.string s, .slice a len cap] w fun e w' => e = .returned (.bool true) ∧ Below w.heap.size w w' := by
  obtain ⟨hA, hlen⟩ := arg_of hr
  clear hr
  generalize zs.take len = l at *
  subst hlen
  unfold maxLen at hs
  by_cases h : s.size ≤ 1048576
  · by_cases h2 : l.length ≤ 1048576
    · exact core w s a cap l h h2 hA
    · have h' : (s.size : Int) ≤ 1048576 := by omega
      have h2' : (1048576 : Int) < (l.length : Int) := by omega
      clear hA
      go_enter Try.func4, Try.ntmps4
      go_wp2
      go_ret
      exact ⟨rfl, Below.refl _ _⟩
  · have h' : (1048576 : Int) < (s.size : Int) := by omega
    clear hA
    go_enter Try.func4, Try.ntmps4
    go_wp2
    go_ret
    exact ⟨rfl, Below.refl _ _⟩

theorem own : ownKnob Try.prog.godebug = none := by kernel_rfl
theorem laidOut : laidOutB Try.prog = true := by kernel_rfl
set_option maxRecDepth 100000 in
theorem lifted (os : Os) (started : os.Started) (H : Type) (enc : TypeId × Value → H) :
    ReturnsInHanded {} Try.checked os 4 .any (Rows.fnExactCutSpec.pre6 enc Try.prog Try.f4 Rows.fnExactCutRow.domain false) (Rows.fnExactCutSpec.post enc Try.prog Try.f4 false true false false) := by
  refine returnsInHanded_of_change (C := Try.checked) own started (by kernel_rfl) Try.func4
    (ChangeSpec.witness6 (enc := enc) (C := Try.checked) false ⟨#[], #[.string ⟨#[]⟩, .slice none 0 0], []⟩ 8 (by kernel_rfl) (by kernel_rfl) (by kernel_rfl) (by kernel_rfl)) ?_
  intro W base args ds gs before hval0 hW hcnd _
  have hval : ∀ (j : Nat) t v, Try.f4.params[j]? = some t → args[j]? = some v → Value.okWide Try.prog W .any base t v := hval0
  have hW' := hW
  obtain ⟨p, q, hA0, hV, rfl, hfz, hnd⟩ := hW
  have hA : DataW.TrodAll enc Try.prog W 0 (fun _ => true) true Try.f4.params.toList args.toList ds p := hA0
  rw [Try.params4] at hA hval
  obtain ⟨v0, vs0, d0, ds0, p0, q0, hargs, rfl, rfl, h0, r0⟩ := trodAll_cons hA
  obtain ⟨v1, vs1, d1, ds1, p1, q1, rfl, rfl, rfl, h1, r1⟩ := trodAll_cons r0
  obtain ⟨rfl, rfl, rfl⟩ := trodAll_nil r1
  obtain rfl : args = #[v0, v1] := by cases args; simp_all
  obtain ⟨rfl, rfl⟩ := trodVars_none hV
  obtain ⟨a0, rfl, rfl, rfl, w0⟩ := open_string Try.underlying9 (hval 0 9 v0 rfl rfl) h0
  obtain ⟨a1, len1, cap1, rfl⟩ := okWide_slice Try.underlying29 (hval 1 29 v1 rfl rfl)
  have k1 := h1
  have lt1 : ∀ x ∈ p1, x.block < W.heap.size := by obtain ⟨m, hm⟩ := k1; exact DataW.trod_lt m _ _ _ hm
  obtain ⟨z1, w1⟩ : ∃ zs, IsRow .i64 W a1 len1 cap1 zs := by
    obtain ⟨fuel, hf⟩ := h1
    rcases open_ints Try.underlying29 Try.underlying3 (by kernel_rfl) hf with ⟨hcs, _⟩ | ⟨x, l, c, zs, hcs, _, hl, hm, hz, _, hcell, hwz⟩
    · simp [Value.cells] at hcs
      obtain ⟨rfl, rfl, rfl⟩ := hcs
      exact ⟨[], .inl ⟨rfl, rfl, rfl, rfl⟩⟩
    · simp [Value.cells] at hcs
      obtain ⟨rfl, rfl, rfl⟩ := hcs
      exact ⟨zs, .inr ⟨_, rfl, hl, hm, by simpa using hz, hcell, hwz⟩⟩
  clear hA0 hval0
  simp only [List.append_nil] at hW'
  refine (walk W a0 w0 a1 len1 cap1 z1 w1).mono fun e W' ⟨he, bel⟩ => ?_
  subst he
  exact ⟨_, rfl, _, _, _, [], _, [], hW', trodAll_mk1 (shut_bool Try.underlying4 _), (trodAll_cons_mk (shut_string Try.underlying9 w0) (trodAll_cons_mk (Below.trod laidOut (by kernel_rfl) (of_decide_eq_true (by kernel_rfl)) k1 bel lt1) trodAll_mk0)), rfl, bel.frame _, fun h => by cases h⟩

theorem over : Rows.fnExactCutRow.holds Try.pinned (OpenSpec.ofChange Rows.fnExactCutSpec) :=
  OpenClaim.holds_of_wide 4 Try.f4 rfl rfl rfl rfl rfl rfl rfl ⟨rfl, rfl, rfl, rfl, rfl⟩ rfl rfl rfl rfl rfl (by kernel_rfl) Try.func4 (by kernel_rfl)
    (of_decide_eq_true (by kernel_rfl)) (by unfold Func.isWrapper; first | (rw [if_pos (by decide +kernel)]; kernel_rfl) | (rw [if_neg (by decide +kernel)]; exact ⟨rfl, rfl⟩))
    (fun os started H enc _ => lifted os started H enc)

theorem proved : Rows.FnExactCutSaid :=
  over

end Go.Proofs.Ytnfbjcpoealkoaa.fnExactCut
