/-
  For every text the law FnExactGetPath answers true: impl.GetPath is spec.GetPath, its list is its own memory, behind another call too (the law itself passes texts of more than 1048576 bytes). What is listed of the library's variables is as its text lays it (tied).
-/
import Derived.Test.YtkjffifdlckljaaDoorPathGetImpl
import Derived.Test.YtkjffifdlckljaaDoorPathGetSpec
import Derived.Test.YtkjffifdlckljaaDoorStrS
import Derived.Test.YtkjffifdlckljaaDoorUtf8TabsT
import Derived.Test.YtkjffifdlckljaaDoorWrap
import Derived.Test.YtkjffifdlckljaaDoorCards
import Derived.Test.YtkjffifdlckljaaDoorTie
import Derived.Shelf.Vars
import Derived.ShutString
import Derived.Lay
import Derived.LaidOnce
import Derived.SevenTiedAt
import Derived.OpenVars
namespace Go.Proofs.YtkjffifdlckljaaDoor.fnExactGetPath
open Go.ChangeShapes Go.WideShapes Go.ChangeAt Go.RowKit
open Go.ChangeMaps (open_string shut_string)

/-- A slice of the call's own in an older block is kept where only a younger row is written. -/
theorem own_kept {α : Type} {w w' : World} {base base' : Nat} {e : TypeId} {enc : α → Value} {v v' : Value} {l : List α} {l' : List α} {w0 : World} (h0 : OwnL w0 base e enc v l) (h : OwnL w base e enc v l) (h' : OwnL w base' e enc v' l') (hb : w0.heap.size ≤ base') (hg : w.grownBy w' v'.ownBlock) : OwnL w' base e enc v l := by
  refine World.ownsRow.kept h hg ?_
  cases hv : v.ownBlock with
  | none => exact .inl rfl
  | some k =>
    right
    intro e1
    have h1 := (World.ownsRow.lt h0 k hv).2
    have h2 := (World.ownsRow.lt h' k e1.symm).1
    omega
theorem mark_at (v : Value) (l : List ByteArray) (x : Int) (k0 base : Nat) (w : World) (hx : x = (k0 : Int)) (h : OwnL w base 9 strs.encS v l) (hl : l.length ≤ 1048577) (h0 : 0 < k0) (hk : k0 ≤ 1000000000) :
    Calls Tryd.prog 25 #[v, .int .i64 x] w fun e w' => e = .returned (.int .i64 (x + l.length)) ∧ OwnL w' base 9 strs.encS v (strs.marks k0 l.length) ∧ w.grownBy w' v.ownBlock := by
  subst hx
  exact strs.mark_any v l k0 base w h hl h0 hk
theorem held_at (v : Value) (n : Nat) (x : Int) (k0 : Nat) (w : World) (hx : x = (k0 : Int)) (a : Option Addr) (c g : Nat) (h : strs.ReadS w v (strs.marks k0 n) a c g) (hl : n ≤ 1048577) (h0 : 0 < k0) (hk : k0 ≤ 1000000000) :
    Calls Tryd.prog 26 #[v, .int .i64 x] w fun e w' => e = .returned (.int .i64 (x + n)) ∧ Below w.heap.size w w' := by
  subst hx
  exact strs.held_any v n k0 w a c g h hl h0 hk

set_option maxHeartbeats 2000000 in
set_option maxRecDepth 100000 in
theorem walk (s : ByteArray) (hs : s.size ≤ maxLen) (w : World) (hL : laidMet Tryd.prog Rows.fnExactGetPathRow.laid w) (hsh : w.ShapedOpen Tryd.prog) :
    Calls Tryd.prog 7 #[.string s] w fun e w' => e = .returned (.bool true) ∧ Below w.heap.size w w' := by
  obtain ⟨m0, hm0⟩ := cell_of_shapedOpen_int (P := Tryd.prog) (g := 6) (t := 3) (zero := #[.int .i64 0]) hsh (of_decide_eq_true (by kernel_rfl)) (by kernel_rfl) rfl (by kernel_rfl) (by kernel_rfl) Tryd.underlying3
  have hT : signs.Tabs w := tabsT.utf8 hL (.tail _ (.head _)) (.head _)
  unfold maxLen at hs
  by_cases h : s.size ≤ 1048576
  · have h' : (s.size : Int) ≤ 1048576 := by omega
    have C1 := Lib.hid (fun w => path.spec_get s w h)
    have C2 : Hid (∀ w', Below w.heap.size w w' → path.GetC 24 s w') := fun w' hb => path.impl_get s m0 w' h (signs.tabs_below hT hb) (path.maxCell_below hm0 hb)
    clear hL hsh hm0 hT
    have hl : (path.resOf (path.gotI s) s).1.length ≤ 1048577 := Nat.le_trans (path.res_len s) (by omega)
    unfold path.GetC at C1 C2
    generalize (path.resOf (path.gotI s) s).1 = l at *
    generalize (path.resOf (path.gotI s) s).2 = bb at *
    go_enter Tryd.func7, Tryd.ntmps7
    go_wp2_with fail
    with_reducible refine (C1.out _).mono ?_
    rintro e w1 ⟨v0, rfl, o0, b1⟩
    have O0 := Lib.hid o0
    clear o0 C1
    have z1 := b1.size
    go_wp2_with fail
    with_reducible refine (C2.out _ b1).mono ?_
    rintro e w2 ⟨v1, rfl, o1, b2⟩
    have O1 := Lib.hid o1
    clear o1
    have z2 := b2.size
    have B2 : Below w.heap.size w w2 := b1.trans (b2.mono z1)
    have O02 := Lib.hid (O0.out.below b2)
    go_wp2_with fail
    obtain ⟨a1, c1, g1, r1⟩ := strs.readS_of O1.out
    obtain ⟨a0, c0, g0, r0⟩ := strs.readS_of O02.out
    with_reducible refine (strs.eq_true v1 v0 l _ a1 a0 c1 c0 g1 g0 r1 r0 hl).mono ?_
    rintro e w3 ⟨rfl, n3, rfl⟩
    clear r1 r0
    go_wp2_with fail
    with_reducible refine (mark_at v1 l 1 1 w1.heap.size _ rfl (O1.out.drewN n3) hl (by omega) (by omega)).mono ?_
    rintro e w4 ⟨rfl, o4, g4⟩
    have O4 := Lib.hid o4
    have O04 := Lib.hid (own_kept O0.out (O02.out.drewN n3) (O1.out.drewN n3) (Nat.le_refl _) g4)
    have B4 : Below w.heap.size w w4 := (belowN B2 n3).grown g4 (Nat.le_trans z1 z2) (fun k hk => Nat.le_trans z1 ((O1.out.drewN n3).base_le k hk))
    clear o4
    have G4 := Lib.hid g4
    clear g4
    go_wp2_with fail
    obtain ⟨a5, c5, g5, r5⟩ := strs.readS_of O4.out
    with_reducible refine (held_at v1 l.length 1 1 _ rfl a5 c5 g5 r5 hl (by omega) (by omega)).mono ?_
    rintro e w5 ⟨rfl, b5⟩
    clear r5
    have O05 := Lib.hid (O04.out.below b5)
    have O45 := Lib.hid (O4.out.below b5)
    have B5 : Below w.heap.size w w5 := B4.trans (b5.mono B4.size)
    go_wp2_with fail
    with_reducible refine (C2.out _ B5).mono ?_
    rintro e w6 ⟨v6, rfl, o6, b6⟩
    have O6 := Lib.hid o6
    clear o6
    have O06 := Lib.hid (O05.out.below b6)
    have O46 := Lib.hid (O45.out.below b6)
    have B6 : Below w.heap.size w w6 := B5.trans (b6.mono B5.size)
    go_wp2_with fail
    obtain ⟨a7, c7, g7, r7⟩ := strs.readS_of O6.out
    obtain ⟨a8, c8, g8, r8⟩ := strs.readS_of O06.out
    with_reducible refine (strs.eq_true v6 v0 l _ a7 a8 c7 c8 g7 g8 r7 r8 hl).mono ?_
    rintro e w7 ⟨rfl, n7, rfl⟩
    clear r7 r8
    go_wp2_with fail
    obtain ⟨a9, c9, g9, r9⟩ := strs.readS_of (O46.out.drewN n7)
    with_reducible refine (held_at v1 l.length 1 1 _ rfl a9 c9 g9 r9 hl (by omega) (by omega)).mono ?_
    rintro e w8 ⟨rfl, b8⟩
    clear r9
    go_wp2
    go_ret
    exact ⟨rfl, (belowN B6 n7).trans (b8.mono (belowN B6 n7).size)⟩
  · have h' : (1048576 : Int) < (s.size : Int) := by omega
    clear hL hsh hm0 hT
    go_enter Tryd.func7, Tryd.ntmps7
    go_wp2
    go_ret
    exact ⟨rfl, Below.refl _ _⟩

theorem own : ownKnob Tryd.prog.godebug = none := by kernel_rfl

set_option maxRecDepth 100000 in
theorem lifted (os : Os) (started : os.Started) (H : Type) (enc : TypeId × Value → H) :
    ReturnsInHanded {} Tryd.checked os 7 .any (fun w args => (Rows.fnExactGetPathSpec.pre enc Tryd.prog Tryd.f7 [] false w args ∧ laidMetH Tryd.prog Rows.fnExactGetPathRow.laid w) ∧ sizedMet enc Tryd.prog Tryd.f7 (OpenSpec.ofChange Rows.fnExactGetPathSpec) false w args)
      (Rows.fnExactGetPathSpec.post enc Tryd.prog Tryd.f7 false true false false) := by
  refine returns_and_shaped (C := Tryd.checked) (X := fun w _ => laidMetH Tryd.prog Rows.fnExactGetPathRow.laid w) (fun _ _ _ hh h => h.of_heap hh) own started (by kernel_rfl) Tryd.func7
    (ChangeSpec.witness_shaped (enc := enc) (C := Tryd.checked) (os := os) (X := fun w _ => laidMetH Tryd.prog Rows.fnExactGetPathRow.laid w) false (World.laidAll Tryd.prog os Rows.fnExactGetPathRow.laid) #[.string ⟨#[]⟩] 8 (World.laidAll_os _ _ _)
      (World.shaped_of_ZipB (by kernel_rfl) (by kernel_rfl)) (by kernel_rfl) (by kernel_rfl) (by kernel_rfl)
      (by rw [MakeChecks.laidMetH_plain _ _ _ (by kernel_rfl)]; exact laidMet_laidAll _ (by kernel_rfl) (by kernel_rfl))) ?_
  intro W base args ds gs before hval0 hW hL hsh
  have hval : ∀ (j : Nat) t v, Tryd.f7.params[j]? = some t → args[j]? = some v → Value.okWide Tryd.prog W .any base t v := hval0
  have hW' := hW
  obtain ⟨p, q, hA0, hV, rfl, hfz, hnd⟩ := hW
  have hA : DataW.TrodAll enc Tryd.prog W 0 (fun _ => true) true Tryd.f7.params.toList args.toList ds p := hA0
  rw [Tryd.params7] at hA hval
  obtain ⟨v0, vs0, d0, ds0, p0, q0, hargs, rfl, rfl, h0, r0⟩ := trodAll_cons hA
  obtain ⟨rfl, rfl, rfl⟩ := trodAll_nil r0
  obtain rfl : args = #[v0] := by cases args; simp_all
  obtain ⟨rfl, rfl⟩ := trodVars_none hV
  obtain ⟨a0, rfl, rfl, rfl, w0⟩ := open_string Tryd.underlying9 (hval 0 9 v0 rfl rfl) h0
  clear hA0 hval0
  simp only [List.append_nil] at hW'
  rw [MakeChecks.laidMetH_plain _ _ _ (by kernel_rfl)] at hL
  refine (walk a0 w0 W hL hsh).mono fun e W' ⟨he, bel⟩ => ?_
  subst he
  exact ⟨_, rfl, _, _, _, [], [], [], hW', trodAll_mk1 (shut_bool Tryd.underlying4 _), (trodAll_cons_mk (shut_string Tryd.underlying9 w0) trodAll_mk0), rfl, bel.frame _, fun h => by cases h⟩

theorem said : Rows.FnExactGetPathSaid :=
  OpenClaim.holds_of_wide 7 Tryd.f7 rfl rfl rfl rfl rfl rfl rfl ⟨rfl, rfl, rfl, rfl, rfl⟩ rfl rfl rfl rfl rfl (by kernel_rfl) Tryd.func7 (by kernel_rfl)
    (of_decide_eq_true (by kernel_rfl)) (by unfold Func.isWrapper; first | (rw [if_pos (by decide +kernel)]; kernel_rfl) | (rw [if_neg (by decide +kernel)]; exact ⟨rfl, rfl⟩))
    (fun os started H enc _ => lifted os started H enc)

theorem card : Rows.FnExactGetPathCardSaid :=
  Claim7.holds_tied_plain_at .later [] _ _ _ _ said (fun _ h => by cases h) (by kernel_rfl) (fun _ h => by cases h) fnExactGetPath_row_tie rfl ⟨rfl, rfl⟩ (by kernel_rfl) rfl
    (fun f fn hf hfn => by
      obtain rfl : f = 7 := Option.some.inj ((show Tryd.prog.funcNamed Rows.fnExactGetPathRow.func = some 7 by kernel_rfl).symm.trans hf) |>.symm
      obtain rfl : fn = Tryd.f7 := (Option.some.inj (Tryd.func7.symm.trans hfn)).symm
      exact ⟨by kernel_rfl, fun j t ht => by
        rw [Tryd.params7] at ht
        have hm : t ∈ [9] := by simpa using Array.mem_of_getElem? ht
        have hall : ([9].all fun u => !Tryd.prog.wantsStandIn u) = true := by kernel_rfl
        exact (show Tryd.prog.wantsStandIn t = false by simpa using List.all_eq_true.1 hall t hm)⟩)
    (by kernel_rfl)

end Go.Proofs.YtkjffifdlckljaaDoor.fnExactGetPath
