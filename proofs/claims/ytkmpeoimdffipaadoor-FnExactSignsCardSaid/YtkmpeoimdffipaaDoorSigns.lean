/-
  For every text the law FnExactSigns answers true: impl.Signs is spec.Signs, its list is its own memory, behind another call too (the law itself passes texts of more than 1048576 bytes). The tables of unicode/utf8 are as the library's text lays them (tied).
-/
import Derived.Test.YtkmpeoimdffipaaDoorSignsWalk
import Derived.Test.YtkmpeoimdffipaaDoorIntS
import Derived.Test.YtkmpeoimdffipaaDoorCards
import Derived.Test.YtkmpeoimdffipaaDoorTie
import Derived.ShutString
import Derived.Lay
import Derived.LaidOnce
import Derived.SevenTiedAt
namespace Go.Proofs.YtkmpeoimdffipaaDoor.fnExactSigns
open Go.ChangeShapes Go.WideShapes Go.ChangeAt Go.RowKit
open Go.ChangeMaps (open_string shut_string)

/-- A slice of the call's own in an older block is kept where only a younger row is written. -/
theorem own_kept {α : Type} {w w' : World} {base base' : Nat} {e : TypeId} {enc : α → Value} {v v' : Value} {l : List α} {l' : List α} {w0 : World} (h0 : OwnL w0 base e enc v l) (h : OwnL w base e enc v l) (h' : OwnL w base' e enc v' l') (hb : w0.heap.size ≤ base') (hg : w.grownBy w' v'.ownBlock) : OwnL w' base e enc v l := by
  refine World.ownsRow.kept h hg ?_
  cases hv : v.ownBlock with
  | none => exact .inl rfl
  | some k =>
    right
    intro e1
    have h1 := (World.ownsRow.lt h0 k hv).2
    have h2 := (World.ownsRow.lt h' k e1.symm).1
    omega

set_option maxHeartbeats 1000000 in
set_option maxRecDepth 100000 in
theorem walk (s : ByteArray) (hs : s.size ≤ maxLen) (w : World) (hL : laidMet Tryd.prog Rows.fnExactSignsRow.laid w) :
    Calls Tryd.prog 6 #[.string s] w fun e w' => e = .returned (.bool true) ∧ Below w.heap.size w w' := by
  have hT := tabs.utf8 hL (.tail _ (.head _)) (.head _)
  have HT := Lib.hid hT
  clear hL hT
  unfold maxLen at hs
  by_cases h : s.size ≤ 1048576
  · have h' : (s.size : Int) ≤ 1048576 := by omega
    have C1 := Lib.hid (fun w => signs.spec_signs s w h)
    have C2 := Lib.hid (fun w => signs.impl_signs s w h)
    have hl : (sign.signsOf s).length ≤ 1048576 := Nat.le_trans (sign.signsOf_length s) h
    generalize sign.signsOf s = l at *
    go_enter Tryd.func6, Tryd.ntmps6
    go_wp2_with fail
    with_reducible refine (C1.out _).mono ?_
    rintro e w1 ⟨v0, rfl, o0, b1⟩
    have O0 := Lib.hid o0
    clear o0 C1
    have z1 := b1.size
    go_wp2_with fail
    with_reducible refine (C2.out _ (tabs.below HT.out b1)).mono ?_
    rintro e w2 ⟨v1, rfl, o1, b2⟩
    have O1 := Lib.hid o1
    clear o1
    have z2 := b2.size
    have B2 : Below w.heap.size w w2 := b1.trans (b2.mono z1)
    have O02 := Lib.hid (O0.out.below b2)
    go_wp2_with fail
    obtain ⟨a1, c1, g1, r1⟩ := ints.readI_of O1.out
    obtain ⟨a0, c0, g0, r0⟩ := ints.readI_of O02.out
    with_reducible refine (ints.eq_true v1 v0 l _ a1 a0 c1 c0 g1 g0 r1 r0 hl).mono ?_
    rintro e w3 ⟨rfl, n3, rfl⟩
    clear r1 r0
    go_wp2_with fail
    with_reducible refine (ints.mark_at v1 l 1 1 w1.heap.size _ rfl (O1.out.drewN n3) hl (by omega)).mono ?_
    rintro e w4 ⟨rfl, o4, g4⟩
    have O4 := Lib.hid o4
    have O04 := Lib.hid (own_kept O0.out (O02.out.drewN n3) (O1.out.drewN n3) (Nat.le_refl _) g4)

    have B4 : Below w.heap.size w w4 := (belowN B2 n3).grown g4 (Nat.le_trans z1 z2) (fun k hk => Nat.le_trans z1 ((O1.out.drewN n3).base_le k hk))
    clear o4
    have G4 := Lib.hid g4
    clear g4
    go_wp2_with fail
    obtain ⟨a5, c5, g5, r5⟩ := ints.readI_of O4.out
    with_reducible refine (ints.held_at v1 l.length 1 1 _ rfl a5 c5 g5 r5 hl (by omega)).mono ?_
    rintro e w5 ⟨rfl, rfl⟩
    clear r5
    go_wp2_with fail
    with_reducible refine (C2.out _ (tabs.below HT.out B4)).mono ?_
    rintro e w6 ⟨v6, rfl, o6, b6⟩
    have O6 := Lib.hid o6
    clear o6
    have O06 := Lib.hid (O04.out.below b6)
    have O46 := Lib.hid (O4.out.below b6)
    have B6 : Below w.heap.size w w6 := B4.trans (b6.mono B4.size)
    go_wp2_with fail
    obtain ⟨a7, c7, g7, r7⟩ := ints.readI_of O6.out
    obtain ⟨a8, c8, g8, r8⟩ := ints.readI_of O06.out
    with_reducible refine (ints.eq_true v6 v0 l _ a7 a8 c7 c8 g7 g8 r7 r8 hl).mono ?_
    rintro e w7 ⟨rfl, n7, rfl⟩
    clear r7 r8
    go_wp2_with fail
    obtain ⟨a9, c9, g9, r9⟩ := ints.readI_of (O46.out.drewN n7)
    with_reducible refine (ints.held_at v1 l.length 1 1 _ rfl a9 c9 g9 r9 hl (by omega)).mono ?_
    rintro e w8 ⟨rfl, rfl⟩
    clear r9
    go_wp2
    go_ret
    exact ⟨rfl, belowN B6 n7⟩
  · have h' : (1048576 : Int) < (s.size : Int) := by omega
    go_enter Tryd.func6, Tryd.ntmps6
    go_wp2
    go_ret
    exact ⟨rfl, Below.refl _ _⟩

theorem own : ownKnob Tryd.prog.godebug = none := by kernel_rfl

set_option maxRecDepth 100000 in
theorem lifted (os : Os) (started : os.Started) (H : Type) (enc : TypeId × Value → H) :
    ReturnsInHanded {} Tryd.checked os 6 .any (fun w args => (Rows.fnExactSignsSpec.pre enc Tryd.prog Tryd.f6 [] false w args ∧ laidMetH Tryd.prog Rows.fnExactSignsRow.laid w) ∧ sizedMet enc Tryd.prog Tryd.f6 (OpenSpec.ofChange Rows.fnExactSignsSpec) false w args)
      (Rows.fnExactSignsSpec.post enc Tryd.prog Tryd.f6 false true false false) := by
  refine returnsInHanded_of_change_and (C := Tryd.checked) (X := fun w _ => laidMetH Tryd.prog Rows.fnExactSignsRow.laid w) (fun _ _ _ hh h => h.of_heap hh) own started (by kernel_rfl) Tryd.func6
    (ChangeSpec.witness_shaped (enc := enc) (C := Tryd.checked) (os := os) (X := fun w _ => laidMetH Tryd.prog Rows.fnExactSignsRow.laid w) false (World.laidAll Tryd.prog os Rows.fnExactSignsRow.laid) #[.string ⟨#[]⟩] 8 (World.laidAll_os _ _ _)
      (World.shaped_of_ZipB (by kernel_rfl) (by kernel_rfl)) (by kernel_rfl) (by kernel_rfl) (by kernel_rfl)
      (by rw [MakeChecks.laidMetH_plain _ _ _ (by kernel_rfl)]; exact laidMet_laidAll _ (by kernel_rfl) (by kernel_rfl))) ?_
  intro W base args ds gs before hval0 hW _ _ hL _
  have hval : ∀ (j : Nat) t v, Tryd.f6.params[j]? = some t → args[j]? = some v → Value.okWide Tryd.prog W .any base t v := hval0
  have hW' := hW
  obtain ⟨p, q, hA0, hV, rfl, hfz, hnd⟩ := hW
  have hA : DataW.TrodAll enc Tryd.prog W 0 (fun _ => true) true Tryd.f6.params.toList args.toList ds p := hA0
  rw [Tryd.params6] at hA hval
  obtain ⟨v0, vs0, d0, ds0, p0, q0, hargs, rfl, rfl, h0, r0⟩ := trodAll_cons hA
  obtain ⟨rfl, rfl, rfl⟩ := trodAll_nil r0
  obtain rfl : args = #[v0] := by cases args; simp_all
  obtain ⟨rfl, rfl⟩ := trodVars_none hV
  obtain ⟨a0, rfl, rfl, rfl, w0⟩ := open_string Tryd.underlying9 (hval 0 9 v0 rfl rfl) h0
  clear hA0 hval0
  simp only [List.append_nil] at hW'
  rw [MakeChecks.laidMetH_plain _ _ _ (by kernel_rfl)] at hL
  refine (walk a0 w0 W hL).mono fun e W' ⟨he, bel⟩ => ?_
  subst he
  exact ⟨_, rfl, _, _, _, [], [], [], hW', trodAll_mk1 (shut_bool Tryd.underlying4 _), (trodAll_cons_mk (shut_string Tryd.underlying9 w0) trodAll_mk0), rfl, bel.frame _, fun h => by cases h⟩

theorem said : Rows.FnExactSignsSaid :=
  OpenClaim.holds_of_wide 6 Tryd.f6 rfl rfl rfl rfl rfl rfl rfl ⟨rfl, rfl, rfl, rfl, rfl⟩ rfl rfl rfl rfl rfl (by kernel_rfl) Tryd.func6 (by kernel_rfl)
    (of_decide_eq_true (by kernel_rfl)) (by unfold Func.isWrapper; first | (rw [if_pos (by decide +kernel)]; kernel_rfl) | (rw [if_neg (by decide +kernel)]; exact ⟨rfl, rfl⟩))
    (fun os started H enc _ => lifted os started H enc)

theorem card : Rows.FnExactSignsCardSaid :=
  Claim7.holds_tied_plain_at .later [] _ _ _ _ said (fun _ h => by cases h) (by kernel_rfl) (fun _ h => by cases h) fnExactSigns_row_tie rfl ⟨rfl, rfl⟩ (by kernel_rfl) rfl
    (fun f fn hf hfn => by
      obtain rfl : f = 6 := Option.some.inj ((show Tryd.prog.funcNamed Rows.fnExactSignsRow.func = some 6 by kernel_rfl).symm.trans hf) |>.symm
      obtain rfl : fn = Tryd.f6 := (Option.some.inj (Tryd.func6.symm.trans hfn)).symm
      exact ⟨by kernel_rfl, fun j t ht => by
        rw [Tryd.params6] at ht
        have hm : t ∈ [9] := by simpa using Array.mem_of_getElem? ht
        have hall : ([9].all fun u => !Tryd.prog.wantsStandIn u) = true := by kernel_rfl
        exact (show Tryd.prog.wantsStandIn t = false by simpa using List.all_eq_true.1 hall t hm)⟩)
    (by kernel_rfl)

end Go.Proofs.YtkmpeoimdffipaaDoor.fnExactSigns
