/-
  impl.textKeys and impl.JsonFits at every value.
-/
import Derived.Test.YtnfbjcpoealkoaaGreatDoorPrettyJ37
import Derived.Test.YtnfbjcpoealkoaaGreatDoorPrettyJ41
import Derived.Test.YtnfbjcpoealkoaaGreatDoorPrettyJ42
namespace Go.Proofs.YtnfbjcpoealkoaaGreatDoor.val
open Go.ChangeShapes Go.WideShapes Go.ChangeAt Go.RowKit
open Go.Proofs.YtnfbjcpoealkoaaGreatDoor.node
set_option maxRecDepth 100000
attribute [local go_sem] Oper.semAt_some

set_option maxHeartbeats 1000000 in
theorem text_keys {w : World} {B : Nat} {t : LT} (h : In w B t) (hz : t.sz ≤ 1048576) (w' : World) (hb : Below B w w') (hB : B ≤ w'.heap.size) :
    Calls Tryz.prog 161 #[t.row] w' (OwnR (TextKeys t.kids) w') := by
  cases h with
  | mk hk hn he hs hl hc hkids =>
    rename_i k n e s a cap kids
    have hkl : kids.length ≤ 1048576 := by rw [LT.sz] at hz; have := len_sz kids; omega
    have HC := Lib.hid hc
    have HB := Lib.hid hb
    show Calls Tryz.prog 161 #[.slice a kids.length cap] w' (OwnR (TextKeys kids) w')
    have HV : Hid ((∀ i (h : i < kids.length), i % 2 = 0 → kids[i].k = 5) ↔ TextKeys kids) := Iff.rfl
    generalize TextKeys kids = V at *
    clear hc hb hz hkids hl hs hk hn he
    go_enter Tryz.func161, Tryz.ntmps161
    go_wp2_with fail
    go_loopw [3] (fun i wr => ∃ j : Nat, i = .int .i64 j ∧ j ≤ kids.length + 1 ∧ Hid (j % 2 = 0) ∧ Hid (∀ i (h : i < kids.length), i < j → i % 2 = 0 → kids[i].k = 5) ∧ Hid (Below w'.heap.size w' wr)) (fun i _ => kids.length + 2 - (intOf i).toNat)
    case atStart => exact ⟨0, rfl, by omega, rfl, fun i h h0 => by omega, Below.refl _ _⟩
    case round =>
      obtain ⟨j, rfl, hj, HE, HG, HW⟩ := hrel
      by_cases hlt : j < kids.length
      · have hj0 : (0 : Int) ≤ (j : Int) := by omega
        have hj1 : (j : Int) < (kids.length : Int) := by omega
        obtain ⟨x, rfl, hx, h5⟩ := HC.out j hlt
        obtain ⟨c0, c1, c2, c3, c4⟩ := h5.below (by rw [add_block]; exact hx) (HB.out.trans (HW.out.mono hB))
        by_cases hk : kids[j].k = 5
        · have HG2 : Hid (∀ i (h : i < kids.length), i < j + 2 → i % 2 = 0 → kids[i].k = 5) := fun i h h2 h3 => by
            by_cases hij : i < j
            · exact HG.out i h hij h3
            · have e : i = j := by have := HE.out; omega
              subst e; exact hk
          rw [hk] at c0
          clear h5 HG hk
          go_wp2
          go_roundw
          case rel => exact ⟨j + 2, by go_num, by omega, by have := HE.out; unfold Hid; omega, HG2, HW⟩
          case measure => simp [intOf]; omega
        · have HF : Hid (¬ V) := fun hv => hk (HV.out.2 hv j hlt HE.out)
          have hk1 : (kids[j].k == 5) = false := by simp [hk]
          have hk2 : (kids[j].k != 5) = true := by simp [hk]
          clear h5 HG
          generalize kids[j].k = K at *
          go_wp2
          go_ret
          exact ⟨false, rfl, ⟨fun h => (by cases h), fun h => (HF.out h).elim⟩, HW.out⟩
      · have hj1 : ¬ (j : Int) < (kids.length : Int) := by omega
        have HF : Hid V := HV.out.1 fun i h h2 => HG.out i h (by omega) h2
        clear HG HC HB
        go_wp2
        go_ret
        exact ⟨true, rfl, ⟨fun _ => HF.out, fun _ => rfl⟩, HW.out⟩
set_option maxHeartbeats 2000000 in
theorem json_fits (w : World) (t : LT) (h : In w w.heap.size t) (hsz : t.sz ≤ 1048576) (hT : signs.Tabs w) :
    Calls Tryz.prog 113 #[.agg #[.int .i64 t.k, .int .i64 t.n, .int .i64 t.e, .string t.s, t.row]] w (TellR (FitsJ t) w) := by
  have hz : t.nodes ≤ 2000000 := nodes_small t hsz
  have HIn := Lib.hid h
  have HZ := Lib.hid hz
  have HKEY : Hid (∀ (pre : List (Nat × LT)) (x : Nat × LT), pre ++ [x] <+: t.pre 0 → ∀ W, Below w.heap.size w W → Calls Tryz.prog 161 #[x.2.row] W (OwnR (TextKeys x.2.kids) W)) := fun pre x hp W hW => by
    obtain ⟨h1, h2⟩ := pre_in h 0 x (hp.subset (by simp))
    exact text_keys h1 (by omega) W hW hW.size
  have HNO : Hid (∀ (pre : List (Nat × LT)) (x : Nat × LT), pre ++ [x] <+: t.pre 0 → FitsJ t → NodeJ x.2) := fun pre x hp hv => hv.2 x (hp.subset (by simp))
  have HYES : Hid (ValidI t → (∀ y ∈ t.pre 0, NodeJ y.2) → FitsJ t) := fun h1 h2 => ⟨h1, h2⟩
  have HSM : Hid (FitsJ t → ValidI t) := fun hv => hv.1
  have HSZ : Hid (∀ W, Below w.heap.size w W → Calls Tryz.prog 153 #[.agg #[.int .i64 t.k, .int .i64 t.n, .int .i64 t.e, .string t.s, t.row]] W (TellR (ValidI t) W)) := fun W hb => value_any W t ((h.behind hb).mono hb.size) hsz (signs.tabs_below hT hb)
  generalize FitsJ t = V at *
  generalize ValidI t = Sm at *
  clear h hz hT hsz
  refine (callsIn_wide (n := 4)).1 ?_
  refine callsIn_of_wp_marks Tryz.func113 rfl trivial ?_ rfl
  simp only [Tryz.ntmps113, List.size_toArray, List.length_cons, List.length_nil, Nat.reduceAdd, Nat.reduceSub, Array.replicate_succ, Array.replicate_zero, List.push_toArray, List.append_toArray, List.nil_append, List.cons_append]
  gi_wp2_with fail
  refine ⟨trivial, ?_⟩
  have hb0 : Below w.heap.size w ((w.alloc (.cells #[.int .i64 t.k, .int .i64 t.n, .int .i64 t.e, .string t.s, t.row] 46)).alloc (.cells #[.bool false] 4)) := ((Below.refl _ _).alloc (Nat.le_refl _) _).alloc (by simp) _
  refine (callsIn_wide.2 (HSZ.out _ hb0)).mono ?_
  rintro e w1 ⟨b, rfl, hbv, hb1⟩
  have hx1 : Box w1 w.heap.size t := ((Box.new w t 46).of_block (Below.heap_alloc _ _ _ (by simp))).of_block (hb1.block _ (by simp; omega))
  have hr1 : One w1 (w.heap.size + 1) 4 (.bool false) := by
    have := heap_alloc_new (w.alloc (.cells #[.int .i64 t.k, .int .i64 t.n, .int .i64 t.e, .string t.s, t.row] 46)) (.cells #[.bool false] 4)
    unfold One
    rw [hb1.block _ (by simp)]
    simpa using this
  have hs1 : w.heap.size + 2 ≤ w1.heap.size := by have := hb1.size; simp at this; omega
  replace hb0 : Below w.heap.size w w1 := hb0.trans (hb1.mono (by simp; omega))
  clear HSZ hb1
  have HB0 := Lib.hid hb0
  have HR1 := Lib.hid hr1
  have HX1 := Lib.hid hx1
  have HS1 := Lib.hid hs1
  obtain ⟨c0, c1, c2, c3, c4⟩ := hx1
  have k1 := hr1.cell
  have k2 := hr1.frozen
  clear hb0 hr1 hs1
  cases b with
  | false =>
    have HF : Hid (¬ V) := fun hv => by have := hbv.2 (HSM.out hv); cases this
    clear hbv
    have HRS := Lib.hid (HR1.out.set (.bool false))
    have HBL := Lib.hid (HB0.out.setCell (p := ⟨w.heap.size + 1, 0, none⟩) (Nat.le_succ _) (.bool false))
    have k5 := HRS.out.cell
    gi_wp2
    exact ⟨.bool false, by simp [results, Tryz.results113, go_sem, k5], false, rfl, ⟨fun h => (by cases h), fun h => (HF.out h).elim⟩, HBL.out⟩
  | true =>
    have HSS : Hid Sm := hbv.1 rfl
    clear hbv
    gi_wp2_with (refine ⟨trivial, ?_⟩; gi_at_call 160; refine (callsIn_wide.2 (walk_any _ t)).mono ?_; rintro e w' ⟨rfl, rfl⟩)
    have hx0 : Box (w1.alloc (.cells #[.int .i64 t.k, .int .i64 t.n, .int .i64 t.e, .string t.s, t.row] 46)) w1.heap.size t := Box.new w1 t 46
    have hs0 : w.heap.size + 2 < (w1.alloc (.cells #[.int .i64 t.k, .int .i64 t.n, .int .i64 t.e, .string t.s, t.row] 46)).heap.size := by have := HS1.out; simp; omega
    have hb0 : Below w.heap.size w (w1.alloc (.cells #[.int .i64 t.k, .int .i64 t.n, .int .i64 t.e, .string t.s, t.row] 46)) := HB0.out.alloc (by have := HS1.out; omega) _
    have hr0 : One (w1.alloc (.cells #[.int .i64 t.k, .int .i64 t.n, .int .i64 t.e, .string t.s, t.row] 46)) (w.heap.size + 1) 4 (.bool false) := (Below.heap_alloc _ _ _ (by have := HS1.out; omega)).trans HR1.out
    generalize w1.alloc (.cells #[.int .i64 t.k, .int .i64 t.n, .int .i64 t.e, .string t.s, t.row] 46) = W0 at *
    generalize w1.heap.size = Bx at *
    have hIn0 := HIn.out.behind hb0
    have hz := HZ.out
    clear c0 c1 c2 c3 c4 k1 k2 HB0 HR1 HX1 HS1
    have HS : OkInv w W0 false := ⟨hr0, hb0, hs0⟩
    refine range_box (by decide) (Bx := Bx) (n₀ := w.heap.size) (t := t) rfl hz (by omega) hIn0 hx0 rfl (fun pre W => OkInv w W false ∧ ∀ y ∈ pre, NodeJ y.2) (fun c _ W => c = .ret ∧ OkInv w W false ∧ ¬ V)
      (fun _ A B hs hb => ⟨hs.1.kept hb (by omega), hs.2⟩) (fun _ _ A B hs hb => ⟨hs.1, hs.2.1.kept hb (by omega), hs.2.2⟩) ⟨HS, fun y hy => by simp at hy⟩
      (fun x W a' W' => a' = { tmps := #[.agg #[.int .i64 t.k, .int .i64 t.n, .int .i64 t.e, .string t.s, t.row], .pointer (some ⟨w.heap.size, 0, none⟩), .pointer (some ⟨w.heap.size + 1, 0, none⟩), undef, .pointer (some ⟨W.heap.size, 0, none⟩), .agg #[.int .i64 t.k, .int .i64 t.n, .int .i64 t.e, .string t.s, t.row], .bool true, .bool false, .agg #[.int .i64 t.k, .int .i64 t.n, .int .i64 t.e, .string t.s, t.row], .func (.func 189) #[] #[.pointer (some ⟨Bx, 0, none⟩)], .int .i64 (x.1 : Nat), .agg #[.int .i64 x.2.k, .int .i64 x.2.n, .int .i64 x.2.e, .string x.2.s, x.2.row], undef, undef, undef, undef, undef, undef, undef, undef, undef, undef, undef, undef, undef, undef, undef, undef, undef], defers := [] } ∧ W' = W.alloc (.cells #[.int .i64 x.2.k, .int .i64 x.2.n, .int .i64 x.2.e, .string x.2.s, x.2.row] 46))
      (fun x W a' W' h => by rw [h.2]; exact (Below.refl _ _).alloc (Nat.le_refl _) _) ?assign ?body ?done ?stop
    case assign =>
      intro l x W K hK
      have hrow : x.2.row = .slice x.2.a x.2.kids.length x.2.cap := rfl
      have HK := Lib.hid hK
      clear hK
      simp only [encs, hrow]
      clear hrow
      gi_wp2
      exact HK.out _ _ ⟨rfl, rfl⟩
    case body =>
      rintro l pre x V0 V' W a' hI hpre ⟨rfl, rfl⟩ hV hW
      have HCN := Lib.hid (HKEY.out pre x hpre)
      have HNP := Lib.hid (HNO.out pre x hpre)
      have HLV : Hid (NodeJ x.2 → ∀ y ∈ pre ++ [x], NodeJ y.2) := fun hx y hy => by
        rcases List.mem_append.1 hy with h | h
        · exact hI.2 y h
        · simp only [List.mem_singleton] at h
          rw [h]; exact hx
      obtain ⟨lv, x⟩ := x
      have hbx : W.heap[V0.heap.size]? = some (.cells #[.int .i64 x.k, .int .i64 x.n, .int .i64 x.e, .string x.s, x.row] 46 (0, 0)) := (hW _ (Nat.le_refl _)).trans (heap_alloc_new V0 _)
      have c0 : W.cell? ⟨V0.heap.size, 0, none⟩ = some (.int .i64 x.k) := cell_of_row W _ 0 _ _ (0, 0) hbx
      have c1 : W.cell? ⟨V0.heap.size, 1, none⟩ = some (.int .i64 x.n) := cell_of_row W _ 1 _ _ (0, 0) hbx
      have c2 : W.cell? ⟨V0.heap.size, 2, none⟩ = some (.int .i64 x.e) := cell_of_row W _ 2 _ _ (0, 0) hbx
      have c3 : W.cell? ⟨V0.heap.size, 3, none⟩ = some (.string x.s) := cell_of_row W _ 3 _ _ (0, 0) hbx
      have c4 : W.cell? ⟨V0.heap.size, 4, none⟩ = some x.row := cell_of_row W _ 4 _ _ (0, 0) hbx
      have HI := Lib.hid hI.1
      have HSZ := Lib.hid hs0
      clear hI hpre HS hr0 hb0 hs0 hx0 hz hIn0 hbx hW hV HKEY HNO HYES HSM
      have k1 := HI.out.res.cell
      have k2 := HI.out.res.frozen
      have HM0 : Hid (Mid w.heap.size W0.heap.size W W) := ⟨rfl, rfl, rfl, Nat.le_refl _, fun k hk _ => rfl⟩
      have HM3 : Hid (∀ v : Value, Mid w.heap.size W0.heap.size W (W.setCell ⟨w.heap.size + 1, 0, none⟩ v)) := fun v => mid_set W v (by omega) (by have := HSZ.out; omega)
      by_cases h6 : x.k = 6
      · have HF : Hid (¬ V) := fun hv => (HNP.out hv).1 h6
        rw [h6] at c0
        clear HLV HNP HCN
        gi_wp2
        exact ⟨HM3.out _, rfl, HI.out.set false, HF.out⟩
      have e6 : (x.k == 6) = false := by simp [h6]
      by_cases h9 : x.k = 9
      · have HF : Hid (¬ V) := fun hv => (HNP.out hv).2.1 h9
        rw [h9] at c0
        clear HLV HNP HCN h6 e6
        gi_wp2
        exact ⟨HM3.out _, rfl, HI.out.set false, HF.out⟩
      have e9 : (x.k == 9) = false := by simp [h9]
      by_cases h8 : x.k = 8
      · have HQ : Hid (¬ TextKeys x.kids → ¬ V) := fun hn hv => hn ((HNP.out hv).2.2 h8)
        have HY : Hid (TextKeys x.kids → ∀ y ∈ pre ++ [(lv, x)], NodeJ y.2) := fun hk => HLV.out ⟨h6, h9, fun _ => hk⟩
        have hrow : x.row = .slice x.a x.kids.length x.cap := rfl
        have HC := fun W hW => HCN.out W hW
        simp only at HC
        rw [hrow] at c4
        simp only [hrow] at HC
        replace HC := Lib.hid HC
        rw [h8] at c0
        clear HLV HNP HCN h6 h9 e6 e9 h8 hrow k1 k2 HM0 HM3
        gi_wp2_with fail
        refine ⟨trivial, ?_⟩
        refine (CallsIn.inRound l (callsIn_wide.2 (HC.out W HI.out.below))).mono ?_
        rintro e w2 ⟨b, rfl, hbi, hb2⟩
        have hI2 := HI.out.kept hb2 (by have := HI.out.size; omega)
        have k1 := hI2.res.cell
        have k2 := hI2.res.frozen
        have HI2 := Lib.hid hI2
        have HM2 : Hid (Mid w.heap.size W0.heap.size W w2) := ⟨hb2.os, hb2.tape, hb2.output, hb2.size, fun k hk _ => hb2.block k hk⟩
        have HM3 : Hid (∀ v : Value, Mid w.heap.size W0.heap.size w2 (w2.setCell ⟨w.heap.size + 1, 0, none⟩ v)) := fun v => mid_set w2 v (by omega) (by have := HSZ.out; omega)
        clear hI2 hb2 c0 c1 c2 c3 c4
        cases b with
        | true =>
          have HF := Lib.hid (HY.out (hbi.1 rfl))
          clear hbi HY HQ
          gi_wp2
          first
          | exact ⟨HM2.out, HI2.out, HF.out⟩
          | exact ⟨HM2.out, HI2.out, fun a b h => HF.out (a, b) h⟩
        | false =>
          have HF : Hid (¬ V) := HQ.out fun h => by have := hbi.2 h; cases this
          clear hbi HY HQ
          gi_wp2
          exact ⟨HM2.out.trans (HM3.out _), rfl, HI2.out.set false, HF.out⟩
      · have HF := Lib.hid (HLV.out ⟨h6, h9, fun h => (h8 h).elim⟩)
        have e8 : (x.k == 8) = false := by simp [h8]
        clear HLV HNP HCN
        gi_wp2
        refine ⟨trivial, ?_⟩
        gi_wp2
        first
        | exact ⟨HM0.out, HI.out, HF.out⟩
        | exact ⟨HM0.out, HI.out, fun a b h => HF.out (a, b) h⟩
    case done =>
      rintro D W hD ⟨hI, hv⟩ hK
      have HF : Hid V := HYES.out HSS.out hv
      have k3 := hI.res.cell
      have k4 := hI.res.frozen
      have hK2 : (W.setCell ⟨w.heap.size + 1, 0, none⟩ (.bool true)).heap[D]? = some (.deferred (some [])) := (blk_other _ (by omega)).trans hK
      have hrs : One ((W.setCell ⟨w.heap.size + 1, 0, none⟩ (.bool true)).putObj D (.deferred none)) (w.heap.size + 1) 4 (.bool true) := (World.putObj_heap_other (by omega)).trans (hI.res.set _)
      have HBL : Hid (Below w.heap.size w ((W.setCell ⟨w.heap.size + 1, 0, none⟩ (.bool true)).putObj D (.deferred none))) := (hI.below.setCell (p := ⟨w.heap.size + 1, 0, none⟩) (Nat.le_succ _) _).trans (below_put _ _ (by omega))
      have k5 := hrs.cell
      clear HS hr0 hx0 hb0 hz hI hD hs0 hIn0 hv HKEY HNO HYES HSM
      gi_wp2
      refine ⟨by simp, .inl ⟨_, _, rfl, run_takeDeferred hK2, ?_⟩⟩
      exact ⟨.bool true, by simp [results, Tryz.results113, go_sem, k5], true, rfl, ⟨fun _ => HF.out, fun _ => rfl⟩, HBL.out⟩
    case stop =>
      rintro D c p W hD hp ⟨rfl, hI, hnv⟩ hK
      have HF : Hid (¬ V) := hnv
      have hrs : One (W.putObj D (.deferred none)) (w.heap.size + 1) 4 (.bool false) := (World.putObj_heap_other (by omega)).trans hI.res
      have HBL : Hid (Below w.heap.size w (W.putObj D (.deferred none))) := hI.below.trans (below_put _ _ (by omega))
      have k5 := hrs.cell
      clear HS hr0 hx0 hb0 hz hI hD hs0 hIn0 hnv HKEY HNO HYES HSM
      gi_wp2
      refine ⟨by simp, .inl ⟨_, _, rfl, run_takeDeferred hK, ?_⟩⟩
      exact ⟨.bool false, by simp [results, Tryz.results113, go_sem, k5], false, rfl, ⟨fun h => (by cases h), fun h => (HF.out h).elim⟩, HBL.out⟩

end Go.Proofs.YtnfbjcpoealkoaaGreatDoor.val
/-
  What impl.jsonText and impl.PutJson return at every value.
-/
namespace Go.Proofs.YtnfbjcpoealkoaaGreatDoor.json
open Go.ChangeShapes Go.WideShapes Go.ChangeAt Go.RowKit
open Go.Proofs.YtnfbjcpoealkoaaGreatDoor.val Go.Proofs.YtnfbjcpoealkoaaGreatDoor.num Go.Proofs.YtnfbjcpoealkoaaGreatDoor.node
set_option maxRecDepth 100000

set_option maxHeartbeats 1000000 in
theorem text_any {w : World} {t : LT} (T : Tb w) (h : In w w.heap.size t) (hz : t.sz ≤ 1048576) (p : Bool)
    (CJ : ∀ W, Below w.heap.size w W → Calls Tryz.prog 113 #[.agg #[.int .i64 t.k, .int .i64 t.n, .int .i64 t.e, .string t.s, t.row]] W (OwnR (FitsJ t) W)) :
    Calls Tryz.prog 79 #[.agg #[.int .i64 t.k, .int .i64 t.n, .int .i64 t.e, .string t.s, t.row], .bool p] w fun r w'' => r = .returned (.string (jsonOf p t)) ∧ Below w.heap.size w w'' := by
  have hrow : t.row = .slice t.a t.kids.length t.cap := rfl
  have HA : Hid (Below w.heap.size w (w.alloc (.cells #[.int .i64 t.k, .int .i64 t.n, .int .i64 t.e, .string t.s, .slice t.a t.kids.length t.cap] 46))) := (Below.refl _ _).alloc (Nat.le_refl _) _
  have HX : Hid (Box (w.alloc (.cells #[.int .i64 t.k, .int .i64 t.n, .int .i64 t.e, .string t.s, .slice t.a t.kids.length t.cap] 46)) w.heap.size t) := Box.new w t 46
  have CP : Hid (FitsJ t → ∀ W b v, Below w.heap.size w W → w.heap.size ≤ b → Wj W b v [] p → Calls Tryz.prog 114 #[.pointer (some ⟨b, 0, none⟩), .agg #[.int .i64 t.k, .int .i64 t.n, .int .i64 t.e, .string t.s, t.row], .int .i64 ((0 : Nat) : Int)] W (PutR W b ([] ++ jsonT p 0 t) p)) := fun hf W b v hW hb hw => iput_any T h p (fits_good hf) hz 0 b v [] W (by have := ((valid_iff t).1 hf.1).2; omega) (by have := fits_len h p hf; simp; omega) hW hb hw
  have HY : Hid (FitsJ t → jsonOf p t = ⟨(jsonT p 0 t).toArray⟩) := fun hf => if_pos hf
  have HN : Hid (¬ FitsJ t → jsonOf p t = ⟨#[]⟩) := fun hf => if_neg hf
  replace CJ := Lib.hid CJ
  simp only [hrow] at CJ CP ⊢
  generalize jsonOf p t = R at *
  generalize jsonT p 0 t = T at *
  generalize FitsJ t = V at *
  clear h hz hrow
  go_enter Tryz.func79, Tryz.ntmps79
  go_wp2_with fail
  with_reducible refine (CJ.out _ HA.out).mono ?_
  rintro r w1 ⟨b, rfl, hbi, hb1⟩
  replace HX := Lib.hid (HX.out.behind hb1)
  have hlt1 : w.heap.size < w1.heap.size := by have := hb1.size; simp at this; omega
  replace HA := Lib.hid (below_of2 HA.out hb1)
  clear hb1 CJ
  obtain ⟨p0, p1, p2, p3, p4⟩ := HX.out
  unfold LT.row at p4
  cases b with
  | false =>
    have HF : Hid (R = ⟨#[]⟩) := HN.out fun hv => by have := hbi.2 hv; cases this
    clear hbi HY HN CP
    go_wp2
    go_ret
    exact ⟨by rw [HF.out]; rfl, HA.out⟩
  | true =>
    have HF : Hid (R = ⟨T.toArray⟩) := HY.out (hbi.1 rfl)
    have CP2 := Lib.hid (CP.out (hbi.1 rfl))
    clear hbi HY HN CP
    go_wp2_with fail
    have hWj : Wj (w1.alloc (.cells #[.slice none 0 0, .bool p] 141)) w1.heap.size (.slice none 0 0) [] p := ⟨heap_alloc_new w1 _, OwnL.nil _ _ _ _⟩
    have C3 := Lib.hid (CP2.out _ _ _ (HA.out.alloc (Nat.le_of_lt hlt1) (.cells #[.slice none 0 0, .bool p] 141)) (Nat.le_of_lt hlt1) hWj)
    rw [List.nil_append, show ((0 : Nat) : Int) = 0 from rfl] at C3
    clear hWj CP2
    with_reducible refine C3.out.mono ?_
    rintro r w2 ⟨⟨u, rfl⟩, ⟨v2, hw2⟩, hb2⟩
    obtain ⟨a2, d2, rfl, _⟩ := hw2.own.shape
    have q0 := hw2.c0
    have cv := run_string_own (P := Tryz.prog) 22 5 9 Tryz.underlying22 Tryz.underlying5 Tryz.underlying9 hw2.own
    have HB2 := Lib.hid ((HA.out.alloc (Nat.le_of_lt hlt1) (.cells #[.slice none 0 0, .bool p] 141)).trans (hb2.low.mono (Nat.le_of_lt hlt1)))
    clear hw2 hb2 C3 HX p0 p1 p2 p3 p4
    go_wp2
    go_ret
    exact ⟨by rw [HF.out]; rfl, HB2.out⟩
theorem impl_fits {w : World} {t : LT} (T : Tb w) (h : In w w.heap.size t) (hz : t.sz ≤ 1048576) (W : World) (hW : Below w.heap.size w W) : Calls Tryz.prog 113 #[.agg #[.int .i64 t.k, .int .i64 t.n, .int .i64 t.e, .string t.s, t.row]] W (OwnR (FitsJ t) W) :=
  json_fits W t ((h.behind hW).mono hW.size) hz (T.below hW).utf
set_option maxHeartbeats 1000000 in
theorem impl_putjson {w : World} {t : LT} (T : Tb w) (h : In w w.heap.size t) (hz : t.sz ≤ 1048576) :
    Calls Tryz.prog 38 #[.agg #[.int .i64 t.k, .int .i64 t.n, .int .i64 t.e, .string t.s, t.row]] w fun r w'' => r = .returned (.string (jsonOf false t)) ∧ Below w.heap.size w w'' := by
  have hrow : t.row = .slice t.a t.kids.length t.cap := rfl
  have HA : Hid (Below w.heap.size w (w.alloc (.cells #[.int .i64 t.k, .int .i64 t.n, .int .i64 t.e, .string t.s, .slice t.a t.kids.length t.cap] 46))) := (Below.refl _ _).alloc (Nat.le_refl _) _
  have C : Hid (∀ W, Below w.heap.size w W → Calls Tryz.prog 79 #[.agg #[.int .i64 t.k, .int .i64 t.n, .int .i64 t.e, .string t.s, t.row], .bool false] W fun r w'' => r = .returned (.string (jsonOf false t)) ∧ Below W.heap.size W w'') := fun W hW => by
    have hIW := (h.behind hW).mono hW.size
    exact text_any (T.below hW) hIW hz false (fun W' hW' => impl_fits (T.below hW) hIW hz W' hW')
  simp only [hrow] at C ⊢
  generalize jsonOf false t = R at *
  clear h hz hrow T
  go_enter Tryz.func38, Tryz.ntmps38
  go_wp2_with fail
  with_reducible refine (C.out _ HA.out).mono ?_
  rintro r w1 ⟨rfl, hb1⟩
  replace HA := Lib.hid (below_of2 HA.out hb1)
  clear hb1
  go_wp2
  go_ret
  exact ⟨rfl, HA.out⟩
end Go.Proofs.YtnfbjcpoealkoaaGreatDoor.json
