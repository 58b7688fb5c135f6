/-
  impl.CborFits at every value.
-/
import Derived.Test.YtkjffifdlckljaaDoorPathsJ38
namespace Go.Proofs.YtkjffifdlckljaaDoor.val
open Go.ChangeShapes Go.WideShapes Go.ChangeAt Go.RowKit
open Go.Proofs.YtkjffifdlckljaaDoor.node
set_option maxRecDepth 100000
attribute [local go_sem] Oper.semAt_some

/-- No tag 4. -/
def NoFour (x : LT) : Prop := ¬ (x.k = 9 ∧ x.n = 4)
def FitsC (t : LT) : Prop := ValidI t ∧ ∀ y ∈ t.pre 0, NoFour y.2
set_option maxHeartbeats 2000000 in
theorem cbor_fits (w : World) (t : LT) (h : In w w.heap.size t) (hsz : t.sz ≤ 1048576) (hT : signs.Tabs w) :
    Calls Tryd.prog 35 #[.agg #[.int .i64 t.k, .int .i64 t.n, .int .i64 t.e, .string t.s, t.row]] w (TellR (FitsC t) w) := by
  have hz : t.nodes ≤ 2000000 := nodes_small t hsz
  have HIn := Lib.hid h
  have HZ := Lib.hid hz
  have HNO : Hid (∀ (pre : List (Nat × LT)) (x : Nat × LT), pre ++ [x] <+: t.pre 0 → FitsC t → NoFour x.2) := fun pre x hp hv => hv.2 x (hp.subset (by simp))
  have HYES : Hid (ValidI t → (∀ y ∈ t.pre 0, NoFour y.2) → FitsC t) := fun h1 h2 => ⟨h1, h2⟩
  have HSM : Hid (FitsC t → ValidI t) := fun hv => hv.1
  have HSZ : Hid (∀ W, Below w.heap.size w W → Calls Tryd.prog 54 #[.agg #[.int .i64 t.k, .int .i64 t.n, .int .i64 t.e, .string t.s, t.row]] W (TellR (ValidI t) W)) := fun W hb => value_any W t ((h.behind hb).mono hb.size) hsz (signs.tabs_below hT hb)
  generalize FitsC t = V at *
  generalize ValidI t = Sm at *
  clear h hz hT hsz
  refine (callsIn_wide (n := 4)).1 ?_
  refine callsIn_of_wp_marks Tryd.func35 rfl trivial ?_ rfl
  simp only [Tryd.ntmps35, List.size_toArray, List.length_cons, List.length_nil, Nat.reduceAdd, Nat.reduceSub, Array.replicate_succ, Array.replicate_zero, List.push_toArray, List.append_toArray, List.nil_append, List.cons_append]
  gi_wp2_with fail
  refine ⟨trivial, ?_⟩
  have hb0 : Below w.heap.size w ((w.alloc (.cells #[.int .i64 t.k, .int .i64 t.n, .int .i64 t.e, .string t.s, t.row] 24)).alloc (.cells #[.bool false] 4)) := ((Below.refl _ _).alloc (Nat.le_refl _) _).alloc (by simp) _
  refine (callsIn_wide.2 (HSZ.out _ hb0)).mono ?_
  rintro e w1 ⟨b, rfl, hbv, hb1⟩
  have hx1 : Box w1 w.heap.size t := ((Box.new w t 24).of_block (Below.heap_alloc _ _ _ (by simp))).of_block (hb1.block _ (by simp; omega))
  have hr1 : One w1 (w.heap.size + 1) 4 (.bool false) := by
    have := heap_alloc_new (w.alloc (.cells #[.int .i64 t.k, .int .i64 t.n, .int .i64 t.e, .string t.s, t.row] 24)) (.cells #[.bool false] 4)
    unfold One
    rw [hb1.block _ (by simp)]
    simpa using this
  have hs1 : w.heap.size + 2 ≤ w1.heap.size := by have := hb1.size; simp at this; omega
  replace hb0 : Below w.heap.size w w1 := hb0.trans (hb1.mono (by simp; omega))
  clear HSZ hb1
  have HB0 := Lib.hid hb0
  have HR1 := Lib.hid hr1
  have HX1 := Lib.hid hx1
  have HS1 := Lib.hid hs1
  obtain ⟨c0, c1, c2, c3, c4⟩ := hx1
  have k1 := hr1.cell
  have k2 := hr1.frozen
  clear hb0 hr1 hs1
  cases b with
  | false =>
    have HF : Hid (¬ V) := fun hv => by have := hbv.2 (HSM.out hv); cases this
    clear hbv
    have HRS := Lib.hid (HR1.out.set (.bool false))
    have HBL := Lib.hid (HB0.out.setCell (p := ⟨w.heap.size + 1, 0, none⟩) (Nat.le_succ _) (.bool false))
    have k5 := HRS.out.cell
    gi_wp2
    exact ⟨.bool false, by simp [results, Tryd.results35, go_sem, k5], false, rfl, ⟨fun h => (by cases h), fun h => (HF.out h).elim⟩, HBL.out⟩
  | true =>
    have HSS : Hid Sm := hbv.1 rfl
    clear hbv
    gi_wp2_with (refine ⟨trivial, ?_⟩; gi_at_call 73; refine (callsIn_wide.2 (walk_any _ t)).mono ?_; rintro e w' ⟨rfl, rfl⟩)
    have hx0 : Box (w1.alloc (.cells #[.int .i64 t.k, .int .i64 t.n, .int .i64 t.e, .string t.s, t.row] 24)) w1.heap.size t := Box.new w1 t 24
    have hs0 : w.heap.size + 2 < (w1.alloc (.cells #[.int .i64 t.k, .int .i64 t.n, .int .i64 t.e, .string t.s, t.row] 24)).heap.size := by have := HS1.out; simp; omega
    have hb0 : Below w.heap.size w (w1.alloc (.cells #[.int .i64 t.k, .int .i64 t.n, .int .i64 t.e, .string t.s, t.row] 24)) := HB0.out.alloc (by have := HS1.out; omega) _
    have hr0 : One (w1.alloc (.cells #[.int .i64 t.k, .int .i64 t.n, .int .i64 t.e, .string t.s, t.row] 24)) (w.heap.size + 1) 4 (.bool false) := (Below.heap_alloc _ _ _ (by have := HS1.out; omega)).trans HR1.out
    generalize w1.alloc (.cells #[.int .i64 t.k, .int .i64 t.n, .int .i64 t.e, .string t.s, t.row] 24) = W0 at *
    generalize w1.heap.size = Bx at *
    have hIn0 := HIn.out.behind hb0
    have hz := HZ.out
    clear c0 c1 c2 c3 c4 k1 k2 HB0 HR1 HX1 HS1
    have HS : OkInv w W0 false := ⟨hr0, hb0, hs0⟩
    refine range_box (by decide) (Bx := Bx) (n₀ := w.heap.size) (t := t) rfl hz (by omega) hIn0 hx0 rfl (fun pre W => OkInv w W false ∧ ∀ y ∈ pre, NoFour y.2) (fun c _ W => c = .ret ∧ OkInv w W false ∧ ¬ V)
      (fun _ A B hs hb => ⟨hs.1.kept hb (by omega), hs.2⟩) (fun _ _ A B hs hb => ⟨hs.1, hs.2.1.kept hb (by omega), hs.2.2⟩) ⟨HS, fun y hy => by simp at hy⟩
      (fun x W a' W' => a' = { tmps := #[.agg #[.int .i64 t.k, .int .i64 t.n, .int .i64 t.e, .string t.s, t.row], .pointer (some ⟨w.heap.size, 0, none⟩), .pointer (some ⟨w.heap.size + 1, 0, none⟩), undef, .pointer (some ⟨W.heap.size, 0, none⟩), .agg #[.int .i64 t.k, .int .i64 t.n, .int .i64 t.e, .string t.s, t.row], .bool true, .bool false, .agg #[.int .i64 t.k, .int .i64 t.n, .int .i64 t.e, .string t.s, t.row], .func (.func 99) #[] #[.pointer (some ⟨Bx, 0, none⟩)], .int .i64 (x.1 : Nat), .agg #[.int .i64 x.2.k, .int .i64 x.2.n, .int .i64 x.2.e, .string x.2.s, x.2.row], undef, undef, undef, undef, undef, undef, undef, undef], defers := [] } ∧ W' = W.alloc (.cells #[.int .i64 x.2.k, .int .i64 x.2.n, .int .i64 x.2.e, .string x.2.s, x.2.row] 24))
      (fun x W a' W' h => by rw [h.2]; exact (Below.refl _ _).alloc (Nat.le_refl _) _) ?assign ?body ?done ?stop
    case assign =>
      intro l x W K hK
      have hrow : x.2.row = .slice x.2.a x.2.kids.length x.2.cap := rfl
      have HK := Lib.hid hK
      clear hK
      simp only [encs, hrow]
      clear hrow
      gi_wp2
      exact HK.out _ _ ⟨rfl, rfl⟩
    case body =>
      rintro l pre x V0 V' W a' hI hpre ⟨rfl, rfl⟩ hV hW
      have HNP := Lib.hid (HNO.out pre x hpre)
      have HLV : Hid (NoFour x.2 → ∀ y ∈ pre ++ [x], NoFour y.2) := fun hx y hy => by
        rcases List.mem_append.1 hy with h | h
        · exact hI.2 y h
        · simp only [List.mem_singleton] at h
          rw [h]; exact hx
      obtain ⟨lv, x⟩ := x
      have hbx : W.heap[V0.heap.size]? = some (.cells #[.int .i64 x.k, .int .i64 x.n, .int .i64 x.e, .string x.s, x.row] 24 (0, 0)) := (hW _ (Nat.le_refl _)).trans (heap_alloc_new V0 _)
      have c0 : W.cell? ⟨V0.heap.size, 0, none⟩ = some (.int .i64 x.k) := cell_of_row W _ 0 _ _ (0, 0) hbx
      have c1 : W.cell? ⟨V0.heap.size, 1, none⟩ = some (.int .i64 x.n) := cell_of_row W _ 1 _ _ (0, 0) hbx
      have c2 : W.cell? ⟨V0.heap.size, 2, none⟩ = some (.int .i64 x.e) := cell_of_row W _ 2 _ _ (0, 0) hbx
      have c3 : W.cell? ⟨V0.heap.size, 3, none⟩ = some (.string x.s) := cell_of_row W _ 3 _ _ (0, 0) hbx
      have c4 : W.cell? ⟨V0.heap.size, 4, none⟩ = some x.row := cell_of_row W _ 4 _ _ (0, 0) hbx
      have HI := Lib.hid hI.1
      have HSZ := Lib.hid hs0
      clear hI hpre HS hr0 hb0 hs0 hx0 hz hIn0 hbx hW hV HNO HYES HSM
      have k1 := HI.out.res.cell
      have k2 := HI.out.res.frozen
      have HM0 : Hid (Mid w.heap.size W0.heap.size W W) := ⟨rfl, rfl, rfl, Nat.le_refl _, fun k hk _ => rfl⟩
      have HM3 : Hid (∀ v : Value, Mid w.heap.size W0.heap.size W (W.setCell ⟨w.heap.size + 1, 0, none⟩ v)) := fun v => mid_set W v (by omega) (by have := HSZ.out; omega)
      by_cases h9 : x.k = 9
      · by_cases h4 : x.n = 4
        · have HF : Hid (¬ V) := fun hv => HNP.out hv ⟨h9, h4⟩
          rw [h9] at c0
          rw [h4] at c1
          clear HLV HNP
          gi_wp2
          exact ⟨HM3.out _, rfl, HI.out.set false, HF.out⟩
        · have HF := Lib.hid (HLV.out (fun h => h4 h.2))
          have e4 : (x.n == 4) = false := by simp [h4]
          rw [h9] at c0
          clear HLV HNP h9
          gi_wp2
          first
          | exact ⟨HM0.out, HI.out, HF.out⟩
          | exact ⟨HM0.out, HI.out, fun a b h => HF.out (a, b) h⟩
      · have HF := Lib.hid (HLV.out (fun h => h9 h.1))
        have e9 : (x.k == 9) = false := by simp [h9]
        clear HLV HNP
        gi_wp2
        first
        | exact ⟨HM0.out, HI.out, HF.out⟩
        | exact ⟨HM0.out, HI.out, fun a b h => HF.out (a, b) h⟩
    case done =>
      rintro D W hD ⟨hI, hv⟩ hK
      have HF : Hid V := HYES.out HSS.out hv
      have k3 := hI.res.cell
      have k4 := hI.res.frozen
      have hK2 : (W.setCell ⟨w.heap.size + 1, 0, none⟩ (.bool true)).heap[D]? = some (.deferred (some [])) := (blk_other _ (by omega)).trans hK
      have hrs : One ((W.setCell ⟨w.heap.size + 1, 0, none⟩ (.bool true)).putObj D (.deferred none)) (w.heap.size + 1) 4 (.bool true) := (World.putObj_heap_other (by omega)).trans (hI.res.set _)
      have HBL : Hid (Below w.heap.size w ((W.setCell ⟨w.heap.size + 1, 0, none⟩ (.bool true)).putObj D (.deferred none))) := (hI.below.setCell (p := ⟨w.heap.size + 1, 0, none⟩) (Nat.le_succ _) _).trans (below_put _ _ (by omega))
      have k5 := hrs.cell
      clear HS hr0 hx0 hb0 hz hI hD hs0 hIn0 hv HNO HYES HSM
      gi_wp2
      refine ⟨by simp, .inl ⟨_, _, rfl, run_takeDeferred hK2, ?_⟩⟩
      exact ⟨.bool true, by simp [results, Tryd.results35, go_sem, k5], true, rfl, ⟨fun _ => HF.out, fun _ => rfl⟩, HBL.out⟩
    case stop =>
      rintro D c p W hD hp ⟨rfl, hI, hnv⟩ hK
      have HF : Hid (¬ V) := hnv
      have hrs : One (W.putObj D (.deferred none)) (w.heap.size + 1) 4 (.bool false) := (World.putObj_heap_other (by omega)).trans hI.res
      have HBL : Hid (Below w.heap.size w (W.putObj D (.deferred none))) := hI.below.trans (below_put _ _ (by omega))
      have k5 := hrs.cell
      clear HS hr0 hx0 hb0 hz hI hD hs0 hIn0 hnv HNO HYES HSM
      gi_wp2
      refine ⟨by simp, .inl ⟨_, _, rfl, run_takeDeferred hK, ?_⟩⟩
      exact ⟨.bool false, by simp [results, Tryd.results35, go_sem, k5], false, rfl, ⟨fun h => (by cases h), fun h => (HF.out h).elim⟩, HBL.out⟩

end Go.Proofs.YtkjffifdlckljaaDoor.val
/-
  spec.l05Four and spec.CborFits at every value.
-/
namespace Go.Proofs.YtkjffifdlckljaaDoor.node
open Go.ChangeShapes Go.WideShapes Go.ChangeAt Go.RowKit
open Go.Proofs.YtkjffifdlckljaaDoor.val Go.Proofs.YtkjffifdlckljaaDoor.num
set_option maxRecDepth 100000

mutual
/-- A tag 4 stands in a value. -/
def FourT : LT → Prop
  | .mk k n _ _ _ _ kids => (k = 9 ∧ n = 4) ∨ FourL kids
def FourL : List LT → Prop
  | [] => False
  | t :: ts => FourT t ∨ FourL ts
end
theorem fourL_take (l : List LT) : ∀ j (h : j < l.length), FourL (l.take (j + 1)) ↔ FourL (l.take j) ∨ FourT l[j] := by
  induction l with
  | nil => intro j h; simp at h
  | cons x l ih =>
    intro j h
    cases j with
    | zero => simp [FourL]
    | succ j =>
      have h' : j < l.length := by simpa using h
      rw [List.take_succ_cons, List.take_succ_cons, FourL, FourL, ih j h', List.getElem_cons_succ, or_assoc]
theorem fourL_mem {l : List LT} {j : Nat} (hj : j < l.length) (h : FourT l[j]) : FourL l := by
  induction l generalizing j with
  | nil => simp at hj
  | cons x l ih =>
    rw [FourL]
    cases j with
    | zero => exact .inl h
    | succ j => exact .inr (ih (by simpa using hj) (by simpa using h))
mutual
theorem four_pre : ∀ (t : LT) (d : Nat), FourT t ↔ ∃ y ∈ t.pre d, ¬ NoFour y.2
  | .mk k n e s a cap kids, d => by
    rw [FourT, LT.pre, fourL_pre kids (d + 1)]
    constructor
    · rintro (h | ⟨y, hy, h⟩)
      · exact ⟨_, List.mem_cons_self .., fun hn => hn h⟩
      · exact ⟨y, List.mem_cons_of_mem _ hy, h⟩
    · rintro ⟨y, hy, h⟩
      rcases List.mem_cons.1 hy with rfl | hy
      · exact .inl (Classical.not_not.1 h)
      · exact .inr ⟨y, hy, h⟩
theorem fourL_pre : ∀ (l : List LT) (d : Nat), FourL l ↔ ∃ y ∈ preL d l, ¬ NoFour y.2
  | [], d => by rw [FourL, preL]; simp
  | t :: ts, d => by
    rw [FourL, preL, four_pre t d, fourL_pre ts d]
    constructor
    · rintro (⟨y, hy, h⟩ | ⟨y, hy, h⟩)
      · exact ⟨y, List.mem_append_left _ hy, h⟩
      · exact ⟨y, List.mem_append_right _ hy, h⟩
    · rintro ⟨y, hy, h⟩
      rcases List.mem_append.1 hy with hy | hy
      · exact .inl ⟨y, hy, h⟩
      · exact .inr ⟨y, hy, h⟩
end
def FourC (w : World) (B : Nat) (t : LT) : Prop := t.sz ≤ 1048576 → ∀ w', Below B w w' → B ≤ w'.heap.size →
  Calls Tryd.prog 74 #[.agg #[.int .i64 t.k, .int .i64 t.n, .int .i64 t.e, .string t.s, t.row]] w' (OwnR (FourT t) w')
set_option maxHeartbeats 2000000 in
theorem four_any {w : World} {B : Nat} {t : LT} (h : In w B t) : FourC w B t := by
  induction h with
  | mk hk hn he hs hl hc hkids ih =>
    rename_i k n e s a cap kids
    intro hz w' hb hB
    have HC := Lib.hid hc
    have IH := Lib.hid ih
    have HB := Lib.hid hb
    have HZK : Hid (LT.szL kids ≤ 1048576) := by rw [LT.sz] at hz; unfold Hid; omega
    have hkl : kids.length ≤ 1048576 := Nat.le_trans (len_sz kids) HZK.out
    have HA : Hid (Below w'.heap.size w' (w'.alloc (.cells #[.int .i64 k, .int .i64 n, .int .i64 e, .string s, .slice a kids.length cap] 24))) := (Below.refl _ _).alloc (Nat.le_refl _) _
    have HBA : Hid (Below (w'.heap.size + 1) (w'.alloc (.cells #[.int .i64 k, .int .i64 n, .int .i64 e, .string s, .slice a kids.length cap] 24)) (w'.alloc (.cells #[.int .i64 k, .int .i64 n, .int .i64 e, .string s, .slice a kids.length cap] 24))) := Below.refl _ _
    have HR : Hid (FourT (.mk k n e s a cap kids) ↔ (k = 9 ∧ n = 4) ∨ FourL kids) := by unfold Hid; rw [FourT]
    unfold LT.row
    simp only [LT.k, LT.n, LT.e, LT.s, LT.a, LT.cap, LT.kids]
    generalize FourT (.mk k n e s a cap kids) = R at *
    clear hc ih hkids hb hz hl hs hk hn he
    by_cases h9 : k = 9 ∧ n = 4
    · obtain ⟨rfl, rfl⟩ := h9
      have HF : Hid R := HR.out.2 (.inl ⟨rfl, rfl⟩)
      go_enter Tryd.func74, Tryd.ntmps74
      go_wp2
      go_ret
      exact ⟨true, rfl, ⟨fun _ => HF.out, fun _ => rfl⟩, HA.out⟩
    · have HR2 : Hid (R ↔ FourL kids) := HR.out.trans ⟨fun h => h.resolve_left h9, .inr⟩
      have hk9 : k = 9 → ¬ n = 4 := fun h h' => h9 ⟨h, h'⟩
      clear HR h9
      have start : ∀ {P : Prop}, ((k = 9 ∧ ¬ n = 4) → P) → (¬ k = 9 → P) → P := fun h1 h2 => by
        by_cases h : k = 9
        · exact h1 ⟨h, hk9 h⟩
        · exact h2 h
      clear hk9
      refine start (fun h9 => ?_) (fun h9 => ?_)
      all_goals
        clear start
        try (obtain ⟨rfl, h4⟩ := h9; have h4' : (n == 4) = false := by simp [h4])
        try (have h9' : (k == 9) = false := by simp [h9])
        go_enter Tryd.func74, Tryd.ntmps74
        go_wp2_with fail
        go_loopw [3] (fun i wr => ∃ j : Nat, i = .int .i64 j ∧ j ≤ kids.length ∧ Hid (¬ FourL (kids.take j)) ∧ w'.heap.size + 1 ≤ wr.heap.size ∧ Hid (Below (w'.heap.size + 1) (w'.alloc (.cells #[.int .i64 _, .int .i64 n, .int .i64 e, .string s, .slice a kids.length cap] 24)) wr)) (fun i _ => kids.length - (intOf i).toNat)
        case atStart => exact ⟨0, rfl, by omega, by simp [Hid, FourL], by simp, HBA⟩
        case round =>
          clear HBA
          obtain ⟨j, rfl, hj, HL, hwz, HW⟩ := hrel
          obtain ⟨x0, x4⟩ := held4_of HW.out
          by_cases hlt : j < kids.length
          · have hj0 : (0 : Int) ≤ (j : Int) := by omega
            have hj1 : (j : Int) < (kids.length : Int) := by omega
            obtain ⟨x, rfl, hx, h5⟩ := HC.out j hlt
            have hbr := HB.out.trans ((HA.out.trans (HW.out.mono (by omega))).mono hB)
            obtain ⟨c0, c1, c2, c3, c4⟩ := h5.below (by rw [add_block]; exact hx) hbr
            have C := IH.out j hlt (by have := (kid_sz kids j hlt).1; have := HZK.out; omega) wr hbr (by omega)
            have HNX : Hid (¬ FourT kids[j] → ¬ FourL (kids.take (j + 1))) := fun h h' => ((fourL_take kids j hlt).1 h').elim HL.out h
            have HNO : Hid (FourT kids[j] → R) := fun h => HR2.out.2 (fourL_mem hlt h)
            generalize FourT kids[j] = Q at *
            generalize kids[j] = t at *
            have hrow : t.row = .slice t.a t.kids.length t.cap := rfl
            rw [hrow] at C c4
            replace C := Lib.hid C
            clear h5 hbr HC IH HB hrow
            go_wp2_with fail
            with_reducible refine C.out.mono ?_
            rintro e w1 ⟨b, rfl, hbi, hb1⟩
            have HW1 := Lib.hid (HW.out.trans (hb1.mono (by omega)))
            have hz1 := Nat.le_trans hwz hb1.size
            clear C hb1 c0 c1 c2 c3 c4 HW x0 x4
            cases b with
            | true =>
              have HF : Hid R := HNO.out (hbi.1 rfl)
              have HBF := Lib.hid (HA.out.trans (HW1.out.mono (by omega)))
              clear hbi
              go_wp2
              go_ret
              exact ⟨true, rfl, ⟨fun _ => HF.out, fun _ => rfl⟩, HBF.out⟩
            | false =>
              have HN : Hid (¬ FourL (kids.take (j + 1))) := HNX.out fun h => by have := hbi.2 h; cases this
              clear hbi
              go_wp2
              go_roundw
              case rel => exact ⟨j + 1, by go_num, by omega, HN, hz1, HW1⟩
              case measure => simp [intOf]; omega
          · have hj1 : ¬ (j : Int) < (kids.length : Int) := by omega
            have he : j = kids.length := by omega
            subst he
            have HF : Hid (¬ R) := fun h => HL.out (by rw [List.take_length]; exact HR2.out.1 h)
            have HBF := Lib.hid (HA.out.trans (HW.out.mono (by omega)))
            clear HC IH HB
            go_wp2
            go_ret
            exact ⟨false, rfl, ⟨fun h => (by cases h), fun h => (HF.out h).elim⟩, HBF.out⟩
end Go.Proofs.YtkjffifdlckljaaDoor.node
