/-
  impl.sizeOk and impl.ValueOk at a number.
-/
import Derived.Test.YthjholhjkahdkaaNodeNum
import Derived.Test.YthjholhjkahdkaaRangeBox
namespace Go.Proofs.Ythjholhjkahdkaa.val
open Go.ChangeShapes Go.WideShapes Go.ChangeAt Go.RowKit
set_option maxRecDepth 100000
attribute [local go_sem] Oper.semAt_some

theorem pre_one {t : LT} (h : t.kids.length = 0) : t.pre 0 = [(0, t)] := by
  obtain ⟨k, n, e, s, a, cap, kids⟩ := t
  have h' : kids = [] := List.eq_nil_of_length_eq_zero h
  subst h'
  rw [LT.pre, preL]
structure SizeOne (w W : World) (m : Nat) : Prop where
  many : One W (w.heap.size + 1 + 1) 3 (.int .i64 m)
  res : ∃ b : Bool, One W (w.heap.size + 1) 4 (.bool b)
  below : Below w.heap.size w W
  size : w.heap.size + 2 < W.heap.size
theorem SizeOne.kept {w W W' : World} {B m : Nat} (h : SizeOne w W m) (hb : Below B W W') (hB : w.heap.size + 4 ≤ B) : SizeOne w W' m := by
  obtain ⟨hm, ⟨b, hr⟩, h3, h4⟩ := h
  exact ⟨hm.below hb (by omega), ⟨b, hr.below hb (by omega)⟩, h3.trans (hb.mono (by omega)), Nat.lt_of_lt_of_le h4 hb.size⟩
theorem SizeOne.one {w W : World} (h : SizeOne w W 0) : SizeOne w (W.setCell ⟨w.heap.size + 1 + 1, 0, none⟩ (.int .i64 1)) 1 := by
  obtain ⟨hm, ⟨b, hr⟩, h3, h4⟩ := h
  exact ⟨hm.set _, ⟨b, hr.other _ (by omega)⟩, h3.setCell (p := ⟨w.heap.size + 1 + 1, 0, none⟩) (by show w.heap.size ≤ w.heap.size + 1 + 1; omega) _, by rw [set_size]; exact h4⟩

set_option maxHeartbeats 2000000 in
theorem size_one (w : World) (t : LT) (h : In w w.heap.size t) (hk : t.kids.length = 0) :
    Calls Try.prog 44 #[.agg #[.int .i64 t.k, .int .i64 t.n, .int .i64 t.e, .string t.s, t.row]] w fun e w' => e = .returned (.bool true) ∧ Below w.heap.size w w' := by
  have hp := Lib.hid (pre_one hk)
  have hz : t.nodes ≤ 2000000 := by rw [← pre_len 0 t, hp.out]; simp
  clear hk
  refine (callsIn_wide (n := 4)).1 ?_
  refine callsIn_of_wp_marks Try.func44 rfl trivial ?_ rfl
  simp only [Try.ntmps44, List.size_toArray, List.length_cons, List.length_nil, Nat.reduceAdd, Nat.reduceSub, Array.replicate_succ, Array.replicate_zero, List.push_toArray, List.append_toArray, List.nil_append, List.cons_append]
  have HIn := Lib.hid h
  clear h
  gi_wp2_with (refine ⟨trivial, ?_⟩; gi_at_call 45; refine (callsIn_wide.2 (walk_any _ t)).mono ?_; rintro e w' ⟨rfl, rfl⟩)
  obtain ⟨W0, hW0⟩ : ∃ W0, (((w.alloc (.cells #[.int .i64 t.k, .int .i64 t.n, .int .i64 t.e, .string t.s, t.row] 26)).alloc (.cells #[.bool false] 4)).alloc (.cells #[.int .i64 0] 3)).alloc (.cells #[.int .i64 t.k, .int .i64 t.n, .int .i64 t.e, .string t.s, t.row] 26) = W0 := ⟨_, rfl⟩
  have hs0 : W0.heap.size = w.heap.size + 4 := by rw [← hW0]; simp
  have hb0 : Below w.heap.size w W0 := by rw [← hW0]; exact ((((Below.refl _ _).alloc (Nat.le_refl _) _).alloc (by simp) _).alloc (by simp; omega) _).alloc (by simp; omega) _
  have hx0 : Box W0 (w.heap.size + 1 + 1 + 1) t := by
    have := Box.new (((w.alloc (.cells #[.int .i64 t.k, .int .i64 t.n, .int .i64 t.e, .string t.s, t.row] 26)).alloc (.cells #[.bool false] 4)).alloc (.cells #[.int .i64 0] 3)) t 26
    rw [hW0] at this
    simpa using this
  have hr0 : One W0 (w.heap.size + 1) 4 (.bool false) := by
    have := heap_alloc_new (w.alloc (.cells #[.int .i64 t.k, .int .i64 t.n, .int .i64 t.e, .string t.s, t.row] 26)) (.cells #[.bool false] 4)
    rw [← hW0]
    unfold One
    rw [Below.heap_alloc _ _ _ (by simp), Below.heap_alloc _ _ _ (by simp)]
    simpa using this
  have hm0 : One W0 (w.heap.size + 1 + 1) 3 (.int .i64 0) := by
    have := heap_alloc_new ((w.alloc (.cells #[.int .i64 t.k, .int .i64 t.n, .int .i64 t.e, .string t.s, t.row] 26)).alloc (.cells #[.bool false] 4)) (.cells #[.int .i64 0] 3)
    rw [← hW0]
    unfold One
    rw [Below.heap_alloc _ _ _ (by simp)]
    simpa using this
  rw [hW0]
  clear hW0
  have HS : SizeOne w W0 0 := ⟨hm0, ⟨_, hr0⟩, hb0, by omega⟩
  refine range_walk (by decide) (Bx := w.heap.size + 1 + 1 + 1) (n₀ := w.heap.size) (t := t) rfl hz (by omega) (HIn.out.behind hb0) hx0 rfl (fun pre W => SizeOne w W pre.length) (fun _ _ _ => False)
    (fun _ A B hs hb => hs.kept hb (by omega)) (fun _ _ _ _ hs _ => hs) HS
    (fun x => { tmps := #[.agg #[.int .i64 t.k, .int .i64 t.n, .int .i64 t.e, .string t.s, t.row], .pointer (some ⟨w.heap.size, 0, none⟩), .pointer (some ⟨w.heap.size + 1, 0, none⟩), .pointer (some ⟨w.heap.size + 1 + 1, 0, none⟩), .int .i64 (x.1 : Nat), .agg #[.int .i64 t.k, .int .i64 t.n, .int .i64 t.e, .string t.s, t.row], .func (.func 52) #[] #[.pointer (some ⟨w.heap.size + 1 + 1 + 1, 0, none⟩)], .int .i64 (x.1 : Nat), .agg #[.int .i64 x.2.k, .int .i64 x.2.n, .int .i64 x.2.e, .string x.2.s, x.2.row], undef, undef, undef, undef, undef, undef, undef, undef], defers := [] }) ?assign ?body ?done ?stop
  case assign =>
    intro l x W K hK
    simp only [encs]
    gi_wp2
    exact hK
  case body =>
    intro l pre x W hI hpre
    obtain ⟨rfl, rfl⟩ : pre = [] ∧ x = (0, t) := by
      rw [hp.out] at hpre
      have h1 := hpre.length_le
      rw [List.length_append] at h1
      simp only [List.length_cons, List.length_nil] at h1
      have h2 : pre = [] := List.eq_nil_of_length_eq_zero (by omega)
      subst h2
      exact ⟨rfl, by simpa using hpre⟩
    have HI := Lib.hid hI
    obtain ⟨hm, ⟨b, hr⟩, _, _⟩ := hI
    have k1 := hm.cell
    have k2 := hm.frozen
    have k3 := hr.cell
    have k4 := hr.frozen
    have M2 : Hid (∀ (W : World) (v : Value), Mid w.heap.size W0.heap.size W (W.setCell ⟨w.heap.size + 1 + 1, 0, none⟩ v)) := fun W v => mid_set W v (by omega) (by omega)
    clear hm hr hs0 HS hm0 hr0 hx0 hb0 hz hpre
    gi_wp2
    exact ⟨M2.out _ _, HI.out.one⟩
  case done =>
    intro D W hD hI hK
    obtain ⟨b, hr⟩ := hI.res
    have k3 := hr.cell
    have k4 := hr.frozen
    have hK2 : (W.setCell ⟨w.heap.size + 1, 0, none⟩ (.bool true)).heap[D]? = some (.deferred (some [])) := (blk_other _ (by omega)).trans hK
    have hrs : One ((W.setCell ⟨w.heap.size + 1, 0, none⟩ (.bool true)).putObj D (.deferred none)) (w.heap.size + 1) 4 (.bool true) := (World.putObj_heap_other (by omega)).trans (hr.set _)
    have HBL : Hid (Below w.heap.size w ((W.setCell ⟨w.heap.size + 1, 0, none⟩ (.bool true)).putObj D (.deferred none))) := (hI.below.setCell (p := ⟨w.heap.size + 1, 0, none⟩) (Nat.le_succ _) _).trans (below_put _ _ (by omega))
    have k5 := hrs.cell
    clear hs0 HS hm0 hr0 hx0 hb0 hz hr hI hD
    gi_wp2
    refine ⟨by simp, .inl ⟨_, _, rfl, run_takeDeferred hK2, ?_⟩⟩
    exact ⟨.bool true, by simp [results, Try.results44, go_sem, k5], rfl, HBL.out⟩
  case stop =>
    rintro D c p W hD hp hI hK
    exact hI.elim

theorem pre_head (t : LT) : ∃ rest, t.pre 0 = (0, t) :: rest := by
  obtain ⟨k, n, e, s, a, cap, kids⟩ := t
  exact ⟨_, by rw [LT.pre]⟩
structure OkInv (w W : World) (b : Bool) : Prop where
  res : One W (w.heap.size + 1) 4 (.bool b)
  below : Below w.heap.size w W
  size : w.heap.size + 2 < W.heap.size
theorem OkInv.kept {w W W' : World} {B : Nat} {b : Bool} (h : OkInv w W b) (hb : Below B W W') (hB : w.heap.size + 2 ≤ B) : OkInv w W' b :=
  ⟨h.res.below hb (by omega), h.below.trans (hb.mono (by omega)), Nat.lt_of_lt_of_le h.size hb.size⟩
theorem OkInv.set {w W : World} {b : Bool} (h : OkInv w W b) (c : Bool) : OkInv w (W.setCell ⟨w.heap.size + 1, 0, none⟩ (.bool c)) c :=
  ⟨h.res.set _, h.below.setCell (p := ⟨w.heap.size + 1, 0, none⟩) (Nat.le_succ _) _, by rw [set_size]; exact h.size⟩
open Go.Proofs.Ythjholhjkahdkaa.num in
set_option maxHeartbeats 2000000 in
theorem value_num (w : World) (t : LT) (h : In w w.heap.size t) (hz : t.nodes ≤ 2000000) (hk : t.k = 3 ∨ t.k = 4) :
    Calls Try.prog 33 #[.agg #[.int .i64 t.k, .int .i64 t.n, .int .i64 t.e, .string t.s, t.row]] w fun e w' => e = .returned (.bool (numOk t)) ∧ Below w.heap.size w w' := by
  have HIn := Lib.hid h
  have HZ := Lib.hid hz
  have HN := Lib.hid (fun W => node_ok t hk W)
  have HV : Hid (numOk t = true → t.kids.length = 0) := fun h => by
    unfold numOk at h
    simp only [Bool.and_eq_true, decide_eq_true_eq] at h
    exact h.1.2
  have HSZ : Hid (∀ W, Below w.heap.size w W → Calls Try.prog 44 #[.agg #[.int .i64 t.k, .int .i64 t.n, .int .i64 t.e, .string t.s, t.row]] W fun e w'' => ∃ b : Bool, (b = false → numOk t = false) ∧ e = .returned (.bool b) ∧ Below W.heap.size W w'') := fun W hb => by
    by_cases h0 : t.kids.length = 0
    · exact (size_one W t ((h.behind hb).mono hb.size) h0).mono fun e w' ⟨h1, h2⟩ => ⟨true, fun h => (by cases h), h1, h2⟩
    · exact (size_run h hz hb).mono fun e w' ⟨b, h1, h2⟩ => ⟨b, fun _ => by
        cases hv : numOk t with
        | true => exact absurd (HV.out hv) h0
        | false => rfl, h1, h2⟩
  generalize numOk t = V at *
  clear h hz hk
  refine (callsIn_wide (n := 4)).1 ?_
  refine callsIn_of_wp_marks Try.func33 rfl trivial ?_ rfl
  simp only [Try.ntmps33, List.size_toArray, List.length_cons, List.length_nil, Nat.reduceAdd, Nat.reduceSub, Array.replicate_succ, Array.replicate_zero, List.push_toArray, List.append_toArray, List.nil_append, List.cons_append]
  gi_wp2_with fail
  refine ⟨trivial, ?_⟩
  have hb0 : Below w.heap.size w ((w.alloc (.cells #[.int .i64 t.k, .int .i64 t.n, .int .i64 t.e, .string t.s, t.row] 26)).alloc (.cells #[.bool false] 4)) := ((Below.refl _ _).alloc (Nat.le_refl _) _).alloc (by simp) _
  refine (callsIn_wide.2 (HSZ.out _ hb0)).mono ?_
  rintro e w1 ⟨b, hbv, rfl, hb1⟩
  have hx1 : Box w1 w.heap.size t := ((Box.new w t 26).of_block (Below.heap_alloc _ _ _ (by simp))).of_block (hb1.block _ (by simp; omega))
  have hr1 : One w1 (w.heap.size + 1) 4 (.bool false) := by
    have := heap_alloc_new (w.alloc (.cells #[.int .i64 t.k, .int .i64 t.n, .int .i64 t.e, .string t.s, t.row] 26)) (.cells #[.bool false] 4)
    unfold One
    rw [hb1.block _ (by simp)]
    simpa using this
  have hs1 : w.heap.size + 2 ≤ w1.heap.size := by have := hb1.size; simp at this; omega
  replace hb0 : Below w.heap.size w w1 := hb0.trans (hb1.mono (by simp; omega))
  clear HSZ hb1
  have HB0 := Lib.hid hb0
  have HR1 := Lib.hid hr1
  have HX1 := Lib.hid hx1
  have HS1 := Lib.hid hs1
  obtain ⟨c0, c1, c2, c3, c4⟩ := hx1
  have k1 := hr1.cell
  have k2 := hr1.frozen
  clear hb0 hr1 hs1
  cases b with
  | false =>
    obtain rfl := hbv rfl
    have HRS := Lib.hid (HR1.out.set (.bool false))
    have HBL := Lib.hid (HB0.out.setCell (p := ⟨w.heap.size + 1, 0, none⟩) (Nat.le_succ _) (.bool false))
    have k5 := HRS.out.cell
    gi_wp2
    exact ⟨.bool false, by simp [results, Try.results33, go_sem, k5], rfl, HBL.out⟩
  | true =>
    clear hbv
    gi_wp2_with (refine ⟨trivial, ?_⟩; gi_at_call 45; refine (callsIn_wide.2 (walk_any _ t)).mono ?_; rintro e w' ⟨rfl, rfl⟩)
    have hx0 : Box (w1.alloc (.cells #[.int .i64 t.k, .int .i64 t.n, .int .i64 t.e, .string t.s, t.row] 26)) w1.heap.size t := Box.new w1 t 26
    have hs0 : w.heap.size + 2 < (w1.alloc (.cells #[.int .i64 t.k, .int .i64 t.n, .int .i64 t.e, .string t.s, t.row] 26)).heap.size := by have := HS1.out; simp; omega
    have hb0 : Below w.heap.size w (w1.alloc (.cells #[.int .i64 t.k, .int .i64 t.n, .int .i64 t.e, .string t.s, t.row] 26)) := HB0.out.alloc (by have := HS1.out; omega) _
    have hr0 : One (w1.alloc (.cells #[.int .i64 t.k, .int .i64 t.n, .int .i64 t.e, .string t.s, t.row] 26)) (w.heap.size + 1) 4 (.bool false) := (Below.heap_alloc _ _ _ (by have := HS1.out; omega)).trans HR1.out
    generalize w1.alloc (.cells #[.int .i64 t.k, .int .i64 t.n, .int .i64 t.e, .string t.s, t.row] 26) = W0 at *
    generalize w1.heap.size = Bx at *
    have hIn0 := HIn.out.behind hb0
    have hz := HZ.out
    clear c0 c1 c2 c3 c4 k1 k2 HB0 HR1 HX1 HS1
    have HS : OkInv w W0 false := ⟨hr0, hb0, hs0⟩
    refine range_box (by decide) (Bx := Bx) (n₀ := w.heap.size) (t := t) rfl hz (by omega) hIn0 hx0 rfl (fun pre W => OkInv w W false ∧ (pre ≠ [] → V = true)) (fun c _ W => c = .ret ∧ OkInv w W false ∧ V = false)
      (fun _ A B hs hb => ⟨hs.1.kept hb (by omega), hs.2⟩) (fun _ _ A B hs hb => ⟨hs.1, hs.2.1.kept hb (by omega), hs.2.2⟩) ⟨HS, fun h => absurd rfl h⟩
      (fun x W a' W' => a' = { tmps := #[.agg #[.int .i64 t.k, .int .i64 t.n, .int .i64 t.e, .string t.s, t.row], .pointer (some ⟨w.heap.size, 0, none⟩), .pointer (some ⟨w.heap.size + 1, 0, none⟩), undef, .pointer (some ⟨W.heap.size, 0, none⟩), .agg #[.int .i64 t.k, .int .i64 t.n, .int .i64 t.e, .string t.s, t.row], .bool true, .bool false, .agg #[.int .i64 t.k, .int .i64 t.n, .int .i64 t.e, .string t.s, t.row], .func (.func 52) #[] #[.pointer (some ⟨Bx, 0, none⟩)], .int .i64 (x.1 : Nat), .agg #[.int .i64 x.2.k, .int .i64 x.2.n, .int .i64 x.2.e, .string x.2.s, x.2.row], undef, undef, undef], defers := [] } ∧ W' = W.alloc (.cells #[.int .i64 x.2.k, .int .i64 x.2.n, .int .i64 x.2.e, .string x.2.s, x.2.row] 26))
      (fun x W a' W' h => by rw [h.2]; exact (Below.refl _ _).alloc (Nat.le_refl _) _) ?assign ?body ?done ?stop
    case assign =>
      intro l x W K hK
      have hrow : x.2.row = .slice x.2.a x.2.kids.length x.2.cap := rfl
      have HK := Lib.hid hK
      clear hK
      simp only [encs, hrow]
      clear hrow
      gi_wp2
      exact HK.out _ _ ⟨rfl, rfl⟩
    case body =>
      rintro l pre x V0 V' W a' hI hpre ⟨rfl, rfl⟩ hV hW
      obtain ⟨rest, hrest⟩ := pre_head t
      obtain rfl : pre = [] := by
        by_cases hp : pre = []
        · exact hp
        · exfalso
          have h0 := HV.out (hI.2 hp)
          rw [pre_one h0] at hpre
          have h1 := hpre.length_le
          rw [List.length_append] at h1
          simp only [List.length_cons, List.length_nil] at h1
          exact hp (List.eq_nil_of_length_eq_zero (by omega))
      obtain rfl : x = (0, t) := by
        rw [hrest] at hpre
        simpa using hpre
      have hbx : W.heap[V0.heap.size]? = some (.cells #[.int .i64 t.k, .int .i64 t.n, .int .i64 t.e, .string t.s, t.row] 26 (0, 0)) := (hW _ (Nat.le_refl _)).trans (heap_alloc_new V0 _)
      have c0 : W.cell? ⟨V0.heap.size, 0, none⟩ = some (.int .i64 t.k) := cell_of_row W _ 0 _ _ (0, 0) hbx
      have c1 : W.cell? ⟨V0.heap.size, 1, none⟩ = some (.int .i64 t.n) := cell_of_row W _ 1 _ _ (0, 0) hbx
      have c2 : W.cell? ⟨V0.heap.size, 2, none⟩ = some (.int .i64 t.e) := cell_of_row W _ 2 _ _ (0, 0) hbx
      have c3 : W.cell? ⟨V0.heap.size, 3, none⟩ = some (.string t.s) := cell_of_row W _ 3 _ _ (0, 0) hbx
      have c4 : W.cell? ⟨V0.heap.size, 4, none⟩ = some t.row := cell_of_row W _ 4 _ _ (0, 0) hbx
      have HI := Lib.hid hI.1
      have HSZ := Lib.hid hs0
      clear hI hpre hrest HS hr0 hb0 hs0 hx0 hz hIn0 hbx hW hV
      gi_wp2_with fail
      refine ⟨trivial, ?_⟩
      refine (CallsIn.inRound l (callsIn_wide.2 (HN.out W))).mono ?_
      rintro e w2 ⟨rfl, hb2⟩
      have hI2 := HI.out.kept hb2 (by have := HI.out.size; omega)
      have k1 := hI2.res.cell
      have k2 := hI2.res.frozen
      have HI2 := Lib.hid hI2
      have HM2 : Hid (Mid w.heap.size W0.heap.size W w2) := ⟨hb2.os, hb2.tape, hb2.output, hb2.size, fun k hk _ => hb2.block k hk⟩
      have HM3 : Hid (∀ v : Value, Mid w.heap.size W0.heap.size w2 (w2.setCell ⟨w.heap.size + 1, 0, none⟩ v)) := fun v => mid_set w2 v (by omega) (by have := HSZ.out; omega)
      clear hI2 hb2 c0 c1 c2 c3 c4
      cases V with
      | true =>
        gi_wp2
        first
        | exact ⟨HM2.out, HI2.out⟩
        | exact ⟨HM2.out, HI2.out, fun _ => rfl⟩
      | false =>
        gi_wp2
        first
        | exact ⟨HM2.out.trans (HM3.out _), rfl, HI2.out.set false⟩
        | exact ⟨HM2.out.trans (HM3.out _), rfl, HI2.out.set false, rfl⟩
    case done =>
      rintro D W hD ⟨hI, hv⟩ hK
      obtain ⟨rest, hrest⟩ := pre_head t
      obtain rfl := hv (by rw [hrest]; simp)
      have k3 := hI.res.cell
      have k4 := hI.res.frozen
      have hK2 : (W.setCell ⟨w.heap.size + 1, 0, none⟩ (.bool true)).heap[D]? = some (.deferred (some [])) := (blk_other _ (by omega)).trans hK
      have hrs : One ((W.setCell ⟨w.heap.size + 1, 0, none⟩ (.bool true)).putObj D (.deferred none)) (w.heap.size + 1) 4 (.bool true) := (World.putObj_heap_other (by omega)).trans (hI.res.set _)
      have HBL : Hid (Below w.heap.size w ((W.setCell ⟨w.heap.size + 1, 0, none⟩ (.bool true)).putObj D (.deferred none))) := (hI.below.setCell (p := ⟨w.heap.size + 1, 0, none⟩) (Nat.le_succ _) _).trans (below_put _ _ (by omega))
      have k5 := hrs.cell
      clear HS hr0 hx0 hb0 hz hI hD hs0 hIn0
      gi_wp2
      refine ⟨by simp, .inl ⟨_, _, rfl, run_takeDeferred hK2, ?_⟩⟩
      exact ⟨.bool true, by simp [results, Try.results33, go_sem, k5], rfl, HBL.out⟩
    case stop =>
      rintro D c p W hD hp ⟨rfl, hI, rfl⟩ hK
      have hrs : One (W.putObj D (.deferred none)) (w.heap.size + 1) 4 (.bool false) := (World.putObj_heap_other (by omega)).trans hI.res
      have HBL : Hid (Below w.heap.size w (W.putObj D (.deferred none))) := hI.below.trans (below_put _ _ (by omega))
      have k5 := hrs.cell
      clear HS hr0 hx0 hb0 hz hI hD hs0 hIn0
      gi_wp2
      refine ⟨by simp, .inl ⟨_, _, rfl, run_takeDeferred hK, ?_⟩⟩
      exact ⟨.bool false, by simp [results, Try.results33, go_sem, k5], rfl, HBL.out⟩

end Go.Proofs.Ythjholhjkahdkaa.val
