/-
  impl.keysOk: whether the keys among keys and values are distinct texts and numbers.
-/
import Derived.Test.YtkjffifdlckljaaDoorPathsJ28
import Derived.Test.YtkjffifdlckljaaDoorPathsJ32
namespace Go.Proofs.YtkjffifdlckljaaDoor.node
open Go.ChangeShapes Go.WideShapes Go.ChangeAt Go.RowKit
open Go.Proofs.YtkjffifdlckljaaDoor.val
set_option maxRecDepth 100000

/-- The node of a key is neither a number's nor a text's. -/
theorem ta_other {k n e : Int} {s : ByteArray} {a : Option Addr} {m cap : Nat} {v : Value} (hv : nodeV k n e s (.slice a m cap) = some v) (h3 : k ≠ 3) (h5 : k ≠ 5) :
    (∀ w, (Instr.typeAssert v 154 192 true).run Tryd.prog w = .ok (.tuple #[.agg #[.int .i64 0], .bool false]) w) ∧ (∀ w, (Instr.typeAssert v 154 71 true).run Tryd.prog w = .ok (.tuple #[.agg #[.string ⟨#[]⟩], .bool false]) w) := by
  unfold nodeV at hv
  repeat' split at hv
  all_goals cases hv
  all_goals first
    | (exfalso; omega)
    | exact ⟨fun w => by kernel_rfl, fun w => by kernel_rfl⟩
theorem ta_nil : (∀ w, (Instr.typeAssert .nilIface 154 192 true).run Tryd.prog w = .ok (.tuple #[.agg #[.int .i64 0], .bool false]) w) ∧ (∀ w, (Instr.typeAssert .nilIface 154 71 true).run Tryd.prog w = .ok (.tuple #[.agg #[.string ⟨#[]⟩], .bool false]) w) :=
  ⟨fun w => by kernel_rfl, fun w => by kernel_rfl⟩
theorem ta_num (n : Int) (w : World) : (Instr.typeAssert (.iface 192 (.agg #[.int .i64 n])) 154 192 true).run Tryd.prog w = .ok (.tuple #[.agg #[.int .i64 n], .bool true]) w := by kernel_rfl
theorem ta_text0 (s : ByteArray) (w : World) : (Instr.typeAssert (.iface 71 (.agg #[.string s])) 154 192 true).run Tryd.prog w = .ok (.tuple #[.agg #[.int .i64 0], .bool false]) w := by kernel_rfl
theorem ta_text (s : ByteArray) (w : World) : (Instr.typeAssert (.iface 71 (.agg #[.string s])) 154 71 true).run Tryd.prog w = .ok (.tuple #[.agg #[.string s], .bool true]) w := by kernel_rfl
theorem kInt : Maps.Keyed Tryd.prog 3 := Maps.int_keyed Tryd.underlying3
theorem kStr : Maps.Keyed Tryd.prog 9 := Maps.string_keyed Tryd.underlying9
theorem zeroInt (w : World) : (zeroValue 3).run Tryd.prog w = .ok (.int .i64 0) w := by simp [zeroValue, go_sem, Tryd.t3]
/-- What keysOk carries along. -/
structure KInv (w' W : World) (l : List LT) (j N T : Nat) : Prop where
  nums : Cnt W 3 3 w'.heap.size N (SN l j)
  texts : Cnt W 9 3 (w'.heap.size + 1) T (ST l j)
  below : Below w'.heap.size w' W
  size : w'.heap.size + 2 ≤ W.heap.size
  tally : Tally l j N T
theorem KInv.later {w' W W' : World} {l : List LT} {j N T B : Nat} (h : KInv w' W l j N T) (hb : Below B W W') (hB : w'.heap.size + 2 ≤ B) : KInv w' W' l j N T :=
  ⟨h.nums.of_block (hb.block _ (by omega)), h.texts.of_block (hb.block _ (by omega)), h.below.trans (hb.mono (by omega)), Nat.le_trans h.size hb.size, h.tally⟩
theorem KInv.other {w' W : World} {l : List LT} {j N T : Nat} (h : KInv w' W l j N T) (hl : j < l.length) (he : j % 2 = 0) (h3 : l[j].k ≠ 3) (h5 : l[j].k ≠ 5) : KInv w' W l (j + 2) N T :=
  ⟨h.nums.same (SN_same he (fun _ => h3)), h.texts.same (ST_same he (fun _ => h5)), h.below, h.size, h.tally.bad (not_good_kind hl he h3 h5)⟩
theorem KInv.num {w' W W' : World} {l : List LT} {j N T N' : Nat} (h : KInv w' W l j N T) (hl : j < l.length) (he : j % 2 = 0) (h3 : l[j].k = 3) (hg : W.grownBy W' (some w'.heap.size)) (hc : Cnt W' 3 3 w'.heap.size N' (SN l (j + 2))) (h1 : SN l j (.int .i64 l[j].n) → N' = N) (h2 : ¬ SN l j (.int .i64 l[j].n) → N' = N + 1) : KInv w' W' l (j + 2) N' T := by
  refine ⟨hc, (h.texts.same (ST_same he (fun _ => by omega))).of_block (hg.block _ h.texts.lt (fun e => by injection e with e; omega)), h.below.grown hg h.below.size (fun k hk => by injection hk with hk; omega), Nat.le_trans h.size hg.size, ?_⟩
  by_cases hs : SN l j (.int .i64 l[j].n)
  · rw [h1 hs]; exact h.tally.bad (not_good_num hl he h3 hs)
  · rw [h2 hs]; exact h.tally.good he (by omega) (good_num hl h3 hs)
theorem KInv.text {w' W W' : World} {l : List LT} {j N T T' : Nat} (h : KInv w' W l j N T) (hl : j < l.length) (he : j % 2 = 0) (h5 : l[j].k = 5) (hg : W.grownBy W' (some (w'.heap.size + 1))) (hc : Cnt W' 9 3 (w'.heap.size + 1) T' (ST l (j + 2))) (h1 : ST l j (.string l[j].s.data.toList) → T' = T) (h2 : ¬ ST l j (.string l[j].s.data.toList) → T' = T + 1) : KInv w' W' l (j + 2) N T' := by
  refine ⟨(h.nums.same (SN_same he (fun _ => by omega))).of_block (hg.block _ h.nums.lt (fun e => by injection e with e; omega)), hc, h.below.grown hg h.below.size (fun k hk => by injection hk with hk; omega), Nat.le_trans h.size hg.size, ?_⟩
  by_cases hs : ST l j (.string l[j].s.data.toList)
  · rw [h1 hs]; exact h.tally.bad (not_good_text hl he h5 hs)
  · rw [h2 hs]; exact h.tally.good he (by omega) (good_text hl h5 hs)
theorem wf_of {n : Int} (h : InI n) : (Lit.int .i64 n).wf = true := by
  unfold InI at h
  simp [Lit.wf, IntKind.min, IntKind.max, IntKind.signed, IntKind.bits]
  omega
def KeysR (V : Prop) (w : World) (r : Ending) (w' : World) : Prop := ∃ b : Bool, r = .returned (.bool b) ∧ (b = true ↔ V) ∧ Below w.heap.size w w'
set_option maxHeartbeats 4000000 in
theorem keys_any (w : World) (B : Nat) (a : Option Addr) (cap : Nat) (kids : List LT) (hl : kids.length ≤ 1048576) (hev : kids.length % 2 = 0) (hin : ∀ i (h : i < kids.length), InI kids[i].n ∧ kids[i].s.size ≤ 9223372036854775807) (hc : ∀ i (h : i < kids.length), ∃ x, a = some x ∧ x.block < B ∧ At5 w (x.add (i * 5)) kids[i]) (w' : World) (hb : Below B w w') (hB : B ≤ w'.heap.size) :
    Calls Tryd.prog 213 #[.slice a kids.length cap] w' (KeysR (GoodTo kids kids.length) w') := by
  have HC := Lib.hid hc
  have HIN := Lib.hid hin
  have HB := Lib.hid hb
  have HEV := Lib.hid hev
  have hmm := @run_makeMap Tryd.prog
  have HI0 : Hid (KInv w' ((w'.alloc (.map #[] 0)).alloc (.map #[] 0)) kids 0 0 0) :=
    ⟨((Cnt.made w' 3 3).same (fun x => ⟨fun ⟨i, _, h, _⟩ => by omega, fun h => h.elim⟩)).of_block (Below.heap_alloc _ _ _ (by simp)),
     by have := (Cnt.made (w'.alloc (.map #[] 0)) 9 3).same (S' := ST kids 0) (fun x => ⟨fun ⟨i, _, h, _⟩ => by omega, fun h => h.elim⟩)
        simpa using this,
     ((Below.refl _ _).alloc (Nat.le_refl _) _).alloc (by simp) _, by simp, Tally.start kids⟩
  generalize hV : GoodTo kids kids.length = V
  have HV := Lib.hid hV
  clear hc hb hV hev hin
  go_enter Tryd.func213, Tryd.ntmps213
  go_wp2_with fail
  go_loopw [5] (fun i wr => ∃ (j N T : Nat), i = .int .i64 j ∧ j ≤ kids.length + 1 ∧ Hid (j % 2 = 0) ∧ Hid (KInv w' wr kids j N T)) (fun i _ => kids.length + 2 - (intOf i).toNat)
  case atStart => exact ⟨0, 0, 0, rfl, by omega, rfl, HI0⟩
  case round =>
    clear HI0
    obtain ⟨j, N, T, rfl, hj, HE, HI⟩ := hrel
    by_cases hlt : j < kids.length
    · have hj0 : (0 : Int) ≤ (j : Int) := by omega
      have hj1 : (j : Int) < (kids.length : Int) := by omega
      obtain ⟨x, rfl, hx, h5⟩ := HC.out j hlt
      obtain ⟨c0, c1, c2, c3, c4⟩ := h5.below (by rw [add_block]; exact hx) (HB.out.trans (HI.out.below.mono hB))
      have HO : Hid (kids[j].k ≠ 3 → kids[j].k ≠ 5 → ∀ W, KInv w' W kids j N T → KInv w' W kids (j + 2) N T) := fun h3 h5 W h => h.other hlt HE.out h3 h5
      have HN : Hid (kids[j].k = 3 → ∀ (W W' : World) (N' : Nat), KInv w' W kids j N T → W.grownBy W' (some w'.heap.size) → Cnt W' 3 3 w'.heap.size N' (SN kids (j + 2)) → (SN kids j (.int .i64 kids[j].n) → N' = N) → (¬ SN kids j (.int .i64 kids[j].n) → N' = N + 1) → KInv w' W' kids (j + 2) N' T) := fun h3 W W' N' h hg hc h1 h2 => h.num hlt HE.out h3 hg hc h1 h2
      have HS : Hid (kids[j].k = 5 → ∀ (W W' : World) (T' : Nat), KInv w' W kids j N T → W.grownBy W' (some (w'.heap.size + 1)) → Cnt W' 9 3 (w'.heap.size + 1) T' (ST kids (j + 2)) → (ST kids j (.string kids[j].s.data.toList) → T' = T) → (¬ ST kids j (.string kids[j].s.data.toList) → T' = T + 1) → KInv w' W' kids (j + 2) N T') := fun h5 W W' N' h hg hc h1 h2 => h.text hlt HE.out h5 hg hc h1 h2
      have HMN : Hid (kids[j].k = 3 → ∀ x, SN kids (j + 2) x ↔ SN kids j x ∨ x = .int .i64 kids[j].n) := fun h3 => SN_more hlt HE.out h3
      have HMT : Hid (kids[j].k = 5 → ∀ x, ST kids (j + 2) x ↔ ST kids j x ∨ x = .string kids[j].s.data.toList) := fun h5 => ST_more hlt HE.out h5
      have CN := nodeOf_any kids[j].k kids[j].n kids[j].e kids[j].s kids[j].a kids[j].kids.length kids[j].cap
      have CZ := nodeOf_none kids[j].k kids[j].n kids[j].e kids[j].s kids[j].a kids[j].kids.length kids[j].cap
      have HKN : Hid (keyOf Tryd.prog 3 (.int .i64 kids[j].n) = some (.int .i64 kids[j].n)) := Maps.keyOf_int_mk Tryd.underlying3 (wf_of (HIN.out j hlt).1)
      have HKT : Hid (keyOf Tryd.prog 9 (.string kids[j].s) = some (.string kids[j].s.data.toList)) := by
        unfold Hid
        simp [keyOf, Tryd.underlying9, mapKey]
        have := (HIN.out j hlt).2
        unfold maxLen
        omega
      have hrow : kids[j].row = .slice kids[j].a kids[j].kids.length kids[j].cap := rfl
      rw [hrow] at c4
      clear h5 hrow
      generalize kids[j].k = k at *
      generalize kids[j].n = n at *
      generalize kids[j].e = e at *
      generalize kids[j].s = s at *
      generalize kids[j].a = ka at *
      generalize kids[j].kids.length = km at *
      generalize kids[j].cap = kc at *
      have hsz := HI.out.size
      by_cases h3 : k = 3
      · subst h3
        replace CN := Lib.hid (CN _ rfl)
        replace HMN := Lib.hid (HMN.out rfl)
        replace HN := Lib.hid (HN.out rfl)
        have T1 := ta_num n
        clear CZ HO HS HMT
        go_wp2_with fail
        with_reducible refine (CN.out _).mono ?_
        rintro r w1 ⟨rfl, hb1⟩
        have HI1 := Lib.hid (HI.out.later hb1 hsz)
        have hz1 := Nat.le_trans hsz hb1.size
        clear hb1 CN HI c0 c1 c2 c3 c4
        have HIa := Lib.hid (HI1.out.later ((Below.refl w1.heap.size w1).alloc (Nat.le_refl _) (.cells #[.int .i64 n] 192)) hz1)
        obtain ⟨ml, hown, hmc, hmk⟩ := HIa.out.nums
        have hNm : N < 4000000 := by have := HI1.out.tally.le; omega
        go_wp2_with (first
          | (at_lookup; refine wpList_lookup_own_int _ rfl _ _ 247 rfl 3 3 .i64 kInt Tryd.underlying247 Tryd.underlying3 (zeroInt _) w'.heap.size N (.map ml) rfl hown _ _ rfl HKN.out ?_; intro c hat hwc)
          | (at_mapUpdate; refine wpList_mapUpdate_own _ rfl _ _ _ 247 rfl 3 3 kInt Tryd.underlying247 _ w'.heap.size N (.map ml) rfl hown (by unfold maxLen; omega) _ _ _ rfl rfl HKN.out _ [] (plainElem_int Tryd.underlying3 (wf64 _)) ?_; intro w2 hown2 hg2))
        obtain ⟨N', hc2, g1, g2⟩ := Cnt.store (S' := SN kids (j + 2)) (k := .int .i64 n) (show WideAt.IsKeyLit (.int .i64 n) from trivial) hmc hmk hown2 HMN.out
        have HI2 := Lib.hid (HN.out _ _ N' HIa.out hg2 hc2 g1 g2)
        exact ⟨⟨j + 2, N', T, by go_num, by omega, by have := HE.out; unfold Hid; omega, HI2⟩, by simp [intOf]; omega⟩
      · by_cases h5 : k = 5
        · subst h5
          replace CN := Lib.hid (CN _ rfl)
          replace HMT := Lib.hid (HMT.out rfl)
          replace HS := Lib.hid (HS.out rfl)
          have T0 := ta_text0 s
          have T1 := ta_text s
          clear CZ HO HN HMN
          go_wp2_with fail
          with_reducible refine (CN.out _).mono ?_
          rintro r w1 ⟨rfl, hb1⟩
          have HI1 := Lib.hid (HI.out.later hb1 hsz)
          have hz1 := Nat.le_trans hsz hb1.size
          clear hb1 CN HI c0 c1 c2 c3 c4
          have HIa := Lib.hid (HI1.out.later ((Below.refl w1.heap.size w1).alloc (Nat.le_refl _) (.cells #[.string s] 71)) hz1)
          obtain ⟨ml, hown, hmc, hmk⟩ := HIa.out.texts
          have hNm : T < 4000000 := by have := HI1.out.tally.le; omega
          go_wp2_with (first
            | (at_lookup; refine wpList_lookup_own_int _ rfl _ _ 248 rfl 9 3 .i64 kStr Tryd.underlying248 Tryd.underlying3 (zeroInt _) (w'.heap.size + 1) T (.map ml) rfl hown _ _ rfl HKT.out ?_; intro c hat hwc)
            | (at_mapUpdate; refine wpList_mapUpdate_own _ rfl _ _ _ 248 rfl 9 3 kStr Tryd.underlying248 _ (w'.heap.size + 1) T (.map ml) rfl hown (by unfold maxLen; omega) _ _ _ rfl rfl HKT.out _ [] (plainElem_int Tryd.underlying3 (wf64 _)) ?_; intro w2 hown2 hg2))
          obtain ⟨T', hc2, g1, g2⟩ := Cnt.store (S' := ST kids (j + 2)) (k := .string s.data.toList) (show WideAt.IsKeyLit (.string s.data.toList) from trivial) hmc hmk hown2 HMT.out
          have HI2 := Lib.hid (HS.out _ _ T' HIa.out hg2 hc2 g1 g2)
          exact ⟨⟨j + 2, N, T', by go_num, by omega, by have := HE.out; unfold Hid; omega, HI2⟩, by simp [intOf]; omega⟩
        · have HO2 := Lib.hid (HO.out h3 h5)
          clear HN HS HMN HMT HO HKN HKT
          cases hv : nodeV k n e s (.slice ka km kc) with
          | none =>
            replace CZ := Lib.hid (CZ hv)
            obtain ⟨T0, T1⟩ := ta_nil
            clear CN hv h3 h5
            go_wp2_with fail
            with_reducible refine (CZ.out _).mono ?_
            rintro r w1 ⟨rfl, hb1⟩
            have HI1 := Lib.hid (HO2.out _ (HI.out.later hb1 hsz))
            clear hb1 CZ HI c0 c1 c2 c3 c4
            go_wp2
            exact ⟨⟨j + 2, N, T, by go_num, by omega, by have := HE.out; unfold Hid; omega, HI1⟩, by simp [intOf]; omega⟩
          | some v =>
            obtain ⟨T0, T1⟩ := ta_other hv h3 h5
            replace CN := Lib.hid (CN v hv)
            clear CZ hv h3 h5
            go_wp2_with fail
            with_reducible refine (CN.out _).mono ?_
            rintro r w1 ⟨rfl, hb1⟩
            have HI1 := Lib.hid (HO2.out _ (HI.out.later hb1 hsz))
            clear hb1 CN HI c0 c1 c2 c3 c4
            go_wp2
            exact ⟨⟨j + 2, N, T, by go_num, by omega, by have := HE.out; unfold Hid; omega, HI1⟩, by simp [intOf]; omega⟩
    · have hj1 : ¬ (j : Int) < (kids.length : Int) := by omega
      have hje : j = kids.length := by have := HE.out; have := HEV.out; omega
      have hlN := HI.out.nums.len Tryd.underlying247
      have hlT := HI.out.texts.len Tryd.underlying248
      have hNT := HI.out.tally.le
      have HF : Hid ((2 * ((N : Int) + (T : Int)) == (kids.length : Int)) = true ↔ V) := by
        unfold Hid
        rw [← HV.out, beq_iff_eq]
        have h1 := HI.out.tally.iff
        have h2 := HEV.out
        rw [hje] at h1
        exact ⟨fun h => h1.1 (by omega), fun h => by have := h1.2 h; omega⟩
      have HBF := Lib.hid HI.out.below
      clear HI HC HB HIN hje
      go_wp2
      go_ret
      exact ⟨_, rfl, HF.out, HBF.out⟩
end Go.Proofs.YtkjffifdlckljaaDoor.node
