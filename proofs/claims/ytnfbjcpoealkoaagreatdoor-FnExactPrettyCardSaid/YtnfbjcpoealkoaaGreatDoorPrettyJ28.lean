/-
  impl's writer of JSON at numbers and texts.
-/
import Derived.Test.YtnfbjcpoealkoaaGreatDoorPrettyJ3
import Derived.Test.YtnfbjcpoealkoaaGreatDoorPrettyJ24
import Derived.Test.YtnfbjcpoealkoaaGreatDoorPrettyJ27
import Derived.Test.YtnfbjcpoealkoaaGreatDoorPrettyJ2
import Derived.Lib.Hide
import Derived.Test.YtnfbjcpoealkoaaGreatDoorPrettyJ0
namespace Go.Proofs.YtnfbjcpoealkoaaGreatDoor.json
open Go.ChangeShapes Go.WideShapes Go.ChangeAt Go.RowKit Go.Proofs.YtnfbjcpoealkoaaGreatDoor.val
set_option maxRecDepth 100000

theorem strCells_enc (R : List UInt8) : Lib.strCells ⟨R.toArray⟩ = R.map encB := by
  simp [Lib.strCells, encB]
/-- 'append(v, s...)', s a string, as a step of a region that draws its order. -/
theorem step_appS {P : Program} {w : World} {ops : Array Oper} {o : Oper} {a : Act} {K : Act → World → Prop} {Q : Exit → Act → World → Prop} {E : Prop} (hgd : o.guard = none) (sl x : Operand) (t u : TypeId)
    (ho : o.op = .call { callee := .builtin .append, args := #[sl, x], argTypes := #[t, u] })
    (base : Nat) (e : TypeId) (i : TypeInfo) (ht : P.underlying t = some (.slice e)) (hu : P.underlying u = some .string) (hi : P.info? e = some i) (hz : i.zero = some (.int .u8 0))
    (hsize : i.size = 1) (hby : i.bytes = 1)
    (v : Value) (l : List UInt8) (hs : a.eval sl = v) (hown : OwnL w base e encB v l) (R : List UInt8) (hx : a.eval x = .string ⟨R.toArray⟩)
    (hl : l.length + R.length ≤ 1000000000) (hbase : base ≤ w.heap.size)
    (h : ∀ v' w', OwnL w' base e encB v' (l ++ R) → w.grownBy w' v.ownBlock → K (a.put o.dst v') w') :
    if Region.wanted o (yielded ops a.tmps) = true then Oper.wp P o a w K Q else E := by
  have hw : Region.wanted o (yielded ops a.tmps) = true := by simp [Region.wanted, hgd]
  rw [if_pos hw]
  have hzR : (ByteArray.mk R.toArray).size = R.length := by simp [ByteArray.size]
  obtain ⟨v', w', hr, h2, h3, _⟩ := Lib.run_append_own_string (P := P) w base t u o.type e i ht hu hi hz hsize hby v l.length (l.map encB) hown ⟨R.toArray⟩ (by rw [hzR]; unfold maxLen; omega) (by rw [hzR]; omega) hbase
  unfold Oper.wp execOp
  simp only [ho, resolve, invoke, builtin, Sem.run_bind, Sem.run_pure, Result.andThen_ok, List.map_toArray, List.map_cons, List.map_nil, hs, hx, hr]
  refine h v' w' ?_ h3
  unfold OwnL
  rw [List.length_append, List.map_append, ← strCells_enc, ← hzR]
  exact h2

set_option maxHeartbeats 1000000 in
theorem leaf_text (W : World) (b : Nat) (v : Value) (l : List UInt8) (p : Bool) (n e : Int) (s : ByteArray) (a : Option Addr) (m cap lv : Nat) (R : List UInt8) (hl : l.length + R.length ≤ 1000000000) (hw : Wj W b v l p)
    (C : ∀ w', Below W.heap.size W w' → Calls Tryz.prog 163 #[.string s] w' fun r w'' => r = .returned (.string ⟨R.toArray⟩) ∧ Below w'.heap.size w' w'') :
    Calls Tryz.prog 114 #[.pointer (some ⟨b, 0, none⟩), .agg #[.int .i64 5, .int .i64 n, .int .i64 e, .string s, .slice a m cap], .int .i64 lv] W (PutR W b (l ++ R) p) := by
  obtain ⟨i0, hi0, hz0, hz1, hz2⟩ := info_parts info8
  obtain ⟨va, vc, rfl, _⟩ := hw.own.shape
  have HW := Lib.hid hw
  have c0 := hw.c0
  have c1 := hw.c1
  have f0 := hw.fr 0
  have hlt := hw.lt
  have HA := Lib.hid ((Below.refl W.heap.size W).alloc (Nat.le_refl _) (.cells #[.int .i64 5, .int .i64 n, .int .i64 e, .string s, .slice a m cap] 46))
  replace C := Lib.hid C
  clear hw
  go_enter Tryz.func114, Tryz.ntmps114
  go_wp2_with fail
  go_region_law (first
    | (go_simp; go_at_call 163; refine (C.out _ (belowN HA.out 1)).mono ?_; rintro r w2 ⟨rfl, hb2⟩
       have HB := Lib.hid (below_of2 (belowN HA.out 1) hb2)
       have HW2 := Lib.hid (HW.out.later (B := 0) HB.out)
       clear hb2 c0 c1 f0
       have c0 := HW2.out.c0
       have hlt2 := HW2.out.lt)
    | (refine step_appS (by rfl) _ _ _ _ (by rfl) (b + 1) 5 i0 Tryz.underlying22 Tryz.underlying9 hi0 hz0 hz1 hz2 (.slice va l.length vc) l (by rfl) HW2.out.own R (by rfl) hl hlt2 ?_; intro v1 w1 ho hg; obtain ⟨KW, KB, kc, kf⟩ := HW2.out.more ho hg; obtain ⟨a1, cc1, rfl, _⟩ := ho.shape; rw [List.length_append] at KW KB; replace KW := Lib.hid KW; replace KB := Lib.hid (KB); clear ho hg c0))
  all_goals
    refine bodyPost_ret (results_none rfl _ _ _) rfl ?_
    exact ⟨⟨_, rfl⟩, ⟨_, KW.out⟩, (Bk.of HB.out (Nat.le_of_lt hlt)).trans KB.out⟩
set_option maxHeartbeats 1000000 in
theorem leaf_num3 (W : World) (b : Nat) (v : Value) (l : List UInt8) (p : Bool) (n e : Int) (s : ByteArray) (a : Option Addr) (m cap lv : Nat) (R : List UInt8) (hl : l.length + R.length ≤ 1000000000) (hw : Wj W b v l p)
    (C : ∀ w', Below W.heap.size W w' → Calls Tryz.prog 162 #[.agg #[.int .i64 3, .int .i64 n, .int .i64 e, .string s, .slice a m cap]] w' fun r w'' => r = .returned (.string ⟨R.toArray⟩) ∧ Below w'.heap.size w' w'') :
    Calls Tryz.prog 114 #[.pointer (some ⟨b, 0, none⟩), .agg #[.int .i64 3, .int .i64 n, .int .i64 e, .string s, .slice a m cap], .int .i64 lv] W (PutR W b (l ++ R) p) := by
  obtain ⟨i0, hi0, hz0, hz1, hz2⟩ := info_parts info8
  obtain ⟨va, vc, rfl, _⟩ := hw.own.shape
  have HW := Lib.hid hw
  have c0 := hw.c0
  have c1 := hw.c1
  have f0 := hw.fr 0
  have hlt := hw.lt
  have HA := Lib.hid ((Below.refl W.heap.size W).alloc (Nat.le_refl _) (.cells #[.int .i64 3, .int .i64 n, .int .i64 e, .string s, .slice a m cap] 46))
  replace C := Lib.hid C
  clear hw
  go_enter Tryz.func114, Tryz.ntmps114
  go_wp2_with fail
  go_region_law (first
    | (go_simp; go_at_call 162; refine (C.out _ (belowN HA.out 1)).mono ?_; rintro r w2 ⟨rfl, hb2⟩
       have HB := Lib.hid (below_of2 (belowN HA.out 1) hb2)
       have HW2 := Lib.hid (HW.out.later (B := 0) HB.out)
       clear hb2 c0 c1 f0
       have c0 := HW2.out.c0
       have hlt2 := HW2.out.lt)
    | (refine step_appS (by rfl) _ _ _ _ (by rfl) (b + 1) 5 i0 Tryz.underlying22 Tryz.underlying9 hi0 hz0 hz1 hz2 (.slice va l.length vc) l (by rfl) HW2.out.own R (by rfl) hl hlt2 ?_; intro v1 w1 ho hg; obtain ⟨KW, KB, kc, kf⟩ := HW2.out.more ho hg; obtain ⟨a1, cc1, rfl, _⟩ := ho.shape; rw [List.length_append] at KW KB; replace KW := Lib.hid KW; replace KB := Lib.hid (KB); clear ho hg c0))
  all_goals
    refine bodyPost_ret (results_none rfl _ _ _) rfl ?_
    exact ⟨⟨_, rfl⟩, ⟨_, KW.out⟩, (Bk.of HB.out (Nat.le_of_lt hlt)).trans KB.out⟩
set_option maxHeartbeats 1000000 in
theorem leaf_num4 (W : World) (b : Nat) (v : Value) (l : List UInt8) (p : Bool) (n e : Int) (s : ByteArray) (a : Option Addr) (m cap lv : Nat) (R : List UInt8) (hl : l.length + R.length ≤ 1000000000) (hw : Wj W b v l p)
    (C : ∀ w', Below W.heap.size W w' → Calls Tryz.prog 162 #[.agg #[.int .i64 4, .int .i64 n, .int .i64 e, .string s, .slice a m cap]] w' fun r w'' => r = .returned (.string ⟨R.toArray⟩) ∧ Below w'.heap.size w' w'') :
    Calls Tryz.prog 114 #[.pointer (some ⟨b, 0, none⟩), .agg #[.int .i64 4, .int .i64 n, .int .i64 e, .string s, .slice a m cap], .int .i64 lv] W (PutR W b (l ++ R) p) := by
  obtain ⟨i0, hi0, hz0, hz1, hz2⟩ := info_parts info8
  obtain ⟨va, vc, rfl, _⟩ := hw.own.shape
  have HW := Lib.hid hw
  have c0 := hw.c0
  have c1 := hw.c1
  have f0 := hw.fr 0
  have hlt := hw.lt
  have HA := Lib.hid ((Below.refl W.heap.size W).alloc (Nat.le_refl _) (.cells #[.int .i64 4, .int .i64 n, .int .i64 e, .string s, .slice a m cap] 46))
  replace C := Lib.hid C
  clear hw
  go_enter Tryz.func114, Tryz.ntmps114
  go_wp2_with fail
  go_region_law (first
    | (go_simp; go_at_call 162; refine (C.out _ (belowN HA.out 1)).mono ?_; rintro r w2 ⟨rfl, hb2⟩
       have HB := Lib.hid (below_of2 (belowN HA.out 1) hb2)
       have HW2 := Lib.hid (HW.out.later (B := 0) HB.out)
       clear hb2 c0 c1 f0
       have c0 := HW2.out.c0
       have hlt2 := HW2.out.lt)
    | (refine step_appS (by rfl) _ _ _ _ (by rfl) (b + 1) 5 i0 Tryz.underlying22 Tryz.underlying9 hi0 hz0 hz1 hz2 (.slice va l.length vc) l (by rfl) HW2.out.own R (by rfl) hl hlt2 ?_; intro v1 w1 ho hg; obtain ⟨KW, KB, kc, kf⟩ := HW2.out.more ho hg; obtain ⟨a1, cc1, rfl, _⟩ := ho.shape; rw [List.length_append] at KW KB; replace KW := Lib.hid KW; replace KB := Lib.hid (KB); clear ho hg c0))
  all_goals
    refine bodyPost_ret (results_none rfl _ _ _) rfl ?_
    exact ⟨⟨_, rfl⟩, ⟨_, KW.out⟩, (Bk.of HB.out (Nat.le_of_lt hlt)).trans KB.out⟩
end Go.Proofs.YtnfbjcpoealkoaaGreatDoor.json
/-
  impl's writer of JSON at the three words.
-/
namespace Go.Proofs.YtnfbjcpoealkoaaGreatDoor.json
open Go.ChangeShapes Go.WideShapes Go.ChangeAt Go.RowKit Go.Proofs.YtnfbjcpoealkoaaGreatDoor.val
set_option maxRecDepth 100000

set_option maxHeartbeats 1000000 in
theorem leaf_word0 (W : World) (b : Nat) (v : Value) (l : List UInt8) (p : Bool) (n e : Int) (s : ByteArray) (a : Option Addr) (m cap lv : Nat) (R : List UInt8) (hl : l.length + R.length ≤ 1000000000) (hw : Wj W b v l p)
    (hg0 : 2 < W.heap.size) (ht : W.cell? ⟨2, 0, none⟩ = some (.string ⟨R.toArray⟩)) :
    Calls Tryz.prog 114 #[.pointer (some ⟨b, 0, none⟩), .agg #[.int .i64 0, .int .i64 n, .int .i64 e, .string s, .slice a m cap], .int .i64 lv] W (PutR W b (l ++ R) p) := by
  obtain ⟨i0, hi0, hz0, hz1, hz2⟩ := info_parts info8
  obtain ⟨va, vc, rfl, _⟩ := hw.own.shape
  have HW := Lib.hid hw
  have c0 := hw.c0
  have f0 := hw.fr 0
  have hlt := hw.lt
  have HA := Lib.hid ((Below.refl W.heap.size W).alloc (Nat.le_refl _) (.cells #[.int .i64 0, .int .i64 n, .int .i64 e, .string s, .slice a m cap] 46))
  have HX := Lib.hid ((hw.alloc (.cells #[.int .i64 0, .int .i64 n, .int .i64 e, .string s, .slice a m cap] 46)).drewN 1)
  clear hw
  go_enter Tryz.func114, Tryz.ntmps114
  go_wp2_with fail
  go_region_law (refine step_appS (by rfl) _ _ _ _ (by rfl) (b + 1) 5 i0 Tryz.underlying22 Tryz.underlying9 hi0 hz0 hz1 hz2 (.slice va l.length vc) l (by rfl) HX.out.own R (by rfl) hl (by simp; omega) ?_; intro v1 w1 ho hg; obtain ⟨KW, KB, kc, kf⟩ := HX.out.more ho hg; obtain ⟨a1, cc1, rfl, _⟩ := ho.shape; rw [List.length_append] at KW KB; replace KW := Lib.hid KW; replace KB := Lib.hid (KB); clear ho hg c0)
  all_goals
    refine bodyPost_ret (results_none rfl _ _ _) rfl ?_
    exact ⟨⟨_, rfl⟩, ⟨_, KW.out⟩, (Bk.of (belowN HA.out 1) (Nat.le_of_lt hlt)).trans KB.out⟩
set_option maxHeartbeats 1000000 in
theorem leaf_word1 (W : World) (b : Nat) (v : Value) (l : List UInt8) (p : Bool) (n e : Int) (s : ByteArray) (a : Option Addr) (m cap lv : Nat) (R : List UInt8) (hl : l.length + R.length ≤ 1000000000) (hw : Wj W b v l p)
    (hg0 : 2 < W.heap.size) (ht : W.cell? ⟨2, 1, none⟩ = some (.string ⟨R.toArray⟩)) :
    Calls Tryz.prog 114 #[.pointer (some ⟨b, 0, none⟩), .agg #[.int .i64 1, .int .i64 n, .int .i64 e, .string s, .slice a m cap], .int .i64 lv] W (PutR W b (l ++ R) p) := by
  obtain ⟨i0, hi0, hz0, hz1, hz2⟩ := info_parts info8
  obtain ⟨va, vc, rfl, _⟩ := hw.own.shape
  have HW := Lib.hid hw
  have c0 := hw.c0
  have f0 := hw.fr 0
  have hlt := hw.lt
  have HA := Lib.hid ((Below.refl W.heap.size W).alloc (Nat.le_refl _) (.cells #[.int .i64 1, .int .i64 n, .int .i64 e, .string s, .slice a m cap] 46))
  have HX := Lib.hid ((hw.alloc (.cells #[.int .i64 1, .int .i64 n, .int .i64 e, .string s, .slice a m cap] 46)).drewN 1)
  clear hw
  go_enter Tryz.func114, Tryz.ntmps114
  go_wp2_with fail
  go_region_law (refine step_appS (by rfl) _ _ _ _ (by rfl) (b + 1) 5 i0 Tryz.underlying22 Tryz.underlying9 hi0 hz0 hz1 hz2 (.slice va l.length vc) l (by rfl) HX.out.own R (by rfl) hl (by simp; omega) ?_; intro v1 w1 ho hg; obtain ⟨KW, KB, kc, kf⟩ := HX.out.more ho hg; obtain ⟨a1, cc1, rfl, _⟩ := ho.shape; rw [List.length_append] at KW KB; replace KW := Lib.hid KW; replace KB := Lib.hid (KB); clear ho hg c0)
  all_goals
    refine bodyPost_ret (results_none rfl _ _ _) rfl ?_
    exact ⟨⟨_, rfl⟩, ⟨_, KW.out⟩, (Bk.of (belowN HA.out 1) (Nat.le_of_lt hlt)).trans KB.out⟩
set_option maxHeartbeats 1000000 in
theorem leaf_word2 (W : World) (b : Nat) (v : Value) (l : List UInt8) (p : Bool) (n e : Int) (s : ByteArray) (a : Option Addr) (m cap lv : Nat) (R : List UInt8) (hl : l.length + R.length ≤ 1000000000) (hw : Wj W b v l p)
    (hg0 : 2 < W.heap.size) (ht : W.cell? ⟨2, 2, none⟩ = some (.string ⟨R.toArray⟩)) :
    Calls Tryz.prog 114 #[.pointer (some ⟨b, 0, none⟩), .agg #[.int .i64 2, .int .i64 n, .int .i64 e, .string s, .slice a m cap], .int .i64 lv] W (PutR W b (l ++ R) p) := by
  obtain ⟨i0, hi0, hz0, hz1, hz2⟩ := info_parts info8
  obtain ⟨va, vc, rfl, _⟩ := hw.own.shape
  have HW := Lib.hid hw
  have c0 := hw.c0
  have f0 := hw.fr 0
  have hlt := hw.lt
  have HA := Lib.hid ((Below.refl W.heap.size W).alloc (Nat.le_refl _) (.cells #[.int .i64 2, .int .i64 n, .int .i64 e, .string s, .slice a m cap] 46))
  have HX := Lib.hid ((hw.alloc (.cells #[.int .i64 2, .int .i64 n, .int .i64 e, .string s, .slice a m cap] 46)).drewN 1)
  clear hw
  go_enter Tryz.func114, Tryz.ntmps114
  go_wp2_with fail
  go_region_law (refine step_appS (by rfl) _ _ _ _ (by rfl) (b + 1) 5 i0 Tryz.underlying22 Tryz.underlying9 hi0 hz0 hz1 hz2 (.slice va l.length vc) l (by rfl) HX.out.own R (by rfl) hl (by simp; omega) ?_; intro v1 w1 ho hg; obtain ⟨KW, KB, kc, kf⟩ := HX.out.more ho hg; obtain ⟨a1, cc1, rfl, _⟩ := ho.shape; rw [List.length_append] at KW KB; replace KW := Lib.hid KW; replace KB := Lib.hid (KB); clear ho hg c0)
  all_goals
    refine bodyPost_ret (results_none rfl _ _ _) rfl ?_
    exact ⟨⟨_, rfl⟩, ⟨_, KW.out⟩, (Bk.of (belowN HA.out 1) (Nat.le_of_lt hlt)).trans KB.out⟩
end Go.Proofs.YtnfbjcpoealkoaaGreatDoor.json
/-
  What spec.l04Line returns: a line break and blanks, or nothing.
-/
namespace Go.Proofs.YtnfbjcpoealkoaaGreatDoor.json
open Go.ChangeShapes Go.WideShapes Go.ChangeAt Go.RowKit Go.Proofs.YtnfbjcpoealkoaaGreatDoor.val
set_option maxRecDepth 100000

/-- How deep, as spec tells it: below 0 where no lines are broken. -/
def deepOf (p : Bool) (lv : Nat) : Int := if p then lv else -1
theorem line_more (j : Nat) : (⟨(10 :: List.replicate (2 * j) 32).toArray⟩ : ByteArray) ++ ⟨[32, 32].toArray⟩ = ⟨(10 :: List.replicate (2 * (j + 1)) 32).toArray⟩ := by
  rw [numtext.join_bytes, show 2 * (j + 1) = 2 * j + 1 + 1 by omega, List.replicate_succ', List.replicate_succ']
  simp
set_option maxHeartbeats 1000000 in
theorem spec_line (p : Bool) (lv : Nat) (hlv : lv ≤ 1000) (w : World) : Calls Tryz.prog 112 #[.int .i64 (deepOf p lv)] w fun r w' => r = .returned (.string ⟨(lineL p lv).toArray⟩) ∧ w = w' := by
  cases p with
  | false =>
    show Calls Tryz.prog 112 #[.int .i64 (-1)] w fun r w' => r = .returned (.string ⟨[].toArray⟩) ∧ w = w'
    go_enter Tryz.func112, Tryz.ntmps112
    go_wp2
    go_ret
    exact ⟨rfl, rfl⟩
  | true =>
    show Calls Tryz.prog 112 #[.int .i64 (lv : Int)] w fun r w' => r = .returned (.string ⟨(10 :: List.replicate (2 * lv) 32).toArray⟩) ∧ w = w'
    generalize hR : (10 :: List.replicate (2 * lv) (32 : UInt8)) = R
    have HR := Lib.hid hR
    clear hR
    go_enter Tryz.func112, Tryz.ntmps112
    go_wp2
    go_loop [3, 4] (fun x y => ∃ j : Nat, y = .int .i64 j ∧ j ≤ lv ∧ x = .string ⟨(10 :: List.replicate (2 * j) 32).toArray⟩) (fun _ y => lv - (intOf y).toNat)
    case atStart => exact ⟨0, rfl, Nat.zero_le _, rfl⟩
    case round =>
      obtain ⟨j, rfl, hj, rfl⟩ := hrel
      have hsz : (10 :: List.replicate (2 * j) (32 : UInt8)).length = 2 * j + 1 := by simp
      have hm := line_more j
      by_cases hlt : j < lv
      · have h1 : (j : Int) < (lv : Int) := by omega
        generalize 10 :: List.replicate (2 * j) (32 : UInt8) = X at *
        go_wp2
        exact ⟨⟨j + 1, by go_num, by omega, by first | rfl | exact congrArg Value.string hm⟩, by simp [intOf]; omega⟩
      · have h1 : ¬ (j : Int) < (lv : Int) := by omega
        have e : j = lv := by omega
        subst e
        have HX := HR.out
        clear hm hsz
        go_wp2
        go_ret
        exact ⟨by rw [← HX]; rfl, rfl⟩
end Go.Proofs.YtnfbjcpoealkoaaGreatDoor.json
/-
  impl.nodeOf at every kind.
-/
namespace Go.Proofs.YtnfbjcpoealkoaaGreatDoor.node
open Go.ChangeShapes Go.WideShapes Go.ChangeAt Go.RowKit
open Go.Proofs.YtnfbjcpoealkoaaGreatDoor.val
set_option maxRecDepth 100000

/-- The node of a value, as an interface. -/
def nodeV (k n e : Int) (s : ByteArray) (row : Value) : Option Value :=
  if k = 0 then some (.iface 277 (.agg #[])) else
  if k = 1 then some (.iface 278 (.agg #[])) else
  if k = 2 then some (.iface 279 (.agg #[])) else
  if k = 3 then some (.iface 281 (.agg #[.int .i64 n])) else
  if k = 4 then some (.iface 283 (.agg #[.int .i64 n, .int .i64 e])) else
  if k = 5 then some (.iface 285 (.agg #[.string s])) else
  if k = 6 then some (.iface 286 (.agg #[.string s])) else
  if k = 7 then some (.iface 288 (.agg #[row])) else
  if k = 8 then some (.iface 289 (.agg #[row])) else
  if k = 9 then some (.iface 291 (.agg #[.int .i64 n, row])) else none
set_option maxHeartbeats 2000000 in
theorem nodeOf_any (k n e : Int) (s : ByteArray) (a : Option Addr) (m cap : Nat) (v : Value) (hv : nodeV k n e s (.slice a m cap) = some v) (w : World) : Calls Tryz.prog 216 #[.agg #[.int .i64 k, .int .i64 n, .int .i64 e, .string s, .slice a m cap]] w fun r w' => r = .returned v ∧ Below w.heap.size w w' := by
  have HB := Lib.hid ((Below.refl w.heap.size w).alloc (Nat.le_refl _) (.cells #[.int .i64 k, .int .i64 n, .int .i64 e, .string s, .slice a m cap] 46))
  unfold nodeV at hv
  repeat' split at hv
  all_goals cases hv
  all_goals
    subst_vars
    go_enter Tryz.func216, Tryz.ntmps216
    go_wp2
    go_ret
    exact ⟨rfl, HB.out⟩
set_option maxHeartbeats 2000000 in
theorem nodeOf_none (k n e : Int) (s : ByteArray) (a : Option Addr) (m cap : Nat) (hv : nodeV k n e s (.slice a m cap) = none) (w : World) : Calls Tryz.prog 216 #[.agg #[.int .i64 k, .int .i64 n, .int .i64 e, .string s, .slice a m cap]] w fun r w' => r = .returned .nilIface ∧ Below w.heap.size w w' := by
  have HB := Lib.hid ((Below.refl w.heap.size w).alloc (Nat.le_refl _) (.cells #[.int .i64 k, .int .i64 n, .int .i64 e, .string s, .slice a m cap] 46))
  unfold nodeV at hv
  repeat' split at hv
  all_goals try cases hv
  all_goals
    rename_i h0 h1 h2 h3 h4 h5 h6 h7 h8 h9
    have k0 : (k == 0) = false := by simp [h0]
    have k1 : (k == 1) = false := by simp [h1]
    have k2 : (k == 2) = false := by simp [h2]
    have k3 : (k == 3) = false := by simp [h3]
    have k4 : (k == 4) = false := by simp [h4]
    have k5 : (k == 5) = false := by simp [h5]
    have k6 : (k == 6) = false := by simp [h6]
    have k7 : (k == 7) = false := by simp [h7]
    have k8 : (k == 8) = false := by simp [h8]
    have k9 : (k == 9) = false := by simp [h9]
    clear h0 h1 h2 h3 h4 h5 h6 h7 h8 h9
    go_enter Tryz.func216, Tryz.ntmps216
    go_wp2
    go_ret
    exact ⟨rfl, HB.out⟩
end Go.Proofs.YtnfbjcpoealkoaaGreatDoor.node
