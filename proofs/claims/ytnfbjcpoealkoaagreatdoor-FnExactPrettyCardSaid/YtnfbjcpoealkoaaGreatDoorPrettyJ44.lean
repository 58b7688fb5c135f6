/-
  What spec.Pretty and impl.Pretty return at every value.
-/
import Derived.Test.YtnfbjcpoealkoaaGreatDoorPrettyJ43
import Derived.Test.YtnfbjcpoealkoaaGreatDoorPrettyJ42
import Derived.Test.YtnfbjcpoealkoaaGreatDoorPrettyJ35
import Derived.Test.YtnfbjcpoealkoaaGreatDoorPrettyJ0
import Derived.ChangeArms
import Derived.DataReads
import Derived.Test.YtnfbjcpoealkoaaGreatDoorRows
import Derived.Test.YtnfbjcpoealkoaaGreatDoorPrettyJ23
import Derived.Lib.LaidU8
import Derived.PinnedBridge
import Derived.Below
import Derived.WalkKit
namespace Go.Proofs.YtnfbjcpoealkoaaGreatDoor.json
open Go.ChangeShapes Go.WideShapes Go.ChangeAt Go.RowKit
open Go.Proofs.YtnfbjcpoealkoaaGreatDoor.val Go.Proofs.YtnfbjcpoealkoaaGreatDoor.num Go.Proofs.YtnfbjcpoealkoaaGreatDoor.node
set_option maxRecDepth 100000

set_option maxHeartbeats 1000000 in
theorem spec_pretty {w : World} {B : Nat} {t : LT} (h : In w B t) (hz : t.sz ≤ 1048576) (w' : World) (hb : Below B w w') (hB : B ≤ w'.heap.size) :
    Calls Tryz.prog 39 #[.agg #[.int .i64 t.k, .int .i64 t.n, .int .i64 t.e, .string t.s, t.row]] w' fun r w'' => r = .returned (.string (jsonOf true t)) ∧ Below w'.heap.size w' w'' := by
  have hrow : t.row = .slice t.a t.kids.length t.cap := rfl
  have HA : Hid (Below w'.heap.size w' (w'.alloc (.cells #[.int .i64 t.k, .int .i64 t.n, .int .i64 t.e, .string t.s, .slice t.a t.kids.length t.cap] 46))) := (Below.refl _ _).alloc (Nat.le_refl _) _
  have HX : Hid (Box (w'.alloc (.cells #[.int .i64 t.k, .int .i64 t.n, .int .i64 t.e, .string t.s, .slice t.a t.kids.length t.cap] 46)) w'.heap.size t) := Box.new w' t 46
  have CJ : Hid (∀ W, Below w'.heap.size w' W → Calls Tryz.prog 76 #[.agg #[.int .i64 t.k, .int .i64 t.n, .int .i64 t.e, .string t.s, t.row]] W (OwnR (FitsJ t) W)) := fun W hW => spec_json h hz W (hb.trans (hW.mono hB)) (Nat.le_trans hB hW.size)
  have CP : Hid (FitsJ t → ∀ W, Below w'.heap.size w' W → Calls Tryz.prog 77 #[.agg #[.int .i64 t.k, .int .i64 t.n, .int .i64 t.e, .string t.s, t.row], .int .i64 0] W fun r w'' => r = .returned (.string ⟨(jsonT true 0 t).toArray⟩) ∧ Below W.heap.size W w'') := fun hf W hW => put_any h (fits_good hf) hz true 0 (by have := ((valid_iff t).1 hf.1).2; omega) (by have := fits_len h true hf; omega) W (hb.trans (hW.mono hB)) (Nat.le_trans hB hW.size)
  have HY : Hid (FitsJ t → jsonOf true t = ⟨(jsonT true 0 t).toArray⟩) := fun hf => if_pos hf
  have HN : Hid (¬ FitsJ t → jsonOf true t = ⟨#[]⟩) := fun hf => if_neg hf
  simp only [hrow] at CJ CP ⊢
  generalize jsonOf true t = R at *
  generalize jsonT true 0 t = T at *
  generalize FitsJ t = V at *
  clear h hz hb hB hrow
  go_enter Tryz.func39, Tryz.ntmps39
  go_wp2_with fail
  with_reducible refine (CJ.out _ HA.out).mono ?_
  rintro r w1 ⟨b, rfl, hbi, hb1⟩
  replace HX := Lib.hid (HX.out.behind hb1)
  replace HA := Lib.hid (below_of2 HA.out hb1)
  clear hb1 CJ
  obtain ⟨p0, p1, p2, p3, p4⟩ := HX.out
  unfold LT.row at p4
  cases b with
  | false =>
    have HF : Hid (R = ⟨#[]⟩) := HN.out fun hv => by have := hbi.2 hv; cases this
    clear hbi HY HN CP
    go_wp2
    go_ret
    exact ⟨by rw [HF.out]; rfl, HA.out⟩
  | true =>
    have HF : Hid (R = ⟨T.toArray⟩) := HY.out (hbi.1 rfl)
    have CP2 := Lib.hid (CP.out (hbi.1 rfl))
    clear hbi HY HN CP
    go_wp2_with fail
    with_reducible refine (CP2.out _ HA.out).mono ?_
    rintro r w2 ⟨rfl, hb2⟩
    replace HA := Lib.hid (below_of2 HA.out hb2)
    clear hb2 CP2
    go_wp2
    go_ret
    exact ⟨by rw [HF.out]; rfl, HA.out⟩
set_option maxHeartbeats 1000000 in
theorem impl_pretty {w : World} {t : LT} (T : Tb w) (h : In w w.heap.size t) (hz : t.sz ≤ 1048576) :
    Calls Tryz.prog 40 #[.agg #[.int .i64 t.k, .int .i64 t.n, .int .i64 t.e, .string t.s, t.row]] w fun r w'' => r = .returned (.string (jsonOf true t)) ∧ Below w.heap.size w w'' := by
  have hrow : t.row = .slice t.a t.kids.length t.cap := rfl
  have HA : Hid (Below w.heap.size w (w.alloc (.cells #[.int .i64 t.k, .int .i64 t.n, .int .i64 t.e, .string t.s, .slice t.a t.kids.length t.cap] 46))) := (Below.refl _ _).alloc (Nat.le_refl _) _
  have C : Hid (∀ W, Below w.heap.size w W → Calls Tryz.prog 79 #[.agg #[.int .i64 t.k, .int .i64 t.n, .int .i64 t.e, .string t.s, t.row], .bool true] W fun r w'' => r = .returned (.string (jsonOf true t)) ∧ Below W.heap.size W w'') := fun W hW => by
    have hIW := (h.behind hW).mono hW.size
    exact text_any (T.below hW) hIW hz true (fun W' hW' => impl_fits (T.below hW) hIW hz W' hW')
  simp only [hrow] at C ⊢
  generalize jsonOf true t = R at *
  clear h hz hrow T
  go_enter Tryz.func40, Tryz.ntmps40
  go_wp2_with fail
  with_reducible refine (C.out _ HA.out).mono ?_
  rintro r w1 ⟨rfl, hb1⟩
  replace HA := Lib.hid (below_of2 HA.out hb1)
  clear hb1
  go_wp2
  go_ret
  exact ⟨rfl, HA.out⟩
end Go.Proofs.YtnfbjcpoealkoaaGreatDoor.json
/-
  Plain: what JSON tells of a value hangs on what the value tells apart from its places alone.
-/
namespace Go.Proofs.YtnfbjcpoealkoaaGreatDoor.json
open Go.RowKit
open Go.Proofs.YtnfbjcpoealkoaaGreatDoor.val Go.Proofs.YtnfbjcpoealkoaaGreatDoor.num Go.Proofs.YtnfbjcpoealkoaaGreatDoor.node
set_option maxRecDepth 100000

mutual
/-- A value without places. -/
def ofV : VT → LT
  | .mk k n e s kids => .mk k n e s none 0 (ofVL kids)
def ofVL : List VT → List LT
  | [] => []
  | t :: ts => ofV t :: ofVL ts
end
def bare (t : LT) : LT := ofV (er t)
theorem ofVL_map (l : List LT) : ofVL (erL l) = l.map bare := by
  induction l with
  | nil => rfl
  | cons t ts ih => rw [erL, ofVL, ih]; rfl
theorem bare_mk (k n e : Int) (s : ByteArray) (a : Option Addr) (cap : Nat) (kids : List LT) : bare (.mk k n e s a cap kids) = .mk k n e s none 0 (kids.map bare) := by
  rw [bare, er, ofV, ofVL_map]
theorem bare_f (t : LT) : (bare t).k = t.k ∧ (bare t).n = t.n ∧ (bare t).e = t.e ∧ (bare t).s = t.s ∧ (bare t).kids = t.kids.map bare := by
  cases t
  rw [bare_mk]
  exact ⟨rfl, rfl, rfl, rfl, rfl⟩
mutual
theorem jsonT_bare (p : Bool) : ∀ (lv : Nat) (t : LT), jsonT p lv (bare t) = jsonT p lv t
  | lv, .mk k n e s a cap kids => by
    rw [bare_mk, jsonT, jsonT, itemsT_bare p k lv 0 kids, List.length_map]
theorem itemsT_bare (p : Bool) (k : Int) (lv : Nat) : ∀ (i : Nat) (l : List LT), itemsT p k lv i (l.map bare) = itemsT p k lv i l
  | i, [] => rfl
  | i, t :: ts => by rw [List.map_cons, itemsT, itemsT, jsonT_bare p (lv + 1) t, itemsT_bare p k lv (i + 1) ts]
end
theorem num_bare (t : LT) : numOk (bare t) = numOk t := by
  obtain ⟨h1, h2, h3, h4, h5⟩ := bare_f t
  unfold numOk
  rw [h1, h2, h3, h4, h5, List.length_map]
theorem key_bare (t : LT) : LT.key (bare t) = LT.key t := by
  obtain ⟨h1, h2, _, h4, _⟩ := bare_f t
  unfold LT.key
  rw [h1, h2, h4]
theorem pairs_bare (l : List LT) : Pairs (l.map bare) ↔ Pairs l := by
  have hg : ∀ i, GoodKey (l.map bare) i ↔ GoodKey l i := fun i => by
    unfold GoodKey
    constructor
    · intro h hi
      obtain ⟨h1, h2⟩ := h (by simpa using hi)
      simp only [List.getElem_map, key_bare, (bare_f _).1] at h1 h2
      exact ⟨h1, h2⟩
    · intro h hi
      obtain ⟨h1, h2⟩ := h (by simpa using hi)
      simp only [List.getElem_map, key_bare, (bare_f _).1]
      exact ⟨h1, h2⟩
  unfold Pairs KeysGood
  simp only [hg, List.length_map]
theorem own_bare (t : LT) : OwnP (bare t) ↔ OwnP t := by
  obtain ⟨h1, h2, h3, h4, h5⟩ := bare_f t
  unfold OwnP
  rw [h1, h2, h3, h4, h5, num_bare, List.length_map, pairs_bare]
mutual
theorem right_bare : ∀ (t : LT) (d : Int), RightT (bare t) d ↔ RightT t d
  | .mk k n e s a cap kids, d => by
    have h := own_bare (.mk k n e s a cap kids)
    rw [bare_mk] at h ⊢
    rw [RightT, RightT, h, rightL_bare kids (d - 1)]
theorem rightL_bare : ∀ (l : List LT) (d : Int), RightL (l.map bare) d ↔ RightL l d
  | [], d => Iff.rfl
  | t :: ts, d => by rw [List.map_cons, RightL, RightL, right_bare t d, rightL_bare ts d]
end
theorem keys_bare (l : List LT) : TextKeys (l.map bare) ↔ TextKeys l := by
  unfold TextKeys
  constructor
  · intro h i hi he
    have := h i (by simpa using hi) he
    simpa [(bare_f _).1] using this
  · intro h i hi he
    have := h i (by simpa using hi) he
    simpa [(bare_f _).1] using this
mutual
theorem text_bare : ∀ t : LT, TextT (bare t) ↔ TextT t
  | .mk k n e s a cap kids => by rw [bare_mk, TextT, TextT, keys_bare, textL_bare kids]
theorem textL_bare : ∀ l : List LT, TextTL (l.map bare) ↔ TextTL l
  | [] => Iff.rfl
  | t :: ts => by rw [List.map_cons, TextTL, TextTL, text_bare t, textL_bare ts]
end
theorem valid_er {t u : LT} (h : er t = er u) : ValidT t ↔ ValidT u := by
  unfold ValidT
  rw [← right_bare t, ← right_bare u, er_nodes h, bare, bare, h]
theorem fits_er {t u : LT} (h : er t = er u) : FitsJ t ↔ FitsJ u := by
  rw [json_iff, json_iff, valid_er h, h, ← text_bare t, ← text_bare u, bare, bare, h]
theorem jsonT_er (p : Bool) (lv : Nat) {t u : LT} (h : er t = er u) : jsonT p lv t = jsonT p lv u := by
  rw [← jsonT_bare p lv t, ← jsonT_bare p lv u, bare, bare, h]
theorem jsonOf_er (p : Bool) {t u : LT} (h : er t = er u) : jsonOf p t = jsonOf p u := by
  unfold jsonOf
  rw [jsonT_er p 0 h]
  by_cases hf : FitsJ t
  · rw [if_pos hf, if_pos ((fits_er h).1 hf)]
  · rw [if_neg hf, if_neg fun hu => hf ((fits_er h).2 hu)]
end Go.Proofs.YtnfbjcpoealkoaaGreatDoor.json
/-
  The law FnExactPretty at a value of at most 1048576 letters and elements: true, old memory kept. The tables are as the texts lay them.
-/
namespace Go.Proofs.YtnfbjcpoealkoaaGreatDoor.fnExactPretty
open Go.ChangeShapes Go.WideShapes Go.ChangeAt Go.RowKit
open Go.Proofs.YtnfbjcpoealkoaaGreatDoor.val Go.Proofs.YtnfbjcpoealkoaaGreatDoor.json
set_option maxRecDepth 100000

theorem tellS {w : World} {t : LT} (h : In w w.heap.size t) (hz : t.sz ≤ 1048576) : Calls Tryz.prog 39 #[.agg #[.int .i64 t.k, .int .i64 t.n, .int .i64 t.e, .string t.s, t.row]] w fun e w'' => e = .returned (.string (jsonOf true t)) ∧ Below w.heap.size w w'' :=
  spec_pretty h hz w (Below.refl _ _) (Nat.le_refl _)

set_option maxHeartbeats 8000000 in
theorem core {w : World} {t : LT} (h : In w w.heap.size t) (hz : t.sz ≤ 1048576) (hT : Tb w) :
    Calls Tryz.prog 6 #[.agg #[.int .i64 t.k, .int .i64 t.n, .int .i64 t.e, .string t.s, t.row]] w fun e w' => e = .returned (.bool true) ∧ Below w.heap.size w w' := by
  have TO := Lib.hid (toL h hz)
  have HT := Lib.hid hT
  have B := Lib.hid ((Below.refl w.heap.size w).alloc (Nat.le_refl _) (.cells #[.int .i64 t.k, .int .i64 t.n, .int .i64 t.e, .string t.s, t.row] 54))
  have PB := Lib.hid (Box.new w t 54)
  have SZ := Lib.hid (szYes h B.out hz)
  have hnn : ¬ ((1048576 - t.sz : Nat) : Int) < 0 := by omega
  have hzz := Lib.hid hz
  clear h hz hT
  go_enter Tryz.func6, Tryz.ntmps6
  go_wp2_with fail
  with_reducible refine SZ.out.mono ?_
  rintro e w1 ⟨rfl, hb⟩
  replace B := Lib.hid (below_of2 B.out hb)
  replace PB := Lib.hid (PB.out.behind hb)
  obtain ⟨p0, p1, p2, p3, p4⟩ := PB.out
  clear SZ hb
  -- w0 := spec.Pretty(toValue(aV))
  go_wp2_with fail
  with_reducible refine (TO.out.run _ B.out).mono ?_
  rintro e w2 ⟨t1, rfl, he1, ho1, hb⟩
  replace B := Lib.hid (below_of2 B.out hb)
  replace PB := Lib.hid (PB.out.behind hb)
  have CK := tellS ho1.isIn (by rw [er_sz he1]; exact hzz.out)
  rw [jsonOf_er true he1] at CK
  replace CK := Lib.hid CK
  clear hb he1 ho1 p0 p1 p2 p3 p4
  go_wp2_with fail
  with_reducible refine CK.out.mono ?_
  rintro e w3 ⟨rfl, hb⟩
  replace B := Lib.hid (below_of2 B.out hb)
  replace PB := Lib.hid (PB.out.behind hb)
  obtain ⟨p0, p1, p2, p3, p4⟩ := PB.out
  clear CK hb
  -- x0 := toValue(aV)
  go_wp2_with fail
  with_reducible refine (TO.out.run _ B.out).mono ?_
  rintro e w4 ⟨t2, rfl, he2, ho2, hb⟩
  replace B := Lib.hid (below_of2 B.out hb)
  replace PB := Lib.hid (PB.out.behind hb)
  have X2 := Lib.hid ho2
  have HE2 := Lib.hid he2
  clear hb he2 ho2 p0 p1 p2 p3 p4
  have hbA : Below w4.heap.size w4 (w4.alloc (.cells #[.int .i64 t2.k, .int .i64 t2.n, .int .i64 t2.e, .string t2.s, t2.row] 46)) := (Below.refl _ _).alloc (Nat.le_refl _) _
  have XB := Lib.hid (Box.new w4 t2 46)
  have hrow : t2.row = .slice t2.a t2.kids.length t2.cap := rfl
  rw [hrow] at hbA XB
  replace B := Lib.hid (below_of2 B.out hbA)
  replace PB := Lib.hid (PB.out.behind hbA)
  replace X2 := Lib.hid (X2.out.behind hbA)
  have CI := impl_pretty (HT.out.below B.out) (X2.out.mine hbA.size).isIn (by rw [er_sz HE2.out]; exact hzz.out)
  rw [jsonOf_er true HE2.out, hrow] at CI
  replace CI := Lib.hid CI
  have HXR := Lib.hid hrow
  rw [hrow]
  clear hbA hrow
  go_wp2_with fail
  with_reducible refine CI.out.mono ?_
  rintro e w5 ⟨rfl, hb⟩
  replace B := Lib.hid (below_of2 B.out hb)
  replace PB := Lib.hid (PB.out.behind hb)
  replace XB := Lib.hid (XB.out.behind hb)
  replace X2 := Lib.hid ((X2.out.mine (by simp)).behind hb)
  clear CI hb
  obtain ⟨p0, p1, p2, p3, p4⟩ := PB.out
  obtain ⟨q0, q1, q2, q3, q4⟩ := XB.out
  -- eqValue(x0, toValue(aV))
  go_wp2
  go_region_with (first
    | (go_at_call 37; refine (TO.out.run _ (belowN B.out 1)).mono ?_; rintro e w7 ⟨t3, rfl, he3, ho3, hb⟩
       have B7 := Lib.hid (below_of2 (belowN B.out 1) hb)
       have XB7 := Lib.hid ((XB.out.drewN 1).behind hb)
       have X27 := Lib.hid (X2.out.isIn.drewBehind 1 hb)
       have CE := Lib.hid (eqL_any X27.out ho3.isIn (HE2.out.trans he3.symm))
       obtain ⟨s0, s1, s2, s3, s4⟩ := XB7.out
       clear hb he3 ho3)
    | (go_at_call 32; refine CE.out.mono ?_; rintro e w8 ⟨rfl, hb8⟩))
  all_goals
    have B8 := Lib.hid (below_of2 B7.out hb8)
    clear CE hb8 B7 XB7 X27 B PB XB X2 p0 p1 p2 p3 p4 q0 q1 q2 q3 q4
    try clear s0 s1 s2 s3 s4
    go_wp2
    go_ret
    exact ⟨rfl, B8.out⟩

end Go.Proofs.YtnfbjcpoealkoaaGreatDoor.fnExactPretty
/-
  An argument of the law's type Value, read as data, is a tree that lies in memory.
-/
namespace Go.Proofs.YtnfbjcpoealkoaaGreatDoor.val
open Go.ChangeShapes Go.WideShapes Go.ChangeAt Go.RowKit
set_option maxRecDepth 100000

instance : Inhabited LT := ⟨.mk 0 0 0 ⟨#[]⟩ none 0 []⟩
theorem inI_of {n : Int} (h : (Lit.int .i64 n).wf = true) : InI n := by
  unfold InI
  simpa [Lit.wf, IntKind.min, IntKind.max, IntKind.signed, IntKind.bits] using h
theorem add_at (p : Addr) (j : Nat) : p.add (j + 1) = ⟨p.block, p.off + (j + 1), none⟩ := by unfold Addr.add; simp
theorem five {l : List Value} (h : l.length = 5) : ∃ c0 c1 c2 c3 c4, l = [c0, c1, c2, c3, c4] := by
  match l, h with
  | [c0, c1, c2, c3, c4], _ => exact ⟨c0, c1, c2, c3, c4, rfl⟩
theorem cells5 : Tryz.prog.cellsOf 54 = 5 := by kernel_rfl
theorem cells1i : Tryz.prog.cellsOf 3 = 1 := by kernel_rfl
theorem cells1s : Tryz.prog.cellsOf 9 = 1 := by kernel_rfl
theorem cells1l : Tryz.prog.cellsOf 52 = 1 := by kernel_rfl

theorem open_val {H : Type} {enc : TypeId × Value → H} {W : World} : ∀ (fuel : Nat) (cs : List Value) (x : DataW H × List MemPlace), DataW.trod enc Tryz.prog W 0 (fun _ => true) true fuel 54 cs = some x →
    ∃ t : LT, cs = [.int .i64 t.k, .int .i64 t.n, .int .i64 t.e, .string t.s, t.row] ∧ In W W.heap.size t := by
  intro fuel
  induction fuel using Nat.strongRecOn with
  | ind fuel ih =>
    intro cs x h
    obtain ⟨xs, n, rfl, hx, hlen, hxl, hf⟩ := DataW.trod_struct Tryz.underlying54 h
    rw [cells5] at hlen
    obtain ⟨c0, c1, c2, c3, c4, rfl⟩ := five hlen
    have hxl5 : xs.length = 5 := hxl
    have g : ∀ i (hi : i < 5), xs[i]? = some (xs[i]'(by omega)) := fun i hi => List.getElem?_eq_getElem (by omega)
    have h0 := (hf 0 _ rfl).trans (g 0 (by omega))
    have h1 := (hf 1 _ rfl).trans (g 1 (by omega))
    have h2 := (hf 2 _ rfl).trans (g 2 (by omega))
    have h3 := (hf 3 _ rfl).trans (g 3 (by omega))
    have h4 := (hf 4 _ rfl).trans (g 4 (by omega))
    have q0 : DataW.trod enc Tryz.prog W 0 (fun _ => true) true n 3 ([c0, c1, c2, c3, c4].take (Tryz.prog.cellsOf 3)) = _ := h0
    have q1 : DataW.trod enc Tryz.prog W 0 (fun _ => true) true n 3 ([c1, c2, c3, c4].take (Tryz.prog.cellsOf 3)) = _ := h1
    have q2 : DataW.trod enc Tryz.prog W 0 (fun _ => true) true n 3 ([c2, c3, c4].take (Tryz.prog.cellsOf 3)) = _ := h2
    have q3 : DataW.trod enc Tryz.prog W 0 (fun _ => true) true n 9 ([c3, c4].take (Tryz.prog.cellsOf 9)) = _ := h3
    have q4 : DataW.trod enc Tryz.prog W 0 (fun _ => true) true n 52 ([c4].take (Tryz.prog.cellsOf 52)) = _ := h4
    rw [cells1i] at q0 q1 q2
    rw [cells1s] at q3
    rw [cells1l] at q4
    simp only [List.take_succ_cons, List.take_zero] at q0 q1 q2 q3 q4
    obtain ⟨k, e0, _, w0⟩ := DataW.trod_int Tryz.underlying3 q0
    obtain ⟨m, e1, _, w1⟩ := DataW.trod_int Tryz.underlying3 q1
    obtain ⟨e, e2, _, w2⟩ := DataW.trod_int Tryz.underlying3 q2
    obtain ⟨s, e3, _, w3⟩ := DataW.trod_string Tryz.underlying9 q3
    injection e0 with e0
    injection e1 with e1
    injection e2 with e2
    injection e3 with e3
    subst e0; subst e1; subst e2; subst e3
    have hs : s.size ≤ 9223372036854775807 := by unfold maxLen at w3; exact w3
    rcases DataW.trod_slice Tryz.underlying52 q4 with ⟨e4, _⟩ | ⟨a, len, cap, elems, rest, n2, hn2, e4, _, _, hlc, hcm, hel, hall, _, _⟩
    · injection e4 with e4
      subst e4
      exact ⟨.mk k m e s none 0 [], rfl, .mk (inI_of w0) (inI_of w1) (inI_of w2) hs (by simp) (fun i hi => by simp at hi) (fun i hi => by simp at hi)⟩
    · injection e4 with e4
      subst e4
      have key : ∀ i, i < len → ∃ t : LT, At5 W (a.add (i * 5)) t ∧ (a.add (i * 5)).block < W.heap.size ∧ In W W.heap.size t := by
        intro i hi
        have h5 := hall i hi
        rw [List.getElem?_eq_getElem (by omega), cells5] at h5
        obtain ⟨cs', hc', ht'⟩ := Option.bind_eq_some_iff.1 h5
        obtain ⟨t, rfl, ht⟩ := ih n2 (by omega) cs' _ ht'
        obtain ⟨_, _, hat⟩ := World.cells?_some hc'
        have a0 := hat 0 (by omega)
        have a1 := hat 1 (by omega)
        have a2 := hat 2 (by omega)
        have a3 := hat 3 (by omega)
        have a4 := hat 4 (by omega)
        rw [show (a.add (i * 5)).add 0 = a.add (i * 5) by unfold Addr.add; simp] at a0
        rw [add_at _ 0] at a1
        rw [add_at _ 1] at a2
        rw [add_at _ 2] at a3
        rw [add_at _ 3] at a4
        exact ⟨t, ⟨a0, a1, a2, a3, a4⟩, World.block_lt_of_cell? W _ a0, ht⟩
      obtain ⟨T, hT⟩ := Go.Deep.choose_lt key
      have hl : ((List.range len).map T).length = len := by simp
      have hg : ∀ i (hi : i < ((List.range len).map T).length), ((List.range len).map T)[i] = T i := fun i hi => by simp
      refine ⟨.mk k m e s (some a) cap ((List.range len).map T), ?_, .mk (inI_of w0) (inI_of w1) (inI_of w2) hs (by rw [hl]; unfold maxLen at hcm; exact ⟨hlc, hcm⟩) (fun i hi => ⟨a, rfl, ?_, ?_⟩) (fun i hi => ?_)⟩
      · show _ = [Value.int .i64 k, .int .i64 m, .int .i64 e, .string s, .slice (some a) ((List.range len).map T).length cap]
        rw [hl]
      · have := (hT i (by omega)).2.1
        rw [add_block] at this
        exact this
      · rw [hg i hi]; exact (hT i (by omega)).1
      · rw [hg i hi]; exact (hT i (by omega)).2.2

end Go.Proofs.YtnfbjcpoealkoaaGreatDoor.val
/-
  The tables of unicode/utf8 as a row of this seat lists them: what the library's contracts ask of the world.
-/
namespace Go.Proofs.YtnfbjcpoealkoaaGreatDoor.tabs
open Go.Lib Go.RowKit
theorem extra : U8Extra Tryz.prog Tryz.lays197_ren := ⟨by kernel_rfl, by kernel_rfl, by kernel_rfl, by kernel_rfl, by kernel_rfl, by kernel_rfl, by kernel_rfl⟩
theorem accept_eq : Rows.laid_unicode_utf8_acceptRanges = acceptData := by kernel_rfl
theorem first_eq : Rows.laid_unicode_utf8_first = firstData := Pinned.utf8First_eq
theorem utf8 {l : List (String × DataW Unit)} {w : World} (hL : laidMet Tryz.prog l w) (h1 : ("unicode/utf8.first", Rows.laid_unicode_utf8_first) ∈ l) (h2 : ("unicode/utf8.acceptRanges", Rows.laid_unicode_utf8_acceptRanges) ∈ l) : Lib.Utf8Tabs 6 7 w :=
  utf8Tabs_of_reads (P := Tryz.prog) (ρ := Tryz.lays197_ren) { Tryz.lays197 with } extra (first_eq ▸ laidMet.reads hL h1) (accept_eq ▸ laidMet.reads hL h2)
theorem below {w w' : World} (h : Lib.Utf8Tabs 6 7 w) (hb : Below w.heap.size w w') : Lib.Utf8Tabs 6 7 w' := by
  refine ⟨fun c hc => ?_, fun i hi => ⟨?_, ?_⟩⟩
  · have := h.1 c hc
    rw [hb.cell (World.block_lt_of_cell? w _ this)]; exact this
  · have := (h.2 i hi).1
    rw [hb.cell (World.block_lt_of_cell? w _ this)]; exact this
  · have := (h.2 i hi).2
    rw [hb.cell (World.block_lt_of_cell? w _ this)]; exact this
end Go.Proofs.YtnfbjcpoealkoaaGreatDoor.tabs
