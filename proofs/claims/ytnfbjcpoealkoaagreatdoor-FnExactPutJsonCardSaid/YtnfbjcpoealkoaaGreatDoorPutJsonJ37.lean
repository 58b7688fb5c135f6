/-
  Plain: which values fit JSON.
-/
import Derived.Test.YtnfbjcpoealkoaaGreatDoorPutJsonJ36
import Derived.Test.YtnfbjcpoealkoaaGreatDoorPutJsonJ28
import Derived.Test.YtnfbjcpoealkoaaGreatDoorPutJsonJ22
import Derived.Test.YtnfbjcpoealkoaaGreatDoorPutJsonJ25
namespace Go.Proofs.YtnfbjcpoealkoaaGreatDoor.node
open Go.RowKit
open Go.Proofs.YtnfbjcpoealkoaaGreatDoor.val Go.Proofs.YtnfbjcpoealkoaaGreatDoor.num
set_option maxRecDepth 100000

/-- The keys among keys and values are texts. -/
def TextKeys (l : List LT) : Prop := ∀ i (h : i < l.length), i % 2 = 0 → l[i].k = 5
/-- A node that JSON holds. -/
def NodeJ (x : LT) : Prop := x.k ≠ 6 ∧ x.k ≠ 9 ∧ (x.k = 8 → TextKeys x.kids)
def FitsJ (t : LT) : Prop := ValidI t ∧ ∀ y ∈ t.pre 0, NodeJ y.2
mutual
/-- All keys of a value are texts. -/
def TextT : LT → Prop
  | .mk k _ _ _ _ _ kids => (k = 8 → TextKeys kids) ∧ TextTL kids
def TextTL : List LT → Prop
  | [] => True
  | t :: ts => TextT t ∧ TextTL ts
end
theorem textTL_mem {l : List LT} (h : TextTL l) : ∀ j (hj : j < l.length), TextT l[j] := by
  induction l with
  | nil => intro j h; simp at h
  | cons x l ih =>
    intro j hj
    rw [TextTL] at h
    cases j with
    | zero => exact h.1
    | succ j => exact ih h.2 j (by simpa using hj)
theorem textTL_of {l : List LT} (h : ∀ j (hj : j < l.length), TextT l[j]) : TextTL l := by
  induction l with
  | nil => rw [TextTL]; trivial
  | cons x l ih =>
    rw [TextTL]
    exact ⟨h 0 (by simp), ih fun j hj => by have := h (j + 1) (by simp; omega); simpa using this⟩
mutual
theorem text_pre : ∀ (t : LT) (d : Nat), TextT t ↔ ∀ y ∈ t.pre d, (y.2.k = 8 → TextKeys y.2.kids)
  | .mk k n e s a cap kids, d => by
    rw [TextT, LT.pre, textL_pre kids (d + 1)]
    constructor
    · rintro ⟨h1, h2⟩ y hy
      rcases List.mem_cons.1 hy with rfl | hy
      · exact h1
      · exact h2 y hy
    · intro h
      exact ⟨h _ (List.mem_cons_self ..), fun y hy => h y (List.mem_cons_of_mem _ hy)⟩
theorem textL_pre : ∀ (l : List LT) (d : Nat), TextTL l ↔ ∀ y ∈ preL d l, (y.2.k = 8 → TextKeys y.2.kids)
  | [], d => by rw [TextTL, preL]; simp
  | t :: ts, d => by
    rw [TextTL, preL, text_pre t d, textL_pre ts d]
    constructor
    · rintro ⟨h1, h2⟩ y hy
      rcases List.mem_append.1 hy with hy | hy
      · exact h1 y hy
      · exact h2 y hy
    · intro h
      exact ⟨fun y hy => h y (List.mem_append_left _ hy), fun y hy => h y (List.mem_append_right _ hy)⟩
end
theorem kind_zero (kd : Int) (l : List (Nat × LT)) : kindOf kd l = 0 ↔ ∀ y ∈ l, y.2.k ≠ kd := by
  induction l with
  | nil => simp [kindOf]
  | cons x l ih =>
    rw [kindOf_cons]
    constructor
    · intro h y hy
      by_cases e : x.2.k = kd
      · rw [if_pos e] at h; omega
      · rw [if_neg e] at h
        rcases List.mem_cons.1 hy with rfl | hy
        · exact e
        · exact ih.1 (by omega) y hy
    · intro h
      rw [if_neg (h x (List.mem_cons_self ..)), ih.2 (fun y hy => h y (List.mem_cons_of_mem _ hy))]
theorem json_iff (t : LT) : FitsJ t ↔ ValidT t ∧ (er t).count 6 = 0 ∧ (er t).count 9 = 0 ∧ TextT t := by
  unfold FitsJ
  rw [valid_iff, ← kind_pre 6 0 t, ← kind_pre 9 0 t, kind_zero, kind_zero, text_pre t 0]
  constructor
  · rintro ⟨h1, h2⟩
    exact ⟨h1, fun y hy => (h2 y hy).1, fun y hy => (h2 y hy).2.1, fun y hy => (h2 y hy).2.2⟩
  · rintro ⟨h1, h2, h3, h4⟩
    exact ⟨h1, fun y hy => ⟨h2 y hy, h3 y hy, h4 y hy⟩⟩
end Go.Proofs.YtnfbjcpoealkoaaGreatDoor.node
/-
  What spec.l04Put returns: a value that fits, in JSON.
-/
namespace Go.Proofs.YtnfbjcpoealkoaaGreatDoor.json
open Go.ChangeShapes Go.WideShapes Go.ChangeAt Go.RowKit
open Go.Proofs.YtnfbjcpoealkoaaGreatDoor.val Go.Proofs.YtnfbjcpoealkoaaGreatDoor.num Go.Proofs.YtnfbjcpoealkoaaGreatDoor.node
set_option maxRecDepth 100000

mutual
/-- Of kinds that JSON holds, with valid numbers. -/
def GoodT : LT → Prop
  | .mk k n e s a cap kids => (k = 0 ∨ k = 1 ∨ k = 2 ∨ ((k = 3 ∨ k = 4) ∧ numOk (.mk k n e s a cap kids) = true) ∨ k = 5 ∨ k = 7 ∨ k = 8) ∧ GoodTL kids
def GoodTL : List LT → Prop
  | [] => True
  | t :: ts => GoodT t ∧ GoodTL ts
end
theorem goodTL_mem {l : List LT} (h : GoodTL l) : ∀ j (hj : j < l.length), GoodT l[j] := by
  induction l with
  | nil => intro j h; simp at h
  | cons x l ih =>
    intro j hj
    rw [GoodTL] at h
    cases j with
    | zero => exact h.1
    | succ j => exact ih h.2 j (by simpa using hj)
section
variable {n e : Int} {s : ByteArray} {a : Option Addr} {m cap : Nat} (d : Int) (w : World)
set_option maxHeartbeats 1000000 in
theorem put_word (k : Int) (hk : k = 0 ∨ k = 1 ∨ k = 2) : Calls Tryz.prog 77 #[.agg #[.int .i64 k, .int .i64 n, .int .i64 e, .string s, .slice a m cap], .int .i64 d] w fun r w' => r = .returned (.string ⟨(wordL k).toArray⟩) ∧ Below w.heap.size w w' := by
  have HA := Lib.hid ((Below.refl w.heap.size w).alloc (Nat.le_refl _) (.cells #[.int .i64 k, .int .i64 n, .int .i64 e, .string s, .slice a m cap] 46))
  rcases hk with rfl | rfl | rfl
  all_goals
    go_enter Tryz.func77, Tryz.ntmps77
    go_wp2
    go_ret
    exact ⟨rfl, HA.out.alloc (by simp) _⟩
set_option maxHeartbeats 1000000 in
theorem put_num (k : Int) (hk : k = 3 ∨ k = 4) (R : ByteArray) (C : ∀ W, Below w.heap.size w W → Calls Tryz.prog 110 #[.agg #[.int .i64 k, .int .i64 n, .int .i64 e, .string s, .slice a m cap]] W fun r w' => r = .returned (.string R) ∧ Below W.heap.size W w') : Calls Tryz.prog 77 #[.agg #[.int .i64 k, .int .i64 n, .int .i64 e, .string s, .slice a m cap], .int .i64 d] w fun r w' => r = .returned (.string R) ∧ Below w.heap.size w w' := by
  have HA := Lib.hid ((Below.refl w.heap.size w).alloc (Nat.le_refl _) (.cells #[.int .i64 k, .int .i64 n, .int .i64 e, .string s, .slice a m cap] 46))
  replace C := Lib.hid C
  rcases hk with rfl | rfl
  all_goals
    go_enter Tryz.func77, Tryz.ntmps77
    go_wp2_with fail
    with_reducible refine (C.out _ HA.out).mono ?_
    rintro r w1 ⟨rfl, hb⟩
    have HB := Lib.hid (below_of2 HA.out hb)
    clear hb
    go_wp2
    go_ret
    exact ⟨rfl, HB.out⟩
set_option maxHeartbeats 1000000 in
theorem put_text (hs : s.size ≤ 1048576) : Calls Tryz.prog 77 #[.agg #[.int .i64 5, .int .i64 n, .int .i64 e, .string s, .slice a m cap], .int .i64 d] w fun r w' => r = .returned (.string (quote.quoteOf s)) ∧ Below w.heap.size w w' := by
  have HA := Lib.hid ((Below.refl w.heap.size w).alloc (Nat.le_refl _) (.cells #[.int .i64 5, .int .i64 n, .int .i64 e, .string s, .slice a m cap] 46))
  have C := Lib.hid (fun W => quote.spec_quote s W hs)
  clear hs
  generalize quote.quoteOf s = R at *
  go_enter Tryz.func77, Tryz.ntmps77
  go_wp2_with fail
  with_reducible refine (C.out _).mono ?_
  rintro r w1 ⟨rfl, hb⟩
  have HB := Lib.hid (below_of2 HA.out hb)
  clear hb
  go_wp2
  go_ret
  exact ⟨rfl, HB.out⟩
end
end Go.Proofs.YtnfbjcpoealkoaaGreatDoor.json
/-
  impl's writer of JSON at lists and maps: what stands between the brackets.
-/
namespace Go.Proofs.YtnfbjcpoealkoaaGreatDoor.json
open Go.ChangeShapes Go.WideShapes Go.ChangeAt Go.RowKit Go.Proofs.YtnfbjcpoealkoaaGreatDoor.val Go.Proofs.YtnfbjcpoealkoaaGreatDoor.num Go.Proofs.YtnfbjcpoealkoaaGreatDoor.node
set_option maxRecDepth 100000

def IPutC (w : World) (B : Nat) (p : Bool) (t : LT) : Prop := ∀ (lv b : Nat) (v : Value) (l : List UInt8) (w' : World), lv + t.nodes ≤ 1000 → l.length + (jsonT p lv t).length ≤ 999990000 → Below B w w' → B ≤ b → Wj w' b v l p →
  Calls Tryz.prog 114 #[.pointer (some ⟨b, 0, none⟩), .agg #[.int .i64 t.k, .int .i64 t.n, .int .i64 t.e, .string t.s, t.row], .int .i64 lv] w' (PutR w' b (l ++ jsonT p lv t) p)
set_option maxHeartbeats 4000000 in
theorem items_7 {w : World} {B : Nat} (W : World) (b : Nat) (v : Value) (l : List UInt8) (p : Bool) (n e : Int) (s : ByteArray) (a : Option Addr) (cap lv : Nat) (kids : List LT)
    (hc : ∀ i (h : i < kids.length), ∃ x, a = some x ∧ x.block < B ∧ At5 w (x.add (i * 5)) kids[i]) (ih : ∀ i (h : i < kids.length), IPutC w B p kids[i])
    (hl : l.length + (itemsT p 7 lv 0 kids).length ≤ 999990000) (hlv : lv + LT.nodesL kids + 1 ≤ 1000) (hk : kids.length ≤ 1048576) (hpos : 0 < kids.length) (hb : Below B w W) (hB : B ≤ b) (hw : Wj W b v l p) :
    Calls Tryz.prog 164 #[.pointer (some ⟨b, 0, none⟩), .agg #[.int .i64 7, .int .i64 n, .int .i64 e, .string s, .slice a kids.length cap], .int .i64 lv] W (PutR W b (l ++ itemsT p 7 lv 0 kids ++ lineL p lv) p) := by
  obtain ⟨i0, hi0, hz0, hz1, hz2⟩ := info_parts info8
  have hlt := hw.lt
  have HC := Lib.hid hc
  have IH := Lib.hid ih
  have HB := Lib.hid hb
  have HLV := Lib.hid hlv
  have HLEN := Lib.hid hl
  have HA : Hid (Bk b W (W.alloc (.cells #[.int .i64 7, .int .i64 n, .int .i64 e, .string s, .slice a kids.length cap] 46))) := (Bk.refl b W).alloc (Nat.le_of_lt hlt) _
  have HW0 := Lib.hid (hw.alloc (.cells #[.int .i64 7, .int .i64 n, .int .i64 e, .string s, .slice a kids.length cap] 46))
  clear hw hc ih hb hlv hl
  go_enter Tryz.func164, Tryz.ntmps164
  go_wp2_with fail
  go_loopw [11] (fun x wr => ∃ (j : Nat) (v2 : Value), x = .int .i64 j ∧ j ≤ kids.length ∧ Hid (Wj wr b v2 (l ++ itemsT p 7 lv 0 (kids.take j)) p) ∧ Hid (Bk b (W.alloc (.cells #[.int .i64 7, .int .i64 n, .int .i64 e, .string s, .slice a kids.length cap] 46)) wr)) (fun x _ => kids.length - (intOf x).toNat)
  case atStart => exact ⟨0, _, rfl, Nat.zero_le _, by simpa [itemsT] using HW0, Bk.refl _ _⟩
  case round =>
    obtain ⟨j, v2, rfl, hj, HW, HK⟩ := hrel
    have x0 : wr.cell? ⟨W.heap.size, 0, none⟩ = some (.int .i64 7) := cell_of_row wr _ 0 _ _ (0, 0) (HK.out.keep W.heap.size _ 46 (0, 0) (by omega) (by decide) (heap_alloc_new W _))
    have x4 : wr.cell? ⟨W.heap.size, 4, none⟩ = some (.slice a kids.length cap) := cell_of_row wr _ 4 _ _ (0, 0) (HK.out.keep W.heap.size _ 46 (0, 0) (by omega) (by decide) (heap_alloc_new W _))
    have hlt2 := HW.out.lt
    have hsz : W.heap.size + 1 ≤ wr.heap.size := by have := HK.out.low.size; simpa using this
    by_cases hjl : j < kids.length
    · have hj0 : (0 : Int) ≤ (j : Int) := by omega
      have hj1 : (j : Int) < (kids.length : Int) := by omega
      obtain ⟨x, rfl, hx, h5⟩ := HC.out j hjl
      have hbr := HB.out.trans ((HA.out.low.trans HK.out.low).mono hB)
      obtain ⟨c0, c1, c2, c3, c4⟩ := h5.below (by rw [add_block]; exact hx) hbr
      have hkn := kid_nodes kids j hjl
      have hTl : (l ++ itemsT p 7 lv 0 (kids.take j)).length + ((sepL p 7 lv j).length + (jsonT p (lv + 1) kids[j]).length) ≤ 999990000 := by
        have h1 := itemsT_take p 7 lv kids 0 j hjl
        have h2 := itemsT_len p 7 lv kids 0 (j + 1)
        have h3 := HLEN.out
        rw [h1, Nat.zero_add] at h2
        simp only [List.length_append] at h2 ⊢
        omega
      have HL2 := Lib.hid (by have := HLV.out; omega : lv + 1 + kids[j].nodes ≤ 1000)
      have C := Lib.hid (IH.out j hjl)
      have HST := Lib.hid (itemsT_take p 7 lv kids 0 j hjl)
      have HPO := Lib.hid (HK.out.alloc (by omega) (.cells #[.int .i64 kids[j].k, .int .i64 kids[j].n, .int .i64 kids[j].e, .string kids[j].s, kids[j].row] 46))
      have HWA := Lib.hid (HW.out.alloc (.cells #[.int .i64 kids[j].k, .int .i64 kids[j].n, .int .i64 kids[j].e, .string kids[j].s, kids[j].row] 46))
      have HN := Lib.hid (heap_alloc_new wr (.cells #[.int .i64 kids[j].k, .int .i64 kids[j].n, .int .i64 kids[j].e, .string kids[j].s, kids[j].row] 46))
      generalize kids[j] = t at *
      have hrow : t.row = .slice t.a t.kids.length t.cap := rfl
      rw [hrow] at c4 HPO HWA HN
      have hsz' : W.heap.size < wr.heap.size := hsz
      have hw1 : IntKind.i64.wrap ((lv : Int) + 1) = (lv : Int) + 1 := by have := HLV.out; rw [IntKind.wrap_i64] <;> omega
      have hc1 : ((lv + 1 : Nat) : Int) = (lv : Int) + 1 := by omega
      have hlv1 : lv + 1 ≤ 1000 := by have := HLV.out; omega
      by_cases hj00 : j = 0
      · have e0 : ¬ (0 : Int) < (j : Int) := by omega
        have hS : sepL p 7 lv j = lineL p (lv + 1) := by subst hj00; rfl
        rw [hS] at hTl
        have HST' := Lib.hid (HST.out.trans (by rw [Nat.zero_add, hS]))
        clear hS hj00 HST h5 hbr
        generalize hLL : l ++ itemsT p 7 lv 0 (kids.take j) = L at *
        have CL := Lib.hid (line_any _ b (lv + 1) _ L p (by omega) hlv1 HWA.out)
        rw [hc1] at CL
        go_wp2_with fail
        with_reducible refine CL.out.mono ?_
        rintro r w1 ⟨⟨u, rfl⟩, ⟨v3, hw3⟩, hbk⟩
        have k := hbk.keep wr.heap.size _ _ _ (by omega) (by decide) HN.out
        have k0 := cell_of_row w1 _ 0 _ _ (0, 0) k
        have k1 := cell_of_row w1 _ 1 _ _ (0, 0) k
        have k2 := cell_of_row w1 _ 2 _ _ (0, 0) k
        have k3 := cell_of_row w1 _ 3 _ _ (0, 0) k
        have k4 := cell_of_row w1 _ 4 _ _ (0, 0) k
        simp at k0 k1 k2 k3 k4
        replace HPO := Lib.hid (HPO.out.trans hbk)
        have C1 := C.out (lv + 1) b v3 _ w1 HL2.out (by rw [List.length_append]; omega) (HB.out.trans ((HA.out.low.trans HPO.out.low).mono hB)) hB hw3
        rw [hc1, hrow] at C1
        replace C1 := Lib.hid C1
        clear C hbk hw3 c0 c1 c2 c3 c4 x0 x4 CL HWA HN k
        go_wp2_with fail
        with_reducible refine C1.out.mono ?_
        rintro r w2 ⟨⟨u, rfl⟩, ⟨v4, hw4⟩, hbk⟩
        replace HPO := Lib.hid (HPO.out.trans hbk)
        have HW4 := Lib.hid hw4
        clear C1 hw4 hbk k0 k1 k2 k3 k4
        go_wp2
        go_roundw
        case rel => exact ⟨j + 1, v4, by go_num, by omega, by rw [HST'.out, ← List.append_assoc, hLL, ← List.append_assoc]; exact HW4, HPO⟩
        case measure => simp [intOf]; omega
      · have e0 : (0 : Int) < (j : Int) := by omega
        have hS : sepL p 7 lv j = [44] ++ lineL p (lv + 1) := by unfold sepL; rw [if_neg (by omega), if_pos (by omega)]
        rw [hS] at hTl
        have HST' := Lib.hid (HST.out.trans (by rw [Nat.zero_add, hS]))
        clear hS hj00 HST h5 hbr
        generalize hLL : l ++ itemsT p 7 lv 0 (kids.take j) = L at *
        obtain ⟨a2, d2, rfl, _⟩ := HW.out.own.shape
        have o0 := HW.out.c0
        have of := HW.out.fr 0
        go_wp2_with (at_builtin; refine wpList_app (by rfl) _ _ _ (by rfl) (b + 1) 5 encB i0 _ 1 Tryz.underlying22 hi0 hz0 hz1 hz2 rfl oneB _ L (by rfl) (HWA.out.own.alloc _) (wr.heap.size + 1) 1 1 [44] (by rfl) (by rfl) _ (new_at _ _ _ (by simp)) (by rfl) (by unfold maxLen; omega) (by omega) (by simp; omega) ?_; intro v3 w0 hown3 hg3; obtain ⟨KW, KB, kc, kf⟩ := add_one _ HWA.out 44 w0 v3 hown3 hg3; obtain ⟨a3, d3, rfl, _⟩ := hown3.shape; have CL := Lib.hid (line_any _ b (lv + 1) _ _ p (by simp only [List.length_append, List.length_singleton] at hTl ⊢; omega) hlv1 KW); rw [hc1] at CL; rw [List.length_append, List.length_singleton] at KW KB CL; replace KW := Lib.hid KW; replace KB := Lib.hid KB; clear hown3 hg3 c0 c1 c2 c3 c4)
        with_reducible refine CL.out.mono ?_
        rintro r w1 ⟨⟨u, rfl⟩, ⟨v3, hw3⟩, hbk⟩
        replace hbk := KB.out.trans hbk
        clear KW KB o0 of
        have k := hbk.keep wr.heap.size _ _ _ (by omega) (by decide) HN.out
        have k0 := cell_of_row w1 _ 0 _ _ (0, 0) k
        have k1 := cell_of_row w1 _ 1 _ _ (0, 0) k
        have k2 := cell_of_row w1 _ 2 _ _ (0, 0) k
        have k3 := cell_of_row w1 _ 3 _ _ (0, 0) k
        have k4 := cell_of_row w1 _ 4 _ _ (0, 0) k
        simp at k0 k1 k2 k3 k4
        replace HPO := Lib.hid (HPO.out.trans hbk)
        have C1 := C.out (lv + 1) b v3 _ w1 HL2.out (by simp only [List.length_append, List.length_singleton] at hTl ⊢; omega) (HB.out.trans ((HA.out.low.trans HPO.out.low).mono hB)) hB hw3
        rw [hc1, hrow] at C1
        replace C1 := Lib.hid C1
        clear C hbk hw3 x0 x4 CL HWA HN k kc kf
        go_wp2_with fail
        with_reducible refine C1.out.mono ?_
        rintro r w2 ⟨⟨u, rfl⟩, ⟨v4, hw4⟩, hbk⟩
        replace HPO := Lib.hid (HPO.out.trans hbk)
        have HW4 := Lib.hid hw4
        clear C1 hw4 hbk k0 k1 k2 k3 k4
        go_wp2
        go_roundw
        case rel => exact ⟨j + 1, v4, by go_num, by omega, by rw [HST'.out, ← List.append_assoc, hLL, ← List.append_assoc, ← List.append_assoc]; exact HW4, HPO⟩
        case measure => simp [intOf]; omega
    · have hj1 : ¬ (j : Int) < (kids.length : Int) := by omega
      have he : j = kids.length := by omega
      subst he
      have hp : (0 : Int) < (kids.length : Int) := by omega
      have hWe := HW.out
      rw [List.take_length] at hWe
      have CL := Lib.hid (line_any wr b lv _ _ p (by have := HLEN.out; rw [List.length_append]; omega) (by have := HLV.out; omega) hWe)
      clear hWe HW HC IH
      go_wp2_with fail
      with_reducible refine CL.out.mono ?_
      rintro r w1 ⟨⟨u, rfl⟩, ⟨v3, hw3⟩, hbk⟩
      have HW3 := Lib.hid hw3
      have HF := Lib.hid ((HA.out.trans HK.out).trans hbk)
      clear hw3 hbk CL
      go_wp2
      refine bodyPost_ret (results_none rfl _ _ _) rfl ?_
      exact ⟨⟨_, rfl⟩, ⟨_, HW3.out⟩, HF.out⟩
end Go.Proofs.YtnfbjcpoealkoaaGreatDoor.json
