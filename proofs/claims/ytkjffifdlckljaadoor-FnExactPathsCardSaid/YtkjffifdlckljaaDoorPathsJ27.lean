/-
  What impl.stepTo, impl.appendPaths and impl.Paths return: the paths of a value's nodes.
-/
import Derived.Test.YtkjffifdlckljaaDoorPathsJ25
import Derived.Test.YtkjffifdlckljaaDoorPathsJ26
import Derived.Deep.RegionHeld3
namespace Go.Proofs.YtkjffifdlckljaaDoor.path
open Go.ChangeShapes Go.WideShapes Go.ChangeAt Go.RowKit
open Go.Proofs.YtkjffifdlckljaaDoor.strs (encS oneS ReadS)
open Go.Proofs.YtkjffifdlckljaaDoor.val Go.Proofs.YtkjffifdlckljaaDoor.node
set_option maxRecDepth 100000

abbrev Pow (w : World) : Prop := Lib.TabIs Tryd.prog w "internal/strconv.uint64pow10" .u64 Lib.pow10Tab
/-- What stepTo returns. -/
def stepV : Option ByteArray → Value
  | some x => .tuple #[.string x, .bool true]
  | none => .tuple #[.string ⟨#[]⟩, .bool false]
set_option maxHeartbeats 2000000 in
theorem step_to (k n e : Int) (s : ByteArray) (a : Option Addr) (cap : Nat) (kids : List LT) (j : Nat) (W : World) (hl : kids.length ≤ 1048576) (hj : j < kids.length) (hk : k = 7 ∨ k = 8 ∨ k = 9)
    (hc : ∀ i (h : i < kids.length), ∃ x, a = some x ∧ At5 W (x.add (i * 5)) kids[i]) (hP : Pow W) :
    Calls Tryd.prog 88 #[.agg #[.int .i64 k, .int .i64 n, .int .i64 e, .string s, .slice a kids.length cap], .int .i64 j] W fun r w' => r = .returned (stepV (stepAt k (kids.map er) j)) ∧ Below W.heap.size W w' := by
  have HA : Hid (Below W.heap.size W (W.alloc (.cells #[.int .i64 k, .int .i64 n, .int .i64 e, .string s, .slice a kids.length cap] 24))) := (Below.refl _ _).alloc (Nat.le_refl _) _
  rcases hk with rfl | rfl | rfl
  · have CD := Lib.hid (decText.impl_any (j : Int) (by omega) (by omega) _ (decText.pow10_below hP HA.out))
    rw [show stepAt 7 (kids.map er) j = some (itoaB j) from rfl]
    unfold stepV itoaB
    clear hc hP
    generalize (⟨(Lib.itoa (j : Int)).toArray⟩ : ByteArray) = X at *
    go_enter Tryd.func88, Tryd.ntmps88
    go_wp2_with fail
    with_reducible refine CD.out.mono ?_
    rintro r w1 ⟨rfl, hb⟩
    have HB := Lib.hid (below_ofP HA.out hb)
    clear hb CD
    go_wp2
    go_ret2
    exact ⟨rfl, HB.out⟩
  · by_cases hj2 : j % 2 = 0
    · have q2 : ((j : Int).tmod 2 == 0) = true := by rw [beq_iff_eq, Int.tmod_eq_emod_of_nonneg (by omega)]; omega
      have q2b : ((j : Int) % 2 == 0) = true := by rw [beq_iff_eq]; omega
      have hj0 : (0 : Int) ≤ (j : Int) := by omega
      rw [show stepAt 8 (kids.map er) j = none by unfold stepAt; rw [if_neg (by decide), if_neg (by decide), if_pos hj2]]
      unfold stepV
      clear hc hP hj2
      go_enter Tryd.func88, Tryd.ntmps88
      go_wp2
      go_ret2
      exact ⟨rfl, HA.out⟩
    · obtain ⟨m, hm⟩ : ∃ m, j = m + 1 := ⟨j - 1, by omega⟩
      have hml : m < kids.length := by omega
      have hjm1 : j - 1 = m := by omega
      have hj0 : (0 : Int) ≤ (j : Int) := by omega
      have q2 : ((j : Int).tmod 2 == 0) = false := by rw [beq_eq_false_iff_ne, Int.tmod_eq_emod_of_nonneg (by omega)]; omega
      have q2b : ((j : Int) % 2 == 0) = false := by rw [beq_eq_false_iff_ne]; omega
      have q3 : (j : Int) - 1 = (m : Int) := by omega
      have q4 : (0 : Int) ≤ (m : Int) := by omega
      have q5 : (m : Int) < (kids.length : Int) := by omega
      clear hm
      obtain ⟨x, rfl, h5⟩ := hc m hml
      have hSA : stepAt 8 (kids.map er) j = if kids[m].k = 5 then some kids[m].s else none := by
        unfold stepAt
        rw [if_neg (by decide), if_neg (by decide), if_neg hj2, hjm1, List.getElem?_map, List.getElem?_eq_getElem hml]
        simp only [Option.map_some, er_k, er_s]
      obtain ⟨z0, z1, z2, z3, z4⟩ := h5.below (B := W.heap.size) (World.block_lt_of_cell? W _ h5.c0) HA.out
      rw [hSA]
      clear hc hP hSA h5 z1 z2 z4
      by_cases hk5 : kids[m].k = 5
      · rw [if_pos hk5]
        rw [hk5] at z0
        unfold stepV
        generalize kids[m].s = X at *
        clear hk5
        go_enter Tryd.func88, Tryd.ntmps88
        go_wp2
        go_ret2
        exact ⟨rfl, HA.out⟩
      · rw [if_neg hk5]
        have q6 : (kids[m].k != 5) = true := by rw [bne_iff_ne]; exact hk5
        unfold stepV
        generalize kids[m].k = kk at *
        clear hk5 z3
        go_enter Tryd.func88, Tryd.ntmps88
        go_wp2
        go_ret2
        exact ⟨rfl, HA.out⟩
  · rw [show stepAt 9 (kids.map er) j = some tagB from rfl]
    unfold stepV tagB
    clear hc hP
    go_enter Tryd.func88, Tryd.ntmps88
    go_wp2
    go_ret2
    exact ⟨rfl, HA.out⟩
/-- The library's numbers lie below a block. -/
structure TbB (base : Nat) (m : Int) (W : World) : Prop where
  max : MaxCell m W
  pow : Pow W
  l1 : 6 < base
  l2 : 7 < base
theorem TbB.below {base : Nat} {m : Int} {W W' : World} (h : TbB base m W) (hb : Below base W W') : TbB base m W' :=
  ⟨(hb.cell (p := ⟨6, 0, none⟩) h.l1).trans h.max, var?_below hb (show Tryd.prog.globalNamed "internal/strconv.uint64pow10" = some 7 by kernel_rfl) h.l2 h.pow, h.l1, h.l2⟩
theorem outs_len2 (k : Int) (kids : List LT) (st : List ByteArray) (j : Nat) : (outs k (kids.map er) st j).length ≤ 1 + LT.nodesL (kids.take j) := by
  unfold outs
  rw [List.length_cons, List.length_map]
  have h1 := pathsL_len (kids.take j) k (kids.map er) 0 st
  rw [erL_map, List.map_take] at h1
  omega
theorem nodes_take : ∀ (l : List LT) (j : Nat) (h : j < l.length), LT.nodesL (l.take j) + l[j].nodes ≤ LT.nodesL l
  | [], j, h => by simp at h
  | t :: ts, 0, h => by simp only [List.take_zero, LT.nodesL, List.getElem_cons_zero]; omega
  | t :: ts, j + 1, h => by
    have := nodes_take ts j (by simpa using h)
    simp only [List.take_succ_cons, LT.nodesL, List.getElem_cons_succ]
    omega
/-- A row grown, where it lies then. -/
structure AppR (W : World) (base g : Nat) (L : List ByteArray) (e : Ending) (w' : World) : Prop where
  ex : ∃ g' c', e = .returned (.slice (some ⟨g', 0, none⟩) L.length c') ∧ OwnL w' base 9 encS (.slice (some ⟨g', 0, none⟩) L.length c') L ∧ W.grownBy w' (some g) ∧ (g' = g ∨ W.heap.size ≤ g')
def AppC (w : World) (B : Nat) (t : LT) : Prop := ∀ (d : Int) (st : List ByteArray) (g c n base : Nat) (m : Int) (L0 : List ByteArray) (W : World), Below B w W → B ≤ base → base ≤ W.heap.size → RightT t d → StOk st d → TbB base m W → n = L0.length → n + t.nodes ≤ 2000000 → OwnL W base 9 encS (.slice (some ⟨g, 0, none⟩) n c) L0 →
  Calls Tryd.prog 55 #[.slice (some ⟨g, 0, none⟩) n c, .string (putP st), .agg #[.int .i64 t.k, .int .i64 t.n, .int .i64 t.e, .string t.s, .slice t.a t.kids.length t.cap]] W (AppR W base g (L0 ++ (pathsT (er t) st).map putP))
theorem grown_two {W w1 w2 : World} {b g : Nat} (h : W.grownBy w1 (some b)) (k : w1.grownBy w2 (some g)) (hg : g = b ∨ W.heap.size ≤ g) : W.grownBy w2 (some b) :=
  ⟨k.os.trans h.os, k.tape.trans h.tape, k.output.trans h.output, Nat.le_trans h.size k.size, fun x hx hn => (k.block x (Nat.lt_of_lt_of_le hx h.size) (fun e => by injection e with e; subst e; rcases hg with hg | hg; exact hn (by rw [hg]); omega)).trans (h.block x hx hn)⟩
theorem grown_b {W w1 w2 : World} {b : Nat} (h : W.grownBy w1 (some b)) (k : Below w1.heap.size w1 w2) : W.grownBy w2 (some b) :=
  ⟨k.os.trans h.os, k.tape.trans h.tape, k.output.trans h.output, Nat.le_trans h.size k.size, fun x hx hn => (k.block x (Nat.lt_of_lt_of_le hx h.size)).trans (h.block x hx hn)⟩
theorem grown_of {W w1 : World} {b : Nat} (k : Below W.heap.size W w1) : W.grownBy w1 (some b) := ⟨k.os, k.tape, k.output, k.size, fun x hx _ => k.block x hx⟩
theorem below_g {W w1 : World} {b base : Nat} (h : W.grownBy w1 (some b)) (hb : base ≤ b) (hw : base ≤ W.heap.size) : Below base W w1 := ⟨h.os, h.tape, h.output, h.size, fun x hx => h.block x (by omega) (fun e => by injection e with e; omega)⟩
/-- A value in a block. -/
structure B5 (W : World) (N : Nat) (a b c d e : Value) : Prop where
  row : W.heap[N]? = some (.cells #[a, b, c, d, e] 24 (0, 0))
theorem B5.c {W : World} {N : Nat} {a b c d e : Value} (h : B5 W N a b c d e) : W.cell? ⟨N, 0, none⟩ = some a ∧ W.cell? ⟨N, 1, none⟩ = some b ∧ W.cell? ⟨N, 2, none⟩ = some c ∧ W.cell? ⟨N, 3, none⟩ = some d ∧ W.cell? ⟨N, 4, none⟩ = some e ∧ ∀ x, W.frozen? ⟨N, x, none⟩ = false :=
  ⟨cell_of_row W N 0 _ _ (0, 0) h.row, cell_of_row W N 1 _ _ (0, 0) h.row, cell_of_row W N 2 _ _ (0, 0) h.row, cell_of_row W N 3 _ _ (0, 0) h.row, cell_of_row W N 4 _ _ (0, 0) h.row, fun x => frozen_of_row W N x _ _ h.row⟩
theorem B5.new (W : World) (a b c d e : Value) : B5 (W.alloc (.cells #[a, b, c, d, e] 24)) W.heap.size a b c d e := ⟨heap_alloc_new W _⟩
theorem B5.lt {W : World} {N : Nat} {a b c d e : Value} (h : B5 W N a b c d e) : N < W.heap.size := (Array.getElem?_eq_some_iff.1 h.row).1
theorem B5.behind {W w' : World} {N : Nat} {x0 x1 x2 x3 x4 : Value} (h : B5 W N x0 x1 x2 x3 x4) (hb : Below W.heap.size W w') : B5 w' N x0 x1 x2 x3 x4 := ⟨(hb.block N h.lt).trans h.row⟩
theorem B5.grown {W w' : World} {N b : Nat} {x0 x1 x2 x3 x4 : Value} (h : B5 W N x0 x1 x2 x3 x4) (hg : W.grownBy w' (some b)) (hb : N ≠ b) : B5 w' N x0 x1 x2 x3 x4 := ⟨(hg.block N h.lt (fun e => hb (by injection e))).trans h.row⟩
def put5p (w : World) (N : Nat) (a b c d e : Value) : World := ((((w.setCell ⟨N, 0, none⟩ a).setCell ⟨N, 1, none⟩ b).setCell ⟨N, 2, none⟩ c).setCell ⟨N, 3, none⟩ d).setCell ⟨N, 4, none⟩ e
theorem B5.put {W : World} {N : Nat} {x0 x1 x2 x3 x4 : Value} (h : B5 W N x0 x1 x2 x3 x4) (a b c d e : Value) : B5 (put5p W N a b c d e) N a b c d e := by
  have h0 := val.blk_set (o := 0) h.row a
  have h1 := val.blk_set (o := 1) h0 b
  have h2 := val.blk_set (o := 2) h1 c
  have h3 := val.blk_set (o := 3) h2 d
  have h4 := val.blk_set (o := 4) h3 e
  exact ⟨by unfold put5p; rw [h4]; rfl⟩
theorem put5p_below {W : World} (a b c d e x0 x1 x2 x3 x4 : Value) : Below W.heap.size W (put5p (W.alloc (.cells #[x0, x1, x2, x3, x4] 24)) W.heap.size a b c d e) := by
  unfold put5p
  have h : Below W.heap.size W (W.alloc (.cells #[x0, x1, x2, x3, x4] 24)) := (Below.refl _ _).alloc (Nat.le_refl _) _
  exact ((((h.setCell (p := ⟨W.heap.size, 0, none⟩) (Nat.le_refl _) a).setCell (p := ⟨W.heap.size, 1, none⟩) (Nat.le_refl _) b).setCell (p := ⟨W.heap.size, 2, none⟩) (Nat.le_refl _) c).setCell (p := ⟨W.heap.size, 3, none⟩) (Nat.le_refl _) d).setCell (p := ⟨W.heap.size, 4, none⟩) (Nat.le_refl _) e
set_option maxHeartbeats 8000000 in
theorem app_paths {w : World} {B : Nat} {t : LT} (h : In w B t) (hz : t.sz ≤ 1048576) : AppC w B t := by
  induction h with
  | @mk k n e s a cap kids hk hn he hs hl hc hkids ih =>
    intro d st g c n0 base m L0 W hb hB hbW hR hS hT hn0 hnn hO
    subst hn0
    obtain ⟨i0, hi0, hz0, hz1, hz2⟩ := info_parts infoS3
    have hkn := nodesL_sz kids
    have hsz := sz_mk (.mk k n e s a cap kids)
    rw [nodes_mk] at hnn
    simp only [LT.k, LT.n, LT.e, LT.s, LT.a, LT.cap, LT.kids] at *
    obtain ⟨hd0, hown, hkr⟩ := right_own hR
    have hlen : kids.length ≤ 1048576 := by have := len_sz kids; omega
    have hnk : LT.nodesL kids ≤ 1048576 := by omega
    have hkk : 0 < kids.length → k = 7 ∨ k = 8 ∨ k = 9 := fun h => own_kind hown h
    have hgb : base ≤ g := hO.base_le g rfl
    have hgW : g < W.heap.size := (World.ownsRow.lt hO g rfl).2
    have HC := Lib.hid hc
    have HB := Lib.hid hb
    have HT := Lib.hid hT
    have HP := hS.put hd0
    have hPs : (putP st).size ≤ 48012 := by rw [HP, mk_size]; exact hS.bytes hd0
    have HRES := Lib.hid (outs_all k n e s (kids.map er) st)
    have HL := Lib.hid (fun j => outs_len k kids st j)
    have HSTEP : Hid (∀ j (hj : j < kids.length) (x : ByteArray), stepAt k (kids.map er) j = some x → stepOk x = true ∧ putP st ++ (⟨(47 :: esc x.data.toList).toArray⟩ : ByteArray) = putP (st ++ [x])) := fun j hj x hx => by
      have hx' := step_good hR (by simp only [LT.kids]; omega) hj hx
      refine ⟨hx', ?_⟩
      have hd1 := (right_own (rightL_mem hkr j hj)).1
      rw [HP, (hS.next hx').put hd1, mk_app, encP_append, encP_cons, show encP [] = [] from rfl, List.append_nil]
    have IH : Hid (∀ j (hj : j < kids.length) (x : ByteArray), stepAt k (kids.map er) j = some x → ∀ (g2 c2 L : Nat) (L1 : List ByteArray) (W2 : World), Below B w W2 → base ≤ W2.heap.size → TbB base m W2 → L = L1.length → L + kids[j].nodes ≤ 2000000 → OwnL W2 base 9 encS (.slice (some ⟨g2, 0, none⟩) L c2) L1 →
        Calls Tryd.prog 55 #[.slice (some ⟨g2, 0, none⟩) L c2, .string (putP (st ++ [x])), .agg #[.int .i64 kids[j].k, .int .i64 kids[j].n, .int .i64 kids[j].e, .string kids[j].s, .slice kids[j].a kids[j].kids.length kids[j].cap]] W2 (AppR W2 base g2 (L1 ++ (pathsT (er kids[j]) (st ++ [x])).map putP))) := fun j hj x hx g2 c2 L L1 W2 hW hBW hTW hL hLn ho =>
      ih j hj (by have := (kid_sz kids j hj).1; omega) (d - 1) (st ++ [x]) g2 c2 L base m L1 W2 hW hB hBW (rightL_mem hkr j hj) (hS.next (step_good hR (by simp only [LT.kids]; omega) hj hx)) hTW hL hLn ho
    have hB0 : Below W.heap.size W (W.alloc (.cells #[.int .i64 k, .int .i64 n, .int .i64 e, .string s, .slice a kids.length cap] 24)) := (Below.refl _ _).alloc (Nat.le_refl _) _
    have hO0 := hO.alloc (.cells #[.int .i64 k, .int .i64 n, .int .i64 e, .string s, .slice a kids.length cap] 24)
    have HX0 := Lib.hid (B5.new W (.int .i64 k) (.int .i64 n) (.int .i64 e) (.string s) (.slice a kids.length cap))
    have HLT := lit_one (W.alloc (.cells #[.int .i64 k, .int .i64 n, .int .i64 e, .string s, .slice a kids.length cap] 24)) 9 encS (putP st)
    have hzW1 : (W.alloc (.cells #[.int .i64 k, .int .i64 n, .int .i64 e, .string s, .slice a kids.length cap] 24)).heap.size = W.heap.size + 1 := by simp
    have HO0 := Lib.hid hO0
    have HB0 := Lib.hid hB0
    have HLI := Lib.hid HLT
    rw [show er (.mk k n e s a cap kids) = .mk k n e s (kids.map er) from er_mk ..]
    rw [← HRES.out]
    clear hc hkids ih hb hR hS hown hkr hO hsz HRES hT hO0 HP hB0 HLT
    go_enter Tryd.func55, Tryd.ntmps55
    go_upto_region 1 with (fail)
    generalize hW0 : W.alloc (.cells #[.int .i64 k, .int .i64 n, .int .i64 e, .string s, .slice a kids.length cap] 24) = W0 at *
    generalize hPP0 : putP st = P at *
    have HPP := Lib.hid hPP0
    clear hPP0
    have HHW := Lib.hid hW0
    have hzA : W.heap.size < W0.heap.size := by omega
    clear hW0 hzW1
    replace HLI : Hid (OwnL (W0.alloc (.cells #[.string P] 9)) 0 9 encS (.slice (some ⟨W0.heap.size, 0, none⟩) 1 1) [P]) := HLI
    go_wp2_with (first
      | (at_builtin
         refine wpList_app3 (by rfl) _ _ _ (by rfl) base 9 encS i0 _ 16 Tryd.underlying33 hi0 hz0 hz1 hz2 rfl oneS g c L0 _ rfl (by rfl) (HO0.out.alloc _) 0 W0.heap.size 1 [P] 1 rfl (by rfl) HLI.out (by unfold maxLen; omega) (by omega) (by simp; omega) ?_
         intro g2 c2 w2 ho2 hg2 hgg2
         have HG2 : Hid (W.grownBy w2 (some g)) := grown_two (grown_of (HB0.out.alloc (by omega) _)) hg2 (.inl rfl)
         have hgg : g2 = g ∨ W.heap.size < g2 := by
           rcases hgg2 with h | h
           · exact .inl h
           · rw [World.size_alloc] at h; right; omega
         have HX2 : Hid (B5 w2 W.heap.size (.int .i64 k) (.int .i64 n) (.int .i64 e) (.string s) (.slice a kids.length cap)) := ((HX0.out.behind ((Below.refl _ W0).alloc (Nat.le_refl _) (.cells #[.string P] 9)))).grown hg2 (by omega)
         have hz2w : W.heap.size < w2.heap.size := HX2.out.lt
         have HO2 : Hid (OwnL w2 base 9 encS (.slice (some ⟨g2, 0, none⟩) (L0.length + 1) c2) (L0 ++ outs k (kids.map er) st 0)) := by
           rw [outs_zero, HPP.out]; exact ho2
         obtain ⟨b0, b1, b2, b3, b4, bf⟩ := HX2.out.c))
    clear HO0 HX0 HB0 HLI HHW ho2 hg2 hgg2 hzA
    clear b0 b1 b2 b3 b4 bf
    go_loopw [0, 18] (fun v i wr => ∃ (j g1 c1 L : Nat), i = .int .i64 j ∧ j ≤ kids.length ∧ v = .slice (some ⟨g1, 0, none⟩) L c1 ∧ Hid ((L0 ++ outs k (kids.map er) st j).length = L) ∧ Hid (OwnL wr base 9 encS (.slice (some ⟨g1, 0, none⟩) L c1) (L0 ++ outs k (kids.map er) st j)) ∧ Hid (B5 wr W.heap.size (.int .i64 k) (.int .i64 n) (.int .i64 e) (.string s) (.slice a kids.length cap)) ∧ Hid (W.grownBy wr (some g)) ∧ (g1 = g ∨ W.heap.size < g1)) (fun _ i _ => kids.length - (intOf i).toNat)
    case atStart => exact ⟨0, g2, c2, L0.length + 1, rfl, Nat.zero_le _, rfl, by unfold Hid; rw [outs_zero, List.length_append]; rfl, HO2, HX2, HG2, hgg⟩
    case round =>
      clear HO2 HX2 HG2 hgg hz2w
      obtain ⟨j, g1, c1, L, rfl, hj, rfl, HLL, HO1, HX, HG, hg1⟩ := hrel
      have hzr := HX.out.lt
      have hLl : L ≤ L0.length + 1 + LT.nodesL kids := by
        have h1 := HL.out j
        have h2 := HLL.out
        rw [List.length_append] at h2
        omega
      by_cases hlt : j < kids.length
      · have hj0 : (0 : Int) ≤ (j : Int) := by omega
        have hj1 : (j : Int) < (kids.length : Int) := by omega
        obtain ⟨x, rfl, hx, h5⟩ := HC.out j hlt
        have hBr : Below B w wr := HB.out.trans ((below_g HG.out hgb hbW).mono hB)
        have hTr : TbB base m wr := HT.out.below (below_g HG.out hgb hbW)
        obtain ⟨y0, y1, y2, y3, y4⟩ := h5.below (by rw [add_block]; exact hx) hBr
        have hjm : j < (kids.map er).length := by simpa using hlt
        have HN0 : Hid (stepAt k (kids.map er) j = none → outs k (kids.map er) st (j + 1) = outs k (kids.map er) st j) := fun h => outs_none k _ st j hjm h
        have HN1 : Hid (∀ x, stepAt k (kids.map er) j = some x → outs k (kids.map er) st (j + 1) = outs k (kids.map er) st j ++ (pathsT (er kids[j]) (st ++ [x])).map putP) := fun x h => by
          have := outs_next k _ st j hjm h
          rwa [List.getElem_map] at this
        have hkn2 := kid_nodes kids j hlt
        have hkn3 := nodes_take kids j hlt
        have hLl2 : L ≤ L0.length + 1 + LT.nodesL (kids.take j) := by
          have h1 := outs_len2 k kids st j
          have h2 := HLL.out
          rw [List.length_append] at h2
          omega
        have hLn : L + kids[j].nodes ≤ 2000000 := by omega
        clear hkn3 hLl2
        have CST : Hid (∀ W2, Below wr.heap.size wr W2 → Calls Tryd.prog 88 #[.agg #[.int .i64 k, .int .i64 n, .int .i64 e, .string s, .slice (some x) kids.length cap], .int .i64 j] W2 fun r w' => r = .returned (stepV (stepAt k (kids.map er) j)) ∧ Below W2.heap.size W2 w') := fun W2 hW2 =>
          step_to k n e s (some x) cap kids j W2 hlen hlt (hkk (by omega)) (fun i hi => by
            obtain ⟨x2, hx2, hx3, h52⟩ := HC.out i hi
            exact ⟨x2, hx2, h52.below (by rw [add_block]; exact hx3) (hBr.trans (hW2.mono (by have := hBr.size; omega)))⟩) (hTr.below (hW2.mono (by have := HG.out.size; omega))).pow
        have IHJ := Lib.hid (fun x hx => IH.out j hlt x hx)
        have HSJ := Lib.hid (fun x hx => HSTEP.out j hlt x hx)
        clear hTr IH HSTEP
        generalize kids[j] = t at *
        have hrow : t.row = .slice t.a t.kids.length t.cap := rfl
        rw [hrow] at y4
        have HF := Lib.hid (B5.new wr (.int .i64 t.k) (.int .i64 t.n) (.int .i64 t.e) (.string t.s) (.slice t.a t.kids.length t.cap))
        have HBP : Hid (Below wr.heap.size wr (wr.alloc (.cells #[.int .i64 t.k, .int .i64 t.n, .int .i64 t.e, .string t.s, .slice t.a t.kids.length t.cap] 24))) := (Below.refl _ _).alloc (Nat.le_refl _) _
        have HD := Lib.hid (CST.out _ HBP.out)
        clear CST hrow
        have HX3 := Lib.hid (HX.out.behind HBP.out)
        have HO3 := Lib.hid (HO1.out.below HBP.out)
        have HG3 := Lib.hid (grown_b HG.out HBP.out)
        have HB3 := HBP
        have hN8 := HF.out.lt
        have hNx : wr.heap.size ≠ g1 := by
          have := (World.ownsRow.lt HO1.out g1 rfl).2
          omega
        go_upto_region 5 with (fail)
        generalize wr.alloc (.cells #[.int .i64 t.k, .int .i64 t.n, .int .i64 t.e, .string t.s, .slice t.a t.kids.length t.cap] 24) = w2 at *
        clear HBP
        cases hsa : stepAt k (kids.map er) j with
        | none =>
          have HE := Lib.hid (HN0.out hsa)
          rw [hsa] at HD
          unfold stepV at HD
          clear HN0 HN1 IHJ HSJ h5 hBr HC HB HT HL hsa HX HO1 HG y0 y1 y2 y3 y4 HF
          obtain ⟨b0, b1, b2, b3, b4, bf⟩ := HX3.out.c
          go_wp2_with fail
          with_reducible refine HD.out.mono ?_
          rintro r w3 ⟨rfl, hb3⟩
          have HX4 := Lib.hid (HX3.out.behind hb3)
          have HO4 := Lib.hid (HO3.out.below hb3)
          have HG4 := Lib.hid (grown_b HG3.out hb3)
          clear HD hb3 HX3 HO3 HG3 HB3 b0 b1 b2 b3 b4 bf
          go_wp2
          go_roundw
          case rel => exact ⟨j + 1, g1, c1, L, by go_num, by omega, rfl, by rw [HE.out]; exact HLL.out, by rw [HE.out]; exact HO4.out, HX4, HG4, hg1⟩
          case measure => simp [intOf]; omega
        | some X =>
          have HN := Lib.hid (HN1.out X hsa)
          obtain ⟨hXo, hXe⟩ := HSJ.out X hsa
          have hXs : X.size ≤ 2000 := by
            unfold stepOk at hXo
            simpa using (Bool.and_eq_true_iff.1 hXo).2
          have hTs : (⟨(47 :: esc X.data.toList).toArray⟩ : ByteArray).size ≤ 4001 := by
            rw [mk_size, List.length_cons]
            have := esc_len X.data.toList
            have : X.data.toList.length = X.size := by simp
            omega
          have HTW : Hid (∀ W2, Below wr.heap.size wr W2 → TbB base m W2) := fun W2 hW2 => HT.out.below (below_g (grown_b HG.out hW2) hgb hbW)
          have D2 : Hid (∀ W2, Below wr.heap.size wr W2 → Calls Tryd.prog 45 #[.string X] W2 fun e w' => e = .returned (.string ⟨(47 :: esc X.data.toList).toArray⟩) ∧ Below W2.heap.size W2 w') := fun W2 hW2 => step_path X m W2 (by omega) (HTW.out W2 hW2).max
          have D3 : Hid (∀ W2, Below wr.heap.size wr W2 → Calls Tryd.prog 55 #[.slice (some ⟨g1, 0, none⟩) L c1, .string (P ++ (⟨(47 :: esc X.data.toList).toArray⟩ : ByteArray)), .agg #[.int .i64 t.k, .int .i64 t.n, .int .i64 t.e, .string t.s, .slice t.a t.kids.length t.cap]] W2 (AppR W2 base g1 ((L0 ++ outs k (kids.map er) st j) ++ (pathsT (er t) (st ++ [X])).map putP))) := fun W2 hW2 => by
            rw [hXe]
            exact IHJ.out X hsa g1 c1 L _ W2 (hBr.trans (hW2.mono (by have := hBr.size; have := HG.out.size; omega))) (by have := hW2.size; have := HG.out.size; omega) (HTW.out W2 hW2) HLL.out.symm hLn (HO1.out.below hW2)
          have hPT : (P ++ (⟨(47 :: esc X.data.toList).toArray⟩ : ByteArray)).size ≤ 60000 := by rw [ByteArray.size_append]; omega
          rw [hsa] at HD
          unfold stepV at HD
          have hPlen : ((pathsT (er t) (st ++ [X])).map putP).length ≤ t.nodes := by rw [List.length_map]; exact paths_len t _
          generalize (⟨(47 :: esc X.data.toList).toArray⟩ : ByteArray) = T at *
          generalize (pathsT (er t) (st ++ [X])).map putP = PS at *
          clear HN0 HN1 IHJ HSJ h5 hBr HC HB HT HL hsa y0 y1 y2 y3 y4 hXo hXe HTW
          obtain ⟨b0, b1, b2, b3, b4, bf⟩ := HX3.out.c
          go_wp2_with fail
          with_reducible refine HD.out.mono ?_
          rintro r w3 ⟨rfl, hb3⟩
          have HX4 := Lib.hid (HX3.out.behind hb3)
          have HG4 := Lib.hid (grown_b HG3.out hb3)
          have HK4 := Lib.hid (HF.out.behind hb3)
          have HB4 := Lib.hid (HB3.out.trans (hb3.mono HB3.out.size))
          have hz4 := hb3.size
          clear HD hb3 HX3 HO3 HG3 HB3 b0 b1 b2 b3 b4 bf HX HO1 HG HF
          obtain ⟨k0, k1, k2, k3, k4, kf⟩ := HK4.out.c
          have hN9 : wr.heap.size < w3.heap.size := HK4.out.lt
          clear hN8 hz4
          have qa1 : ¬ 9223372036854775807 < P.size + T.size := by omega
          have qa2 : ¬ (9223372036854775807 : Int) < (P.size : Int) + (T.size : Int) := by omega
          have qa3 : ¬ (9223372036854775807 : Int) < ((P.size + T.size : Nat) : Int) := by omega
          have KS : Hid (∀ W' : World, Below w3.heap.size w3 W' → W'.cell? ⟨wr.heap.size, 0, none⟩ = some (.int .i64 t.k) ∧ W'.cell? ⟨wr.heap.size, 1, none⟩ = some (.int .i64 t.n) ∧ W'.cell? ⟨wr.heap.size, 2, none⟩ = some (.int .i64 t.e) ∧ W'.cell? ⟨wr.heap.size, 3, none⟩ = some (.string t.s) ∧ W'.cell? ⟨wr.heap.size, 4, none⟩ = some (.slice t.a t.kids.length t.cap)) := fun W' hW' => by
            obtain ⟨u0, u1, u2, u3, u4, _⟩ := (HK4.out.behind hW').c
            exact ⟨u0, u1, u2, u3, u4⟩
          go_upto_region 7 with (fail)
          go_region_held3 (fun w'' => w''.cell? ⟨wr.heap.size, 0, none⟩ = some (.int .i64 t.k) ∧ w''.cell? ⟨wr.heap.size, 1, none⟩ = some (.int .i64 t.n) ∧ w''.cell? ⟨wr.heap.size, 2, none⟩ = some (.int .i64 t.e) ∧ w''.cell? ⟨wr.heap.size, 3, none⟩ = some (.string t.s) ∧ w''.cell? ⟨wr.heap.size, 4, none⟩ = some (.slice t.a t.kids.length t.cap)) (first
            | exact KS.out _ (Below.refl _ w3)
            | exact KS.out _ (Below.refl _ w3).drew
            | exact KS.out _ hb4
            | exact hK5) (first
            | (go_at_call 45
               refine (D2.out _ (HB4.out.trans ((Below.refl w3.heap.size w3).drew.mono (by omega)))).mono ?_
               rintro r w4 ⟨rfl, hb4'⟩
               have hb4 : Below w3.heap.size w3 w4 := (Below.refl w3.heap.size w3).drew.trans hb4'
               have hB4 : Below wr.heap.size wr w4 := HB4.out.trans (hb4.mono (by omega)))
            | (go_at_call 45
               refine (D2.out _ HB4.out).mono ?_
               rintro r w4 ⟨rfl, hb4⟩
               have hB4 : Below wr.heap.size wr w4 := HB4.out.trans (hb4.mono (by omega)))
            | (go_at_call 55
               refine (D3.out _ hB4).mono ?_
               rintro r w5 ⟨g5, c5, rfl, ho5, hg5, hgg5⟩
               have hK5a := (HK4.out.behind hb4).grown hg5 hNx
               obtain ⟨u0, u1, u2, u3, u4, _⟩ := hK5a.c
               have hK5 := And.intro u0 (And.intro u1 (And.intro u2 (And.intro u3 u4)))
               have hX5 := (HX4.out.behind hb4).grown hg5 (by rcases hg1 with h | h <;> omega)
               have hG5 := grown_two (grown_b HG4.out hb4) hg5 (by rcases hg1 with h | h; exact .inl h; right; omega)
               have hz45 := hb4.size)
            | fail)
          all_goals
            have hle : ((L0 ++ outs k (kids.map er) st j) ++ PS).length = L0.length + ((outs k (kids.map er) st j).length + PS.length) := by rw [List.length_append, List.length_append, Nat.add_assoc]
            have HLE : Hid ((L0 ++ outs k (kids.map er) st (j + 1)).length = L0.length + ((outs k (kids.map er) st j).length + PS.length)) := by
              unfold Hid; rw [HN.out, ← List.append_assoc, hle]
            have HOE : Hid (OwnL w5 base 9 encS (.slice (some ⟨g5, 0, none⟩) (L0.length + ((outs k (kids.map er) st j).length + PS.length)) c5) (L0 ++ outs k (kids.map er) st (j + 1))) := by
              unfold Hid; rw [HN.out, ← List.append_assoc, ← hle]; exact ho5
            have hge : g5 = g ∨ W.heap.size < g5 := by
              rcases hgg5 with h | h
              · rcases hg1 with h2 | h2 <;> omega
              · right; omega
            have HXE := Lib.hid hX5
            have HGE := Lib.hid hG5
            clear KS D2 D3 HK4 HX4 HG4 HB4 ho5 hg5 hX5 hG5 hK5 hK5a
            go_wp2
            go_roundw
            case rel => exact ⟨j + 1, g5, c5, _, by go_num, by omega, rfl, HLE.out, HOE.out, HXE.out, HGE.out, hge⟩
            case measure => simp [intOf]; omega
      · have hj1 : ¬ (j : Int) < (kids.length : Int) := by omega
        have e : j = kids.length := by omega
        subst e
        have HGE := HG
        have hge : g1 = g ∨ W.heap.size ≤ g1 := by rcases hg1 with h | h; exact .inl h; right; omega
        clear HC HB HT HL HSTEP IH HX HG hg1 hLl
        go_wp2
        go_ret
        exact ⟨g1, c1, by first | (rw [HLL.out]; rfl) | (rw [List.length_map, HLL.out]; rfl), by first | (rw [HLL.out]; exact HO1.out) | (rw [List.length_map, HLL.out]; exact HO1.out), HGE.out, hge⟩
end Go.Proofs.YtkjffifdlckljaaDoor.path
