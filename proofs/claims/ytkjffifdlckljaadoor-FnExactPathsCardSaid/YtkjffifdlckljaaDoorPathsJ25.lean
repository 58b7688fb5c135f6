/-
  What spec.l08Paths and spec.Paths return: the paths of a value's nodes.
-/
import Derived.Test.YtkjffifdlckljaaDoorPathsJ23
import Derived.Test.YtkjffifdlckljaaDoorPathsJ24
import Derived.Test.YtkjffifdlckljaaDoorPathsJ21
import Derived.Deep.AppendLies
import Derived.Deep.RegionHeld3
namespace Go.Proofs.YtkjffifdlckljaaDoor.path
open Go.ChangeShapes Go.WideShapes Go.ChangeAt Go.RowKit
open Go.Proofs.YtkjffifdlckljaaDoor.strs (encS oneS ReadS)
open Go.Proofs.YtkjffifdlckljaaDoor.val Go.Proofs.YtkjffifdlckljaaDoor.node
set_option maxRecDepth 100000

theorem infoS3 : (Tryd.prog.info? 9).map (fun i => (i.zero, i.size, i.bytes)) = some (some (.string ⟨#[]⟩), 1, 16) := by kernel_rfl
/-- What a call returns: a row of its own. -/
def RowR (w : World) (L : List ByteArray) (e : Ending) (w' : World) : Prop := ∃ g c, e = .returned (.slice (some ⟨g, 0, none⟩) L.length c) ∧ OwnL w' w.heap.size 9 encS (.slice (some ⟨g, 0, none⟩) L.length c) L ∧ Below w.heap.size w w'
/-- The boxed parameter. -/
structure BoxP (wr : World) (N : Nat) (k : Int) (row : Value) : Prop where
  c0 : wr.cell? ⟨N, 0, none⟩ = some (.int .i64 k)
  c4 : wr.cell? ⟨N, 4, none⟩ = some row
theorem boxP_of {w' wr : World} {k n e : Int} {s : ByteArray} {row : Value} {T : TypeId} (h : Below (w'.heap.size + 1) (w'.alloc (.cells #[.int .i64 k, .int .i64 n, .int .i64 e, .string s, row] T)) wr) : BoxP wr w'.heap.size k row := by
  have hb := heap_alloc_new w' (.cells #[.int .i64 k, .int .i64 n, .int .i64 e, .string s, row] T)
  have hb2 := (h.block w'.heap.size (by omega)).trans hb
  exact ⟨cell_of_row wr _ 0 _ _ (0, 0) hb2, cell_of_row wr _ 4 _ _ (0, 0) hb2⟩
/-- The paths of a node, behind its steps. -/
def outs (k : Int) (all : List VT) (st : List ByteArray) (j : Nat) : List ByteArray := putP st :: (pathsL k all (all.take j) 0 st).map putP
theorem outs_zero (k : Int) (all : List VT) (st : List ByteArray) : outs k all st 0 = [putP st] := by simp [outs, pathsL]
theorem outs_next (k : Int) (all : List VT) (st : List ByteArray) (j : Nat) (h : j < all.length) {x : ByteArray} (hx : stepAt k all j = some x) : outs k all st (j + 1) = outs k all st j ++ (pathsT all[j] (st ++ [x])).map putP := by
  unfold outs
  rw [pathsL_take k all st all 0 j h, Nat.zero_add, hx, List.map_append, List.cons_append]
theorem outs_none (k : Int) (all : List VT) (st : List ByteArray) (j : Nat) (h : j < all.length) (hx : stepAt k all j = none) : outs k all st (j + 1) = outs k all st j := by
  unfold outs
  rw [pathsL_take k all st all 0 j h, Nat.zero_add, hx, List.append_nil]
theorem outs_all (k n e : Int) (s : ByteArray) (all : List VT) (st : List ByteArray) : outs k all st all.length = (pathsT (.mk k n e s all) st).map putP := by
  unfold outs
  rw [List.take_length, pathsT, List.map_cons]
theorem outs_len (k : Int) (kids : List LT) (st : List ByteArray) (j : Nat) : (outs k (kids.map er) st j).length ≤ 1 + LT.nodesL kids := by
  unfold outs
  rw [List.length_cons, List.length_map]
  have h1 := pathsL_len (kids.take j) k (kids.map er) 0 st
  rw [erL_map, List.map_take] at h1
  have h2 : LT.nodesL (kids.take j) ≤ LT.nodesL kids := by
    clear h1
    induction kids generalizing j with
    | nil => simp
    | cons t ts ih =>
      cases j with
      | zero => simp [LT.nodesL]
      | succ j => rw [List.take_succ_cons, LT.nodesL, LT.nodesL]; have := ih j; omega
  omega
theorem own_len {w : World} {base g c n : Nat} {l : List ByteArray} {x : ByteArray} (h : OwnL w base 9 encS (.slice (some ⟨g, 0, none⟩) (n + 1) c) (l ++ [x])) : OwnL w base 9 encS (.slice (some ⟨g, 0, none⟩) (l ++ [x]).length c) (l ++ [x]) := by
  obtain ⟨a, cap, h1, _⟩ := h.shape
  injection h1 with _ h2 _
  rw [← h2]
  exact h
/-- What a call has made is kept where only another row of its own is written. -/
theorem own_apart {α : Type} {w w' : World} {base : Nat} {e : TypeId} {enc : α → Value} {v : Value} {g : Nat} {l : List α} (h : OwnL w base e enc v l) (hg : w.grownBy w' (some g)) (hne : ∀ k, v.ownBlock = some k → some g = some k → False) : OwnL w' base e enc v l := by
  refine World.ownsRow.kept h hg ?_
  cases hv : v.ownBlock with
  | none => exact .inl rfl
  | some k => exact .inr fun e1 => hne k hv e1.symm
/-- The contract at a value. -/
def PathsC (w : World) (B : Nat) (t : LT) : Prop := ∀ (d : Int) (st : List ByteArray) (g c : Nat) (w' : World), Below B w w' → B ≤ w'.heap.size → RightT t d → StOk st d → OwnL w' 0 9 encS (.slice (some ⟨g, 0, none⟩) st.length c) st →
  Calls Tryd.prog 52 #[.agg #[.int .i64 t.k, .int .i64 t.n, .int .i64 t.e, .string t.s, .slice t.a t.kids.length t.cap], .slice (some ⟨g, 0, none⟩) st.length c] w' (RowR w' ((pathsT (er t) st).map putP))
set_option maxHeartbeats 8000000 in
theorem l08_paths {w : World} {B : Nat} {t : LT} (h : In w B t) (hz : t.sz ≤ 1048576) : PathsC w B t := by
  induction h with
  | @mk k n e s a cap kids hk hn he hs hl hc hkids ih =>
    intro d st g c w' hb hB hR hS hO
    obtain ⟨i0, hi0, hz0, hz1, hz2⟩ := info_parts infoS3
    have hkn := nodesL_sz kids
    have hsz := sz_mk (.mk k n e s a cap kids)
    simp only [LT.k, LT.n, LT.e, LT.s, LT.a, LT.cap, LT.kids] at *
    obtain ⟨hd0, hown, hkr⟩ := right_own hR
    have hlen : kids.length ≤ 1048576 := by have := len_sz kids; omega
    have hnk : LT.nodesL kids ≤ 1048576 := by omega
    have HC := Lib.hid hc
    have HB := Lib.hid hb
    have HA : Hid (Below w'.heap.size w' (w'.alloc (.cells #[.int .i64 k, .int .i64 n, .int .i64 e, .string s, .slice a kids.length cap] 24))) := (Below.refl _ _).alloc (Nat.le_refl _) _
    have CP : Hid (∀ W, Below w'.heap.size w' W → Calls Tryd.prog 19 #[.slice (some ⟨g, 0, none⟩) st.length c] W fun e w'' => e = .returned (.string (putP st)) ∧ Below W.heap.size W w'') := fun W hW => by
      obtain ⟨a, cc, gg, r⟩ := strs.readS_of (hO.below hW)
      have hst : st.length ≤ 12 := by have := hS.len; omega
      exact spec_put _ _ a cc gg W (by omega) hS.size r
    have HRES := Lib.hid (outs_all k n e s (kids.map er) st)
    have IH : Hid (∀ j (hj : j < kids.length) (x : ByteArray), stepAt k (kids.map er) j = some x → ∀ (g2 c2 : Nat) (W : World), Below B w W → B ≤ W.heap.size → OwnL W 0 9 encS (.slice (some ⟨g2, 0, none⟩) (st.length + 1) c2) (st ++ [x]) →
        Calls Tryd.prog 52 #[.agg #[.int .i64 kids[j].k, .int .i64 kids[j].n, .int .i64 kids[j].e, .string kids[j].s, .slice kids[j].a kids[j].kids.length kids[j].cap], .slice (some ⟨g2, 0, none⟩) (st.length + 1) c2] W (RowR W ((pathsT (er kids[j]) (st ++ [x])).map putP))) := fun j hj x hx g2 c2 W hW hBW ho => by
      have e : (st ++ [x]).length = st.length + 1 := by simp
      rw [← e] at ho ⊢
      exact ih j hj (by have := (kid_sz kids j hj).1; omega) (d - 1) (st ++ [x]) g2 c2 W hW hBW (rightL_mem hkr j hj) (hS.next (step_good hR (by simp only [LT.kids]; omega) hj hx)) ho
    have hkk : 0 < kids.length → k = 7 ∨ k = 8 ∨ k = 9 := fun h => own_kind hown h
    have hm2 : k = 8 → kids.length % 2 = 0 := fun h => own_pair hown h
    have hst : st.length ≤ 12 := by have := hS.len; omega
    have HL := Lib.hid (fun j => outs_len k kids st j)
    have HO := Lib.hid hO
    clear hc hkids ih hb hR hS hown hkr hO hsz
    rw [show er (.mk k n e s a cap kids) = .mk k n e s (kids.map er) from er_mk ..]
    rw [← HRES.out]
    clear HRES
    unfold RowR at IH ⊢
    go_enter Tryd.func52, Tryd.ntmps52
    go_wp2_with fail
    with_reducible refine (CP.out _ HA.out).mono ?_
    rintro e w1 ⟨rfl, hb1⟩
    have hzw := hb1.size
    have hzA : (w'.alloc (.cells #[.int .i64 k, .int .i64 n, .int .i64 e, .string s, .slice a kids.length cap] 24)).heap.size = w'.heap.size + 1 := by simp
    rw [hzA] at hzw
    have HX0 : Hid (Below (w'.heap.size + 1) (w'.alloc (.cells #[.int .i64 k, .int .i64 n, .int .i64 e, .string s, .slice a kids.length cap] 24)) w1) := by rw [← hzA]; exact hb1
    have HL1 := Lib.hid ((lit_one w1 9 encS (putP st)).mono (Nat.zero_le 0))
    have HL2 : Hid (OwnL (w1.alloc (.cells #[.string (putP st)] 9)) (w'.heap.size + 1) 9 encS (.slice (some ⟨w1.heap.size, 0, none⟩) 1 1) [putP st]) :=
      OwnL.of_block (l := [putP st]) _ _ hzw (heap_alloc_new w1 _) rfl (by simp [maxLen])
    have HX1 : Hid (Below (w'.heap.size + 1) (w'.alloc (.cells #[.int .i64 k, .int .i64 n, .int .i64 e, .string s, .slice a kids.length cap] 24)) (w1.alloc (.cells #[.string (putP st)] 9))) := HX0.out.alloc hzw _
    have hz1' : w'.heap.size + 1 ≤ (w1.alloc (.cells #[.string (putP st)] 9)).heap.size := by simp; omega
    clear hb1 CP HX0 HL1
    go_wp2_with fail
    generalize w1.alloc (.cells #[.string (putP st)] 9) = w2 at *
    generalize w1.heap.size = N1 at *
    go_loopw [5, 6] (fun v i wr => ∃ (j g1 c1 L : Nat), i = .int .i64 j ∧ j ≤ kids.length ∧ v = .slice (some ⟨g1, 0, none⟩) L c1 ∧ Hid ((outs k (kids.map er) st j).length = L) ∧ Hid (OwnL wr (w'.heap.size + 1) 9 encS (.slice (some ⟨g1, 0, none⟩) L c1) (outs k (kids.map er) st j)) ∧ w'.heap.size + 1 ≤ wr.heap.size ∧ Hid (Below (w'.heap.size + 1) (w'.alloc (.cells #[.int .i64 k, .int .i64 n, .int .i64 e, .string s, .slice a kids.length cap] 24)) wr)) (fun _ i _ => kids.length - (intOf i).toNat)
    case atStart => exact ⟨0, N1, 1, 1, rfl, Nat.zero_le _, rfl, by rw [outs_zero]; rfl, by rw [outs_zero]; exact HL2, hz1', HX1⟩
    case round =>
      clear HL2 HX1 hz1' hzw
      obtain ⟨j, g1, c1, L, rfl, hj, rfl, HLL, HO1, hwz, HW⟩ := hrel
      obtain ⟨x0, x4⟩ := boxP_of HW.out
      have hLl : L ≤ 2000000 := by have := HL.out j; rw [HLL.out] at this; omega
      by_cases hlt : j < kids.length
      · have hj0 : (0 : Int) ≤ (j : Int) := by omega
        have hj1 : (j : Int) < (kids.length : Int) := by omega
        obtain ⟨x, rfl, hx, h5⟩ := HC.out j hlt
        have hbr := HB.out.trans ((HA.out.trans (HW.out.mono (by omega))).mono hB)
        obtain ⟨y0, y1, y2, y3, y4⟩ := h5.below (by rw [add_block]; exact hx) hbr
        have hjm : j < (kids.map er).length := by simpa using hlt
        have HN0 : Hid (stepAt k (kids.map er) j = none → outs k (kids.map er) st (j + 1) = outs k (kids.map er) st j) := fun h => outs_none k _ st j hjm h
        have HN1 : Hid (∀ x, stepAt k (kids.map er) j = some x → outs k (kids.map er) st (j + 1) = outs k (kids.map er) st j ++ (pathsT (er kids[j]) (st ++ [x])).map putP) := fun x h => by
          have := outs_next k _ st j hjm h
          rwa [List.getElem_map] at this
        have CD := Lib.hid (decText.spec_any (j : Int) (by omega) (by omega) wr)
        rcases hkk (by omega) with h7 | h8 | h9
        · subst h7
          have HSX : Hid (stepAt 7 (kids.map er) j = some (itoaB j)) := rfl
          have C := Lib.hid (IH.out j hlt _ HSX.out)
          have HN := Lib.hid (HN1.out _ HSX.out)
          have hpl : ((pathsT (er kids[j]) (st ++ [itoaB j])).map putP).length ≤ 2000000 := by
            rw [List.length_map]
            have h1 := paths_len kids[j] (st ++ [itoaB j])
            have h2 := kid_nodes kids j hlt
            omega
          unfold itoaB at C HN hpl
          generalize (⟨(Lib.itoa (j : Int)).toArray⟩ : ByteArray) = X at *
          clear HN0 HN1 IH HSX
          generalize kids[j] = t at *
          have hrow : t.row = .slice t.a t.kids.length t.cap := rfl
          rw [hrow] at y4
          generalize (pathsT (er t) (st ++ [X])).map putP = PS at *
          go_wp2_with fail
          with_reducible refine CD.out.mono ?_
          rintro e w3 ⟨rfl, rfl⟩
          clear CD hrow
          go_upto_region 11 with (fail)
          have HOS : Hid (OwnL wr 0 9 encS (.slice (some ⟨g, 0, none⟩) st.length c) st) := HO.out.below (HA.out.trans (HW.out.mono (by omega)))
          have HBW := Lib.hid hbr
          have HZB : Hid (B ≤ wr.heap.size) := by unfold Hid; omega
          have HEC : Hid (OwnL ((wr.alloc (.cells #[.string X] 9)).alloc (.cells #[] 9)) wr.heap.size 9 encS (.slice (some ⟨wr.heap.size + 1, 0, none⟩) 0 0) []) := by
            have := OwnL.empty (base := wr.heap.size) (wr.alloc (.cells #[.string X] 9)) 9 encS (by simp)
            rwa [World.size_alloc] at this
          have HLB : Hid (OwnL ((wr.alloc (.cells #[] 9)).alloc (.cells #[.string X] 9)) 0 9 encS (.slice (some ⟨wr.heap.size + 1, 0, none⟩) 1 1) [X]) := by
            have := lit_one (wr.alloc (.cells #[] 9)) 9 encS X
            rwa [World.size_alloc] at this
          have HLC : Hid (OwnL ((wr.alloc (.cells #[.string X] 9)).alloc (.cells #[] 9)) 0 9 encS (.slice (some ⟨wr.heap.size, 0, none⟩) 1 1) [X]) := (lit_one wr 9 encS X).alloc _
          have KS : Hid (∀ W' : World, Below wr.heap.size wr W' → W'.cell? ⟨w'.heap.size, 4, none⟩ = some (.slice (some x) kids.length cap) ∧ W'.cell? (x.add (j * 5)) = some (.int .i64 t.k) ∧ W'.cell? ⟨(x.add (j * 5)).block, (x.add (j * 5)).off + 1, none⟩ = some (.int .i64 t.n) ∧ W'.cell? ⟨(x.add (j * 5)).block, (x.add (j * 5)).off + 2, none⟩ = some (.int .i64 t.e) ∧ W'.cell? ⟨(x.add (j * 5)).block, (x.add (j * 5)).off + 3, none⟩ = some (.string t.s) ∧ W'.cell? ⟨(x.add (j * 5)).block, (x.add (j * 5)).off + 4, none⟩ = some (.slice t.a t.kids.length t.cap)) := fun W' hW' => ⟨by rw [hW'.cell (World.block_lt_of_cell? wr _ x4)]; exact x4, by rw [hW'.cell (World.block_lt_of_cell? wr _ y0)]; exact y0, by rw [hW'.cell (World.block_lt_of_cell? wr _ y1)]; exact y1, by rw [hW'.cell (World.block_lt_of_cell? wr _ y2)]; exact y2, by rw [hW'.cell (World.block_lt_of_cell? wr _ y3)]; exact y3, by rw [hW'.cell (World.block_lt_of_cell? wr _ y4)]; exact y4⟩
          have KS2 : Hid (∀ W' : World, Below (w'.heap.size + 1) (w'.alloc (.cells #[.int .i64 7, .int .i64 n, .int .i64 e, .string s, .slice (some x) kids.length cap] 24)) W' → W'.cell? ⟨w'.heap.size, 4, none⟩ = some (.slice (some x) kids.length cap) ∧ W'.cell? (x.add (j * 5)) = some (.int .i64 t.k) ∧ W'.cell? ⟨(x.add (j * 5)).block, (x.add (j * 5)).off + 1, none⟩ = some (.int .i64 t.n) ∧ W'.cell? ⟨(x.add (j * 5)).block, (x.add (j * 5)).off + 2, none⟩ = some (.int .i64 t.e) ∧ W'.cell? ⟨(x.add (j * 5)).block, (x.add (j * 5)).off + 3, none⟩ = some (.string t.s) ∧ W'.cell? ⟨(x.add (j * 5)).block, (x.add (j * 5)).off + 4, none⟩ = some (.slice t.a t.kids.length t.cap)) := fun W' hW' => by
            obtain ⟨u0, u1, u2, u3, u4⟩ := h5.below (by rw [add_block]; exact hx) (HB.out.trans ((HA.out.trans (hW'.mono (by omega))).mono hB))
            exact ⟨(boxP_of hW').c4, u0, u1, u2, u3, u4⟩
          clear HC HB HA hbr h5
          go_region_held3 (fun w'' => w''.cell? ⟨w'.heap.size, 4, none⟩ = some (.slice (some x) kids.length cap) ∧ w''.cell? (x.add (j * 5)) = some (.int .i64 t.k) ∧ w''.cell? ⟨(x.add (j * 5)).block, (x.add (j * 5)).off + 1, none⟩ = some (.int .i64 t.n) ∧ w''.cell? ⟨(x.add (j * 5)).block, (x.add (j * 5)).off + 2, none⟩ = some (.int .i64 t.e) ∧ w''.cell? ⟨(x.add (j * 5)).block, (x.add (j * 5)).off + 3, none⟩ = some (.string t.s) ∧ w''.cell? ⟨(x.add (j * 5)).block, (x.add (j * 5)).off + 4, none⟩ = some (.slice t.a t.kids.length t.cap)) (first
            | exact KS.out _ (Below.refl _ wr)
            | exact KS.out _ (Below.refl _ wr).drew
            | exact KS.out _ ((Below.refl _ wr).alloc (Nat.le_refl _) _)
            | exact KS.out _ ((Below.refl _ wr).alloc (Nat.le_refl _) _).drew
            | exact KS.out _ (((Below.refl _ wr).alloc (Nat.le_refl _) _).alloc (by simp) _)
            | exact KS.out _ (((Below.refl _ wr).alloc (Nat.le_refl _) _).alloc (by simp) _).drew
            | exact KS2.out _ hB7
            | exact KS.out _ hB6
            | exact KS.out _ (hB4.alloc hz4 _)
            | exact KS.out _ hB5
            | exact KS.out _ hB4
            | trace_state) (first
          | (have _q := ho6
             refine step_app3 (by rfl) _ _ _ (by rfl) (w'.heap.size + 1) 9 encS i0 _ 16 Tryd.underlying33 hi0 hz0 hz1 hz2 rfl oneS g1 c1 _ L HLL.out (by rfl) hO6 w5.heap.size g6 c6 _ _ rfl (by rfl) ho6 (by unfold maxLen; omega) (by omega) (by omega) ?_
             intro g7 c7 w7 ho7 hg7 hgg7
             have hB7 : Below (w'.heap.size + 1) (w'.alloc (.cells #[.int .i64 7, .int .i64 n, .int .i64 e, .string s, .slice (some x) kids.length cap] 24)) w7 := grown_below (HW.out.trans (hB6.mono (by omega))) (by omega) hO6 hg7
             have hz7 : w'.heap.size + 1 ≤ w7.heap.size := by have := hg7.size; omega)
          | (have _q := ho5
             go_simp
             go_at_call 52
             refine (C.out g5 c5 w5 (HBW.out.trans (hB5.mono HZB.out)) (Nat.le_trans HZB.out hz5) (ho5.mono (Nat.zero_le _))).mono ?_
             rintro e w6 ⟨g6, c6, rfl, ho6, hb6⟩
             have hB6 : Below wr.heap.size wr w6 := hB5.trans (hb6.mono hz5)
             have hO6 := HO1.out.below hB6
             have hz6 := hB6.size)
          | (have _q := ho4
             refine step_app3 (by rfl) _ _ _ (by rfl) wr.heap.size 9 encS i0 _ 16 Tryd.underlying33 hi0 hz0 hz1 hz2 rfl oneS g4 c4 st st.length rfl (by rfl) ho4 0 _ 1 [X] 1 rfl (by rfl) HLX (by unfold maxLen; omega) (by omega) (by omega) ?_
             intro g5 c5 w5 ho5 hg5 hgg5
             have hB5 : Below wr.heap.size wr w5 := grown_below hB4 (by omega) ho4 hg5
             have hz5 := hB5.size)
          | (have _q := ho4
             refine step_app3 (by rfl) _ _ _ (by rfl) wr.heap.size 9 encS i0 _ 16 Tryd.underlying33 hi0 hz0 hz1 hz2 rfl oneS g4 c4 st st.length rfl (by rfl) (ho4.alloc _) 0 w4.heap.size 1 [X] 1 rfl (by rfl) HLX (by unfold maxLen; omega) (by omega) (by simp <;> omega) ?_
             intro g5 c5 w5 ho5 hg5 hgg5
             have hB5 : Below wr.heap.size wr w5 := grown_below (hB4.alloc hz4 _) (by simp <;> omega) (ho4.alloc _) hg5
             have hz5 := hB5.size)
          | (have _q := ho4
             refine step_app3 (by rfl) _ _ _ (by rfl) wr.heap.size 9 encS i0 _ 16 Tryd.underlying33 hi0 hz0 hz1 hz2 rfl oneS g4 c4 ([] ++ st) (0 + st.length) (by simp) (by rfl) ho4r 0 _ 1 [X] 1 rfl (by rfl) HLX (by unfold maxLen; omega) (by omega) (by omega) ?_
             intro g5 c5 w5 ho5 hg5 hgg5
             have hB5 : Below wr.heap.size wr w5 := grown_below hB4 (by omega) ho4r hg5
             have hz5 := hB5.size
             rw [Nat.zero_add, List.nil_append] at ho5)
          | (have _q := ho4
             refine step_app3 (by rfl) _ _ _ (by rfl) wr.heap.size 9 encS i0 _ 16 Tryd.underlying33 hi0 hz0 hz1 hz2 rfl oneS g4 c4 ([] ++ st) (0 + st.length) (by simp) (by rfl) (ho4r.alloc _) 0 w4.heap.size 1 [X] 1 rfl (by rfl) HLX (by unfold maxLen; omega) (by omega) (by simp <;> omega) ?_
             intro g5 c5 w5 ho5 hg5 hgg5
             have hB5 : Below wr.heap.size wr w5 := grown_below (hB4.alloc hz4 _) (by simp <;> omega) (ho4r.alloc _) hg5
             have hz5 := hB5.size
             rw [Nat.zero_add, List.nil_append] at ho5)
          | (refine step_app3 (by rfl) _ _ _ (by rfl) wr.heap.size 9 encS i0 _ 16 Tryd.underlying33 hi0 hz0 hz1 hz2 rfl oneS wr.heap.size 0 [] 0 rfl (by rfl) (OwnL.empty wr _ encS (Nat.le_refl _)).drew 0 g c st st.length rfl (by rfl) (HOS.out.alloc _).drew (by unfold maxLen; omega) (by omega) (by simp) ?_
             intro g4 c4 w4 ho4 hg4 hgg4
             have ho4r := ho4
             rw [Nat.zero_add, List.nil_append] at ho4
             have hB4 : Below wr.heap.size wr w4 := grown_below (((Below.refl _ wr).alloc (Nat.le_refl _) _).drew) (by simp) (OwnL.empty wr _ encS (Nat.le_refl _)).drew hg4
             have hz4 := hB4.size
             have HLX := lit_one w4 9 encS X)
          | (refine step_app3 (by rfl) _ _ _ (by rfl) wr.heap.size 9 encS i0 _ 16 Tryd.underlying33 hi0 hz0 hz1 hz2 rfl oneS wr.heap.size 0 [] 0 rfl (by rfl) ((OwnL.empty wr _ encS (Nat.le_refl _)).alloc _).drew 0 g c st st.length rfl (by rfl) ((HOS.out.alloc _).alloc _).drew (by unfold maxLen; omega) (by omega) (by simp <;> omega) ?_
             intro g4 c4 w4 ho4 hg4 hgg4
             have ho4r := ho4
             rw [Nat.zero_add, List.nil_append] at ho4
             have hB4 : Below wr.heap.size wr w4 := grown_below ((((Below.refl _ wr).alloc (Nat.le_refl _) _).alloc (by simp) _).drew) (by simp <;> omega) ((OwnL.empty wr _ encS (Nat.le_refl _)).alloc _).drew hg4
             have hz4 := hB4.size
             have HLX := own_apart HLB.out.drew hg4 (fun k h1 h2 => by simp only [Value.ownBlock, Option.some.injEq] at h1 h2; omega))
          | (refine step_app3 (by rfl) _ _ _ (by rfl) wr.heap.size 9 encS i0 _ 16 Tryd.underlying33 hi0 hz0 hz1 hz2 rfl oneS (wr.heap.size + 1) 0 [] 0 rfl (by rfl) HEC.out.drew 0 g c st st.length rfl (by rfl) ((HOS.out.alloc _).alloc _).drew (by unfold maxLen; omega) (by omega) (by simp <;> omega) ?_
             intro g4 c4 w4 ho4 hg4 hgg4
             have ho4r := ho4
             rw [Nat.zero_add, List.nil_append] at ho4
             have hB4 : Below wr.heap.size wr w4 := grown_below ((((Below.refl _ wr).alloc (Nat.le_refl _) _).alloc (by simp) _).drew) (by simp <;> omega) HEC.out.drew hg4
             have hz4 := hB4.size
             have HLX := own_apart HLC.out.drew hg4 (fun k h1 h2 => by simp only [Value.ownBlock, Option.some.injEq] at h1 h2; omega))
          | fail)
          all_goals
            clear KS KS2 HEC HLB HLC HOS HBW C
            go_wp2
            go_roundw
            case rel => exact ⟨j + 1, g7, c7, L + PS.length, by go_num, by omega, rfl, by unfold Hid; rw [HN.out, List.length_append, HLL.out], by rw [HN.out]; exact ho7, hz7, hB7⟩
            case measure => simp [intOf]; omega
        · subst h8
          have hk2 := hm2 rfl
          by_cases hj2 : j % 2 = 0
          · have q2 : ((j : Int).tmod 2 == 0) = true := by rw [beq_iff_eq, Int.tmod_eq_emod_of_nonneg (by omega)]; omega
            have HE := Lib.hid (HN0.out (by unfold stepAt; rw [if_neg (by decide), if_neg (by decide), if_pos hj2]))
            clear HN0 HN1 IH h5 y0 y1 y2 y3 y4 hbr HC HB HA
            go_wp2_with fail
            with_reducible refine CD.out.mono ?_
            rintro e w3 ⟨rfl, rfl⟩
            clear CD
            go_wp2
            go_roundw
            case rel => exact ⟨j + 1, g1, c1, L, by go_num, by omega, rfl, by rw [HE.out]; exact HLL.out, by rw [HE.out]; exact HO1.out, hwz, HW.out⟩
            case measure => simp [intOf]; omega
          · obtain ⟨m, hm⟩ : ∃ m, j = m + 1 := ⟨j - 1, by omega⟩
            have hml : m < kids.length := by omega
            have hjm1 : j - 1 = m := by omega
            have q2 : ((j : Int).tmod 2 == 0) = false := by rw [beq_eq_false_iff_ne, Int.tmod_eq_emod_of_nonneg (by omega)]; omega
            have q2b : ((j : Int) % 2 == 0) = false := by rw [beq_eq_false_iff_ne]; omega
            have q3 : (j : Int) - 1 = (m : Int) := by omega
            have q4 : (0 : Int) ≤ (m : Int) := by omega
            have q5 : (m : Int) < (kids.length : Int) := by omega
            clear hm
            obtain ⟨x', hxe, hx', h5'⟩ := HC.out m hml
            obtain rfl : x = x' := by injection hxe
            obtain ⟨z0, z1, z2, z3, z4⟩ := h5'.below (by rw [add_block]; exact hx') hbr
            have HSA : Hid (stepAt 8 (kids.map er) j = if kids[m].k = 5 then some kids[m].s else none) := by
              unfold Hid stepAt
              rw [if_neg (by decide), if_neg (by decide), if_neg hj2, hjm1, List.getElem?_map, List.getElem?_eq_getElem hml]
              simp only [Option.map_some, er_k, er_s]
            by_cases hk5 : kids[m].k = 5
            · have HSX := Lib.hid (HSA.out.trans (if_pos hk5))
              have C := Lib.hid (IH.out j hlt _ HSX.out)
              have HN := Lib.hid (HN1.out _ HSX.out)
              have hpl : ((pathsT (er kids[j]) (st ++ [kids[m].s])).map putP).length ≤ 2000000 := by
                rw [List.length_map]
                have h1 := paths_len kids[j] (st ++ [kids[m].s])
                have h2 := kid_nodes kids j hlt
                omega
              rw [hk5] at z0
              clear HN0 HN1 IH HSX HSA hk5 h5' hx' hxe z1 z2 z4
              generalize kids[m].s = X at *
              generalize kids[j] = t at *
              have hrow : t.row = .slice t.a t.kids.length t.cap := rfl
              rw [hrow] at y4
              generalize (pathsT (er t) (st ++ [X])).map putP = PS at *
              go_wp2_with fail
              with_reducible refine CD.out.mono ?_
              rintro e w3 ⟨rfl, rfl⟩
              clear CD hrow
              go_upto_region 11 with (fail)
              have HOS : Hid (OwnL wr 0 9 encS (.slice (some ⟨g, 0, none⟩) st.length c) st) := HO.out.below (HA.out.trans (HW.out.mono (by omega)))
              have HBW := Lib.hid hbr
              have HZB : Hid (B ≤ wr.heap.size) := by unfold Hid; omega
              have HEC : Hid (OwnL ((wr.alloc (.cells #[.string X] 9)).alloc (.cells #[] 9)) wr.heap.size 9 encS (.slice (some ⟨wr.heap.size + 1, 0, none⟩) 0 0) []) := by
                have := OwnL.empty (base := wr.heap.size) (wr.alloc (.cells #[.string X] 9)) 9 encS (by simp)
                rwa [World.size_alloc] at this
              have HLB : Hid (OwnL ((wr.alloc (.cells #[] 9)).alloc (.cells #[.string X] 9)) 0 9 encS (.slice (some ⟨wr.heap.size + 1, 0, none⟩) 1 1) [X]) := by
                have := lit_one (wr.alloc (.cells #[] 9)) 9 encS X
                rwa [World.size_alloc] at this
              have HLC : Hid (OwnL ((wr.alloc (.cells #[.string X] 9)).alloc (.cells #[] 9)) 0 9 encS (.slice (some ⟨wr.heap.size, 0, none⟩) 1 1) [X]) := (lit_one wr 9 encS X).alloc _
              have KS : Hid (∀ W' : World, Below wr.heap.size wr W' → W'.cell? ⟨w'.heap.size, 4, none⟩ = some (.slice (some x) kids.length cap) ∧ W'.cell? (x.add (j * 5)) = some (.int .i64 t.k) ∧ W'.cell? ⟨(x.add (j * 5)).block, (x.add (j * 5)).off + 1, none⟩ = some (.int .i64 t.n) ∧ W'.cell? ⟨(x.add (j * 5)).block, (x.add (j * 5)).off + 2, none⟩ = some (.int .i64 t.e) ∧ W'.cell? ⟨(x.add (j * 5)).block, (x.add (j * 5)).off + 3, none⟩ = some (.string t.s) ∧ W'.cell? ⟨(x.add (j * 5)).block, (x.add (j * 5)).off + 4, none⟩ = some (.slice t.a t.kids.length t.cap)) := fun W' hW' => ⟨by rw [hW'.cell (World.block_lt_of_cell? wr _ x4)]; exact x4, by rw [hW'.cell (World.block_lt_of_cell? wr _ y0)]; exact y0, by rw [hW'.cell (World.block_lt_of_cell? wr _ y1)]; exact y1, by rw [hW'.cell (World.block_lt_of_cell? wr _ y2)]; exact y2, by rw [hW'.cell (World.block_lt_of_cell? wr _ y3)]; exact y3, by rw [hW'.cell (World.block_lt_of_cell? wr _ y4)]; exact y4⟩
              have KS2 : Hid (∀ W' : World, Below (w'.heap.size + 1) (w'.alloc (.cells #[.int .i64 8, .int .i64 n, .int .i64 e, .string s, .slice (some x) kids.length cap] 24)) W' → W'.cell? ⟨w'.heap.size, 4, none⟩ = some (.slice (some x) kids.length cap) ∧ W'.cell? (x.add (j * 5)) = some (.int .i64 t.k) ∧ W'.cell? ⟨(x.add (j * 5)).block, (x.add (j * 5)).off + 1, none⟩ = some (.int .i64 t.n) ∧ W'.cell? ⟨(x.add (j * 5)).block, (x.add (j * 5)).off + 2, none⟩ = some (.int .i64 t.e) ∧ W'.cell? ⟨(x.add (j * 5)).block, (x.add (j * 5)).off + 3, none⟩ = some (.string t.s) ∧ W'.cell? ⟨(x.add (j * 5)).block, (x.add (j * 5)).off + 4, none⟩ = some (.slice t.a t.kids.length t.cap)) := fun W' hW' => by
                obtain ⟨u0, u1, u2, u3, u4⟩ := h5.below (by rw [add_block]; exact hx) (HB.out.trans ((HA.out.trans (hW'.mono (by omega))).mono hB))
                exact ⟨(boxP_of hW').c4, u0, u1, u2, u3, u4⟩
              clear HC HB HA hbr h5
              go_region_held3 (fun w'' => w''.cell? ⟨w'.heap.size, 4, none⟩ = some (.slice (some x) kids.length cap) ∧ w''.cell? (x.add (j * 5)) = some (.int .i64 t.k) ∧ w''.cell? ⟨(x.add (j * 5)).block, (x.add (j * 5)).off + 1, none⟩ = some (.int .i64 t.n) ∧ w''.cell? ⟨(x.add (j * 5)).block, (x.add (j * 5)).off + 2, none⟩ = some (.int .i64 t.e) ∧ w''.cell? ⟨(x.add (j * 5)).block, (x.add (j * 5)).off + 3, none⟩ = some (.string t.s) ∧ w''.cell? ⟨(x.add (j * 5)).block, (x.add (j * 5)).off + 4, none⟩ = some (.slice t.a t.kids.length t.cap)) (first
                | exact KS.out _ (Below.refl _ wr)
                | exact KS.out _ (Below.refl _ wr).drew
                | exact KS.out _ ((Below.refl _ wr).alloc (Nat.le_refl _) _)
                | exact KS.out _ ((Below.refl _ wr).alloc (Nat.le_refl _) _).drew
                | exact KS.out _ (((Below.refl _ wr).alloc (Nat.le_refl _) _).alloc (by simp) _)
                | exact KS.out _ (((Below.refl _ wr).alloc (Nat.le_refl _) _).alloc (by simp) _).drew
                | exact KS2.out _ hB7
                | exact KS.out _ hB6
                | exact KS.out _ (hB4.alloc hz4 _)
                | exact KS.out _ hB5
                | exact KS.out _ hB4
                | trace_state) (first
              | (have _q := ho6
                 refine step_app3 (by rfl) _ _ _ (by rfl) (w'.heap.size + 1) 9 encS i0 _ 16 Tryd.underlying33 hi0 hz0 hz1 hz2 rfl oneS g1 c1 _ L HLL.out (by rfl) hO6 w5.heap.size g6 c6 _ _ rfl (by rfl) ho6 (by unfold maxLen; omega) (by omega) (by omega) ?_
                 intro g7 c7 w7 ho7 hg7 hgg7
                 have hB7 : Below (w'.heap.size + 1) (w'.alloc (.cells #[.int .i64 8, .int .i64 n, .int .i64 e, .string s, .slice (some x) kids.length cap] 24)) w7 := grown_below (HW.out.trans (hB6.mono (by omega))) (by omega) hO6 hg7
                 have hz7 : w'.heap.size + 1 ≤ w7.heap.size := by have := hg7.size; omega)
              | (have _q := ho5
                 go_simp
                 go_at_call 52
                 refine (C.out g5 c5 w5 (HBW.out.trans (hB5.mono HZB.out)) (Nat.le_trans HZB.out hz5) (ho5.mono (Nat.zero_le _))).mono ?_
                 rintro e w6 ⟨g6, c6, rfl, ho6, hb6⟩
                 have hB6 : Below wr.heap.size wr w6 := hB5.trans (hb6.mono hz5)
                 have hO6 := HO1.out.below hB6
                 have hz6 := hB6.size)
              | (have _q := ho4
                 refine step_app3 (by rfl) _ _ _ (by rfl) wr.heap.size 9 encS i0 _ 16 Tryd.underlying33 hi0 hz0 hz1 hz2 rfl oneS g4 c4 st st.length rfl (by rfl) ho4 0 _ 1 [X] 1 rfl (by rfl) HLX (by unfold maxLen; omega) (by omega) (by omega) ?_
                 intro g5 c5 w5 ho5 hg5 hgg5
                 have hB5 : Below wr.heap.size wr w5 := grown_below hB4 (by omega) ho4 hg5
                 have hz5 := hB5.size)
              | (have _q := ho4
                 refine step_app3 (by rfl) _ _ _ (by rfl) wr.heap.size 9 encS i0 _ 16 Tryd.underlying33 hi0 hz0 hz1 hz2 rfl oneS g4 c4 st st.length rfl (by rfl) (ho4.alloc _) 0 w4.heap.size 1 [X] 1 rfl (by rfl) HLX (by unfold maxLen; omega) (by omega) (by simp <;> omega) ?_
                 intro g5 c5 w5 ho5 hg5 hgg5
                 have hB5 : Below wr.heap.size wr w5 := grown_below (hB4.alloc hz4 _) (by simp <;> omega) (ho4.alloc _) hg5
                 have hz5 := hB5.size)
              | (have _q := ho4
                 refine step_app3 (by rfl) _ _ _ (by rfl) wr.heap.size 9 encS i0 _ 16 Tryd.underlying33 hi0 hz0 hz1 hz2 rfl oneS g4 c4 ([] ++ st) (0 + st.length) (by simp) (by rfl) ho4r 0 _ 1 [X] 1 rfl (by rfl) HLX (by unfold maxLen; omega) (by omega) (by omega) ?_
                 intro g5 c5 w5 ho5 hg5 hgg5
                 have hB5 : Below wr.heap.size wr w5 := grown_below hB4 (by omega) ho4r hg5
                 have hz5 := hB5.size
                 rw [Nat.zero_add, List.nil_append] at ho5)
              | (have _q := ho4
                 refine step_app3 (by rfl) _ _ _ (by rfl) wr.heap.size 9 encS i0 _ 16 Tryd.underlying33 hi0 hz0 hz1 hz2 rfl oneS g4 c4 ([] ++ st) (0 + st.length) (by simp) (by rfl) (ho4r.alloc _) 0 w4.heap.size 1 [X] 1 rfl (by rfl) HLX (by unfold maxLen; omega) (by omega) (by simp <;> omega) ?_
                 intro g5 c5 w5 ho5 hg5 hgg5
                 have hB5 : Below wr.heap.size wr w5 := grown_below (hB4.alloc hz4 _) (by simp <;> omega) (ho4r.alloc _) hg5
                 have hz5 := hB5.size
                 rw [Nat.zero_add, List.nil_append] at ho5)
              | (refine step_app3 (by rfl) _ _ _ (by rfl) wr.heap.size 9 encS i0 _ 16 Tryd.underlying33 hi0 hz0 hz1 hz2 rfl oneS wr.heap.size 0 [] 0 rfl (by rfl) (OwnL.empty wr _ encS (Nat.le_refl _)).drew 0 g c st st.length rfl (by rfl) (HOS.out.alloc _).drew (by unfold maxLen; omega) (by omega) (by simp) ?_
                 intro g4 c4 w4 ho4 hg4 hgg4
                 have ho4r := ho4
                 rw [Nat.zero_add, List.nil_append] at ho4
                 have hB4 : Below wr.heap.size wr w4 := grown_below (((Below.refl _ wr).alloc (Nat.le_refl _) _).drew) (by simp) (OwnL.empty wr _ encS (Nat.le_refl _)).drew hg4
                 have hz4 := hB4.size
                 have HLX := lit_one w4 9 encS X)
              | (refine step_app3 (by rfl) _ _ _ (by rfl) wr.heap.size 9 encS i0 _ 16 Tryd.underlying33 hi0 hz0 hz1 hz2 rfl oneS wr.heap.size 0 [] 0 rfl (by rfl) ((OwnL.empty wr _ encS (Nat.le_refl _)).alloc _).drew 0 g c st st.length rfl (by rfl) ((HOS.out.alloc _).alloc _).drew (by unfold maxLen; omega) (by omega) (by simp <;> omega) ?_
                 intro g4 c4 w4 ho4 hg4 hgg4
                 have ho4r := ho4
                 rw [Nat.zero_add, List.nil_append] at ho4
                 have hB4 : Below wr.heap.size wr w4 := grown_below ((((Below.refl _ wr).alloc (Nat.le_refl _) _).alloc (by simp) _).drew) (by simp <;> omega) ((OwnL.empty wr _ encS (Nat.le_refl _)).alloc _).drew hg4
                 have hz4 := hB4.size
                 have HLX := own_apart HLB.out.drew hg4 (fun k h1 h2 => by simp only [Value.ownBlock, Option.some.injEq] at h1 h2; omega))
              | (refine step_app3 (by rfl) _ _ _ (by rfl) wr.heap.size 9 encS i0 _ 16 Tryd.underlying33 hi0 hz0 hz1 hz2 rfl oneS (wr.heap.size + 1) 0 [] 0 rfl (by rfl) HEC.out.drew 0 g c st st.length rfl (by rfl) ((HOS.out.alloc _).alloc _).drew (by unfold maxLen; omega) (by omega) (by simp <;> omega) ?_
                 intro g4 c4 w4 ho4 hg4 hgg4
                 have ho4r := ho4
                 rw [Nat.zero_add, List.nil_append] at ho4
                 have hB4 : Below wr.heap.size wr w4 := grown_below ((((Below.refl _ wr).alloc (Nat.le_refl _) _).alloc (by simp) _).drew) (by simp <;> omega) HEC.out.drew hg4
                 have hz4 := hB4.size
                 have HLX := own_apart HLC.out.drew hg4 (fun k h1 h2 => by simp only [Value.ownBlock, Option.some.injEq] at h1 h2; omega))
              | fail)
              all_goals
                clear KS KS2 HEC HLB HLC HOS HBW C
                go_wp2
                go_roundw
                case rel => exact ⟨j + 1, g7, c7, L + PS.length, by go_num, by omega, rfl, by unfold Hid; rw [HN.out, List.length_append, HLL.out], by rw [HN.out]; exact ho7, hz7, hB7⟩
                case measure => simp [intOf]; omega
            · have HE := Lib.hid (HN0.out (HSA.out.trans (if_neg hk5)))
              have q6 : (kids[m].k != 5) = true := by rw [bne_iff_ne]; exact hk5
              clear HN0 HN1 IH h5 h5' y0 y1 y2 y3 y4 hbr HC HB HA HSA hk5 z1 z2 z3 z4 hx' hxe
              generalize kids[m].k = kk at *
              go_wp2_with fail
              with_reducible refine CD.out.mono ?_
              rintro e w3 ⟨rfl, rfl⟩
              clear CD
              go_wp2
              go_roundw
              case rel => exact ⟨j + 1, g1, c1, L, by go_num, by omega, rfl, by rw [HE.out]; exact HLL.out, by rw [HE.out]; exact HO1.out, hwz, HW.out⟩
              case measure => simp [intOf]; omega
        · subst h9
          have HSX : Hid (stepAt 9 (kids.map er) j = some tagB) := rfl
          have C := Lib.hid (IH.out j hlt _ HSX.out)
          have HN := Lib.hid (HN1.out _ HSX.out)
          have hpl : ((pathsT (er kids[j]) (st ++ [tagB])).map putP).length ≤ 2000000 := by
            rw [List.length_map]
            have h1 := paths_len kids[j] (st ++ [tagB])
            have h2 := kid_nodes kids j hlt
            omega
          unfold tagB at C HN hpl
          clear HN0 HN1 IH HSX
          generalize kids[j] = t at *
          have hrow : t.row = .slice t.a t.kids.length t.cap := rfl
          rw [hrow] at y4
          generalize (pathsT (er t) (st ++ [(⟨#[116, 97, 103]⟩ : ByteArray)])).map putP = PS at *
          go_wp2_with fail
          with_reducible refine CD.out.mono ?_
          rintro e w3 ⟨rfl, rfl⟩
          clear CD hrow
          go_upto_region 11 with (fail)
          generalize (ByteArray.mk #[116, 97, 103]) = X at *
          have HOS : Hid (OwnL wr 0 9 encS (.slice (some ⟨g, 0, none⟩) st.length c) st) := HO.out.below (HA.out.trans (HW.out.mono (by omega)))
          have HBW := Lib.hid hbr
          have HZB : Hid (B ≤ wr.heap.size) := by unfold Hid; omega
          have HEC : Hid (OwnL ((wr.alloc (.cells #[.string X] 9)).alloc (.cells #[] 9)) wr.heap.size 9 encS (.slice (some ⟨wr.heap.size + 1, 0, none⟩) 0 0) []) := by
            have := OwnL.empty (base := wr.heap.size) (wr.alloc (.cells #[.string X] 9)) 9 encS (by simp)
            rwa [World.size_alloc] at this
          have HLB : Hid (OwnL ((wr.alloc (.cells #[] 9)).alloc (.cells #[.string X] 9)) 0 9 encS (.slice (some ⟨wr.heap.size + 1, 0, none⟩) 1 1) [X]) := by
            have := lit_one (wr.alloc (.cells #[] 9)) 9 encS X
            rwa [World.size_alloc] at this
          have HLC : Hid (OwnL ((wr.alloc (.cells #[.string X] 9)).alloc (.cells #[] 9)) 0 9 encS (.slice (some ⟨wr.heap.size, 0, none⟩) 1 1) [X]) := (lit_one wr 9 encS X).alloc _
          have KS : Hid (∀ W' : World, Below wr.heap.size wr W' → W'.cell? ⟨w'.heap.size, 4, none⟩ = some (.slice (some x) kids.length cap) ∧ W'.cell? (x.add (j * 5)) = some (.int .i64 t.k) ∧ W'.cell? ⟨(x.add (j * 5)).block, (x.add (j * 5)).off + 1, none⟩ = some (.int .i64 t.n) ∧ W'.cell? ⟨(x.add (j * 5)).block, (x.add (j * 5)).off + 2, none⟩ = some (.int .i64 t.e) ∧ W'.cell? ⟨(x.add (j * 5)).block, (x.add (j * 5)).off + 3, none⟩ = some (.string t.s) ∧ W'.cell? ⟨(x.add (j * 5)).block, (x.add (j * 5)).off + 4, none⟩ = some (.slice t.a t.kids.length t.cap)) := fun W' hW' => ⟨by rw [hW'.cell (World.block_lt_of_cell? wr _ x4)]; exact x4, by rw [hW'.cell (World.block_lt_of_cell? wr _ y0)]; exact y0, by rw [hW'.cell (World.block_lt_of_cell? wr _ y1)]; exact y1, by rw [hW'.cell (World.block_lt_of_cell? wr _ y2)]; exact y2, by rw [hW'.cell (World.block_lt_of_cell? wr _ y3)]; exact y3, by rw [hW'.cell (World.block_lt_of_cell? wr _ y4)]; exact y4⟩
          have KS2 : Hid (∀ W' : World, Below (w'.heap.size + 1) (w'.alloc (.cells #[.int .i64 9, .int .i64 n, .int .i64 e, .string s, .slice (some x) kids.length cap] 24)) W' → W'.cell? ⟨w'.heap.size, 4, none⟩ = some (.slice (some x) kids.length cap) ∧ W'.cell? (x.add (j * 5)) = some (.int .i64 t.k) ∧ W'.cell? ⟨(x.add (j * 5)).block, (x.add (j * 5)).off + 1, none⟩ = some (.int .i64 t.n) ∧ W'.cell? ⟨(x.add (j * 5)).block, (x.add (j * 5)).off + 2, none⟩ = some (.int .i64 t.e) ∧ W'.cell? ⟨(x.add (j * 5)).block, (x.add (j * 5)).off + 3, none⟩ = some (.string t.s) ∧ W'.cell? ⟨(x.add (j * 5)).block, (x.add (j * 5)).off + 4, none⟩ = some (.slice t.a t.kids.length t.cap)) := fun W' hW' => by
            obtain ⟨u0, u1, u2, u3, u4⟩ := h5.below (by rw [add_block]; exact hx) (HB.out.trans ((HA.out.trans (hW'.mono (by omega))).mono hB))
            exact ⟨(boxP_of hW').c4, u0, u1, u2, u3, u4⟩
          clear HC HB HA hbr h5
          go_region_held3 (fun w'' => w''.cell? ⟨w'.heap.size, 4, none⟩ = some (.slice (some x) kids.length cap) ∧ w''.cell? (x.add (j * 5)) = some (.int .i64 t.k) ∧ w''.cell? ⟨(x.add (j * 5)).block, (x.add (j * 5)).off + 1, none⟩ = some (.int .i64 t.n) ∧ w''.cell? ⟨(x.add (j * 5)).block, (x.add (j * 5)).off + 2, none⟩ = some (.int .i64 t.e) ∧ w''.cell? ⟨(x.add (j * 5)).block, (x.add (j * 5)).off + 3, none⟩ = some (.string t.s) ∧ w''.cell? ⟨(x.add (j * 5)).block, (x.add (j * 5)).off + 4, none⟩ = some (.slice t.a t.kids.length t.cap)) (first
            | exact KS.out _ (Below.refl _ wr)
            | exact KS.out _ (Below.refl _ wr).drew
            | exact KS.out _ ((Below.refl _ wr).alloc (Nat.le_refl _) _)
            | exact KS.out _ ((Below.refl _ wr).alloc (Nat.le_refl _) _).drew
            | exact KS.out _ (((Below.refl _ wr).alloc (Nat.le_refl _) _).alloc (by simp) _)
            | exact KS.out _ (((Below.refl _ wr).alloc (Nat.le_refl _) _).alloc (by simp) _).drew
            | exact KS2.out _ hB7
            | exact KS.out _ hB6
            | exact KS.out _ (hB4.alloc hz4 _)
            | exact KS.out _ hB5
            | exact KS.out _ hB4
            | trace_state) (first
          | (have _q := ho6
             refine step_app3 (by rfl) _ _ _ (by rfl) (w'.heap.size + 1) 9 encS i0 _ 16 Tryd.underlying33 hi0 hz0 hz1 hz2 rfl oneS g1 c1 _ L HLL.out (by rfl) hO6 w5.heap.size g6 c6 _ _ rfl (by rfl) ho6 (by unfold maxLen; omega) (by omega) (by omega) ?_
             intro g7 c7 w7 ho7 hg7 hgg7
             have hB7 : Below (w'.heap.size + 1) (w'.alloc (.cells #[.int .i64 9, .int .i64 n, .int .i64 e, .string s, .slice (some x) kids.length cap] 24)) w7 := grown_below (HW.out.trans (hB6.mono (by omega))) (by omega) hO6 hg7
             have hz7 : w'.heap.size + 1 ≤ w7.heap.size := by have := hg7.size; omega)
          | (have _q := ho5
             go_simp
             go_at_call 52
             refine (C.out g5 c5 w5 (HBW.out.trans (hB5.mono HZB.out)) (Nat.le_trans HZB.out hz5) (ho5.mono (Nat.zero_le _))).mono ?_
             rintro e w6 ⟨g6, c6, rfl, ho6, hb6⟩
             have hB6 : Below wr.heap.size wr w6 := hB5.trans (hb6.mono hz5)
             have hO6 := HO1.out.below hB6
             have hz6 := hB6.size)
          | (have _q := ho4
             refine step_app3 (by rfl) _ _ _ (by rfl) wr.heap.size 9 encS i0 _ 16 Tryd.underlying33 hi0 hz0 hz1 hz2 rfl oneS g4 c4 st st.length rfl (by rfl) ho4 0 _ 1 [X] 1 rfl (by rfl) HLX (by unfold maxLen; omega) (by omega) (by omega) ?_
             intro g5 c5 w5 ho5 hg5 hgg5
             have hB5 : Below wr.heap.size wr w5 := grown_below hB4 (by omega) ho4 hg5
             have hz5 := hB5.size)
          | (have _q := ho4
             refine step_app3 (by rfl) _ _ _ (by rfl) wr.heap.size 9 encS i0 _ 16 Tryd.underlying33 hi0 hz0 hz1 hz2 rfl oneS g4 c4 st st.length rfl (by rfl) (ho4.alloc _) 0 w4.heap.size 1 [X] 1 rfl (by rfl) HLX (by unfold maxLen; omega) (by omega) (by simp <;> omega) ?_
             intro g5 c5 w5 ho5 hg5 hgg5
             have hB5 : Below wr.heap.size wr w5 := grown_below (hB4.alloc hz4 _) (by simp <;> omega) (ho4.alloc _) hg5
             have hz5 := hB5.size)
          | (have _q := ho4
             refine step_app3 (by rfl) _ _ _ (by rfl) wr.heap.size 9 encS i0 _ 16 Tryd.underlying33 hi0 hz0 hz1 hz2 rfl oneS g4 c4 ([] ++ st) (0 + st.length) (by simp) (by rfl) ho4r 0 _ 1 [X] 1 rfl (by rfl) HLX (by unfold maxLen; omega) (by omega) (by omega) ?_
             intro g5 c5 w5 ho5 hg5 hgg5
             have hB5 : Below wr.heap.size wr w5 := grown_below hB4 (by omega) ho4r hg5
             have hz5 := hB5.size
             rw [Nat.zero_add, List.nil_append] at ho5)
          | (have _q := ho4
             refine step_app3 (by rfl) _ _ _ (by rfl) wr.heap.size 9 encS i0 _ 16 Tryd.underlying33 hi0 hz0 hz1 hz2 rfl oneS g4 c4 ([] ++ st) (0 + st.length) (by simp) (by rfl) (ho4r.alloc _) 0 w4.heap.size 1 [X] 1 rfl (by rfl) HLX (by unfold maxLen; omega) (by omega) (by simp <;> omega) ?_
             intro g5 c5 w5 ho5 hg5 hgg5
             have hB5 : Below wr.heap.size wr w5 := grown_below (hB4.alloc hz4 _) (by simp <;> omega) (ho4r.alloc _) hg5
             have hz5 := hB5.size
             rw [Nat.zero_add, List.nil_append] at ho5)
          | (refine step_app3 (by rfl) _ _ _ (by rfl) wr.heap.size 9 encS i0 _ 16 Tryd.underlying33 hi0 hz0 hz1 hz2 rfl oneS wr.heap.size 0 [] 0 rfl (by rfl) (OwnL.empty wr _ encS (Nat.le_refl _)).drew 0 g c st st.length rfl (by rfl) (HOS.out.alloc _).drew (by unfold maxLen; omega) (by omega) (by simp) ?_
             intro g4 c4 w4 ho4 hg4 hgg4
             have ho4r := ho4
             rw [Nat.zero_add, List.nil_append] at ho4
             have hB4 : Below wr.heap.size wr w4 := grown_below (((Below.refl _ wr).alloc (Nat.le_refl _) _).drew) (by simp) (OwnL.empty wr _ encS (Nat.le_refl _)).drew hg4
             have hz4 := hB4.size
             have HLX := lit_one w4 9 encS X)
          | (refine step_app3 (by rfl) _ _ _ (by rfl) wr.heap.size 9 encS i0 _ 16 Tryd.underlying33 hi0 hz0 hz1 hz2 rfl oneS wr.heap.size 0 [] 0 rfl (by rfl) ((OwnL.empty wr _ encS (Nat.le_refl _)).alloc _).drew 0 g c st st.length rfl (by rfl) ((HOS.out.alloc _).alloc _).drew (by unfold maxLen; omega) (by omega) (by simp <;> omega) ?_
             intro g4 c4 w4 ho4 hg4 hgg4
             have ho4r := ho4
             rw [Nat.zero_add, List.nil_append] at ho4
             have hB4 : Below wr.heap.size wr w4 := grown_below ((((Below.refl _ wr).alloc (Nat.le_refl _) _).alloc (by simp) _).drew) (by simp <;> omega) ((OwnL.empty wr _ encS (Nat.le_refl _)).alloc _).drew hg4
             have hz4 := hB4.size
             have HLX := own_apart HLB.out.drew hg4 (fun k h1 h2 => by simp only [Value.ownBlock, Option.some.injEq] at h1 h2; omega))
          | (refine step_app3 (by rfl) _ _ _ (by rfl) wr.heap.size 9 encS i0 _ 16 Tryd.underlying33 hi0 hz0 hz1 hz2 rfl oneS (wr.heap.size + 1) 0 [] 0 rfl (by rfl) HEC.out.drew 0 g c st st.length rfl (by rfl) ((HOS.out.alloc _).alloc _).drew (by unfold maxLen; omega) (by omega) (by simp <;> omega) ?_
             intro g4 c4 w4 ho4 hg4 hgg4
             have ho4r := ho4
             rw [Nat.zero_add, List.nil_append] at ho4
             have hB4 : Below wr.heap.size wr w4 := grown_below ((((Below.refl _ wr).alloc (Nat.le_refl _) _).alloc (by simp) _).drew) (by simp <;> omega) HEC.out.drew hg4
             have hz4 := hB4.size
             have HLX := own_apart HLC.out.drew hg4 (fun k h1 h2 => by simp only [Value.ownBlock, Option.some.injEq] at h1 h2; omega))
          | fail)
          all_goals
            clear KS KS2 HEC HLB HLC HOS HBW C
            go_wp2
            go_roundw
            case rel => exact ⟨j + 1, g7, c7, L + PS.length, by go_num, by omega, rfl, by unfold Hid; rw [HN.out, List.length_append, HLL.out], by rw [HN.out]; exact ho7, hz7, hB7⟩
            case measure => simp [intOf]; omega
      · have hj1 : ¬ (j : Int) < (kids.length : Int) := by omega
        have e : j = kids.length := by omega
        have HRO : Hid (outs k (kids.map er) st j = outs k (kids.map er) st kids.length) := by rw [e]; rfl
        have HBF := Lib.hid (HA.out.trans (HW.out.mono (by omega)))
        have HO2 := Lib.hid (HO1.out.mono (by omega : w'.heap.size ≤ w'.heap.size + 1))
        rw [HRO.out] at HLL HO2
        clear HC IH HB HA HW HO1 HRO HL HO e
        go_wp2
        go_ret
        exact ⟨g1, c1, by rw [HLL.out]; rfl, by rw [HLL.out]; exact HO2.out, HBF.out⟩
end Go.Proofs.YtkjffifdlckljaaDoor.path
