/-
  What impl.GetPath returns: the steps of a pointer's text. For texts of at most 1048576 bytes.
-/
import Derived.Test.YtkjffifdlckljaaDoorPathGet
import Derived.Test.YtkjffifdlckljaaDoorPathImpl
import Derived.Test.YtkjffifdlckljaaDoorShelfClone
import Derived.Test.YtkjffifdlckljaaDoorApp3
namespace Go.Proofs.YtkjffifdlckljaaDoor.path
open Go.ChangeShapes Go.WideShapes Go.ChangeAt Go.RowKit
open Go.Proofs.YtkjffifdlckljaaDoor.strs (encS oneS ReadS)
open Go.Lib (replaceAll)
set_option maxRecDepth 100000

theorem infoS : (Tryd.prog.info? 9).map (fun i => (i.zero, i.size, i.bytes)) = some (some (.string ⟨#[]⟩), 1, 16) := by kernel_rfl
theorem clone_any (s : ByteArray) (w : World) (hs : s.size ≤ 281474976710656) :
    Calls Tryd.prog 48 #[.string s] w fun e w' => e = .returned (.string s) ∧ Below w.heap.size w w' := by
  have C := Lib.hid (Tryd.stringslite_Clone s w hs)
  go_enter Tryd.func48, Tryd.ntmps48
  go_wp2_with fail
  with_reducible refine C.out.mono ?_
  rintro e w1 ⟨rfl, hb⟩
  go_wp2
  go_ret
  exact ⟨rfl, hb⟩
/-- A piece with its slashes back. -/
def decA (x : ByteArray) : ByteArray := ⟨(replaceAll x.data.toList [126, 49] [47]).toArray⟩
theorem decA_size (x : ByteArray) : (decA x).size ≤ x.size := by
  unfold decA
  have h1 := rep_len (old := [126, 49]) (new := [47]) (by decide) (by decide) (by decide) _ x.data.toList (Nat.le_refl _)
  have h3 : x.data.toList.length = x.size := by simp
  rw [mk_size]
  omega
theorem rep1 (x : ByteArray) (m : Int) (w : World) (hs : x.size ≤ 1048576) (hm : MaxCell m w) : Calls Tryd.prog 47 #[.string x, .string ⟨#[126, 49]⟩, .string ⟨#[47]⟩] w fun e w' => e = .returned (.string (decA x)) ∧ Below w.heap.size w w' :=
  Tryd.strings_ReplaceAll x ⟨#[126, 49]⟩ ⟨#[47]⟩ m w (by omega) hm (by decide) (by have := count_le2 x ⟨#[126, 49]⟩ (by decide); show x.size + Lib.countB x ⟨#[126, 49]⟩ * 1 ≤ _; omega)
theorem rep2 (x : ByteArray) (m : Int) (w : World) (hs : x.size ≤ 1048576) (hm : MaxCell m w) : Calls Tryd.prog 47 #[.string (decA x), .string ⟨#[126, 48]⟩, .string ⟨#[126]⟩] w fun e w' => e = .returned (.string (decB x)) ∧ Below w.heap.size w w' := by
  have hd := decA_size x
  exact Tryd.strings_ReplaceAll (decA x) ⟨#[126, 48]⟩ ⟨#[126]⟩ m w (by omega) hm (by decide) (by have := count_le2 (decA x) ⟨#[126, 48]⟩ (by decide); show (decA x).size + Lib.countB (decA x) ⟨#[126, 48]⟩ * 1 ≤ _; omega)
theorem cells_at (P : List ByteArray) (N i : Nat) (h : i < P.length) : (Lib.cellsOf P N)[i]? = some (.string P[i]) := by
  unfold Lib.cellsOf
  rw [List.getElem?_toArray, List.getElem?_append_left (by simpa using h), List.getElem?_map, List.getElem?_eq_getElem h]
  rfl
theorem tail_at (P : List ByteArray) (j : Nat) (h : j < P.length - 1) : (P.tail.map decB).take (j + 1) = (P.tail.map decB).take j ++ [decB (P[j + 1]'(by omega))] := by
  rw [List.take_succ_eq_append_getElem (by simpa using h)]
  simp
set_option maxHeartbeats 2000000 in
theorem impl_get (s : ByteArray) (m : Int) (w : World) (hs : s.size ≤ 1048576) (hT : signs.Tabs w) (hm : MaxCell m w) : GetC 24 s w := by
  obtain ⟨i0, hi0, hz0, hz1, hz2⟩ := info_parts infoS
  have CS : Hid (∀ W, MaxCell m W → Calls Tryd.prog 46 #[.string s, .string ⟨#[47]⟩, .int .i64 14] W fun e w' => e = .returned (.slice (some ⟨W.heap.size, 0, none⟩) (pieces s).length (min 14 (s.size + 1))) ∧ w' = W.alloc (.cells (Lib.cellsOf (pieces s) (min 14 (s.size + 1))) 9)) := fun W hW =>
    Tryd.strings_SplitN s ⟨#[47]⟩ 14 m W (by omega) hW (by decide) (by decide) (by decide)
  have C1 : Hid (∀ W x, x ∈ pieces s → Below w.heap.size w W → Calls Tryd.prog 47 #[.string x, .string ⟨#[126, 49]⟩, .string ⟨#[47]⟩] W fun e w' => e = .returned (.string (decA x)) ∧ Below W.heap.size W w') := fun W x hx hb => rep1 x m W (Nat.le_trans (pieces_size s x hx) hs) (maxCell_below hm hb)
  have C2 : Hid (∀ W x, x ∈ pieces s → Below w.heap.size w W → Calls Tryd.prog 47 #[.string (decA x), .string ⟨#[126, 48]⟩, .string ⟨#[126]⟩] W fun e w' => e = .returned (.string (decB x)) ∧ Below W.heap.size W w') := fun W x hx hb => rep2 x m W (Nat.le_trans (pieces_size s x hx) hs) (maxCell_below hm hb)
  have C3 : Hid (∀ W x, x ∈ pieces s → Calls Tryd.prog 48 #[.string (decB x)] W fun e w' => e = .returned (.string (decB x)) ∧ Below W.heap.size W w') := fun W x hx => clone_any _ W (by have := decB_size x; have := pieces_size s x hx; omega)
  have CP : Hid (∀ W b v, Below w.heap.size w W → OwnL W b 9 encS v (gotI s) → Calls Tryd.prog 21 #[v] W fun e w' => e = .returned (.string (putP (gotI s))) ∧ Below W.heap.size W w') := fun W b v hb ho => by
    obtain ⟨a, c, g, r⟩ := strs.readS_of ho
    exact impl_put _ v a c g m W (Nat.le_trans (gotI_len s) (by omega)) (fun j hj => Nat.le_trans (gotI_size s _ (List.getElem_mem hj)) hs) r (signs.tabs_below hT hb) (maxCell_below hm hb)
  have HG : Hid (gotI s = (pieces s).tail.map decB) := rfl
  have hpl := pieces_len s
  have hpp := pieces_pos s
  have HM := Lib.hid hm
  have HY := Lib.hid (res_yes (s := s) (g := gotI s))
  have HN := Lib.hid (res_no (s := s) (g := gotI s))
  unfold GetC
  generalize resOf (gotI s) s = RES at *
  clear hT hm
  generalize hP : pieces s = P at *
  clear hP
  have hcap : min 14 (s.size + 1) ≤ 14 := Nat.min_le_left _ _
  have hcap1 : 1 ≤ min 14 (s.size + 1) := by omega
  generalize min 14 (s.size + 1) = cap at *
  go_enter Tryd.func24, Tryd.ntmps24
  have HB0 : Hid (Below w.heap.size w (w.alloc (.cells #[] 9))) := (Below.refl _ _).alloc (Nat.le_refl _) _
  go_wp2_with fail
  with_reducible refine (CS.out _ (maxCell_below HM.out HB0.out)).mono ?_
  rintro e w1 ⟨rfl, rfl⟩
  have hN0 : (w.alloc (.cells #[] 9)).heap.size = w.heap.size + 1 := by simp
  have HO0 : Hid (OwnL ((w.alloc (.cells #[] 9)).alloc (.cells (Lib.cellsOf P cap) 9)) w.heap.size 9 encS (.slice (some ⟨w.heap.size, 0, none⟩) 0 0) []) := (OwnL.empty w _ encS (Nat.le_refl _)).alloc _
  have HK0 : Hid (((w.alloc (.cells #[] 9)).alloc (.cells (Lib.cellsOf P cap) 9)).heap[w.heap.size + 1]? = some (.cells (Lib.cellsOf P cap) 9 (0, 0))) := by
    have := heap_alloc_new (w.alloc (.cells #[] 9)) (.cells (Lib.cellsOf P cap) 9)
    rwa [hN0] at this
  have HB1 : Hid (Below w.heap.size w ((w.alloc (.cells #[] 9)).alloc (.cells (Lib.cellsOf P cap) 9))) := HB0.out.alloc (by simp) _
  have hz1' : w.heap.size + 2 ≤ ((w.alloc (.cells #[] 9)).alloc (.cells (Lib.cellsOf P cap) 9)).heap.size := by simp
  rw [hN0]
  have hpp' : (1 : Int) ≤ (P.length : Int) := by omega
  generalize (w.alloc (.cells #[] 9)).alloc (.cells (Lib.cellsOf P cap) 9) = w1 at *
  clear CS HB0 hN0
  go_wp2
  · go_loopw [4, 13] (fun v i wr => ∃ (j g c : Nat), j ≤ P.length - 1 ∧ i = .int .i64 j ∧ v = .slice (some ⟨g, 0, none⟩) j c ∧ Hid (OwnL wr w.heap.size 9 encS (.slice (some ⟨g, 0, none⟩) j c) ((P.tail.map decB).take j)) ∧ Hid (wr.heap[w.heap.size + 1]? = some (.cells (Lib.cellsOf P cap) 9 (0, 0))) ∧ g ≠ w.heap.size + 1 ∧ Hid (Below w.heap.size w wr) ∧ w.heap.size + 2 ≤ wr.heap.size) (fun _ i _ => P.length - 1 - (intOf i).toNat)
    case atStart => exact ⟨0, w.heap.size, 0, Nat.zero_le _, rfl, rfl, by simpa using HO0, HK0, by omega, HB1, hz1'⟩
    case round =>
      clear HO0 HK0 HB1 hz1'
      obtain ⟨j, g, c, hj, rfl, rfl, HO, HK, hg, HB, hzr⟩ := hrel
      by_cases hlt : j < P.length - 1
      · exfalso; omega
      · have hj1 : ¬ (j : Int) < ((P.length - 1 : Nat) : Int) := by omega
        have e : j = P.length - 1 := by omega
        have HO1 : Hid (OwnL wr w.heap.size 9 encS (.slice (some ⟨g, 0, none⟩) j c) (gotI s)) := by
          have := HO.out
          rw [List.take_of_length_le (by rw [List.length_map, List.length_tail]; omega), ← HG.out] at this
          exact this
        have D := Lib.hid (CP.out wr _ _ HB.out HO1.out)
        clear C1 C2 C3 CP HO HK HG HM e
        generalize gotI s = G at *
        by_cases hp : putP G = s
        · have HE := Lib.hid (HY.out hp)
          rw [hp] at D
          clear HY HN hp
          go_wp2_with fail
          with_reducible refine D.out.mono ?_
          rintro e w2 ⟨rfl, hb2⟩
          have HB2 := Lib.hid (below_ofP HB.out hb2)
          have HO2 := Lib.hid (HO1.out.below hb2)
          clear hb2 D HB HO1
          go_wp2
          go_ret2
          exact ⟨_, by rw [HE.out]; rfl, by rw [HE.out]; exact HO2.out, HB2.out⟩
        · have HE := Lib.hid (HN.out hp)
          have hq : (putP G).toList ≠ s.toList := fun e => hp (by
            rw [Lib.toList_data, Lib.toList_data] at e
            exact ByteArray.ext (Array.toList_inj.1 e))
          have hq2 : ((putP G).toList == s.toList) = false := beq_eq_false_iff_ne.2 hq
          clear HY HN hp hq
          generalize putP G = pg at *
          go_wp2_with fail
          with_reducible refine D.out.mono ?_
          rintro e w2 ⟨rfl, hb2⟩
          have HB2 := Lib.hid (below_ofP HB.out hb2)
          clear D HB HO1
          go_wp2
          go_ret2
          exact ⟨_, by rw [HE.out]; rfl, by rw [HE.out]; exact OwnL.empty _ _ _ HB2.out.size, HB2.out.alloc HB2.out.size _⟩
  · go_loopw [4, 13] (fun v i wr => ∃ (j g c : Nat), j ≤ P.length - 1 ∧ i = .int .i64 j ∧ v = .slice (some ⟨g, 0, none⟩) j c ∧ Hid (OwnL wr w.heap.size 9 encS (.slice (some ⟨g, 0, none⟩) j c) ((P.tail.map decB).take j)) ∧ Hid (wr.heap[w.heap.size + 1]? = some (.cells (Lib.cellsOf P cap) 9 (0, 0))) ∧ g ≠ w.heap.size + 1 ∧ Hid (Below w.heap.size w wr) ∧ w.heap.size + 2 ≤ wr.heap.size) (fun _ i _ => P.length - 1 - (intOf i).toNat)
    case atStart => exact ⟨0, w.heap.size, 0, Nat.zero_le _, rfl, rfl, by simpa using HO0, HK0, by omega, HB1, hz1'⟩
    case round =>
      clear HO0 HK0 HB1 hz1'
      obtain ⟨j, g, c, hj, rfl, rfl, HO, HK, hg, HB, hzr⟩ := hrel
      by_cases hlt : j < P.length - 1
      · have hj0 : (0 : Int) ≤ (j : Int) := by omega
        have hj1 : (j : Int) < ((P.length - 1 : Nat) : Int) := by omega
        have hcell : wr.cell? ⟨w.heap.size + 1, 1 + j, none⟩ = some (.string (P[j + 1]'(by omega))) := by
          rw [cell_of_row wr _ (1 + j) _ _ (0, 0) HK.out, ← cells_at P cap (j + 1) (by omega), Nat.add_comm 1 j]
        have hmem : P[j + 1]'(by omega) ∈ P := List.getElem_mem _
        have HT2 := Lib.hid (tail_at P j hlt)
        have D1 := Lib.hid (C1.out wr _ hmem HB.out)
        have D2 := Lib.hid (fun W hW => C2.out W _ hmem hW)
        have D3 := Lib.hid (fun W => C3.out W _ hmem)
        have hdl : ((P.tail.map decB).take j).length = j := by rw [List.length_take, List.length_map, List.length_tail]; omega
        clear hmem C1 C2 C3
        generalize P[j + 1]'(by omega) = x at *
        go_wp2_with fail
        with_reducible refine D1.out.mono ?_
        rintro e w2 ⟨rfl, hb2⟩
        have HB2 := Lib.hid (below_ofP HB.out hb2)
        have HO2 := Lib.hid (HO.out.below hb2)
        have HK2 := Lib.hid ((hb2.block _ (by omega)).trans HK.out)
        have hzz2 := hb2.size
        clear hb2 D1 HB HO HK hcell
        go_wp2_with fail
        with_reducible refine (D2.out _ HB2.out).mono ?_
        rintro e w3 ⟨rfl, hb3⟩
        have HB3 := Lib.hid (below_ofP HB2.out hb3)
        have HO3 := Lib.hid (HO2.out.below hb3)
        have HK3 := Lib.hid ((hb3.block _ (by omega)).trans HK2.out)
        have hzz3 := hb3.size
        clear hb3 D2 HB2 HO2 HK2
        go_wp2_with fail
        with_reducible refine (D3.out _).mono ?_
        rintro e w4 ⟨rfl, hb4⟩
        have HB4 := Lib.hid (below_ofP HB3.out hb4)
        have HO4 := Lib.hid (HO3.out.below hb4)
        have HK4 := Lib.hid ((hb4.block _ (by omega)).trans HK3.out)
        have hzz4 := hb4.size
        clear hb4 D3 HB3 HO3 HK3
        have HL := Lib.hid (lit_one w4 9 encS (decB x))
        unfold encS at HL
        have hbs : w.heap.size ≤ (w4.alloc (.cells #[.string (decB x)] 9)).heap.size := by simp; omega
        go_wp2_with (first
          | (at_builtin; refine wpList_app3 (by rfl) _ _ _ (by rfl) w.heap.size 9 encS i0 _ 16 Tryd.underlying33 hi0 hz0 hz1 hz2 rfl oneS g c _ j hdl (by rfl) (HO4.out.alloc _) 0 w4.heap.size 1 [decB x] 1 rfl (by rfl) HL.out (by unfold maxLen; omega) (by omega) hbs ?_; intro g' c' w5 hown5 hg5 hgg5))
        have hB5 : Below w.heap.size w w5 := grown_below (HB4.out.alloc (by omega) _) hbs (HO4.out.alloc _) hg5
        have hK5 : w5.heap[w.heap.size + 1]? = some (.cells (Lib.cellsOf P cap) 9 (0, 0)) :=
          (hg5.block _ (by simp; omega) (fun e => hg (by injection e with e; omega))).trans ((Below.heap_alloc _ _ _ (by omega)).trans HK4.out)
        have hz5 := hg5.size
        go_roundw
        case rel =>
          have hg6 : g' ≠ w.heap.size + 1 := by
            rcases hgg5 with h | h
            · omega
            · rw [World.size_alloc] at h; omega
          exact ⟨j + 1, g', c', by omega, by go_num, rfl, by rw [HT2.out]; exact hown5, hK5, hg6, hB5, by simp at hz5; omega⟩
        case measure => simp [intOf]; omega
      · have hj1 : ¬ (j : Int) < ((P.length - 1 : Nat) : Int) := by omega
        have e : j = P.length - 1 := by omega
        have HO1 : Hid (OwnL wr w.heap.size 9 encS (.slice (some ⟨g, 0, none⟩) j c) (gotI s)) := by
          have := HO.out
          rw [List.take_of_length_le (by rw [List.length_map, List.length_tail]; omega), ← HG.out] at this
          exact this
        have D := Lib.hid (CP.out wr _ _ HB.out HO1.out)
        clear C1 C2 C3 CP HO HK HG HM e
        generalize gotI s = G at *
        by_cases hp : putP G = s
        · have HE := Lib.hid (HY.out hp)
          rw [hp] at D
          clear HY HN hp
          go_wp2_with fail
          with_reducible refine D.out.mono ?_
          rintro e w2 ⟨rfl, hb2⟩
          have HB2 := Lib.hid (below_ofP HB.out hb2)
          have HO2 := Lib.hid (HO1.out.below hb2)
          clear hb2 D HB HO1
          go_wp2
          go_ret2
          exact ⟨_, by rw [HE.out]; rfl, by rw [HE.out]; exact HO2.out, HB2.out⟩
        · have HE := Lib.hid (HN.out hp)
          have hq : (putP G).toList ≠ s.toList := fun e => hp (by
            rw [Lib.toList_data, Lib.toList_data] at e
            exact ByteArray.ext (Array.toList_inj.1 e))
          have hq2 : ((putP G).toList == s.toList) = false := beq_eq_false_iff_ne.2 hq
          clear HY HN hp hq
          generalize putP G = pg at *
          go_wp2_with fail
          with_reducible refine D.out.mono ?_
          rintro e w2 ⟨rfl, hb2⟩
          have HB2 := Lib.hid (below_ofP HB.out hb2)
          clear D HB HO1
          go_wp2
          go_ret2
          exact ⟨_, by rw [HE.out]; rfl, by rw [HE.out]; exact OwnL.empty _ _ _ HB2.out.size, HB2.out.alloc HB2.out.size _⟩
end Go.Proofs.YtkjffifdlckljaaDoor.path
