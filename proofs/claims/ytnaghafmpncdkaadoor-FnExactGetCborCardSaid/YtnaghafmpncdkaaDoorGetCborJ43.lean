/-
  impl's reader of CBOR: a value.
-/
import Derived.Test.YtnaghafmpncdkaaDoorGetCborJ42
import Derived.Deep.RegionHeld3
import Derived.Test.YtnaghafmpncdkaaDoorGetCborJ41
import Derived.Laws.EntriesVeiled
namespace Go.Proofs.YtnaghafmpncdkaaDoor.cbor
open Go.ChangeShapes Go.WideShapes Go.ChangeAt Go.RowKit
open Go.Proofs.YtnaghafmpncdkaaDoor.val Go.Proofs.YtnaghafmpncdkaaDoor.head
set_option maxRecDepth 100000

theorem BRet.only {W w' : World} {b : Nat} {s : ByteArray} {m n i c : Nat} {e : Ending} (h : BRet W w' b s m n i c e) : W.grownBy w' (some b) := by
  obtain ⟨t, J, c', bad, h1, h2, _⟩ := h
  exact h2.only
theorem V5.onlyH {W W' w' : World} {N b : Nat} {x0 x1 x2 x3 x4 : Value} (h : V5 W N x0 x1 x2 x3 x4) (hg : W'.grownBy w' (some b)) (e : W'.heap = W.heap) (hb : N ≠ b) : V5 w' N x0 x1 x2 x3 x4 := by
  have h' : V5 W' N x0 x1 x2 x3 x4 := ⟨by rw [e]; exact h.row⟩
  exact h'.only hg hb
theorem put_keeps {w : World} {M N j : Nat} {v : Value} (t : LT) (hne : N ≠ M) (h : w.cell? ⟨N, j, none⟩ = some v) : (put5v w M (.int .i64 t.k) (.int .i64 t.n) (.int .i64 t.e) (.string t.s) (.slice t.a t.kids.length t.cap)).cell? ⟨N, j, none⟩ = some v := by
  rw [← h]
  exact World.cell?_of_block (put5v_other w M N _ _ _ _ _ hne)
theorem cell_only {W W' w' : World} {N j b : Nat} {v : Value} (h : W.cell? ⟨N, j, none⟩ = some v) (hg : W'.grownBy w' (some b)) (e : W'.heap = W.heap) (hb : N ≠ b) : w'.cell? ⟨N, j, none⟩ = some v := by
  have hl := World.block_lt_of_cell? W _ h
  rw [← h]
  exact World.cell?_of_block ((hg.block N (by rw [e]; exact hl) (fun e => hb (by injection e))).trans (by rw [e]))
set_option maxHeartbeats 16000000 in
theorem value_step {K : Nat} (W : World) (b : Nat) (s : ByteArray) (i c : Nat) (HG : c < Lim → GV K) (hs : s.size ≤ 1048576) (hi : i ≤ s.size) (hc : c ≤ Lim) (hK : Lim ≤ c + (K + 1)) (h : CR W b s i false c) (hT : simpTab.Tab W) (hb : 0 ≠ b) :
    Calls Tryd.prog 27 #[.pointer (some ⟨b, 0, none⟩)] W fun e w' => GRet W w' b s i c e := by
  have hlt := h.lt
  have C : Hid (Calls Tryd.prog 52 #[.pointer (some ⟨b, 0, none⟩)] (W.alloc (.cells #[.int .i64 0, .int .i64 0, .int .i64 0, .string ⟨#[]⟩, .slice none 0 0] 24)) fun e w' => HdV (W.alloc (.cells #[.int .i64 0, .int .i64 0, .int .i64 0, .string ⟨#[]⟩, .slice none 0 0] 24)) w' b s i c e) :=
    head_val hs hi hc (h.alloc _)
  have HR := Lib.hid (V5.new W (.int .i64 0) (.int .i64 0) (.int .i64 0) (.string ⟨#[]⟩) (.slice none 0 0))
  have HT := Lib.hid (hT.alloc (.cells #[.int .i64 0, .int .i64 0, .int .i64 0, .string ⟨#[]⟩, .slice none 0 0] 24))
  clear h hT
  go_enter Tryd.func27, Tryd.ntmps27
  go_wp2_with fail
  with_reducible refine C.out.mono ?_
  rintro r w1 ⟨m, n, o, J, bad, rfl, hr, h1, h2⟩
  clear C
  have hz1 := hr.only.size
  rw [show (W.alloc (.cells #[.int .i64 0, .int .i64 0, .int .i64 0, .string ⟨#[]⟩, .slice none 0 0] 24)).heap.size = W.heap.size + 1 by simp] at hz1
  replace HR := Lib.hid (HR.out.only hr.only (by omega))
  replace HT := Lib.hid (HT.out.only hr.only hb)
  have HC := Lib.hid (hr.out hlt)
  have HH := Lib.hid (Hd.new w1 m n o)
  unfold hd
  clear hr
  go_upto_region 2 with (fail)
  have hAL : Below w1.heap.size w1 (w1.alloc (.cells #[.int .i64 m, .int .u64 n, .bool o] 87)) := (Below.refl _ w1).alloc (Nat.le_refl _) _
  replace HR := Lib.hid (HR.out.behind hAL)
  replace HC := Lib.hid (HC.out.more (.cells #[.int .i64 m, .int .u64 n, .bool o] 87))
  replace HT := Lib.hid (HT.out.alloc (.cells #[.int .i64 m, .int .u64 n, .bool o] 87))
  have hz2 : W.heap.size + 2 ≤ (w1.alloc (.cells #[.int .i64 m, .int .u64 n, .bool o] 87)).heap.size := by simp; omega
  generalize w1.alloc (.cells #[.int .i64 m, .int .u64 n, .bool o] 87) = WA at *
  generalize w1.heap.size = N3 at *
  have c2 := HC.out.rd.c2
  obtain ⟨q0, q1, q2, q3, q4, qf⟩ := HR.out.c
  obtain ⟨e0, e1, e2, e3⟩ := HH.out.cells
  clear hAL
  cases bad with
  | true =>
    have HG := Lib.hid (h2 rfl)
    have HF := Lib.hid (HR.out.put (.int .i64 0) (.int .i64 0) (.int .i64 0) (.string ⟨#[]⟩) (.slice none 0 0))
    have HCF := Lib.hid (ret_put HC.out (N := W.heap.size) (by omega) hlt (.int .i64 0) (.int .i64 0) (.int .i64 0) (.string ⟨#[]⟩) (.slice none 0 0))
    obtain ⟨k0, k1, k2, k3, k4, _⟩ := HF.out.c
    clear h1 h2 HR HC HT HH HF
    unfold put5v at k0 k1 k2 k3 k4 HCF
    go_wp2
    refine bodyPost_ret (v := .agg #[.int .i64 0, .int .i64 0, .int .i64 0, .string ⟨#[]⟩, .slice none 0 0]) (by simp [results, Tryd.results27, go_sem, k0, k1, k2, k3, k4]) rfl ?_
    exact ⟨.mk 0 0 0 ⟨#[]⟩ none 0 [], J, c + 1, true, rfl, FreshO.leaf (by unfold InI; decide) (by unfold InI; decide) (by unfold InI; decide) (by decide) HCF.out.only, HCF.out.rd, got_none _ _ _ HG.out, fun h => by cases h⟩
  | false =>
    obtain ⟨g1, g2, g3, rfl, rfl, rfl, rfl⟩ := h1 rfl
    replace HG := HG g1
    clear h2 h1
    have hj : i + (1 + many s i) ≤ s.size := by have := g2.2.2; omega
    have hc1 : c + 1 ≤ Lim := g1
    have hK1 : Lim ≤ c + 1 + K := by omega
    have hnum : num s i < 18446744073709551616 := num_lt g2
    have hml := maj_lt s i
    go_wp2_with fail
    have HB1 : Hid (CR (WA.alloc (.cells #[.func (.func 53) #[.pointer (some ⟨b, 0, none⟩)] #[], .func (.func 54) #[.pointer (some ⟨b, 0, none⟩)] #[], .func (.func 55) #[.pointer (some ⟨b, 0, none⟩)] #[], .func (.func 56) #[.pointer (some ⟨b, 0, none⟩)] #[], .func (.func 57) #[.pointer (some ⟨b, 0, none⟩)] #[], .func (.func 58) #[.pointer (some ⟨b, 0, none⟩)] #[], .func (.func 59) #[.pointer (some ⟨b, 0, none⟩)] #[], .func (.func 60) #[.pointer (some ⟨b, 0, none⟩)] #[]] 90)) b s ((i + (1 + many s i) : Nat) : Int) false ((c + 1 : Nat) : Int)) := HC.out.rd.alloc _
    have HTB := Lib.hid (HT.out.alloc (.cells #[.func (.func 53) #[.pointer (some ⟨b, 0, none⟩)] #[], .func (.func 54) #[.pointer (some ⟨b, 0, none⟩)] #[], .func (.func 55) #[.pointer (some ⟨b, 0, none⟩)] #[], .func (.func 56) #[.pointer (some ⟨b, 0, none⟩)] #[], .func (.func 57) #[.pointer (some ⟨b, 0, none⟩)] #[], .func (.func 58) #[.pointer (some ⟨b, 0, none⟩)] #[], .func (.func 59) #[.pointer (some ⟨b, 0, none⟩)] #[], .func (.func 60) #[.pointer (some ⟨b, 0, none⟩)] #[]] 90))
    have hAL : Below WA.heap.size WA (WA.alloc (.cells #[.func (.func 53) #[.pointer (some ⟨b, 0, none⟩)] #[], .func (.func 54) #[.pointer (some ⟨b, 0, none⟩)] #[], .func (.func 55) #[.pointer (some ⟨b, 0, none⟩)] #[], .func (.func 56) #[.pointer (some ⟨b, 0, none⟩)] #[], .func (.func 57) #[.pointer (some ⟨b, 0, none⟩)] #[], .func (.func 58) #[.pointer (some ⟨b, 0, none⟩)] #[], .func (.func 59) #[.pointer (some ⟨b, 0, none⟩)] #[], .func (.func 60) #[.pointer (some ⟨b, 0, none⟩)] #[]] 90)) := (Below.refl _ WA).alloc (Nat.le_refl _) _
    have HRB := Lib.hid (HR.out.behind hAL)
    have HHB := Lib.hid (HH.out.behind hAL)
    have HOB := Lib.hid (only_below HC.out.only hAL)
    have hzB : W.heap.size + 2 ≤ (WA.alloc (.cells #[.func (.func 53) #[.pointer (some ⟨b, 0, none⟩)] #[], .func (.func 54) #[.pointer (some ⟨b, 0, none⟩)] #[], .func (.func 55) #[.pointer (some ⟨b, 0, none⟩)] #[], .func (.func 56) #[.pointer (some ⟨b, 0, none⟩)] #[], .func (.func 57) #[.pointer (some ⟨b, 0, none⟩)] #[], .func (.func 58) #[.pointer (some ⟨b, 0, none⟩)] #[], .func (.func 59) #[.pointer (some ⟨b, 0, none⟩)] #[], .func (.func 60) #[.pointer (some ⟨b, 0, none⟩)] #[]] 90)).heap.size := by simp; omega
    have hfb := heap_alloc_new WA (.cells #[.func (.func 53) #[.pointer (some ⟨b, 0, none⟩)] #[], .func (.func 54) #[.pointer (some ⟨b, 0, none⟩)] #[], .func (.func 55) #[.pointer (some ⟨b, 0, none⟩)] #[], .func (.func 56) #[.pointer (some ⟨b, 0, none⟩)] #[], .func (.func 57) #[.pointer (some ⟨b, 0, none⟩)] #[], .func (.func 58) #[.pointer (some ⟨b, 0, none⟩)] #[], .func (.func 59) #[.pointer (some ⟨b, 0, none⟩)] #[], .func (.func 60) #[.pointer (some ⟨b, 0, none⟩)] #[]] 90)
    have hf0 := cell_of_row _ _ 0 _ _ (0, 0) hfb
    have hf1 := cell_of_row _ _ 1 _ _ (0, 0) hfb
    have hf2 := cell_of_row _ _ 2 _ _ (0, 0) hfb
    have hf3 := cell_of_row _ _ 3 _ _ (0, 0) hfb
    have hf4 := cell_of_row _ _ 4 _ _ (0, 0) hfb
    have hf5 := cell_of_row _ _ 5 _ _ (0, 0) hfb
    have hf6 := cell_of_row _ _ 6 _ _ (0, 0) hfb
    have hf7 := cell_of_row _ _ 7 _ _ (0, 0) hfb
    generalize WA.alloc (.cells #[.func (.func 53) #[.pointer (some ⟨b, 0, none⟩)] #[], .func (.func 54) #[.pointer (some ⟨b, 0, none⟩)] #[], .func (.func 55) #[.pointer (some ⟨b, 0, none⟩)] #[], .func (.func 56) #[.pointer (some ⟨b, 0, none⟩)] #[], .func (.func 57) #[.pointer (some ⟨b, 0, none⟩)] #[], .func (.func 58) #[.pointer (some ⟨b, 0, none⟩)] #[], .func (.func 59) #[.pointer (some ⟨b, 0, none⟩)] #[], .func (.func 60) #[.pointer (some ⟨b, 0, none⟩)] #[]] 90) = WB at *
    generalize WA.heap.size = N4 at *
    clear hfb hAL HC HT HR HH c2 q0 q1 q2 q3 q4 qf e0 e1 e2 e3
    obtain ⟨e0, e1, e2, e3⟩ := HHB.out.cells
    obtain ⟨q0, q1, q2, q3, q4, qf⟩ := HRB.out.c
    rcases (show maj s i = 0 ∨ maj s i = 1 ∨ maj s i = 2 ∨ maj s i = 3 ∨ maj s i = 4 ∨ maj s i = 5 ∨ maj s i = 6 ∨ maj s i = 7 by omega) with hM | hM | hM | hM | hM | hM | hM | hM
    · have HCM : Hid (∀ W', CR W' b s ((i + (1 + many s i) : Nat) : Int) false ((c + 1 : Nat) : Int) → simpTab.Tab W' → Calls Tryd.prog 53 #[.pointer (some ⟨b, 0, none⟩), .agg #[.int .i64 0, .int .u64 (num s i : Nat), .bool false]] W' fun r w' => BRet W' w' b s 0 (num s i) (i + (1 + many s i)) (c + 1) r) := fun W' h1 h2 => ret0 W' b s _ _ _ hj hc1 h1 hnum
      have HM := Lib.hid hM
      have e0' : WB.cell? ⟨N3, 0, none⟩ = some (.int .i64 0) := by rw [e0, hM]; rfl
      have hq := hf0
      have hne3 : N3 ≠ b := by omega
      have hne4 : N4 ≠ b := by omega
      have hneR : W.heap.size ≠ b := by omega
      have hn3 : N3 ≠ W.heap.size := by omega
      have hn4 : N4 ≠ W.heap.size := by omega
      have HFM := Lib.hid hf0
      have hN4 := World.block_lt_of_cell? WB _ hf0
      clear hM e0 hf0 hf1 hf2 hf3 hf4 hf5 hf6 hf7 HG hs hi hc hK hj hc1 hK1 hnum hml
      go_region_held3 (fun w' => w'.cell? ⟨N3, 0, none⟩ = some (.int .i64 0) ∧ w'.cell? ⟨N3, 1, none⟩ = some (.int .u64 (num s i : Nat)) ∧ w'.cell? ⟨N3, 2, none⟩ = some (.bool false) ∧ w'.cell? ⟨N4, 0, none⟩ = some (.func (.func 53) #[.pointer (some ⟨b, 0, none⟩)] #[])) (go_keep)
        (first | (go_at_call 53; with_reducible refine (HCM.out _ HB1.out.drew (simpTab.Tab.drew HTB.out)).mono ?_; rintro r w2 hbr
                  have hon := BRet.only hbr
                  have g5 := (Hd.onlyH HHB.out hon rfl hne3).cells
                  have g6 := g5.c0
                  rw [HM.out] at g6
                  have g7 := g5.c1
                  have g8 := g5.c2
                  have HV2 := V5.onlyH HRB.out hon rfl hneR
                  obtain ⟨v0, v1, v2, v3, v4, vf⟩ := HV2.c
                  have g9 := cell_only HFM.out hon rfl hne4
                  obtain ⟨t, rfl, ho2, hg⟩ := gret_of HOB.out hzB hlt g2 g3 rfl (by rw [HM.out]; exact BRet.undrew hbr)
                  have p6 := put_keeps t hn3 g6
                  have p7 := put_keeps t hn3 g7
                  have p8 := put_keeps t hn3 g8
                  have p9 := put_keeps t hn4 g9
                  unfold put5v at p6 p7 p8 p9))
      all_goals
        have HG := Lib.hid hg
        have HF := Lib.hid (HV2.put (.int .i64 t.k) (.int .i64 t.n) (.int .i64 t.e) (.string t.s) (.slice t.a t.kids.length t.cap))
        clear hg HV2 v0 v1 v2 v3 v4 vf p6 p7 p8 p9 g5 g6 g7 g8 g9 hbr hon ho2 HCM HB1 HTB HRB HHB HOB HFM e0' e1 e2 e3 hq q0 q1 q2 q3 q4 qf
        obtain ⟨k0, k1, k2, k3, k4, _⟩ := HF.out.c
        clear HF
        unfold put5v at k0 k1 k2 k3 k4 HG
        go_wp2
        refine bodyPost_ret (v := .agg #[.int .i64 t.k, .int .i64 t.n, .int .i64 t.e, .string t.s, .slice t.a t.kids.length t.cap]) (by simp [results, Tryd.results27, go_sem, k0, k1, k2, k3, k4]) rfl ?_
        exact HG.out
    · have HCM : Hid (∀ W', CR W' b s ((i + (1 + many s i) : Nat) : Int) false ((c + 1 : Nat) : Int) → simpTab.Tab W' → Calls Tryd.prog 54 #[.pointer (some ⟨b, 0, none⟩), .agg #[.int .i64 1, .int .u64 (num s i : Nat), .bool false]] W' fun r w' => BRet W' w' b s 1 (num s i) (i + (1 + many s i)) (c + 1) r) := fun W' h1 h2 => ret1 W' b s _ _ _ hj hc1 h1 hnum
      have HM := Lib.hid hM
      have e0' : WB.cell? ⟨N3, 0, none⟩ = some (.int .i64 1) := by rw [e0, hM]; rfl
      have hq := hf1
      have hne3 : N3 ≠ b := by omega
      have hne4 : N4 ≠ b := by omega
      have hneR : W.heap.size ≠ b := by omega
      have hn3 : N3 ≠ W.heap.size := by omega
      have hn4 : N4 ≠ W.heap.size := by omega
      have HFM := Lib.hid hf1
      have hN4 := World.block_lt_of_cell? WB _ hf1
      clear hM e0 hf0 hf1 hf2 hf3 hf4 hf5 hf6 hf7 HG hs hi hc hK hj hc1 hK1 hnum hml
      go_region_held3 (fun w' => w'.cell? ⟨N3, 0, none⟩ = some (.int .i64 1) ∧ w'.cell? ⟨N3, 1, none⟩ = some (.int .u64 (num s i : Nat)) ∧ w'.cell? ⟨N3, 2, none⟩ = some (.bool false) ∧ w'.cell? ⟨N4, 1, none⟩ = some (.func (.func 54) #[.pointer (some ⟨b, 0, none⟩)] #[])) (go_keep)
        (first | (go_at_call 54; with_reducible refine (HCM.out _ HB1.out.drew (simpTab.Tab.drew HTB.out)).mono ?_; rintro r w2 hbr
                  have hon := BRet.only hbr
                  have g5 := (Hd.onlyH HHB.out hon rfl hne3).cells
                  have g6 := g5.c0
                  rw [HM.out] at g6
                  have g7 := g5.c1
                  have g8 := g5.c2
                  have HV2 := V5.onlyH HRB.out hon rfl hneR
                  obtain ⟨v0, v1, v2, v3, v4, vf⟩ := HV2.c
                  have g9 := cell_only HFM.out hon rfl hne4
                  obtain ⟨t, rfl, ho2, hg⟩ := gret_of HOB.out hzB hlt g2 g3 rfl (by rw [HM.out]; exact BRet.undrew hbr)
                  have p6 := put_keeps t hn3 g6
                  have p7 := put_keeps t hn3 g7
                  have p8 := put_keeps t hn3 g8
                  have p9 := put_keeps t hn4 g9
                  unfold put5v at p6 p7 p8 p9))
      all_goals
        have HG := Lib.hid hg
        have HF := Lib.hid (HV2.put (.int .i64 t.k) (.int .i64 t.n) (.int .i64 t.e) (.string t.s) (.slice t.a t.kids.length t.cap))
        clear hg HV2 v0 v1 v2 v3 v4 vf p6 p7 p8 p9 g5 g6 g7 g8 g9 hbr hon ho2 HCM HB1 HTB HRB HHB HOB HFM e0' e1 e2 e3 hq q0 q1 q2 q3 q4 qf
        obtain ⟨k0, k1, k2, k3, k4, _⟩ := HF.out.c
        clear HF
        unfold put5v at k0 k1 k2 k3 k4 HG
        go_wp2
        refine bodyPost_ret (v := .agg #[.int .i64 t.k, .int .i64 t.n, .int .i64 t.e, .string t.s, .slice t.a t.kids.length t.cap]) (by simp [results, Tryd.results27, go_sem, k0, k1, k2, k3, k4]) rfl ?_
        exact HG.out
    · have HCM : Hid (∀ W', CR W' b s ((i + (1 + many s i) : Nat) : Int) false ((c + 1 : Nat) : Int) → simpTab.Tab W' → Calls Tryd.prog 55 #[.pointer (some ⟨b, 0, none⟩), .agg #[.int .i64 2, .int .u64 (num s i : Nat), .bool false]] W' fun r w' => BRet W' w' b s 2 (num s i) (i + (1 + many s i)) (c + 1) r) := fun W' h1 h2 => ret2 W' b s _ _ _ hs hj hc1 h1 hnum
      have HM := Lib.hid hM
      have e0' : WB.cell? ⟨N3, 0, none⟩ = some (.int .i64 2) := by rw [e0, hM]; rfl
      have hq := hf2
      have hne3 : N3 ≠ b := by omega
      have hne4 : N4 ≠ b := by omega
      have hneR : W.heap.size ≠ b := by omega
      have hn3 : N3 ≠ W.heap.size := by omega
      have hn4 : N4 ≠ W.heap.size := by omega
      have HFM := Lib.hid hf2
      have hN4 := World.block_lt_of_cell? WB _ hf2
      clear hM e0 hf0 hf1 hf2 hf3 hf4 hf5 hf6 hf7 HG hs hi hc hK hj hc1 hK1 hnum hml
      go_region_held3 (fun w' => w'.cell? ⟨N3, 0, none⟩ = some (.int .i64 2) ∧ w'.cell? ⟨N3, 1, none⟩ = some (.int .u64 (num s i : Nat)) ∧ w'.cell? ⟨N3, 2, none⟩ = some (.bool false) ∧ w'.cell? ⟨N4, 2, none⟩ = some (.func (.func 55) #[.pointer (some ⟨b, 0, none⟩)] #[])) (go_keep)
        (first | (go_at_call 55; with_reducible refine (HCM.out _ HB1.out.drew (simpTab.Tab.drew HTB.out)).mono ?_; rintro r w2 hbr
                  have hon := BRet.only hbr
                  have g5 := (Hd.onlyH HHB.out hon rfl hne3).cells
                  have g6 := g5.c0
                  rw [HM.out] at g6
                  have g7 := g5.c1
                  have g8 := g5.c2
                  have HV2 := V5.onlyH HRB.out hon rfl hneR
                  obtain ⟨v0, v1, v2, v3, v4, vf⟩ := HV2.c
                  have g9 := cell_only HFM.out hon rfl hne4
                  obtain ⟨t, rfl, ho2, hg⟩ := gret_of HOB.out hzB hlt g2 g3 rfl (by rw [HM.out]; exact BRet.undrew hbr)
                  have p6 := put_keeps t hn3 g6
                  have p7 := put_keeps t hn3 g7
                  have p8 := put_keeps t hn3 g8
                  have p9 := put_keeps t hn4 g9
                  unfold put5v at p6 p7 p8 p9))
      all_goals
        have HG := Lib.hid hg
        have HF := Lib.hid (HV2.put (.int .i64 t.k) (.int .i64 t.n) (.int .i64 t.e) (.string t.s) (.slice t.a t.kids.length t.cap))
        clear hg HV2 v0 v1 v2 v3 v4 vf p6 p7 p8 p9 g5 g6 g7 g8 g9 hbr hon ho2 HCM HB1 HTB HRB HHB HOB HFM e0' e1 e2 e3 hq q0 q1 q2 q3 q4 qf
        obtain ⟨k0, k1, k2, k3, k4, _⟩ := HF.out.c
        clear HF
        unfold put5v at k0 k1 k2 k3 k4 HG
        go_wp2
        refine bodyPost_ret (v := .agg #[.int .i64 t.k, .int .i64 t.n, .int .i64 t.e, .string t.s, .slice t.a t.kids.length t.cap]) (by simp [results, Tryd.results27, go_sem, k0, k1, k2, k3, k4]) rfl ?_
        exact HG.out
    · have HCM : Hid (∀ W', CR W' b s ((i + (1 + many s i) : Nat) : Int) false ((c + 1 : Nat) : Int) → simpTab.Tab W' → Calls Tryd.prog 56 #[.pointer (some ⟨b, 0, none⟩), .agg #[.int .i64 3, .int .u64 (num s i : Nat), .bool false]] W' fun r w' => BRet W' w' b s 3 (num s i) (i + (1 + many s i)) (c + 1) r) := fun W' h1 h2 => ret3 W' b s _ _ _ hs hj hc1 h1 hnum
      have HM := Lib.hid hM
      have e0' : WB.cell? ⟨N3, 0, none⟩ = some (.int .i64 3) := by rw [e0, hM]; rfl
      have hq := hf3
      have hne3 : N3 ≠ b := by omega
      have hne4 : N4 ≠ b := by omega
      have hneR : W.heap.size ≠ b := by omega
      have hn3 : N3 ≠ W.heap.size := by omega
      have hn4 : N4 ≠ W.heap.size := by omega
      have HFM := Lib.hid hf3
      have hN4 := World.block_lt_of_cell? WB _ hf3
      clear hM e0 hf0 hf1 hf2 hf3 hf4 hf5 hf6 hf7 HG hs hi hc hK hj hc1 hK1 hnum hml
      go_region_held3 (fun w' => w'.cell? ⟨N3, 0, none⟩ = some (.int .i64 3) ∧ w'.cell? ⟨N3, 1, none⟩ = some (.int .u64 (num s i : Nat)) ∧ w'.cell? ⟨N3, 2, none⟩ = some (.bool false) ∧ w'.cell? ⟨N4, 3, none⟩ = some (.func (.func 56) #[.pointer (some ⟨b, 0, none⟩)] #[])) (go_keep)
        (first | (go_at_call 56; with_reducible refine (HCM.out _ HB1.out.drew (simpTab.Tab.drew HTB.out)).mono ?_; rintro r w2 hbr
                  have hon := BRet.only hbr
                  have g5 := (Hd.onlyH HHB.out hon rfl hne3).cells
                  have g6 := g5.c0
                  rw [HM.out] at g6
                  have g7 := g5.c1
                  have g8 := g5.c2
                  have HV2 := V5.onlyH HRB.out hon rfl hneR
                  obtain ⟨v0, v1, v2, v3, v4, vf⟩ := HV2.c
                  have g9 := cell_only HFM.out hon rfl hne4
                  obtain ⟨t, rfl, ho2, hg⟩ := gret_of HOB.out hzB hlt g2 g3 rfl (by rw [HM.out]; exact BRet.undrew hbr)
                  have p6 := put_keeps t hn3 g6
                  have p7 := put_keeps t hn3 g7
                  have p8 := put_keeps t hn3 g8
                  have p9 := put_keeps t hn4 g9
                  unfold put5v at p6 p7 p8 p9))
      all_goals
        have HG := Lib.hid hg
        have HF := Lib.hid (HV2.put (.int .i64 t.k) (.int .i64 t.n) (.int .i64 t.e) (.string t.s) (.slice t.a t.kids.length t.cap))
        clear hg HV2 v0 v1 v2 v3 v4 vf p6 p7 p8 p9 g5 g6 g7 g8 g9 hbr hon ho2 HCM HB1 HTB HRB HHB HOB HFM e0' e1 e2 e3 hq q0 q1 q2 q3 q4 qf
        obtain ⟨k0, k1, k2, k3, k4, _⟩ := HF.out.c
        clear HF
        unfold put5v at k0 k1 k2 k3 k4 HG
        go_wp2
        refine bodyPost_ret (v := .agg #[.int .i64 t.k, .int .i64 t.n, .int .i64 t.e, .string t.s, .slice t.a t.kids.length t.cap]) (by simp [results, Tryd.results27, go_sem, k0, k1, k2, k3, k4]) rfl ?_
        exact HG.out
    · have HCM : Hid (∀ W', CR W' b s ((i + (1 + many s i) : Nat) : Int) false ((c + 1 : Nat) : Int) → simpTab.Tab W' → Calls Tryd.prog 57 #[.pointer (some ⟨b, 0, none⟩), .agg #[.int .i64 4, .int .u64 (num s i : Nat), .bool false]] W' fun r w' => BRet W' w' b s 4 (num s i) (i + (1 + many s i)) (c + 1) r) := fun W' h1 h2 => ret4 W' b s _ _ _ hs hj hc1 h1 hnum HG hK1 h2 hb
      have HM := Lib.hid hM
      have e0' : WB.cell? ⟨N3, 0, none⟩ = some (.int .i64 4) := by rw [e0, hM]; rfl
      have hq := hf4
      have hne3 : N3 ≠ b := by omega
      have hne4 : N4 ≠ b := by omega
      have hneR : W.heap.size ≠ b := by omega
      have hn3 : N3 ≠ W.heap.size := by omega
      have hn4 : N4 ≠ W.heap.size := by omega
      have HFM := Lib.hid hf4
      have hN4 := World.block_lt_of_cell? WB _ hf4
      clear hM e0 hf0 hf1 hf2 hf3 hf4 hf5 hf6 hf7 HG hs hi hc hK hj hc1 hK1 hnum hml
      go_region_held3 (fun w' => w'.cell? ⟨N3, 0, none⟩ = some (.int .i64 4) ∧ w'.cell? ⟨N3, 1, none⟩ = some (.int .u64 (num s i : Nat)) ∧ w'.cell? ⟨N3, 2, none⟩ = some (.bool false) ∧ w'.cell? ⟨N4, 4, none⟩ = some (.func (.func 57) #[.pointer (some ⟨b, 0, none⟩)] #[])) (go_keep)
        (first | (go_at_call 57; with_reducible refine (HCM.out _ HB1.out.drew (simpTab.Tab.drew HTB.out)).mono ?_; rintro r w2 hbr
                  have hon := BRet.only hbr
                  have g5 := (Hd.onlyH HHB.out hon rfl hne3).cells
                  have g6 := g5.c0
                  rw [HM.out] at g6
                  have g7 := g5.c1
                  have g8 := g5.c2
                  have HV2 := V5.onlyH HRB.out hon rfl hneR
                  obtain ⟨v0, v1, v2, v3, v4, vf⟩ := HV2.c
                  have g9 := cell_only HFM.out hon rfl hne4
                  obtain ⟨t, rfl, ho2, hg⟩ := gret_of HOB.out hzB hlt g2 g3 rfl (by rw [HM.out]; exact BRet.undrew hbr)
                  have p6 := put_keeps t hn3 g6
                  have p7 := put_keeps t hn3 g7
                  have p8 := put_keeps t hn3 g8
                  have p9 := put_keeps t hn4 g9
                  unfold put5v at p6 p7 p8 p9))
      all_goals
        have HG := Lib.hid hg
        have HF := Lib.hid (HV2.put (.int .i64 t.k) (.int .i64 t.n) (.int .i64 t.e) (.string t.s) (.slice t.a t.kids.length t.cap))
        clear hg HV2 v0 v1 v2 v3 v4 vf p6 p7 p8 p9 g5 g6 g7 g8 g9 hbr hon ho2 HCM HB1 HTB HRB HHB HOB HFM e0' e1 e2 e3 hq q0 q1 q2 q3 q4 qf
        obtain ⟨k0, k1, k2, k3, k4, _⟩ := HF.out.c
        clear HF
        unfold put5v at k0 k1 k2 k3 k4 HG
        go_wp2
        refine bodyPost_ret (v := .agg #[.int .i64 t.k, .int .i64 t.n, .int .i64 t.e, .string t.s, .slice t.a t.kids.length t.cap]) (by simp [results, Tryd.results27, go_sem, k0, k1, k2, k3, k4]) rfl ?_
        exact HG.out
    · have HCM : Hid (∀ W', CR W' b s ((i + (1 + many s i) : Nat) : Int) false ((c + 1 : Nat) : Int) → simpTab.Tab W' → Calls Tryd.prog 58 #[.pointer (some ⟨b, 0, none⟩), .agg #[.int .i64 5, .int .u64 (num s i : Nat), .bool false]] W' fun r w' => BRet W' w' b s 5 (num s i) (i + (1 + many s i)) (c + 1) r) := fun W' h1 h2 => ret5 W' b s _ _ _ hs hj hc1 h1 hnum HG hK1 h2 hb
      have HM := Lib.hid hM
      have e0' : WB.cell? ⟨N3, 0, none⟩ = some (.int .i64 5) := by rw [e0, hM]; rfl
      have hq := hf5
      have hne3 : N3 ≠ b := by omega
      have hne4 : N4 ≠ b := by omega
      have hneR : W.heap.size ≠ b := by omega
      have hn3 : N3 ≠ W.heap.size := by omega
      have hn4 : N4 ≠ W.heap.size := by omega
      have HFM := Lib.hid hf5
      have hN4 := World.block_lt_of_cell? WB _ hf5
      clear hM e0 hf0 hf1 hf2 hf3 hf4 hf5 hf6 hf7 HG hs hi hc hK hj hc1 hK1 hnum hml
      go_region_held3 (fun w' => w'.cell? ⟨N3, 0, none⟩ = some (.int .i64 5) ∧ w'.cell? ⟨N3, 1, none⟩ = some (.int .u64 (num s i : Nat)) ∧ w'.cell? ⟨N3, 2, none⟩ = some (.bool false) ∧ w'.cell? ⟨N4, 5, none⟩ = some (.func (.func 58) #[.pointer (some ⟨b, 0, none⟩)] #[])) (go_keep)
        (first | (go_at_call 58; with_reducible refine (HCM.out _ HB1.out.drew (simpTab.Tab.drew HTB.out)).mono ?_; rintro r w2 hbr
                  have hon := BRet.only hbr
                  have g5 := (Hd.onlyH HHB.out hon rfl hne3).cells
                  have g6 := g5.c0
                  rw [HM.out] at g6
                  have g7 := g5.c1
                  have g8 := g5.c2
                  have HV2 := V5.onlyH HRB.out hon rfl hneR
                  obtain ⟨v0, v1, v2, v3, v4, vf⟩ := HV2.c
                  have g9 := cell_only HFM.out hon rfl hne4
                  obtain ⟨t, rfl, ho2, hg⟩ := gret_of HOB.out hzB hlt g2 g3 rfl (by rw [HM.out]; exact BRet.undrew hbr)
                  have p6 := put_keeps t hn3 g6
                  have p7 := put_keeps t hn3 g7
                  have p8 := put_keeps t hn3 g8
                  have p9 := put_keeps t hn4 g9
                  unfold put5v at p6 p7 p8 p9))
      all_goals
        have HG := Lib.hid hg
        have HF := Lib.hid (HV2.put (.int .i64 t.k) (.int .i64 t.n) (.int .i64 t.e) (.string t.s) (.slice t.a t.kids.length t.cap))
        clear hg HV2 v0 v1 v2 v3 v4 vf p6 p7 p8 p9 g5 g6 g7 g8 g9 hbr hon ho2 HCM HB1 HTB HRB HHB HOB HFM e0' e1 e2 e3 hq q0 q1 q2 q3 q4 qf
        obtain ⟨k0, k1, k2, k3, k4, _⟩ := HF.out.c
        clear HF
        unfold put5v at k0 k1 k2 k3 k4 HG
        go_wp2
        refine bodyPost_ret (v := .agg #[.int .i64 t.k, .int .i64 t.n, .int .i64 t.e, .string t.s, .slice t.a t.kids.length t.cap]) (by simp [results, Tryd.results27, go_sem, k0, k1, k2, k3, k4]) rfl ?_
        exact HG.out
    · have HCM : Hid (∀ W', CR W' b s ((i + (1 + many s i) : Nat) : Int) false ((c + 1 : Nat) : Int) → simpTab.Tab W' → Calls Tryd.prog 59 #[.pointer (some ⟨b, 0, none⟩), .agg #[.int .i64 6, .int .u64 (num s i : Nat), .bool false]] W' fun r w' => BRet W' w' b s 6 (num s i) (i + (1 + many s i)) (c + 1) r) := fun W' h1 h2 => ret6 W' b s _ _ _ hs hj hc1 h1 hnum HG hK1 h2 hb
      have HM := Lib.hid hM
      have e0' : WB.cell? ⟨N3, 0, none⟩ = some (.int .i64 6) := by rw [e0, hM]; rfl
      have hq := hf6
      have hne3 : N3 ≠ b := by omega
      have hne4 : N4 ≠ b := by omega
      have hneR : W.heap.size ≠ b := by omega
      have hn3 : N3 ≠ W.heap.size := by omega
      have hn4 : N4 ≠ W.heap.size := by omega
      have HFM := Lib.hid hf6
      have hN4 := World.block_lt_of_cell? WB _ hf6
      clear hM e0 hf0 hf1 hf2 hf3 hf4 hf5 hf6 hf7 HG hs hi hc hK hj hc1 hK1 hnum hml
      go_region_held3 (fun w' => w'.cell? ⟨N3, 0, none⟩ = some (.int .i64 6) ∧ w'.cell? ⟨N3, 1, none⟩ = some (.int .u64 (num s i : Nat)) ∧ w'.cell? ⟨N3, 2, none⟩ = some (.bool false) ∧ w'.cell? ⟨N4, 6, none⟩ = some (.func (.func 59) #[.pointer (some ⟨b, 0, none⟩)] #[])) (go_keep)
        (first | (go_at_call 59; with_reducible refine (HCM.out _ HB1.out.drew (simpTab.Tab.drew HTB.out)).mono ?_; rintro r w2 hbr
                  have hon := BRet.only hbr
                  have g5 := (Hd.onlyH HHB.out hon rfl hne3).cells
                  have g6 := g5.c0
                  rw [HM.out] at g6
                  have g7 := g5.c1
                  have g8 := g5.c2
                  have HV2 := V5.onlyH HRB.out hon rfl hneR
                  obtain ⟨v0, v1, v2, v3, v4, vf⟩ := HV2.c
                  have g9 := cell_only HFM.out hon rfl hne4
                  obtain ⟨t, rfl, ho2, hg⟩ := gret_of HOB.out hzB hlt g2 g3 rfl (by rw [HM.out]; exact BRet.undrew hbr)
                  have p6 := put_keeps t hn3 g6
                  have p7 := put_keeps t hn3 g7
                  have p8 := put_keeps t hn3 g8
                  have p9 := put_keeps t hn4 g9
                  unfold put5v at p6 p7 p8 p9))
      all_goals
        have HG := Lib.hid hg
        have HF := Lib.hid (HV2.put (.int .i64 t.k) (.int .i64 t.n) (.int .i64 t.e) (.string t.s) (.slice t.a t.kids.length t.cap))
        clear hg HV2 v0 v1 v2 v3 v4 vf p6 p7 p8 p9 g5 g6 g7 g8 g9 hbr hon ho2 HCM HB1 HTB HRB HHB HOB HFM e0' e1 e2 e3 hq q0 q1 q2 q3 q4 qf
        obtain ⟨k0, k1, k2, k3, k4, _⟩ := HF.out.c
        clear HF
        unfold put5v at k0 k1 k2 k3 k4 HG
        go_wp2
        refine bodyPost_ret (v := .agg #[.int .i64 t.k, .int .i64 t.n, .int .i64 t.e, .string t.s, .slice t.a t.kids.length t.cap]) (by simp [results, Tryd.results27, go_sem, k0, k1, k2, k3, k4]) rfl ?_
        exact HG.out
    · have HCM : Hid (∀ W', CR W' b s ((i + (1 + many s i) : Nat) : Int) false ((c + 1 : Nat) : Int) → simpTab.Tab W' → Calls Tryd.prog 60 #[.pointer (some ⟨b, 0, none⟩), .agg #[.int .i64 7, .int .u64 (num s i : Nat), .bool false]] W' fun r w' => BRet W' w' b s 7 (num s i) (i + (1 + many s i)) (c + 1) r) := fun W' h1 h2 => ret7 W' b s _ _ _ hj hc1 h1 h2
      have HM := Lib.hid hM
      have e0' : WB.cell? ⟨N3, 0, none⟩ = some (.int .i64 7) := by rw [e0, hM]; rfl
      have hq := hf7
      have hne3 : N3 ≠ b := by omega
      have hne4 : N4 ≠ b := by omega
      have hneR : W.heap.size ≠ b := by omega
      have hn3 : N3 ≠ W.heap.size := by omega
      have hn4 : N4 ≠ W.heap.size := by omega
      have HFM := Lib.hid hf7
      have hN4 := World.block_lt_of_cell? WB _ hf7
      clear hM e0 hf0 hf1 hf2 hf3 hf4 hf5 hf6 hf7 HG hs hi hc hK hj hc1 hK1 hnum hml
      go_region_held3 (fun w' => w'.cell? ⟨N3, 0, none⟩ = some (.int .i64 7) ∧ w'.cell? ⟨N3, 1, none⟩ = some (.int .u64 (num s i : Nat)) ∧ w'.cell? ⟨N3, 2, none⟩ = some (.bool false) ∧ w'.cell? ⟨N4, 7, none⟩ = some (.func (.func 60) #[.pointer (some ⟨b, 0, none⟩)] #[])) (go_keep)
        (first | (go_at_call 60; with_reducible refine (HCM.out _ HB1.out.drew (simpTab.Tab.drew HTB.out)).mono ?_; rintro r w2 hbr
                  have hon := BRet.only hbr
                  have g5 := (Hd.onlyH HHB.out hon rfl hne3).cells
                  have g6 := g5.c0
                  rw [HM.out] at g6
                  have g7 := g5.c1
                  have g8 := g5.c2
                  have HV2 := V5.onlyH HRB.out hon rfl hneR
                  obtain ⟨v0, v1, v2, v3, v4, vf⟩ := HV2.c
                  have g9 := cell_only HFM.out hon rfl hne4
                  obtain ⟨t, rfl, ho2, hg⟩ := gret_of HOB.out hzB hlt g2 g3 rfl (by rw [HM.out]; exact BRet.undrew hbr)
                  have p6 := put_keeps t hn3 g6
                  have p7 := put_keeps t hn3 g7
                  have p8 := put_keeps t hn3 g8
                  have p9 := put_keeps t hn4 g9
                  unfold put5v at p6 p7 p8 p9))
      all_goals
        have HG := Lib.hid hg
        have HF := Lib.hid (HV2.put (.int .i64 t.k) (.int .i64 t.n) (.int .i64 t.e) (.string t.s) (.slice t.a t.kids.length t.cap))
        clear hg HV2 v0 v1 v2 v3 v4 vf p6 p7 p8 p9 g5 g6 g7 g8 g9 hbr hon ho2 HCM HB1 HTB HRB HHB HOB HFM e0' e1 e2 e3 hq q0 q1 q2 q3 q4 qf
        obtain ⟨k0, k1, k2, k3, k4, _⟩ := HF.out.c
        clear HF
        unfold put5v at k0 k1 k2 k3 k4 HG
        go_wp2
        refine bodyPost_ret (v := .agg #[.int .i64 t.k, .int .i64 t.n, .int .i64 t.e, .string t.s, .slice t.a t.kids.length t.cap]) (by simp [results, Tryd.results27, go_sem, k0, k1, k2, k3, k4]) rfl ?_
        exact HG.out
/-- impl's reader takes a value: where so many values may still be begun. -/
theorem value_any (K : Nat) : GV K := by
  induction K with
  | zero => exact fun W b s i c hs hi hc hK h hT hb => value_step (K := 0) W b s i c (fun hlt => by omega) hs hi hc (by omega) h hT hb
  | succ K ih => exact fun W b s i c hs hi hc hK h hT hb => value_step W b s i c (fun _ => ih) hs hi hc hK h hT hb
end Go.Proofs.YtnaghafmpncdkaaDoor.cbor
