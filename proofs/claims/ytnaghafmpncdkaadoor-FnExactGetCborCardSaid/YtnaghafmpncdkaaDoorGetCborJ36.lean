/-
  impl's reader of CBOR behind the head of a tag.
-/
import Derived.Test.YtnaghafmpncdkaaDoorGetCborJ35
import Derived.Deep.RegionWith
namespace Go.Proofs.YtnaghafmpncdkaaDoor.cbor
open Go.ChangeShapes Go.WideShapes Go.ChangeAt Go.RowKit
open Go.Proofs.YtnaghafmpncdkaaDoor.val Go.Proofs.YtnaghafmpncdkaaDoor.head
set_option maxRecDepth 100000

/-- A list of two numbers. -/
def scaledP (t : LT) : Prop := t.k = 7 ∧ ∃ x y, t.kids = [x, y] ∧ x.k = 3 ∧ y.k = 3
/-- A call has told whether V. -/
def Sc (V : Prop) (W : World) (r : Ending) (w' : World) : Prop := ∃ sc : Bool, r = .returned (.bool sc) ∧ (sc = true ↔ V) ∧ Below W.heap.size W w'
/-- The cells of a list of two in memory. -/
theorem two_at {W : World} {t x y : LT} (h : Tr W t) (hk : t.kids = [x, y]) : ∃ g, t.a = some ⟨g, 0, none⟩ ∧ g ∈ t.blks ∧ At5 W ⟨g, 0, none⟩ x ∧ At5 W ⟨g, 5, none⟩ y := by
  cases h with
  | nil => cases hk
  | mk cs h1 h2 h3 h4 h5 hb hz hc hkids =>
    rename_i k n e s g cap kids
    have hk' : kids = [x, y] := hk
    subst hk'
    exact ⟨g, rfl, by rw [blks_some]; exact List.mem_cons_self .., by simpa using hc 0 (by simp), by simpa using hc 1 (by simp)⟩
set_option maxHeartbeats 2000000 in
theorem scaled_any {W : World} (t : LT) (h : Tr W t) :
    Calls Tryd.prog 83 #[.agg #[.int .i64 t.k, .int .i64 t.n, .int .i64 t.e, .string t.s, t.row]] W (Sc (scaledP t) W) := by
  have HA : Hid (Below W.heap.size W (W.alloc (.cells #[.int .i64 t.k, .int .i64 t.n, .int .i64 t.e, .string t.s, t.row] 24))) := (Below.refl _ _).alloc (Nat.le_refl _) _
  have hrow : t.row = .slice t.a t.kids.length t.cap := rfl
  by_cases h7 : t.k = 7
  · by_cases h2 : t.kids.length = 2
    · obtain ⟨x, y, hxy⟩ : ∃ x y, t.kids = [x, y] := by
        match hkk : t.kids, h2 with
        | [x, y], _ => exact ⟨x, y, rfl⟩
      obtain ⟨g, ha, hg, hx, hy⟩ := two_at h hxy
      have hlt := h.lt g hg
      have hP : Hid (scaledP t ↔ x.k = 3 ∧ y.k = 3) := ⟨fun ⟨_, x', y', e, h1, h2⟩ => by rw [hxy] at e; injection e with e1 e2; injection e2 with e2 _; subst e1; subst e2; exact ⟨h1, h2⟩, fun ⟨h1, h2⟩ => ⟨h7, x, y, hxy, h1, h2⟩⟩
      obtain ⟨x0, _, _, _, _⟩ := hx
      obtain ⟨y0, _, _, _, _⟩ := hy
      rw [hrow, ha, h2] at HA ⊢
      rw [h7] at HA ⊢
      by_cases hx3 : x.k = 3
      · by_cases hy3 : y.k = 3
        · have HF := Lib.hid (hP.out.2 ⟨hx3, hy3⟩)
          rw [hx3] at x0
          rw [hy3] at y0
          clear hP hx3 hy3 h hxy hrow
          go_enter Tryd.func83, Tryd.ntmps83
          go_wp2
          go_ret
          exact ⟨true, rfl, ⟨fun _ => HF.out, fun _ => rfl⟩, HA.out⟩
        · have HF : Hid (¬ scaledP t) := fun hp => hy3 (hP.out.1 hp).2
          rw [hx3] at x0
          have e1 : (y.k == 3) = false := by rw [beq_eq_false_iff_ne]; exact hy3
          clear hP hx3 hy3 h hxy hrow
          go_enter Tryd.func83, Tryd.ntmps83
          go_wp2
          go_ret
          exact ⟨false, rfl, ⟨fun h => (by cases h), fun h => (HF.out h).elim⟩, HA.out⟩
      · have HF : Hid (¬ scaledP t) := fun hp => hx3 (hP.out.1 hp).1
        have e1 : (x.k == 3) = false := by rw [beq_eq_false_iff_ne]; exact hx3
        clear hP hx3 h hxy hrow
        go_enter Tryd.func83, Tryd.ntmps83
        go_wp2
        go_ret
        exact ⟨false, rfl, ⟨fun h => (by cases h), fun h => (HF.out h).elim⟩, HA.out⟩
    · have HF : Hid (¬ scaledP t) := fun ⟨_, x, y, e, _⟩ => h2 (by rw [e]; rfl)
      have e1 : ((t.kids.length : Int) == 2) = false := by rw [beq_eq_false_iff_ne]; omega
      rw [hrow, h7] at HA ⊢
      clear h hrow h2 h7
      go_enter Tryd.func83, Tryd.ntmps83
      go_wp2
      go_ret
      exact ⟨false, rfl, ⟨fun h => (by cases h), fun h => (HF.out h).elim⟩, HA.out⟩
  · have HF : Hid (¬ scaledP t) := fun hp => h7 hp.1
    have e1 : (t.k == 7) = false := by rw [beq_eq_false_iff_ne]; exact h7
    rw [hrow] at HA ⊢
    clear h hrow h7
    go_enter Tryd.func83, Tryd.ntmps83
    go_wp2
    go_ret
    exact ⟨false, rfl, ⟨fun h => (by cases h), fun h => (HF.out h).elim⟩, HA.out⟩
theorem only_drew {W w' : World} {b : Nat} (h : W.grownBy w' (some b)) : W.grownBy w'.drew (some b) := ⟨h.os, h.tape, h.output, h.size, h.block⟩
theorem tr_in {w : World} {t : LT} (h : Tr w t) : In w w.heap.size t := h.isIn h.lt
theorem in_ne {w : World} {B : Nat} {t : LT} (h : In w B t) : InI t.n ∧ InI t.e := by cases h; exact ⟨‹_›, ‹_›⟩
theorem scaled_pair {t : LT} {e n : Int} (h : er t = pairV e n) : scaledP t := by
  obtain ⟨k, m, e1, s, a, cap, kids⟩ := t
  rw [er_mk] at h
  unfold pairV at h
  injection h with h1 h2 h3 h4 h5
  refine ⟨h1, ?_⟩
  have h5 : kids.map er = [VT.mk 3 e 0 ⟨#[]⟩ [], VT.mk 3 n 0 ⟨#[]⟩ []] := h5
  rcases kids with _ | ⟨x, _ | ⟨y, _ | ⟨z, l⟩⟩⟩
  · cases h5
  · simp at h5
  · rw [List.map_cons, List.map_cons, List.map_nil, er_mk, er_mk] at h5
    injection h5 with h6 h7
    injection h7 with h7 _
    injection h6 with h6
    injection h7 with h7
    exact ⟨x, y, rfl, h6, h7⟩
  · simp at h5
/-- A number of 64 bits with a sign. -/
structure Conv (n : Nat) (N : Int) : Prop where
  r : InI N
  p : 0 ≤ N → N = n
  q : n ≤ 1000000 → N = n
theorem conv_of (n : Nat) (h : n < 18446744073709551616) : Conv n (IntKind.i64.wrap n) := by
  rw [IntKind.wrap_i64]
  refine ⟨?_, ?_, ?_⟩
  · unfold InI; omega
  · omega
  · omega
theorem int_er {x : LT} (h : IntP (er x)) (h3 : x.k = 3) : er x = .mk 3 x.n 0 ⟨#[]⟩ [] := by
  rw [er_mk] at h ⊢
  obtain ⟨h4, h5, h6⟩ := h h3
  rw [h3, h4, h5, h6]
theorem pair_of {t x y : LT} (h : ListP (er t)) (h7 : t.k = 7) (hk : t.kids = [x, y]) (hx : x.k = 3) (hy : y.k = 3) : er t = pairV x.n y.n := by
  rw [er_mk] at h ⊢
  obtain ⟨h1, h2, h3, h4⟩ := h h7
  rw [hk] at h4 ⊢
  have hx' := int_er (h4 (er x) (by simp)) hx
  have hy' := int_er (h4 (er y) (by simp)) hy
  unfold pairV
  rw [h7, h1, h2, h3, List.map_cons, List.map_cons, List.map_nil, hx', hy']
theorem body_dec_no {s : ByteArray} {i c : Nat} {kid : VT} {j c' : Nat} (h : Got s i c kid j c' true) (v : VT) (J C : Nat) : Body s 6 4 i c v J C true := by
  refine body_none v J C fun v0 r0 hf h1 h2 hd hc => ?_
  rcases view6 hf h1 with ⟨n0, e0, hn0, he0, rfl⟩ | ⟨n0, t, g0, g1, g4, hft, rfl⟩
  · rw [lead4] at hd
    rw [heads4] at hc
    rw [← pair_cbor] at hd
    have := (h.cmp _ r0 (pair_fit he0 hn0) hd (by rw [pair_heads]; omega)).1
    cases this
  · rw [lead9] at h2
    simp only at h2
    omega
theorem FreshO.tag {W WX : World} {b N1 : Nat} {t : LT} {N : Int} (hT : Tr WX t) (hnew : ∀ k, k ∈ t.blks → W.heap.size + 2 ≤ k) (hnd : t.blks.Nodup) (ho : W.grownBy WX (some b)) (hN1 : N1 = W.heap.size + 1) (hlt : W.heap.size + 2 ≤ WX.heap.size) (hN : InI N) (x0 x1 x2 x3 x4 : Value) :
    FreshO W (put5v (WX.alloc (.cells #[.int .i64 t.k, .int .i64 t.n, .int .i64 t.e, .string t.s, t.row] 24)) N1 x0 x1 x2 x3 x4) b (.mk 9 N 0 ⟨#[]⟩ (some ⟨WX.heap.size, 0, none⟩) 1 [t]) := by
  have hg : (put5v (WX.alloc (.cells #[.int .i64 t.k, .int .i64 t.n, .int .i64 t.e, .string t.s, t.row] 24)) N1 x0 x1 x2 x3 x4).heap[WX.heap.size]? = some (.cells #[.int .i64 t.k, .int .i64 t.n, .int .i64 t.e, .string t.s, t.row] 24 (0, 0)) := by
    rw [put5v_other _ _ _ _ _ _ _ _ (by omega)]; exact heap_alloc_new WX _
  have hk : ∀ k, k ∈ t.blks → (put5v (WX.alloc (.cells #[.int .i64 t.k, .int .i64 t.n, .int .i64 t.e, .string t.s, t.row] 24)) N1 x0 x1 x2 x3 x4).heap[k]? = WX.heap[k]? := fun k hk => by
    have := hnew k hk
    rw [put5v_other _ _ _ _ _ _ _ _ (by omega), Below.heap_alloc _ _ _ (hT.lt k hk)]
  refine ⟨.mk _ (by unfold InI; decide) hN (by unfold InI; decide) (by decide) ⟨by simp, by omega⟩ hg (by simp) (fun i hi => ?_) (fun i hi => ?_), fun k hkk => ?_, ?_, ?_⟩
  · obtain rfl : i = 0 := by simp at hi; omega
    exact ⟨cell_of_row _ _ 0 _ _ (0, 0) hg, cell_of_row _ _ 1 _ _ (0, 0) hg, cell_of_row _ _ 2 _ _ (0, 0) hg, cell_of_row _ _ 3 _ _ (0, 0) hg, cell_of_row _ _ 4 _ _ (0, 0) hg⟩
  · obtain rfl : i = 0 := by simp at hi; omega
    exact hT.kept hk
  · rw [blks_some, blksL_one] at hkk
    rcases List.mem_cons.1 hkk with rfl | hkk
    · show W.heap.size ≤ WX.heap.size; omega
    · have := hnew k hkk; omega
  · rw [blks_some, blksL_one]
    exact List.nodup_cons.2 ⟨fun hm => Nat.lt_irrefl _ (hT.lt _ hm), hnd⟩
  · unfold put5v
    have h1 := only_below ho ((Below.refl _ WX).alloc (Nat.le_refl _) (.cells #[.int .i64 t.k, .int .i64 t.n, .int .i64 t.e, .string t.s, t.row] 24))
    have hN : W.heap.size ≤ N1 := by omega
    exact only_set (only_set (only_set (only_set (only_set h1 hN _) hN _) hN _) hN _) hN _
set_option maxHeartbeats 400000 in
theorem tag_any {K : Nat} (HG : GV K) (W : World) (b : Nat) (s : ByteArray) (i c n : Nat) (hs : s.size ≤ 1048576) (hi : i ≤ s.size) (hc : c ≤ Lim) (hK : Lim ≤ c + K) (h : CR W b s i false c) (hT : simpTab.Tab W) (hb : 0 ≠ b) (hn : n < 18446744073709551616) :
    Calls Tryd.prog 59 #[.pointer (some ⟨b, 0, none⟩), .agg #[.int .i64 6, .int .u64 n, .bool false]] W fun r w' => BRet W w' b s 6 n i c r := by
  have hlt := h.lt
  have HCV := Lib.hid (conv_of n hn)
  clear hn
  have C : Hid (Calls Tryd.prog 27 #[.pointer (some ⟨b, 0, none⟩)] ((W.alloc (.cells #[.int .i64 6, .int .u64 n, .bool false] 87)).alloc (.cells #[.int .i64 0, .int .i64 0, .int .i64 0, .string ⟨#[]⟩, .slice none 0 0] 24)) fun r w' => GRet ((W.alloc (.cells #[.int .i64 6, .int .u64 n, .bool false] 87)).alloc (.cells #[.int .i64 0, .int .i64 0, .int .i64 0, .string ⟨#[]⟩, .slice none 0 0] 24)) w' b s i c r) :=
    HG _ b s i c hs hi hc hK ((h.alloc _).alloc _) ((hT.alloc _).alloc _) hb
  have HR := Lib.hid (V5.new (W.alloc (.cells #[.int .i64 6, .int .u64 n, .bool false] 87)) (.int .i64 0) (.int .i64 0) (.int .i64 0) (.string ⟨#[]⟩) (.slice none 0 0))
  rw [show (W.alloc (.cells #[.int .i64 6, .int .u64 n, .bool false] 87)).heap.size = W.heap.size + 1 by simp] at HR
  have HH := Lib.hid ((Hd.new W 6 n false).behind ((Below.refl _ _).alloc (Nat.le_refl _) (.cells #[.int .i64 0, .int .i64 0, .int .i64 0, .string ⟨#[]⟩, .slice none 0 0] 24)))
  clear HG h hT hi hc hK
  go_enter Tryd.func59, Tryd.ntmps59
  go_wp2_with fail
  with_reducible refine C.out.mono ?_
  rintro r w1 ⟨t, J, c', bad, rfl, hF, hC, hG, hB⟩
  clear C
  have hz2 : ((W.alloc (.cells #[.int .i64 6, .int .u64 n, .bool false] 87)).alloc (.cells #[.int .i64 0, .int .i64 0, .int .i64 0, .string ⟨#[]⟩, .slice none 0 0] 24)).heap.size = W.heap.size + 2 := by simp
  have hz1 := hF.only.size
  have hnew := hF.new
  have HND := Lib.hid hF.nodup
  rw [hz2] at hz1 hnew
  replace HR := Lib.hid (HR.out.only hF.only (by omega))
  replace HH := Lib.hid (HH.out.only hF.only (by omega))
  have HO := Lib.hid (only_out (only_out hF.only))
  have HTR := Lib.hid hF.tr
  have hrow : t.row = .slice t.a t.kids.length t.cap := rfl
  clear hF hz2
  have HNEW := Lib.hid hnew
  have HBB := Lib.hid hB
  have HGG := Lib.hid hG
  go_upto_region 2 with (fail)
  have hzx : W.heap.size + 2 ≤ (w1.alloc (.cells #[.int .i64 t.k, .int .i64 t.n, .int .i64 t.e, .string t.s, .slice t.a t.kids.length t.cap] 24)).heap.size := by simp; omega
  have HNX : Hid (V5 (w1.alloc (.cells #[.int .i64 t.k, .int .i64 t.n, .int .i64 t.e, .string t.s, .slice t.a t.kids.length t.cap] 24)) w1.heap.size (.int .i64 t.k) (.int .i64 t.n) (.int .i64 t.e) (.string t.s) (.slice t.a t.kids.length t.cap)) := V5.new _ _ _ _ _ _
  have hAL : Below w1.heap.size w1 (w1.alloc (.cells #[.int .i64 t.k, .int .i64 t.n, .int .i64 t.e, .string t.s, .slice t.a t.kids.length t.cap] 24)) := (Below.refl _ w1).alloc (Nat.le_refl _) _
  have HRX := Lib.hid (HR.out.behind hAL)
  have HHX := Lib.hid (HH.out.behind hAL)
  have HOX := Lib.hid (only_below HO.out hAL)
  have HTX := Lib.hid (HTR.out.behind hAL)
  have HCX : Hid (CR (w1.alloc (.cells #[.int .i64 t.k, .int .i64 t.n, .int .i64 t.e, .string t.s, .slice t.a t.kids.length t.cap] 24)) b s J bad c') := hC.alloc _
  generalize w1.alloc (.cells #[.int .i64 t.k, .int .i64 t.n, .int .i64 t.e, .string t.s, .slice t.a t.kids.length t.cap] 24) = WA at *
  generalize w1.heap.size = N5 at *
  clear hAL HR HH HO HTR hC hG hB hnew
  by_cases h4 : n = 4
  · subst h4
    have CSC := Lib.hid (scaled_any t HTX.out)
    rw [hrow] at CSC
    obtain ⟨r0, r1, r2, r3, r4, rf⟩ := HNX.out.c
    obtain ⟨q0, q1, q2, q3, q4, qf⟩ := HRX.out.c
    obtain ⟨e0, e1, e2, e3⟩ := HHX.out.cells
    go_wp2_with fail
    with_reducible refine CSC.out.mono ?_
    rintro r w3 ⟨sc, rfl, hsc, hb3⟩
    have hz3 := hb3.size
    replace HNX := Lib.hid (HNX.out.behind hb3)
    replace HRX := Lib.hid (HRX.out.behind hb3)
    replace HHX := Lib.hid (HHX.out.behind hb3)
    replace HOX := Lib.hid (only_below HOX.out hb3)
    replace HTX := Lib.hid (HTX.out.behind hb3)
    replace HCX := Lib.hid (Rd.behind HCX.out hb3 HCX.out.lt)
    replace hzx : W.heap.size + 2 ≤ w3.heap.size := Nat.le_trans hzx hz3
    clear CSC hb3 r0 r1 r2 r3 r4 rf q0 q1 q2 q3 q4 qf e0 e1 e2 e3 hz3
    cases sc with
    | false =>
      have HNP : Hid (∀ e n, InI e → InI n → er t ≠ pairV e n) := fun e n _ _ h => by have := hsc.2 (scaled_pair h); cases this
      clear hsc
      obtain ⟨r0, r1, r2, r3, r4, rf⟩ := HNX.out.c
      obtain ⟨q0, q1, q2, q3, q4, qf⟩ := HRX.out.c
      obtain ⟨e0, e1, e2, e3⟩ := HHX.out.cells
      have HRY := Lib.hid (HRX.out.behind ((Below.refl _ w3).alloc (Nat.le_refl _) (.cells #[.int .i64 t.k, .int .i64 t.n, .int .i64 t.e, .string t.s, .slice t.a t.kids.length t.cap] 24)))
      have HF := Lib.hid (HRY.out.put (.int .i64 9) (.int .i64 4) (.int .i64 0) (.string ⟨#[]⟩) (.slice (some ⟨w3.heap.size, 0, none⟩) 1 1))
      have HFO : Hid (FreshO W (put5v (w3.alloc (.cells #[.int .i64 t.k, .int .i64 t.n, .int .i64 t.e, .string t.s, .slice t.a t.kids.length t.cap] 24)) (W.heap.size + 1) (.int .i64 9) (.int .i64 4) (.int .i64 0) (.string ⟨#[]⟩) (.slice (some ⟨w3.heap.size, 0, none⟩) 1 1)) b (.mk 9 4 0 ⟨#[]⟩ (some ⟨w3.heap.size, 0, none⟩) 1 [t])) :=
        FreshO.tag HTX.out HNEW.out HND.out HOX.out rfl hzx (by unfold InI; decide) _ _ _ _ _
      have HCF : Hid (CR (put5v (w3.alloc (.cells #[.int .i64 t.k, .int .i64 t.n, .int .i64 t.e, .string t.s, .slice t.a t.kids.length t.cap] 24)) (W.heap.size + 1) (.int .i64 9) (.int .i64 4) (.int .i64 0) (.string ⟨#[]⟩) (.slice (some ⟨w3.heap.size, 0, none⟩) 1 1)) b s J bad c') :=
        ⟨(put5v_other _ _ _ _ _ _ _ _ (by omega)).trans ((HCX.out.alloc _).row)⟩
      obtain ⟨k0, k1, k2, k3, k4, _⟩ := HF.out.c
      obtain ⟨y0, y1, y2, y3, y4, yf⟩ := HRY.out.c
      have HBD : Hid (Body s 6 4 i c (er (.mk 9 4 0 ⟨#[]⟩ (some ⟨w3.heap.size, 0, none⟩) 1 [t])) J.toNat c' bad) := by
        unfold Hid
        rw [er_mk]
        exact body_tag4 HGG.out HNP.out
      clear HNX HRX HHX HRY HF HTX HOX HCX
      unfold put5v at k0 k1 k2 k3 k4 HFO HCF
      clear HCV HNEW HND
      go_upto_region 4 with (fail)
      go_wp2
      refine bodyPost_ret (v := .agg #[.int .i64 9, .int .i64 4, .int .i64 0, .string ⟨#[]⟩, .slice (some ⟨w3.heap.size, 0, none⟩) 1 1]) (by simp [results, Tryd.results59, go_sem, k0, k1, k2, k3, k4]) rfl ?_
      refine ⟨.mk 9 4 0 ⟨#[]⟩ (some ⟨w3.heap.size, 0, none⟩) 1 [t], J, c', bad, rfl, HFO.out, HCF.out, HBD.out, fun hbad => ?_⟩
      obtain ⟨b1, b2, b3, b4, b5, b6, b7⟩ := HBB.out hbad
      rw [szL_kids, LT.szL, LT.szL, er_mk]
      have e0 : (⟨#[]⟩ : ByteArray).size = 0 := rfl
      exact ⟨by omega, b2, by rw [e0]; omega, by omega, b5, fun hx => absurd (show (9 : Int) = 3 from hx) (by decide), fun hx => absurd (show (9 : Int) = 7 from hx) (by decide)⟩
    | true =>
      have hsp := hsc.1 rfl
      clear hsc
      obtain ⟨h7, x, y, hxy, hx3, hy3⟩ := hsp
      obtain ⟨g, ha, hg, hx, hy⟩ := two_at HTX.out hxy
      have hgl := HTX.out.lt g hg
      have hgn := HNEW.out g hg
      obtain ⟨x0, x1, _, _, _⟩ := hx
      obtain ⟨y0, y1, _, _, _⟩ := hy
      have hkl : t.kids.length = 2 := by rw [hxy]; rfl
      rw [ha, hkl] at HNX
      obtain ⟨r0, r1, r2, r3, r4, rf⟩ := HNX.out.c
      obtain ⟨q0, q1, q2, q3, q4, qf⟩ := HRX.out.c
      have HXY : Hid (InI x.n ∧ InI y.n) := by
        have hin := tr_in HTX.out
        cases hin
        rename_i k n e s a cap kids _ _ _ _ _ hc hkids
        have hkk : kids = [x, y] := hxy
        subst hkk
        exact ⟨(in_ne (hkids 0 (by simp))).1, (in_ne (hkids 1 (by simp))).1⟩
      have HF := Lib.hid (HRX.out.put (.int .i64 4) (.int .i64 y.n) (.int .i64 x.n) (.string ⟨#[]⟩) (.slice none 0 0))
      have HCF : Hid (CRet W (put5v w3 (W.heap.size + 1) (.int .i64 4) (.int .i64 y.n) (.int .i64 x.n) (.string ⟨#[]⟩) (.slice none 0 0)) b s J bad c') := ret_put ⟨HCX.out, HOX.out⟩ (by omega) hlt _ _ _ _ _
      obtain ⟨k0, k1, k2, k3, k4, _⟩ := HF.out.c
      have HBD : Hid (Body s 6 4 i c (er (.mk 4 y.n x.n ⟨#[]⟩ none 0 [])) J.toNat c' bad) := by
        unfold Hid
        cases bad with
        | true => exact body_dec_no HGG.out _ _ _
        | false =>
          rw [er_mk]
          have := pair_of (HBB.out rfl).2.2.2.2.2.2 h7 hxy hx3 hy3
          have hG2 := HGG.out
          rw [this] at hG2
          exact body_dec HXY.out.2 HXY.out.1 hG2
      clear HNX HRX HHX HF HTX HOX HCX HNEW HND HCV hxy hx3 hy3 h7 ha hkl
      unfold put5v at k0 k1 k2 k3 k4 HCF
      go_wp2
      go_region
      all_goals
        go_wp2
        refine bodyPost_ret (v := .agg #[.int .i64 4, .int .i64 y.n, .int .i64 x.n, .string ⟨#[]⟩, .slice none 0 0]) (by simp [results, Tryd.results59, go_sem, k0, k1, k2, k3, k4]) rfl ?_
        refine ⟨.mk 4 y.n x.n ⟨#[]⟩ none 0 [], J, c', bad, rfl, FreshO.leaf (by unfold InI; decide) HXY.out.2 HXY.out.1 (by decide) (only_drew HCF.out.only), HCF.out.rd.drew, HBD.out, fun hbad => ?_⟩
        · obtain ⟨b1, b2, b3, b4, b5, b6, b7⟩ := HBB.out hbad
          rw [szL_kids, LT.szL, er_mk]
          have e0 : (⟨#[]⟩ : ByteArray).size = 0 := rfl
          exact ⟨by omega, b2, by rw [e0]; omega, by omega, b5, fun hx => absurd (show (4 : Int) = 3 from hx) (by decide), fun hx => absurd (show (4 : Int) = 7 from hx) (by decide)⟩
  · have p4 : ((n : Int) == 4) = false := by rw [beq_eq_false_iff_ne]; omega
    obtain ⟨r0, r1, r2, r3, r4, rf⟩ := HNX.out.c
    obtain ⟨q0, q1, q2, q3, q4, qf⟩ := HRX.out.c
    obtain ⟨e0, e1, e2, e3⟩ := HHX.out.cells
    have HRY := Lib.hid (HRX.out.behind ((Below.refl _ WA).alloc (Nat.le_refl _) (.cells #[.int .i64 t.k, .int .i64 t.n, .int .i64 t.e, .string t.s, .slice t.a t.kids.length t.cap] 24)))
    have HF := Lib.hid (HRY.out.put (.int .i64 9) (.int .i64 (IntKind.i64.wrap n)) (.int .i64 0) (.string ⟨#[]⟩) (.slice (some ⟨WA.heap.size, 0, none⟩) 1 1))
    have HFO : Hid (FreshO W (put5v (WA.alloc (.cells #[.int .i64 t.k, .int .i64 t.n, .int .i64 t.e, .string t.s, .slice t.a t.kids.length t.cap] 24)) (W.heap.size + 1) (.int .i64 9) (.int .i64 (IntKind.i64.wrap n)) (.int .i64 0) (.string ⟨#[]⟩) (.slice (some ⟨WA.heap.size, 0, none⟩) 1 1)) b (.mk 9 (IntKind.i64.wrap n) 0 ⟨#[]⟩ (some ⟨WA.heap.size, 0, none⟩) 1 [t])) :=
      FreshO.tag HTX.out HNEW.out HND.out HOX.out rfl hzx HCV.out.r _ _ _ _ _
    have HCF : Hid (CR (put5v (WA.alloc (.cells #[.int .i64 t.k, .int .i64 t.n, .int .i64 t.e, .string t.s, .slice t.a t.kids.length t.cap] 24)) (W.heap.size + 1) (.int .i64 9) (.int .i64 (IntKind.i64.wrap n)) (.int .i64 0) (.string ⟨#[]⟩) (.slice (some ⟨WA.heap.size, 0, none⟩) 1 1)) b s J bad c') :=
      ⟨(put5v_other _ _ _ _ _ _ _ _ (by omega)).trans ((HCX.out.alloc _).row)⟩
    obtain ⟨k0, k1, k2, k3, k4, _⟩ := HF.out.c
    obtain ⟨y0, y1, y2, y3, y4, yf⟩ := HRY.out.c
    have HBD : Hid (Body s 6 n i c (er (.mk 9 (IntKind.i64.wrap n) 0 ⟨#[]⟩ (some ⟨WA.heap.size, 0, none⟩) 1 [t])) J.toNat c' bad) := by
      unfold Hid
      rw [er_mk]
      exact body_tag HGG.out h4 ⟨HCV.out.p, HCV.out.q⟩
    clear HNX HRX HHX HRY HF HTX HOX HCX
    unfold put5v at k0 k1 k2 k3 k4 HFO HCF
    clear HCV HNEW HND
    generalize hNN : IntKind.i64.wrap (n : Int) = NN at *
    go_upto_region 4 with (fail)
    go_wp2
    refine bodyPost_ret (v := .agg #[.int .i64 9, .int .i64 NN, .int .i64 0, .string ⟨#[]⟩, .slice (some ⟨WA.heap.size, 0, none⟩) 1 1]) (by simp [results, Tryd.results59, go_sem, k0, k1, k2, k3, k4]) rfl ?_
    refine ⟨.mk 9 NN 0 ⟨#[]⟩ (some ⟨WA.heap.size, 0, none⟩) 1 [t], J, c', bad, rfl, HFO.out, HCF.out, HBD.out, fun hbad => ?_⟩
    obtain ⟨b1, b2, b3, b4, b5, b6, b7⟩ := HBB.out hbad
    rw [szL_kids, LT.szL, LT.szL, er_mk]
    have e0 : (⟨#[]⟩ : ByteArray).size = 0 := rfl
    exact ⟨by omega, b2, by rw [e0]; omega, by omega, b5, fun hx => absurd (show (9 : Int) = 3 from hx) (by decide), fun hx => absurd (show (9 : Int) = 7 from hx) (by decide)⟩
end Go.Proofs.YtnaghafmpncdkaaDoor.cbor
