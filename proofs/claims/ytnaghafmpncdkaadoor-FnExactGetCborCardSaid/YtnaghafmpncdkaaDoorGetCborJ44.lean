/-
  What impl.GetCbor returns: what it tells (Res), and its reader at a wrong index.
-/
import Derived.Test.YtnaghafmpncdkaaDoorGetCborJ43
import Derived.Test.YtnaghafmpncdkaaDoorGetCborJ22
import Derived.Test.YtnaghafmpncdkaaDoorGetCborJ41
import Derived.Test.YtnaghafmpncdkaaDoorGetCborJ24
namespace Go.Proofs.YtnaghafmpncdkaaDoor.cbor
open Go.ChangeShapes Go.WideShapes Go.ChangeAt Go.RowKit
open Go.Proofs.YtnaghafmpncdkaaDoor.val Go.Proofs.YtnaghafmpncdkaaDoor.head
set_option maxRecDepth 100000

theorem short_bad {W : World} {b : Nat} {s : ByteArray} {i : Int} {c : Int} (hs : s.size ≤ 1048576) (hi : badAt s i = true) (h : CR W b s i true c) :
    Calls Tryd.prog 79 #[.pointer (some ⟨b, 0, none⟩)] W fun e w' => ∃ (m n : Nat) (o : Bool) (J : Int), e = .returned (hd m n o) ∧ CRet W w' b s J true c := by
  have h' : CR W b s i (badAt s i) c := by rw [hi]; exact h
  refine (short_any s i b (badAt s i) W h' (Tells s i) (fun W h => get_c s i b hs W h)).mono ?_
  rintro e w' ⟨m, n, o, j, bad, rfl, hr, hq⟩
  have hn : getHead s i = (-1, 0, -1) := get_no fun h0 => by
    unfold badAt at hi
    have := h0.2.1
    simp only [Bool.or_eq_true, decide_eq_true_eq] at hi
    omega
  cases hb : (bad || o || decide (j - i ≠ (headL m n).length)) with
  | true => rw [hb] at hr; exact ⟨m, n, o, j, rfl, hr⟩
  | false =>
    have h1 := hq.yes hb
    rw [hn] at h1
    injection h1 with h1 _
    omega
set_option maxHeartbeats 2000000 in
theorem head_bad {W : World} {b : Nat} {s : ByteArray} {i : Int} (hs : s.size ≤ 1048576) (hi : badAt s i = true) (h : CR W b s i true 0) :
    Calls Tryd.prog 52 #[.pointer (some ⟨b, 0, none⟩)] W fun e w' => ∃ (m n : Nat) (o : Bool) (J : Int), e = .returned (hd m n o) ∧ CRet W w' b s J true 1 := by
  have hlt := h.lt
  have c4 := CR.c4 h
  have f4 := h.fr 4
  have H1 := CR.count h 1
  have d4 := CR.c4 H1.rd
  have d3 := CR.c3 H1.rd
  have CS := Lib.hid (short_bad hs hi (H1.rd.alloc (.cells #[.int .i64 0, .int .u64 0, .bool false] 87)))
  have HO := Lib.hid (H1.more (.cells #[.int .i64 0, .int .u64 0, .bool false] 87))
  have HK := Lib.hid (Hd.new (W.setCell ⟨b, 4, none⟩ (.int .i64 1)) 0 0 false)
  clear H1 h
  go_enter Tryd.func52, Tryd.ntmps52
  go_wp2_with fail
  with_reducible refine CS.out.mono ?_
  rintro e w1 ⟨m, n, o, J, rfl, hr⟩
  have hb1 : W.heap.size < w1.heap.size := by have := hr.only.size; simp [val.set_size] at this; omega
  have hh := HK.out.only hr.only (by simp [val.set_size]; omega)
  simp only [val.set_size] at hh
  obtain ⟨e0, e1, e2, e3⟩ := hh.cells
  have HE := Lib.hid (put3_end (HO.out.trans hr) hh (Nat.le_refl _) hlt m n o)
  clear hr hh HO HK CS
  unfold hd
  go_wp2
  obtain ⟨k0, k1, k2, _⟩ := HE.out.hd.cells
  unfold put3 at k0 k1 k2 HE
  refine bodyPost_ret (v := .agg #[.int .i64 m, .int .u64 n, .bool o]) (by simp [results, Tryd.results52, go_sem, k0, k1, k2]) rfl ?_
  exact ⟨m, n, o, J, rfl, HE.out.ret⟩
set_option maxHeartbeats 2000000 in
theorem value_bad (W : World) (b : Nat) (s : ByteArray) (i : Int) (hs : s.size ≤ 1048576) (hi : badAt s i = true) (h : CR W b s i true 0) :
    Calls Tryd.prog 27 #[.pointer (some ⟨b, 0, none⟩)] W fun e w' => e = .returned (leaf 0 0 ⟨#[]⟩) ∧ ∃ J, CRet W w' b s J true 1 := by
  have hlt := h.lt
  have C := Lib.hid (head_bad hs hi (h.alloc (.cells #[.int .i64 0, .int .i64 0, .int .i64 0, .string ⟨#[]⟩, .slice none 0 0] 24)))
  have HR := Lib.hid (V5.new W (.int .i64 0) (.int .i64 0) (.int .i64 0) (.string ⟨#[]⟩) (.slice none 0 0))
  clear h
  go_enter Tryd.func27, Tryd.ntmps27
  go_wp2_with fail
  with_reducible refine C.out.mono ?_
  rintro r w1 ⟨m, n, o, J, rfl, hr⟩
  clear C
  have hz1 := hr.only.size
  rw [show (W.alloc (.cells #[.int .i64 0, .int .i64 0, .int .i64 0, .string ⟨#[]⟩, .slice none 0 0] 24)).heap.size = W.heap.size + 1 by simp] at hz1
  replace HR := Lib.hid (HR.out.only hr.only (by omega))
  have HC := Lib.hid (hr.out hlt)
  unfold hd
  clear hr
  go_upto_region 2 with (fail)
  have hAL : Below w1.heap.size w1 (w1.alloc (.cells #[.int .i64 m, .int .u64 n, .bool o] 87)) := (Below.refl _ w1).alloc (Nat.le_refl _) _
  replace HR := Lib.hid (HR.out.behind hAL)
  replace HC := Lib.hid (HC.out.more (.cells #[.int .i64 m, .int .u64 n, .bool o] 87))
  generalize w1.alloc (.cells #[.int .i64 m, .int .u64 n, .bool o] 87) = WA at *
  generalize w1.heap.size = N3 at *
  have c2 := HC.out.rd.c2
  obtain ⟨q0, q1, q2, q3, q4, qf⟩ := HR.out.c
  have HF := Lib.hid (HR.out.put (.int .i64 0) (.int .i64 0) (.int .i64 0) (.string ⟨#[]⟩) (.slice none 0 0))
  have HCF := Lib.hid (ret_put HC.out (N := W.heap.size) (by omega) hlt (.int .i64 0) (.int .i64 0) (.int .i64 0) (.string ⟨#[]⟩) (.slice none 0 0))
  obtain ⟨k0, k1, k2, k3, k4, _⟩ := HF.out.c
  clear HR HC HF hAL
  unfold put5v at k0 k1 k2 k3 k4 HCF
  go_wp2
  refine bodyPost_ret (v := leaf 0 0 ⟨#[]⟩) (by simp [results, Tryd.results27, go_sem, k0, k1, k2, k3, k4, leaf]) rfl ?_
  exact ⟨rfl, J, HCF.out⟩
theorem below_only {W WR w2 : World} {b : Nat} (h : Below W.heap.size W WR) (hg : WR.grownBy w2 (some b)) (hb : W.heap.size ≤ b) : Below W.heap.size W w2 :=
  ⟨hg.os.trans h.os, hg.tape.trans h.tape, hg.output.trans h.output, Nat.le_trans h.size hg.size, fun k hk => (hg.block k (Nat.lt_of_lt_of_le hk h.size) (fun e => by injection e with e; omega)).trans (h.block k hk)⟩
/-- A value that fits and stands at a place. -/
def StandsAt (s : ByteArray) (i : Int) (v : VT) : Prop := 0 ≤ i ∧ i ≤ s.size ∧ ∃ r, D s i.toNat = cborT v ++ r
/-- What GetCbor tells. -/
structure Res (W w' : World) (s : ByteArray) (i : Int) (e : Ending) : Prop where
  ex : (∃ (t : LT), e = .returned (.tuple #[.agg #[.int .i64 t.k, .int .i64 t.n, .int .i64 t.e, .string t.s, t.row], .int .i64 (i + (cborT (er t)).length)]) ∧ Tr w' t ∧ (∀ k, k ∈ t.blks → W.heap.size ≤ k) ∧ t.blks.Nodup ∧ t.sz ≤ 1048576 ∧ Below W.heap.size W w' ∧ FitsC t ∧ FitV (er t) ∧ StandsAt s i (er t) ∧ ∀ v0, FitV v0 → StandsAt s i v0 → heads v0 ≤ Lim → er t = v0) ∨
    (e = .returned (.tuple #[.agg #[.int .i64 0, .int .i64 0, .int .i64 0, .string ⟨#[]⟩, .slice none 0 0], .int .i64 (-1)]) ∧ Below W.heap.size W w' ∧ ∀ t : LT, FitsC t → FitV (er t) → ¬ StandsAt s i (er t))
theorem bad_iff {s : ByteArray} {i : Int} (h : badAt s i = true) : ¬ (0 ≤ i ∧ i ≤ s.size) := by
  unfold badAt at h
  simp only [Bool.or_eq_true, decide_eq_true_eq] at h
  omega
theorem good_iff {s : ByteArray} {i : Int} (h : badAt s i = false) : 0 ≤ i ∧ i ≤ s.size := by
  unfold badAt at h
  simp only [Bool.or_eq_false_iff, decide_eq_false_iff_not] at h
  omega
theorem heads_lim {t : LT} (h : FitsC t) : heads (er t) ≤ Lim := by
  have h1 := heads_le t
  have h2 := h.1.1.1
  show heads (er t) ≤ 1200
  omega
/-- No value stands where the reader has failed. -/
theorem none_bad {s : ByteArray} {i : Int} {v : VT} {j c' : Nat} (h : Got s i.toNat 0 v j c' true) : ∀ t : LT, FitsC t → FitV (er t) → ¬ StandsAt s i (er t) := by
  rintro t hc hf ⟨_, _, r, hd⟩
  have h1 := h.cmp (er t) r hf hd (by have := heads_lim hc; omega)
  cases h1.1
/-- No value that fits stands where one was read that doesn't. -/
theorem none_unfit {s : ByteArray} {i : Int} {u : LT} {j c' : Nat} (h : Got s i.toNat 0 (er u) j c' false) (hu : ¬ FitsC u) : ∀ t : LT, FitsC t → FitV (er t) → ¬ StandsAt s i (er t) := by
  rintro t hc hf ⟨_, _, r, hd⟩
  have h1 := h.cmp (er t) r hf hd (by have := heads_lim hc; omega)
  exact hu ((erase.fits_er h1.2.1).2 hc)
/-- What is read stands there. -/
theorem stands {s : ByteArray} {i : Int} {v : VT} {J : Int} {c' : Nat} (h : Got s i.toNat 0 v J.toNat c' false) (hv : FitV v) (hi : 0 ≤ i ∧ i ≤ s.size) (hj : 0 ≤ J ∧ J ≤ s.size) :
    StandsAt s i v ∧ J = i + (cborT v).length ∧ ∀ v0, FitV v0 → StandsAt s i v0 → heads v0 ≤ Lim → v = v0 := by
  have h1 := h.snd rfl hv
  have h2 := D_place h1 (by omega) (by omega)
  refine ⟨⟨hi.1, hi.2, _, h1⟩, by omega, ?_⟩
  rintro v0 hf ⟨_, _, r, hd⟩ hl
  exact (h.cmp v0 r hf hd (by omega)).2.1
theorem below_drew {B : Nat} {W w' : World} (h : Below B W w') : Below B W w'.drew := ⟨h.os, h.tape, h.output, h.size, h.block⟩
theorem tr_drew {w : World} {t : LT} (h : Tr w t) : Tr w.drew t := h.kept fun _ _ => rfl
end Go.Proofs.YtnaghafmpncdkaaDoor.cbor
/-
  What spec.GetCbor returns: the value that stands at a place, if one does that fits.
-/
namespace Go.Proofs.YtnaghafmpncdkaaDoor.cbor
open Go.ChangeShapes Go.WideShapes Go.ChangeAt Go.RowKit
open Go.Proofs.YtnaghafmpncdkaaDoor.val Go.Proofs.YtnaghafmpncdkaaDoor.head
set_option maxRecDepth 100000

/-- What spec.GetCbor tells. -/
structure SRes (W w' : World) (s : ByteArray) (i : Int) (e : Ending) : Prop where
  ex : (∃ (t : LT), e = .returned (.tuple #[.agg #[.int .i64 t.k, .int .i64 t.n, .int .i64 t.e, .string t.s, t.row], .int .i64 (i + (cborT (er t)).length)]) ∧ Tr w' t ∧ (∀ k, k ∈ t.blks → W.heap.size ≤ k) ∧ t.blks.Nodup ∧ t.sz ≤ 1048576 ∧ Below W.heap.size W w' ∧ FitsC t ∧ FitV (er t) ∧ StandsAt s i (er t) ∧ ∀ u : LT, FitsC u → FitV (er u) → StandsAt s i (er u) → er t = er u) ∨
    (e = .returned (.tuple #[.agg #[.int .i64 0, .int .i64 0, .int .i64 0, .string ⟨#[]⟩, .slice none 0 0], .int .i64 (-1)]) ∧ Below W.heap.size W w' ∧ ∀ t : LT, FitsC t → FitV (er t) → ¬ StandsAt s i (er t))
theorem stands_lt {s : ByteArray} {i : Int} {v : VT} (hf : FitV v) (h : StandsAt s i v) : 0 ≤ i ∧ i < s.size := by
  obtain ⟨h1, h2, r, hd⟩ := h
  have := (lead_at hf hd).1.ok.1
  omega
/-- What fits and stands at a place is what was read there. -/
theorem whole_at {s : ByteArray} {i : Nat} {v : VT} {next left' : Int} (h : Whole s i 1204 0 v next left') {u : LT} (hc : FitsC u) (hf : FitV (er u)) (hs : StandsAt s i (er u)) : v = er u ∧ next = i + (cborT (er u)).length := by
  obtain ⟨_, _, r, hd⟩ := hs
  rw [Int.toNat_natCast] at hd
  have h1 := heads_lim hc
  have h2 := deep_le u 0 12 hc.1.1.2
  have h1' : heads (er u) ≤ 1200 := h1
  obtain ⟨q1, q2, _⟩ := h (er u) r hf hd (by omega) h1 (by omega)
  exact ⟨q1, q2⟩
theorem cbor_ne {v : VT} (h : FitV v) : cborT v ≠ [] := fun e => by
  have h1 := lead_eq v
  rw [e] at h1
  have h2 := (lead_lt h)
  have := congrArg List.length h1
  rw [List.length_append] at this
  have h3 := headL_pos (lead v).1 (lead v).2.1
  simp at this
  omega
set_option maxHeartbeats 1000000 in
theorem spec_get_bad (s : ByteArray) (i : Int) (W : World) (hs : s.size ≤ 1048576) (hx : i < 0 ∨ (s.size : Int) ≤ i) :
    Calls Tryd.prog 7 #[.string s, .int .i64 i] W fun e w' => SRes W w' s i e := by
  have HNO : Hid (∀ t : LT, FitsC t → FitV (er t) → ¬ StandsAt s i (er t)) := fun t _ hf h => by have := stands_lt hf h; omega
  have HB := Lib.hid ((Below.refl W.heap.size W).alloc (Nat.le_refl _) (.cells #[.int .i64 0, .int .i64 0, .int .i64 0, .string ⟨#[]⟩, .slice none 0 0] 24))
  have e2 : (s.size : Int) ≤ 1048576 := by omega
  by_cases h0 : i < 0
  · clear hx hs
    go_enter Tryd.func7, Tryd.ntmps7
    go_wp2
    refine bodyPost_ret (v := .tuple #[.agg #[.int .i64 0, .int .i64 0, .int .i64 0, .string ⟨#[]⟩, .slice none 0 0], .int .i64 (-1)]) (by simp [results, Tryd.results7, go_sem]) rfl ?_
    exact ⟨.inr ⟨rfl, HB.out, HNO.out⟩⟩
  · have h1 : (s.size : Int) ≤ i := by omega
    clear hx hs
    go_enter Tryd.func7, Tryd.ntmps7
    go_wp2
    refine bodyPost_ret (v := .tuple #[.agg #[.int .i64 0, .int .i64 0, .int .i64 0, .string ⟨#[]⟩, .slice none 0 0], .int .i64 (-1)]) (by simp [results, Tryd.results7, go_sem]) rfl ?_
    exact ⟨.inr ⟨rfl, HB.out, HNO.out⟩⟩
set_option maxHeartbeats 4000000 in
theorem spec_get_ok (s : ByteArray) (i : Nat) (W : World) (hs : s.size ≤ 1048576) (hi : i < s.size) :
    Calls Tryd.prog 7 #[.string s, .int .i64 i] W fun e w' => SRes W w' s i e := by
  have HB := Lib.hid ((Below.refl W.heap.size W).alloc (Nat.le_refl _) (.cells #[.int .i64 0, .int .i64 0, .int .i64 0, .string ⟨#[]⟩, .slice none 0 0] 24))
  have HR := Lib.hid (V5.new W (.int .i64 0) (.int .i64 0) (.int .i64 0) (.string ⟨#[]⟩) (.slice none 0 0))
  have e2 : (s.size : Int) ≤ 1048576 := by omega
  have e3 : ¬ ((i : Int) < 0) := by omega
  have e4 : ¬ ((s.size : Int) ≤ (i : Int)) := by omega
  have HSZ := Lib.hid hs
  have HII := Lib.hid hi
  clear hs hi
  go_enter Tryd.func7, Tryd.ntmps7
  go_upto_region 3 with (fail)
  generalize W.alloc (.cells #[.int .i64 0, .int .i64 0, .int .i64 0, .string ⟨#[]⟩, .slice none 0 0] 24) = w1 at *
  have hwz : W.heap.size < w1.heap.size := (Array.getElem?_eq_some_iff.1 HR.out.row).1
  have hSR : SR (w1.alloc (.cells #[.string s, .bool false, .int .i64 1204] 46)) w1.heap.size s ((1204 : Nat) : Int) := ⟨heap_alloc_new w1 _⟩
  have hAL : Below w1.heap.size w1 (w1.alloc (.cells #[.string s, .bool false, .int .i64 1204] 46)) := (Below.refl _ w1).alloc (Nat.le_refl _) _
  have CG := Lib.hid (sg0 _ w1.heap.size s i 1204 HSZ.out (by have := HII.out; omega) (by omega) hSR)
  replace HB := Lib.hid (below_of2 HB.out hAL)
  replace HR := Lib.hid (HR.out.behind hAL)
  have hlb := hSR.lt
  clear hSR hAL
  rw [show ((0 : Nat) : Int) = 0 from rfl] at CG
  go_upto_region 4 with (fail)
  go_wp2_with fail
  with_reducible refine CG.out.mono ?_
  rintro r w2 ⟨t, next, left', rfl, hS2, hG2, hW2, hx⟩
  have hrow : t.row = .slice t.a t.kids.length t.cap := rfl
  have HW2 := Lib.hid hW2
  replace HR := Lib.hid (HR.out.only hG2 (by omega))
  replace HB := Lib.hid (below_only HB.out hG2 (by omega))
  clear CG hS2 hG2 hW2
  rw [hrow]
  rcases hx with rfl | ⟨n1, n2, n3, n4, n5, n6⟩
  · have HNO : Hid (∀ u : LT, FitsC u → FitV (er u) → ¬ StandsAt s i (er u)) := fun u h1 h2 h3 => by
      have := (whole_at HW2.out h1 h2 h3).2
      omega
    clear HW2 hrow hlb
    go_upto_region 5 with (fail)
    have hAL : Below w2.heap.size w2 (w2.alloc (.cells #[.int .i64 t.k, .int .i64 t.n, .int .i64 t.e, .string t.s, .slice t.a t.kids.length t.cap] 24)) := (Below.refl _ w2).alloc (Nat.le_refl _) _
    replace HR := Lib.hid (HR.out.behind hAL)
    replace HB := Lib.hid (below_of2 HB.out hAL)
    clear hAL
    generalize w2.alloc (.cells #[.int .i64 t.k, .int .i64 t.n, .int .i64 t.e, .string t.s, .slice t.a t.kids.length t.cap] 24) = WV at *
    generalize w2.heap.size = N5 at *
    have HRD : Hid (V5 WV.drew W.heap.size (.int .i64 0) (.int .i64 0) (.int .i64 0) (.string ⟨#[]⟩) (.slice none 0 0)) := ⟨HR.out.row⟩
    have HBD := Lib.hid (below_drew HB.out)
    clear HR HB
    go_wp2
    go_region
    all_goals
      generalize WV.drew = WD at *
      have HF := Lib.hid (HRD.out.put (.int .i64 0) (.int .i64 0) (.int .i64 0) (.string ⟨#[]⟩) (.slice none 0 0))
      have HBF := Lib.hid (put5v_below HBD.out (Nat.le_refl _) (.int .i64 0) (.int .i64 0) (.int .i64 0) (.string ⟨#[]⟩) (.slice none 0 0))
      obtain ⟨q0, q1, q2, q3, q4, qf⟩ := HRD.out.c
      obtain ⟨k0, k1, k2, k3, k4, _⟩ := HF.out.c
      clear HF HRD HBD
      unfold put5v at k0 k1 k2 k3 k4 HBF
      go_wp2
      refine bodyPost_ret (v := .tuple #[.agg #[.int .i64 0, .int .i64 0, .int .i64 0, .string ⟨#[]⟩, .slice none 0 0], .int .i64 (-1)]) (by simp [results, Tryd.results7, go_sem, k0, k1, k2, k3, k4]) rfl ?_
      exact ⟨.inr ⟨rfl, HBF.out, HNO.out⟩⟩
  · obtain ⟨j, rfl⟩ : ∃ j : Nat, next = j := ⟨next.toNat, by omega⟩
    have hzw : W.heap.size ≤ w1.heap.size := by omega
    have hz12 := n3.only.size
    have HNE : Hid (∀ k, k ∈ t.blks → W.heap.size + 1 ≤ k) := fun k hk => by
      have h1 := n3.new k hk
      have h2 : (w1.alloc (.cells #[.string s, .bool false, .int .i64 1204] 46)).heap.size = w1.heap.size + 1 := by simp
      omega
    have HND := Lib.hid n3.nodup
    have hsz : t.sz ≤ 1048576 := by have := HSZ.out; omega
    have HZ := Lib.hid hsz
    have HTR := Lib.hid n3.tr
    have HJ : Hid (i < j ∧ j ≤ s.size) := ⟨by omega, by omega⟩
    have hj0 : ¬ ((j : Int) < 0) := by omega
    have hji : (i : Int) ≤ (j : Int) := by omega
    have hjs : (j : Int) ≤ (s.size : Int) := by omega
    clear n1 n2 n3 n4 n5 n6 hlb hsz hz12
    go_upto_region 5 with (fail)
    have hAL : Below w2.heap.size w2 (w2.alloc (.cells #[.int .i64 t.k, .int .i64 t.n, .int .i64 t.e, .string t.s, .slice t.a t.kids.length t.cap] 24)) := (Below.refl _ w2).alloc (Nat.le_refl _) _
    replace HR := Lib.hid (HR.out.behind hAL)
    replace HB := Lib.hid (below_of2 HB.out hAL)
    replace HTR := Lib.hid (HTR.out.behind hAL)
    have HV := Lib.hid (V5.new w2 (.int .i64 t.k) (.int .i64 t.n) (.int .i64 t.e) (.string t.s) (.slice t.a t.kids.length t.cap))
    clear hAL
    generalize w2.alloc (.cells #[.int .i64 t.k, .int .i64 t.n, .int .i64 t.e, .string t.s, .slice t.a t.kids.length t.cap] 24) = WV at *
    generalize w2.heap.size = N5 at *
    have CP : Hid (∀ W', Below WV.heap.size WV W' → Calls Tryd.prog 25 #[.agg #[.int .i64 t.k, .int .i64 t.n, .int .i64 t.e, .string t.s, t.row]] W' (PutR W' t)) := fun W' hb => spec_putcbor (tr_in HTR.out) HZ.out W' hb hb.size
    unfold PutR at CP
    rw [hrow] at CP
    obtain ⟨r0, r1, r2, r3, r4, rf⟩ := HV.out.c
    clear rf
    go_wp2_with fail
    go_region_held3 (fun w' => w'.cell? ⟨N5, 0, none⟩ = some (.int .i64 t.k) ∧ w'.cell? ⟨N5, 1, none⟩ = some (.int .i64 t.n) ∧ w'.cell? ⟨N5, 2, none⟩ = some (.int .i64 t.e) ∧ w'.cell? ⟨N5, 3, none⟩ = some (.string t.s) ∧ w'.cell? ⟨N5, 4, none⟩ = some (.slice t.a t.kids.length t.cap)) (go_keep)
      (first | (go_at_call 25; with_reducible refine (CP.out WV.drew (below_drew (Below.refl _ _))).mono ?_; rintro r w3 ⟨L, rfl, hL1, hL2, hb3⟩
                obtain ⟨v0, v1, v2, v3, v4, vf⟩ := (V5.behind (W := WV.drew) ⟨HV.out.row⟩ hb3).c
                clear vf))
    all_goals
      have HB3 := Lib.hid (below_of2 (below_drew HB.out) hb3)
      have HR3 : Hid (V5 w3 W.heap.size (.int .i64 0) (.int .i64 0) (.int .i64 0) (.string ⟨#[]⟩) (.slice none 0 0)) := V5.behind (W := WV.drew) ⟨HR.out.row⟩ hb3
      have HT3 : Hid (Tr w3 t) := (tr_drew HTR.out).behind hb3
      have HE : Hid ((L == (s.extract i j).toList) = decide (L = (s.extract i j).toList)) := beq_dec L _
      have HX : Hid ((s.extract i j).toList = (D s i).take (j - i)) := by
        have := HJ.out
        have e := cut_list s i j (j - i - 1) (by omega)
        rw [show 1 + (j - i - 1) = j - i by omega] at e
        exact e
      have HL1 := Lib.hid hL1
      have HL2 := Lib.hid hL2
      clear hb3 HB HR HV CP hL1 hL2 r0 r1 r2 r3 r4
      obtain ⟨q0, q1, q2, q3, q4, qf⟩ := HR3.out.c
      by_cases hq : L = (s.extract i j).toList
      · have he : (!(L == (s.extract i j).toList)) = false := by rw [HE.out, decide_eq_true hq]; rfl
        have hl : L.length = j - i := by
          have := HJ.out
          rw [hq, HX.out, List.length_take, D_len]; omega
        have hfc : FitsC t := by
          by_cases h : FitsC t
          · exact h
          · have := HL2.out h
            have := HJ.out
            rw [‹L = []›] at hl
            simp at hl
            omega
        have hfv := fits_fit (tr_in HT3.out) hfc
        have hc := HL1.out hfc
        have hst : StandsAt s i (er t) := ⟨by omega, by have := HJ.out; omega, (D s i).drop (j - i), by rw [Int.toNat_natCast, ← hc, hq, HX.out, List.take_append_drop]⟩
        have HG : Hid ((j : Int) = (i : Int) + (cborT (er t)).length ∧ FitsC t ∧ FitV (er t) ∧ StandsAt s i (er t) ∧ ∀ u : LT, FitsC u → FitV (er u) → StandsAt s i (er u) → er t = er u) := ⟨by rw [← hc, hl]; have := HJ.out; omega, hfc, hfv, hst, fun u h1 h2 h3 => (whole_at HW2.out h1 h2 h3).1⟩
        have HF := Lib.hid (HR3.out.put (.int .i64 t.k) (.int .i64 t.n) (.int .i64 t.e) (.string t.s) (.slice t.a t.kids.length t.cap))
        have HBF := Lib.hid (put5v_below HB3.out (Nat.le_refl _) (.int .i64 t.k) (.int .i64 t.n) (.int .i64 t.e) (.string t.s) (.slice t.a t.kids.length t.cap))
        have HTF : Hid (Tr (put5v w3 W.heap.size (.int .i64 t.k) (.int .i64 t.n) (.int .i64 t.e) (.string t.s) (.slice t.a t.kids.length t.cap)) t) := HT3.out.kept fun k hk => put5v_other _ _ _ _ _ _ _ _ (by have := HNE.out k hk; omega)
        obtain ⟨k0, k1, k2, k3, k4, _⟩ := HF.out.c
        clear HF HR3 HB3 HT3 hst hc hfv hfc hl hq HE HX HL1 HL2 HW2 HTR
        unfold put5v at k0 k1 k2 k3 k4 HBF HTF
        rw [he, show decide ((j : Int) < 0) = false from decide_eq_false (by omega), Bool.false_or]
        clear he
        go_wp2
        all_goals
            (refine bodyPost_ret (v := .tuple #[.agg #[.int .i64 t.k, .int .i64 t.n, .int .i64 t.e, .string t.s, .slice t.a t.kids.length t.cap], .int .i64 j]) (by simp [results, Tryd.results7, go_sem, k0, k1, k2, k3, k4]) rfl ?_
             obtain ⟨h1, h2, h3, h4, h5⟩ := HG.out
             exact ⟨.inl ⟨t, by rw [← h1]; rfl, HTF.out, fun k hk => Nat.le_of_succ_le (HNE.out k hk), HND.out, HZ.out, HBF.out, h2, h3, h4, h5⟩⟩)
      · have he : (!(L == (s.extract i j).toList)) = true := by rw [HE.out, decide_eq_false hq]; rfl
        have HNO : Hid (∀ u : LT, FitsC u → FitV (er u) → ¬ StandsAt s i (er u)) := fun u h1 h2 h3 => by
          obtain ⟨g1, g2⟩ := whole_at HW2.out h1 h2 h3
          apply hq
          rw [HX.out, HL1.out ((erase.fits_er g1).2 h1), g1]
          obtain ⟨_, _, r, hd⟩ := h3
          rw [Int.toNat_natCast] at hd
          rw [hd, show j - i = (cborT (er u)).length by omega, List.take_left']
          rfl
        have HF := Lib.hid (HR3.out.put (.int .i64 0) (.int .i64 0) (.int .i64 0) (.string ⟨#[]⟩) (.slice none 0 0))
        have HBF := Lib.hid (put5v_below HB3.out (Nat.le_refl _) (.int .i64 0) (.int .i64 0) (.int .i64 0) (.string ⟨#[]⟩) (.slice none 0 0))
        obtain ⟨k0, k1, k2, k3, k4, _⟩ := HF.out.c
        clear HF HR3 HB3 HT3 hq HE HX HL1 HL2 HW2 HTR
        unfold put5v at k0 k1 k2 k3 k4 HBF
        rw [he, show decide ((j : Int) < 0) = false from decide_eq_false (by omega), Bool.false_or]
        clear he
        go_wp2
        all_goals
            (refine bodyPost_ret (v := .tuple #[.agg #[.int .i64 0, .int .i64 0, .int .i64 0, .string ⟨#[]⟩, .slice none 0 0], .int .i64 (-1)]) (by simp [results, Tryd.results7, go_sem, k0, k1, k2, k3, k4]) rfl ?_
             exact ⟨.inr ⟨rfl, HBF.out, HNO.out⟩⟩)
end Go.Proofs.YtnaghafmpncdkaaDoor.cbor
/-
  impl.GetCbor at a wrong index.
-/
namespace Go.Proofs.YtnaghafmpncdkaaDoor.cbor
open Go.ChangeShapes Go.WideShapes Go.ChangeAt Go.RowKit
open Go.Proofs.YtnaghafmpncdkaaDoor.val Go.Proofs.YtnaghafmpncdkaaDoor.head
set_option maxRecDepth 100000

set_option maxHeartbeats 4000000 in
theorem impl_get_bad (s : ByteArray) (i : Int) (W : World) (hs : s.size ≤ 1048576) (hI : InI i) (hbad : badAt s i = true) (hT : simpTab.Tab W) (hU : signs.Tabs W) :
    Calls Tryd.prog 8 #[.string s, .int .i64 i] W fun e w' => Res W w' s i e := by
  have CR0 := Lib.hid (fun W => reader_any s i W hs)
  rw [hbad] at CR0
  have HB := Lib.hid ((Below.refl W.heap.size W).alloc (Nat.le_refl _) (.cells #[.int .i64 0, .int .i64 0, .int .i64 0, .string ⟨#[]⟩, .slice none 0 0] 24))
  have HR := Lib.hid (V5.new W (.int .i64 0) (.int .i64 0) (.int .i64 0) (.string ⟨#[]⟩) (.slice none 0 0))
  go_enter Tryd.func8, Tryd.ntmps8
  go_wp2_with fail
  with_reducible refine (CR0.out _).mono ?_
  rintro r w1 ⟨rfl, hb1⟩
  replace HB := Lib.hid (below_of2 HB.out hb1)
  replace HR := Lib.hid (HR.out.behind hb1)
  clear hb1 CR0
  go_upto_region 2 with (fail)
  have hC : CR (w1.alloc (.cells #[.string s, .int .i64 i, .bool true, .bool false, .int .i64 0] 53)) w1.heap.size s i true 0 := ⟨heap_alloc_new w1 _⟩
  have hAL : Below w1.heap.size w1 (w1.alloc (.cells #[.string s, .int .i64 i, .bool true, .bool false, .int .i64 0] 53)) := (Below.refl _ w1).alloc (Nat.le_refl _) _
  have hwz : W.heap.size + 1 ≤ w1.heap.size := by have := (Array.getElem?_eq_some_iff.1 HR.out.row).1; omega
  have hWr := HB.out.trans (hAL.mono HB.out.size)
  replace HR := Lib.hid (HR.out.behind hAL)
  have hgl := hT.lt
  have hTR : simpTab.Tab (w1.alloc (.cells #[.string s, .int .i64 i, .bool true, .bool false, .int .i64 0] 53)) := hT.below hgl hWr
  have HWR := Lib.hid hWr
  generalize hWRe : w1.alloc (.cells #[.string s, .int .i64 i, .bool true, .bool false, .int .i64 0] 53) = WR at *
  have hlb : w1.heap.size < WR.heap.size := hC.lt
  generalize w1.heap.size = b at *
  clear HB hAL hWr hWRe
  have C := Lib.hid (value_bad WR b s i hs hbad hC)
  have HNO : Hid (∀ t : LT, FitsC t → FitV (er t) → ¬ StandsAt s i (er t)) := fun t _ _ ⟨h1, h2, _⟩ => bad_iff hbad ⟨h1, h2⟩
  unfold leaf at C
  clear hC hT hU hTR hbad hgl
  go_wp2_with fail
  with_reducible refine C.out.mono ?_
  rintro r w2 ⟨rfl, J, hr⟩
  replace HR := Lib.hid (HR.out.only hr.only (by omega))
  have HB := Lib.hid (below_only HWR.out hr.only (by omega))
  have HC := Lib.hid hr.rd
  clear C hr HWR
  go_upto_region 3 with (fail)
  have hAL : Below w2.heap.size w2 (w2.alloc (.cells #[.int .i64 0, .int .i64 0, .int .i64 0, .string ⟨#[]⟩, .slice none 0 0] 24)) := (Below.refl _ w2).alloc (Nat.le_refl _) _
  replace HR := Lib.hid (HR.out.behind hAL)
  replace HB := Lib.hid (below_of2 HB.out hAL)
  replace HC := Lib.hid (Rd.alloc HC.out (.cells #[.int .i64 0, .int .i64 0, .int .i64 0, .string ⟨#[]⟩, .slice none 0 0] 24))
  have HV := Lib.hid (V5.new w2 (.int .i64 0) (.int .i64 0) (.int .i64 0) (.string ⟨#[]⟩) (.slice none 0 0))
  clear hAL
  generalize w2.alloc (.cells #[.int .i64 0, .int .i64 0, .int .i64 0, .string ⟨#[]⟩, .slice none 0 0] 24) = WV at *
  generalize w2.heap.size = N5 at *
  have c2 := HC.out.c2
  have HF := Lib.hid (HR.out.put (.int .i64 0) (.int .i64 0) (.int .i64 0) (.string ⟨#[]⟩) (.slice none 0 0))
  have HBF := Lib.hid (put5v_below HB.out (Nat.le_refl _) (.int .i64 0) (.int .i64 0) (.int .i64 0) (.string ⟨#[]⟩) (.slice none 0 0))
  obtain ⟨q0, q1, q2, q3, q4, qf⟩ := HR.out.c
  obtain ⟨r0, r1, r2, r3, r4, rf⟩ := HV.out.c
  obtain ⟨k0, k1, k2, k3, k4, _⟩ := HF.out.c
  clear HF HR HV HC HB
  unfold put5v at k0 k1 k2 k3 k4 HBF
  go_wp2
  refine bodyPost_ret (v := .tuple #[.agg #[.int .i64 0, .int .i64 0, .int .i64 0, .string ⟨#[]⟩, .slice none 0 0], .int .i64 (-1)]) (by simp [results, Tryd.results8, go_sem, k0, k1, k2, k3, k4]) rfl ?_
  exact ⟨.inr ⟨rfl, HBF.out, HNO.out⟩⟩
end Go.Proofs.YtnaghafmpncdkaaDoor.cbor
