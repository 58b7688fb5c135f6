/-
  impl's reader of heads: nextHead, passBytes.
-/
import Derived.Test.YtnaghafmpncdkaaDoorBegHead
import Derived.Deep.RegionHeld3
import Derived.Deep.Cut
namespace Go.Proofs.YtnaghafmpncdkaaDoor.beg
open Go.ChangeShapes Go.WideShapes Go.ChangeAt Go.RowKit
open Go.Proofs.YtnaghafmpncdkaaDoor.head
set_option maxRecDepth 100000

theorem PX.out {W w' : World} {b : Nat} {s : ByteArray} {i : Int} {bad : Bool} {c : Int} {o : Obj} (h : PX (W.alloc o) w' b s i bad c) (hb : b < W.heap.size) : PX W w' b s i bad c := RdRet.out h hb
/-- A head stored into a young block. -/
theorem px_put {W w' : World} {b N : Nat} {s : ByteArray} {i : Int} {bad : Bool} {c : Int} (h : PX W w' b s i bad c) {m0 n0 : Int} {o0 : Bool} (hh : Hd w' N m0 n0 o0) (hN : W.heap.size ≤ N) (hb : b < W.heap.size) (m n : Int) (o : Bool) : End3 96 [.int .i64 c] W (put3 w' N m n o) b N s i bad m n o := put3_end h hh hN hb m n o
theorem _root_.Go.Proofs.YtnaghafmpncdkaaDoor.head.RdRet.drewN {T : TypeId} {xs : List Value} {W w' : World} {b : Nat} {s : ByteArray} {i : Int} {bad : Bool} (h : RdRet T xs W w' b s i bad) (n : Nat) : RdRet T xs W (w'.drewN n) b s i bad := ⟨⟨h.rd.row⟩, ⟨h.only.os, h.only.tape, h.only.output, h.only.size, h.only.block⟩⟩
theorem head_none_of {s : ByteArray} {i : Nat} (h : (getHead s i).2.2 < 0) : getHead s i = (-1, 0, -1) := by
  unfold getHead at *
  split
  · rename_i hc
    rw [if_pos hc] at h
    simp only at h
    omega
  · rfl
theorem drew_below (W : World) : Below W.heap.size W W.drew := ⟨rfl, rfl, rfl, Nat.le_refl _, fun _ _ => rfl⟩
set_option maxHeartbeats 4000000 in
theorem next_cut {W : World} {b : Nat} {s : ByteArray} {v : Value} {i c : Nat} (hs : s.size ≤ 1048576) (hi : i ≤ s.size) (h : PR W b s i false c) (hc : cutH s i) :
    Calls Tryd.prog 89 #[.pointer (some ⟨b, 0, none⟩)] W fun e w' => NX W w' b s v i c e := by
  have hlt := h.lt
  have hA := h.alloc (.cells #[.int .i64 0, .int .u64 0, .bool false] 87)
  have c0 := hA.c0
  have c1 := hA.c1
  have HH := Lib.hid (Hd.new W 0 0 false)
  have HR := Lib.hid ((PX.refl h).more (.cells #[.int .i64 0, .int .u64 0, .bool false] 87))
  have CC : ∀ W, Calls Tryd.prog 112 #[.string (s.extract i s.size)] W fun e w' => e = .returned (.bool true) ∧ Below W.heap.size W w' := fun W => by
    have := cut_in (s.extract i s.size) W (by simp [ByteArray.size_extract]; omega)
    rw [decide_eq_true ((cut_from s i hi).2 hc)] at this
    exact this
  replace CC := Lib.hid CC
  have p0 : (0 : Int) ≤ (i : Int) := by omega
  have p1 : (i : Int) ≤ (s.size : Int) := by omega
  have HC := Lib.hid hc
  clear h hA hi hc hs
  go_enter Tryd.func89, Tryd.ntmps89
  go_wp2_with fail
  generalize W.alloc (.cells #[.int .i64 0, .int .u64 0, .bool false] 87) = W1 at *
  go_region_held3 (fun w' => w'.cell? ⟨b, 0, none⟩ = some (.string s) ∧ w'.cell? ⟨b, 1, none⟩ = some (.int .i64 (i : Int))) (go_keep)
    (first | (go_at_call 112; with_reducible refine (CC.out _).mono ?_; rintro r w2 ⟨rfl, hb2⟩
              have g0 := (HR.out.rd.drew.behind hb2 HR.out.rd.lt).c0
              have g1 := (HR.out.rd.drew.behind hb2 HR.out.rd.lt).c1))
  all_goals
    have HR2 := Lib.hid (HR.out.drew.behind hb2)
    have HN2 := Lib.hid (Hd.behind (Hd.drew HH.out) hb2)
    have HE := Lib.hid (px_put HR2.out HN2.out (Nat.le_refl _) hlt 0 0 false)
    obtain ⟨n0, n1, n2, n3⟩ := HN2.out.cells
    clear CC HH HR hb2 c0 c1
    go_wp2
    obtain ⟨k0, k1, k2, _⟩ := HE.out.hd.cells
    unfold put3 at k0 k1 k2 HE
    refine bodyPost_ret (v := .tuple #[hd 0 0 false, cutE]) (by simp [results, Tryd.results89, go_sem, k0, k1, k2, hd, cutE]) rfl ?_
    exact ⟨0, 0, false, i, false, cutE, rfl, HE.out.ret, .inl ⟨HC.out, rfl⟩⟩
set_option maxHeartbeats 8000000 in
theorem next_any {W : World} {b : Nat} {s : ByteArray} {v : Value} {i c : Nat} (hs : s.size ≤ 1048576) (hi : i ≤ s.size) (h : PR W b s i false c) (hc : ¬ cutH s i) (hK : Kit W v) (hO : Off b) :
    Calls Tryd.prog 89 #[.pointer (some ⟨b, 0, none⟩)] W fun e w' => NX W w' b s v i c e := by
  have hlt := h.lt
  have hA := h.alloc (.cells #[.int .i64 0, .int .u64 0, .bool false] 87)
  have c0 := hA.c0
  have c1 := hA.c1
  have HH := Lib.hid (Hd.new W 0 0 false)
  have HR := Lib.hid ((PX.refl h).more (.cells #[.int .i64 0, .int .u64 0, .bool false] 87))
  have CC : ∀ W, Calls Tryd.prog 112 #[.string (s.extract i s.size)] W fun e w' => e = .returned (.bool false) ∧ Below W.heap.size W w' := fun W => by
    have := cut_in (s.extract i s.size) W (by simp [ByteArray.size_extract]; omega)
    rw [decide_eq_false (fun h => hc ((cut_from s i hi).1 h))] at this
    exact this
  replace CC := Lib.hid CC
  have HKK := Lib.hid hK
  have HOO := Lib.hid hO
  have HSZ := Lib.hid hs
  have HI := Lib.hid hi
  have p0 : (0 : Int) ≤ (i : Int) := by omega
  have p1 : (i : Int) ≤ (s.size : Int) := by omega
  have HC := Lib.hid hc
  clear h hA hi hc hs hK hO
  go_enter Tryd.func89, Tryd.ntmps89
  go_wp2_with fail
  generalize W.alloc (.cells #[.int .i64 0, .int .u64 0, .bool false] 87) = W1 at *
  go_region_held3 (fun w' => w'.cell? ⟨b, 0, none⟩ = some (.string s) ∧ w'.cell? ⟨b, 1, none⟩ = some (.int .i64 (i : Int))) (go_keep)
    (first | (go_at_call 112; with_reducible refine (CC.out _).mono ?_; rintro r w2 ⟨rfl, hb2⟩
              have g0 := (HR.out.rd.drew.behind hb2 HR.out.rd.lt).c0
              have g1 := (HR.out.rd.drew.behind hb2 HR.out.rd.lt).c1))
  all_goals
    have HR2 := Lib.hid (HR.out.drew.behind hb2)
    have HN2 := Lib.hid (Hd.behind (Hd.drew HH.out) hb2)
    have hz2 : W.heap.size < w2.heap.size := (Array.getElem?_eq_some_iff.1 HN2.out).1
    have CS := Lib.hid (short_pr HSZ.out HI.out HR2.out.rd)
    clear CC HH HR hb2 c0 c1 g0 g1
    go_wp2_with fail
    with_reducible refine CS.out.mono ?_
    rintro e w3 ⟨m, n, o, J, bad, rfl, hx, h64, h8, hy, hn⟩
    unfold hd
    have HR3 := Lib.hid ((HR2.out.trans hx).more (.cells #[.int .i64 m, .int .u64 n, .bool o] 87))
    have HN3 := Lib.hid (Hd.behind (HN2.out.only hx.only (by omega)) ((Below.refl _ w3).alloc (Nat.le_refl _) (.cells #[.int .i64 m, .int .u64 n, .bool o] 87)))
    have HK3 := Lib.hid (Hd.new w3 m n o)
    have HY := Lib.hid hy
    have HNO := Lib.hid hn
    have hz3 : W.heap.size < w3.heap.size := by have := hx.only.size; omega
    clear CS hx HR2 HN2 hy hn
    go_wp2_with fail
    have HKQ := Lib.hid (HKK.out.only HR3.out.only HOO.out)
    generalize w3.alloc (.cells #[.int .i64 m, .int .u64 n, .bool o] 87) = Q at *
    generalize w3.heap.size = N3 at *
    have tc : Q.cell? ⟨3, m, none⟩ = some (.int .u64 (great m : Nat)) := by
      rw [HKQ.out.tab.at m h8]
      unfold great
      (repeat' split) <;> rfl
    have nv := HKQ.out.no
    unfold noE at nv
    have HNG : Hid (1 < W.heap.size) := World.block_lt_of_cell? W _ HKK.out.no
    obtain ⟨e0, e1, e2, e3⟩ := HK3.out.cells
    obtain ⟨n0, n1, n2, n3⟩ := HN3.out.cells
    have r2 := HR3.out.rd.c2
    have hm0 : (0 : Int) ≤ (m : Int) := by omega
    have hm8 : (m : Int) < 8 := by omega
    have hmt : (m : Int).toNat = m := by omega
    obtain ⟨G, hG⟩ : ∃ G, great m = G := ⟨_, rfl⟩
    have HU : Hid (Unfit m n ↔ G < n ∨ (m = 7 ∧ n < 20)) := by rw [← hG]; exact Iff.rfl
    rw [hG] at tc
    clear hG HKK HKQ HSZ HI HOO p0 p1
    clear n0 n1 n2 n3
    have hne : ¬ 1 = W.heap.size := by
      have := HNG.out
      omega
    have hne2 : ¬ W.heap.size = 1 := fun e => hne e.symm
    cases bad with
    | true =>
      have HB : Hid ((getHead s i).2.2 < 0 ∨ ∃ m n X : Nat, getHead s i = ((m : Int), n, (X : Int)) ∧ m < 8 ∧ Unfit m n) := .inl (by rw [HNO.out rfl]; decide)
      clear HY HNO HU HK3
      · skip
        go_quiet (fail)
        have nv2 : (Q.drewN nq).cell? ⟨1, 0, none⟩ = some (.iface 212 v) := nv
        have HRQ := Lib.hid (HR3.out.drewN nq)
        have HNQ : Hid (Hd (Q.drewN nq) W.heap.size 0 0 false) := HN3.out
        obtain ⟨n0, n1, n2, n3⟩ := HNQ.out.cells
        clear HR3 HN3
        generalize Q.drewN nq = Q2 at *
        have HE := Lib.hid (px_put HRQ.out HNQ.out (Nat.le_refl _) hlt 0 0 false)
        go_wp2
        go_region
        all_goals go_wp2
        all_goals
          obtain ⟨k0, k1, k2, _⟩ := (Hd.drew HE.out.hd).cells
          unfold put3 at k0 k1 k2 HE
          refine bodyPost_ret (v := .tuple #[hd 0 0 false, noE v]) (by simp [results, Tryd.results89, go_sem, k0, k1, k2, hd, noE]) rfl ?_
          exact ⟨0, 0, false, J, true, noE v, rfl, HE.out.ret.drew, .inr (.inl ⟨HC.out, rfl, HB.out⟩)⟩
    | false =>
      have HYY := Lib.hid (HY.out rfl)
      clear HY
      have hj : Hid (∃ X : Nat, J = X) := by
        have h1 := HYY.out.1
        by_cases hq : (getHead s i).2.2 < 0
        · have := head_none_of hq
          rw [h1] at this
          exact absurd (congrArg Prod.fst this) (by simp only; omega)
        · obtain ⟨m', n', X, he, _⟩ := get_next hq
          rw [h1] at he
          exact ⟨X, congrArg (fun p => p.2.2) he⟩
      by_cases hg : G < n
      · have HB : Hid ((getHead s i).2.2 < 0 ∨ ∃ m n X : Nat, getHead s i = ((m : Int), n, (X : Int)) ∧ m < 8 ∧ Unfit m n) := .inr (by obtain ⟨X, rfl⟩ := hj.out; exact ⟨m, n, X, HYY.out.1, h8, HU.out.2 (.inl hg)⟩)
        have g1 : (G : Int) < (n : Int) := by omega
        clear HYY HNO HU HK3 hj hg
        go_quiet (fail)
        have nv2 : (Q.drewN nq).cell? ⟨1, 0, none⟩ = some (.iface 212 v) := nv
        have HRQ := Lib.hid (HR3.out.drewN nq)
        have HNQ : Hid (Hd (Q.drewN nq) W.heap.size 0 0 false) := HN3.out
        obtain ⟨n0, n1, n2, n3⟩ := HNQ.out.cells
        clear HR3 HN3
        generalize Q.drewN nq = Q2 at *
        have HE := Lib.hid (px_put HRQ.out HNQ.out (Nat.le_refl _) hlt 0 0 false)
        go_wp2
        go_region
        all_goals go_wp2
        all_goals
          obtain ⟨k0, k1, k2, _⟩ := (Hd.drew HE.out.hd).cells
          unfold put3 at k0 k1 k2 HE
          refine bodyPost_ret (v := .tuple #[hd 0 0 false, noE v]) (by simp [results, Tryd.results89, go_sem, k0, k1, k2, hd, noE]) rfl ?_
          exact ⟨0, 0, false, J, false, noE v, rfl, HE.out.ret.drew, .inr (.inl ⟨HC.out, rfl, HB.out⟩)⟩
      · have g1 : ¬ (G : Int) < (n : Int) := by omega
        by_cases h7 : m = 7
        · by_cases h20 : n < 20
          · have HB : Hid ((getHead s i).2.2 < 0 ∨ ∃ m n X : Nat, getHead s i = ((m : Int), n, (X : Int)) ∧ m < 8 ∧ Unfit m n) := .inr (by obtain ⟨X, rfl⟩ := hj.out; exact ⟨m, n, X, HYY.out.1, h8, HU.out.2 (.inr ⟨h7, h20⟩)⟩)
            have g2 : (n : Int) < 20 := by omega
            have g3 : (m : Int) = 7 := by omega
            have tc7 : Q.cell? ⟨3, 7, none⟩ = some (.int .u64 (G : Nat)) := by rw [h7] at tc; exact tc
            clear HYY HNO HU HK3 hj hg h20 h7
            go_quiet (fail)
            have nv2 : (Q.drewN nq).cell? ⟨1, 0, none⟩ = some (.iface 212 v) := nv
            have HRQ := Lib.hid (HR3.out.drewN nq)
            have HNQ : Hid (Hd (Q.drewN nq) W.heap.size 0 0 false) := HN3.out
            obtain ⟨n0, n1, n2, n3⟩ := HNQ.out.cells
            clear HR3 HN3
            generalize Q.drewN nq = Q2 at *
            have HE := Lib.hid (px_put HRQ.out HNQ.out (Nat.le_refl _) hlt 0 0 false)
            go_wp2
            go_region
            all_goals go_wp2
            all_goals
              obtain ⟨k0, k1, k2, _⟩ := (Hd.drew HE.out.hd).cells
              unfold put3 at k0 k1 k2 HE
              refine bodyPost_ret (v := .tuple #[hd 0 0 false, noE v]) (by simp [results, Tryd.results89, go_sem, k0, k1, k2, hd, noE]) rfl ?_
              exact ⟨0, 0, false, J, false, noE v, rfl, HE.out.ret.drew, .inr (.inl ⟨HC.out, rfl, HB.out⟩)⟩
          · have HF : Hid (¬ Unfit m n) := fun hu => by have := HU.out.1 hu; omega
            have g2 : ¬ (n : Int) < 20 := by omega
            have g3 : (m : Int) = 7 := by omega
            have tc7 : Q.cell? ⟨3, 7, none⟩ = some (.int .u64 (G : Nat)) := by rw [h7] at tc; exact tc
            clear HNO HU hj hg h20 h7
            go_quiet (fail)
            have HRQ := Lib.hid (HR3.out.drewN nq)
            have HNQ : Hid (Hd (Q.drewN nq) W.heap.size 0 0 false) := HN3.out
            have HKQ : Hid (Hd (Q.drewN nq) N3 m n o) := HK3.out
            obtain ⟨n0, n1, n2, n3⟩ := HNQ.out.cells
            obtain ⟨e0, e1, e2, e3⟩ := HKQ.out.cells
            clear HR3 HN3 HK3
            generalize Q.drewN nq = Q2 at *
            have HE := Lib.hid (px_put HRQ.out HNQ.out (Nat.le_refl _) hlt m n o)
            simp only [g3] at HE
            go_wp2
            obtain ⟨k0, k1, k2, _⟩ := HE.out.hd.cells
            unfold put3 at k0 k1 k2 HE
            refine bodyPost_ret (v := .tuple #[.agg #[.int .i64 7, .int .u64 n, .bool o], .nilIface]) (by simp [results, Tryd.results89, go_sem, k0, k1, k2, hd]) rfl ?_
            exact ⟨m, n, o, J, false, .nilIface, by unfold hd; rw [g3], HE.out.ret, .inr (.inr ⟨HC.out, rfl, HYY.out.2, rfl, HYY.out.1, h8, HF.out⟩)⟩
        · have HF : Hid (¬ Unfit m n) := fun hu => by have := HU.out.1 hu; omega
          have g2 : ¬ (m : Int) = 7 := by omega
          clear HNO HU hj hg h7
          go_quiet (fail)
          have HRQ := Lib.hid (HR3.out.drewN nq)
          have HNQ : Hid (Hd (Q.drewN nq) W.heap.size 0 0 false) := HN3.out
          have HKQ : Hid (Hd (Q.drewN nq) N3 m n o) := HK3.out
          obtain ⟨n0, n1, n2, n3⟩ := HNQ.out.cells
          obtain ⟨e0, e1, e2, e3⟩ := HKQ.out.cells
          clear HR3 HN3 HK3
          generalize Q.drewN nq = Q2 at *
          have HE := Lib.hid (px_put HRQ.out HNQ.out (Nat.le_refl _) hlt m n o)
          go_wp2
          obtain ⟨k0, k1, k2, _⟩ := HE.out.hd.cells
          unfold put3 at k0 k1 k2 HE
          refine bodyPost_ret (v := .tuple #[hd m n o, .nilIface]) (by simp [results, Tryd.results89, go_sem, k0, k1, k2, hd]) rfl ?_
          exact ⟨m, n, o, J, false, .nilIface, rfl, HE.out.ret, .inr (.inr ⟨HC.out, rfl, HYY.out.2, rfl, HYY.out.1, h8, HF.out⟩)⟩
theorem next_all {W : World} {b : Nat} {s : ByteArray} {v : Value} {i c : Nat} (hs : s.size ≤ 1048576) (hi : i ≤ s.size) (h : PR W b s i false c) (hK : Kit W v) (hO : Off b) :
    Calls Tryd.prog 89 #[.pointer (some ⟨b, 0, none⟩)] W fun e w' => NX W w' b s v i c e := by
  by_cases hc : cutH s i
  · exact next_cut hs hi h hc
  · exact next_any hs hi h hc hK hO
end Go.Proofs.YtnaghafmpncdkaaDoor.beg
