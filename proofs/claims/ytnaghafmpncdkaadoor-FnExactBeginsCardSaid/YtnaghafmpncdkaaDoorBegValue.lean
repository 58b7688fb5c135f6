/-
  impl's reader of heads: passValue.
-/
import Derived.Test.YtnaghafmpncdkaaDoorBegNext
import Derived.Test.YtnaghafmpncdkaaDoorBegPass
namespace Go.Proofs.YtnaghafmpncdkaaDoor.beg
open Go.ChangeShapes Go.WideShapes Go.ChangeAt Go.RowKit
open Go.Proofs.YtnaghafmpncdkaaDoor.head
set_option maxRecDepth 100000

theorem pret_bad {W w' : World} {b : Nat} {s : ByteArray} {v : Value} {J : Int} {bad : Bool} {c l : Int} (h : PX W w' b s J bad c) : PRet W w' b s v (-1, l) (.returned (noE v)) :=
  ⟨by unfold errOf; rw [if_neg (by simp), if_neg (by simp)], J, bad, c, h, fun h => by simp at h⟩
theorem pret_cut {W w' : World} {b : Nat} {s : ByteArray} {v : Value} {J : Int} {bad : Bool} {c l : Int} (h : PX W w' b s J bad c) : PRet W w' b s v (-2, l) (.returned cutE) :=
  ⟨by unfold errOf; rw [if_neg (by simp), if_pos (by simp)], J, bad, c, h, fun h => by simp at h⟩
theorem pret_ok {W w' : World} {b : Nat} {s : ByteArray} {v : Value} {J : Nat} {c l : Int} (h : PX W w' b s J false c) (hc : c = 1204 - l) : PRet W w' b s v ((J : Int), l) (.returned .nilIface) :=
  ⟨by rw [err_ok v (by simp)], J, false, c, h, fun _ => ⟨rfl, rfl, hc⟩⟩
theorem PRet.before {W w1 w2 : World} {b : Nat} {s : ByteArray} {v : Value} {r : Int × Int} {e : Ending} {j : Int} {bad : Bool} {c : Int} (h : PX W w1 b s j bad c) (k : PRet w1 w2 b s v r e) : PRet W w2 b s v r e := by
  obtain ⟨h1, J, bd, c', h2, h3⟩ := k
  exact ⟨h1, J, bd, c', h.trans h2, h3⟩
theorem head_leaf {s : ByteArray} {f : Nat → Nat → Int × Int} {m n X L : Nat} (hm : m ≤ 1 ∨ m = 7) (hu : ¬ Unfit m n) : headW s f m n X L = ((X : Int), (L : Int)) := by
  unfold Unfit great at hu
  unfold headW
  rcases (show m = 0 ∨ m = 1 ∨ m = 7 by omega) with rfl | rfl | rfl <;> simp at hu ⊢ <;> omega
theorem head_cut {s : ByteArray} {f : Nat → Nat → Int × Int} {m n X L : Nat} (hm : m = 2 ∨ m = 3) (hu : ¬ Unfit m n) (hn : s.size - X < n) : headW s f m n X L = (-2, (L : Int)) := by
  unfold Unfit great at hu
  unfold headW
  rcases hm with rfl | rfl <;> simp at hu ⊢ <;> (rw [if_neg (by omega), if_pos (by omega)])
theorem head_pass {s : ByteArray} {f : Nat → Nat → Int × Int} {m n X L : Nat} (hm : m = 2 ∨ m = 3) (hu : ¬ Unfit m n) (hn : ¬ s.size - X < n) : headW s f m n X L = (((X + n : Nat) : Int), (L : Int)) := by
  unfold Unfit great at hu
  unfold headW
  rcases hm with rfl | rfl <;> simp at hu ⊢ <;> (rw [if_neg (by omega), if_neg (by omega)])
theorem head_list {s : ByteArray} {f : Nat → Nat → Int × Int} {m n X L : Nat} (hm : m = 4) (hu : ¬ Unfit m n) : headW s f m n X L = loopW f n X L := by
  unfold Unfit great at hu
  unfold headW
  subst hm
  simp at hu ⊢
  omega
theorem head_map {s : ByteArray} {f : Nat → Nat → Int × Int} {m n X L : Nat} (hm : m = 5) (hu : ¬ Unfit m n) : headW s f m n X L = loopW f (2 * n) X L := by
  unfold Unfit great at hu
  unfold headW
  subst hm
  simp at hu ⊢
  omega
theorem head_tag {s : ByteArray} {f : Nat → Nat → Int × Int} {m n X L : Nat} (hm : m = 6) (hu : ¬ Unfit m n) : headW s f m n X L = loopW f 1 X L := by
  unfold Unfit great at hu
  unfold headW
  subst hm
  simp at hu ⊢
  omega
set_option maxHeartbeats 2000000 in
/-- Too many, too deep. -/
theorem val_end {W : World} {b : Nat} {s : ByteArray} {v : Value} {i left d : Nat} {l : Int} (hl : left ≤ 1204) (hD : d ≤ 100) (h : PR W b s i false ((1204 - left : Nat) : Int)) (hK : Kit W v) (hO : Off b) (hx : left = 0 ∨ 14 < d) :
    Calls Tryd.prog 66 #[.pointer (some ⟨b, 0, none⟩), .int .i64 d] W fun e w' => PRet W w' b s v (-1, l) e := by
  have c3 := PR.c3 h
  have f3 := h.fr 3
  have H1 := Lib.hid (PR.count h (((1204 - left : Nat) : Int) + 1))
  have d3 := PR.c3 H1.out.rd
  have nv := (hK.only H1.out.only hO).no
  unfold noE at nv
  obtain ⟨C, hC⟩ : ∃ C : Nat, 1204 - left = C := ⟨_, rfl⟩
  rw [hC] at c3 d3 H1 nv
  have e0 : C ≤ 1204 := by omega
  rcases hx with hx | hx
  · have p0 : (1204 : Int) < (C : Int) + 1 := by omega
    clear h hK hO hx hl hC
    go_enter Tryd.func66, Tryd.ntmps66
    go_wp2
    go_ret
    exact pret_bad H1.out
  · have p1 : (14 : Int) < (d : Int) := by omega
    clear h hK hO hx hl hC
    go_enter Tryd.func66, Tryd.ntmps66
    go_wp2
    all_goals go_ret
    all_goals exact pret_bad H1.out
set_option maxHeartbeats 8000000 in
/-- A value that may be read. -/
theorem val_step {d : Nat} (IH : PV (d + 1)) (hD : d ≤ 14) {W : World} {b : Nat} {s : ByteArray} {v : Value} {i left : Nat} (hs : s.size ≤ 1048576) (hi : i ≤ s.size) (hl : left ≤ 1204) (hl0 : left ≠ 0) (h : PR W b s i false ((1204 - left : Nat) : Int)) (hK : Kit W v) (hO : Off b) :
    Calls Tryd.prog 66 #[.pointer (some ⟨b, 0, none⟩), .int .i64 d] W fun e w' => PRet W w' b s v (wk s (15 - d) i left) e := by
  obtain ⟨L, rfl⟩ : ∃ L : Nat, left = L + 1 := ⟨left - 1, by omega⟩
  obtain ⟨C, hC⟩ : ∃ C : Nat, 1204 - (L + 1) = C := ⟨_, rfl⟩
  rw [hC] at h
  have c3 := PR.c3 h
  have f3 := h.fr 3
  have H1 := Lib.hid (PR.count h ((C : Int) + 1))
  have d3 := PR.c3 H1.out.rd
  have HK1 := Lib.hid (hK.only H1.out.only hO)
  have HK0 := Lib.hid hK
  have CN := Lib.hid (next_all (c := C + 1) hs hi (by have := H1.out.rd; simpa using this) HK1.out hO)
  have HN : Hid (C + 1 + L = 1204) := by unfold Hid; omega
  have e0 : C ≤ 1204 := by omega
  have p0 : ¬ (1204 : Int) < (C : Int) + 1 := by omega
  have p1 : ¬ (14 : Int) < (d : Int) := by omega
  have hlt := h.lt
  have HSZ := Lib.hid hs
  have HI := Lib.hid hi
  have IHH := Lib.hid IH
  have HO := Lib.hid hO
  have hdd : d ≤ 14 := hD
  obtain ⟨R, hR⟩ : ∃ R, wk s (15 - d) i (L + 1) = R := ⟨_, rfl⟩
  rw [hR]
  rw [show 15 - d = (14 - d) + 1 by omega, wk, if_neg (by omega), Nat.add_sub_cancel] at hR
  have HR := Lib.hid hR
  clear h hK hO hs hi hl hl0 hC IH hR
  go_enter Tryd.func66, Tryd.ntmps66
  go_wp2_with fail
  with_reducible refine CN.out.mono ?_
  rintro e w2 ⟨m, n, o, J, bad, er, rfl, hx, hy⟩
  replace hx : PX W w2 b s J bad ((C + 1 : Nat) : Int) := PX.trans H1.out hx
  have HX := Lib.hid (hx.more (.cells #[.int .i64 m, .int .u64 n, .bool o] 87))
  have HH := Lib.hid (Hd.new w2 m n o)
  have hz : W.heap.size ≤ w2.heap.size := hx.only.size
  unfold hd
  clear CN H1 hx c3 f3 d3
  rcases hy with ⟨hc, rfl⟩ | ⟨hc, rfl, hu⟩ | ⟨hc, rfl, rfl, rfl, hg, h8, hu⟩
  · have HF : Hid (R = (-2, (L : Int))) := by
      rw [← HR.out, if_pos hc]
      unfold Hid
      simp
    unfold cutE
    go_wp2
    go_ret
    rw [HF.out]
    exact pret_cut HX.out
  · have HF : Hid (R = (-1, (L : Int))) := by
      rw [← HR.out, if_neg hc]
      unfold Hid
      rcases hu with hu | ⟨m, n, X, hg, h8, hu⟩
      · rw [if_pos hu]; simp
      · rw [hg, if_neg (by simp only; omega)]
        simp only [Int.toNat_natCast]
        exact unfit_head h8 hu
    unfold noE
    clear hu
    go_wp2
    go_ret
    rw [HF.out]
    exact pret_bad HX.out
  · obtain ⟨X, rfl, hX1, hX2⟩ : ∃ X : Nat, J = X ∧ i < X ∧ X ≤ s.size := by
      by_cases hq : (getHead s i).2.2 < 0
      · have := head_none_of hq
        rw [hg] at this
        exact absurd (congrArg Prod.fst this) (by simp only; omega)
      · obtain ⟨m', n', X, he, _, _, g1, g2, _⟩ := get_next hq
        rw [hg] at he
        exact ⟨X, congrArg (fun p => p.2.2) he, g1, g2⟩
    have HF : Hid (R = headW s (wk s (14 - d)) m n X L) := by
      unfold Hid
      rw [← HR.out, if_neg hc, hg, if_neg (by simp only; omega)]
      simp only [Int.toNat_natCast]
    have HU := Lib.hid hu
    have HX2 := Lib.hid hX2
    have HK2 := Lib.hid (HK0.out.only HX.out.only HO.out)
    have HXR : Hid (PR (w2.alloc (.cells #[.int .i64 m, .int .u64 n, .bool false] 87)) b s X false ((1204 - L : Nat) : Int)) := by
      rw [show ((1204 - L : Nat) : Int) = ((C + 1 : Nat) : Int) by have := HN.out; omega]
      exact HX.out.rd
    have HL : Hid (((C + 1 : Nat) : Int) = 1204 - (L : Int) ∧ L ≤ 1204) := ⟨by have := HN.out; omega, by have := HN.out; omega⟩
    obtain ⟨e0, e1, e2, e3⟩ := HH.out.cells
    clear hu hX1 hX2 hg hc HR HK0 HK1 HN HH hz
    go_upto_region 7 with (fail)
    generalize w2.alloc (.cells #[.int .i64 m, .int .u64 n, .bool false] 87) = Q at *
    generalize w2.heap.size = N3 at *
    rcases (show m = 0 ∨ m = 1 ∨ m = 2 ∨ m = 3 ∨ m = 4 ∨ m = 5 ∨ m = 6 ∨ m = 7 by omega) with hm | hm | hm | hm | hm | hm | hm | hm
    · have q : (m : Int) = 0 := by omega
      have HF2 := Lib.hid (HF.out.trans (head_leaf (by omega) HU.out))
      clear HF HU hm
      go_wp2
      go_ret
      rw [HF2.out]
      exact pret_ok HX.out HL.out.1
    · have q : (m : Int) = 1 := by omega
      have HF2 := Lib.hid (HF.out.trans (head_leaf (by omega) HU.out))
      clear HF HU hm
      go_wp2
      go_ret
      rw [HF2.out]
      exact pret_ok HX.out HL.out.1
    · have q : (m : Int) = 2 := by omega
      by_cases hn : s.size - X < n
      · have HF2 := Lib.hid (HF.out.trans (head_cut (by omega) HU.out hn))
        have CK := Lib.hid (bytes_cut HSZ.out HX2.out hn HX.out.rd)
        clear HF HU hm hn
        go_wp2_with fail
        with_reducible refine CK.out.mono ?_
        rintro e w4 ⟨rfl, hr⟩
        have HZ := Lib.hid (PX.trans HX.out hr)
        clear CK hr
        unfold cutE
        go_wp2
        go_ret
        rw [HF2.out]
        exact pret_cut HZ.out
      · have HF2 := Lib.hid (HF.out.trans (head_pass (by omega) HU.out (by have := HX2.out; omega)))
        have CK := Lib.hid (bytes_pass (n := n) HSZ.out (by have := HX2.out; omega) HX.out.rd)
        clear HF HU hm hn
        go_wp2_with fail
        with_reducible refine CK.out.mono ?_
        rintro e w4 ⟨rfl, hr⟩
        have HZ := Lib.hid (PX.trans HX.out hr)
        clear CK hr
        go_wp2
        go_ret
        rw [HF2.out]
        exact pret_ok HZ.out HL.out.1
    · have q : (m : Int) = 3 := by omega
      by_cases hn : s.size - X < n
      · have HF2 := Lib.hid (HF.out.trans (head_cut (by omega) HU.out hn))
        have CK := Lib.hid (bytes_cut HSZ.out HX2.out hn HX.out.rd)
        clear HF HU hm hn
        go_wp2_with fail
        with_reducible refine CK.out.mono ?_
        rintro e w4 ⟨rfl, hr⟩
        have HZ := Lib.hid (PX.trans HX.out hr)
        clear CK hr
        unfold cutE
        go_wp2
        go_ret
        rw [HF2.out]
        exact pret_cut HZ.out
      · have HF2 := Lib.hid (HF.out.trans (head_pass (by omega) HU.out (by have := HX2.out; omega)))
        have CK := Lib.hid (bytes_pass (n := n) HSZ.out (by have := HX2.out; omega) HX.out.rd)
        clear HF HU hm hn
        go_wp2_with fail
        with_reducible refine CK.out.mono ?_
        rintro e w4 ⟨rfl, hr⟩
        have HZ := Lib.hid (PX.trans HX.out hr)
        clear CK hr
        go_wp2
        go_ret
        rw [HF2.out]
        exact pret_ok HZ.out HL.out.1
    · have q : (m : Int) = 4 := by omega
      have HF2 := Lib.hid (HF.out.trans (head_list hm HU.out))
      have HN3 : Hid (m = 4 ∨ m = 5 → n ≤ 300) := fun hq => by have := HU.out; unfold Unfit great at this; (repeat' split at this) <;> omega
      have CK := pass_kids IHH.out Q b s v X L n hdd HSZ.out HX2.out HL.out.2 (by have := HN3.out (by omega); omega) HXR.out HK2.out HO.out
      replace CK := Lib.hid CK
      clear HF HU hm HN3
      go_wp2_with fail
      with_reducible refine CK.out.mono ?_
      rintro e w4 hk
      obtain ⟨rfl, hk2⟩ := hk
      have HZ := Lib.hid (PRet.before (v := v) (e := .returned (errOf v (loopW (wk s (14 - d)) n X L).1)) HX.out ⟨rfl, hk2⟩)
      clear CK hk2
      generalize errOf v (loopW (wk s (14 - d)) n X L).1 = E at *
      go_wp2
      go_ret
      rw [HF2.out]
      exact HZ.out
    · have q : (m : Int) = 5 := by omega
      have HF2 := Lib.hid (HF.out.trans (head_map hm HU.out))
      have HN3 : Hid (m = 4 ∨ m = 5 → n ≤ 300) := fun hq => by have := HU.out; unfold Unfit great at this; (repeat' split at this) <;> omega
      have CK := pass_kids IHH.out Q b s v X L (2 * n) hdd HSZ.out HX2.out HL.out.2 (by have := HN3.out (by omega); omega) HXR.out HK2.out HO.out
      have hn3 : n ≤ 300 := HN3.out (by omega)
      rw [show ((2 * n : Nat) : Int) = 2 * (n : Int) by omega] at CK
      replace CK := Lib.hid CK
      clear HF HU hm HN3
      go_wp2_with fail
      with_reducible refine CK.out.mono ?_
      rintro e w4 hk
      obtain ⟨rfl, hk2⟩ := hk
      have HZ := Lib.hid (PRet.before (v := v) (e := .returned (errOf v (loopW (wk s (14 - d)) (2 * n) X L).1)) HX.out ⟨rfl, hk2⟩)
      clear CK hk2
      generalize errOf v (loopW (wk s (14 - d)) (2 * n) X L).1 = E at *
      go_wp2
      go_ret
      rw [HF2.out]
      exact HZ.out
    · have q : (m : Int) = 6 := by omega
      have HF2 := Lib.hid (HF.out.trans (head_tag hm HU.out))
      have HN3 : Hid (m = 4 ∨ m = 5 → n ≤ 300) := fun hq => by have := HU.out; unfold Unfit great at this; (repeat' split at this) <;> omega
      have CK := pass_kids IHH.out Q b s v X L 1 hdd HSZ.out HX2.out HL.out.2 (by omega) HXR.out HK2.out HO.out
      rw [show ((1 : Nat) : Int) = 1 from rfl] at CK
      replace CK := Lib.hid CK
      clear HF HU hm HN3
      go_wp2_with fail
      with_reducible refine CK.out.mono ?_
      rintro e w4 hk
      obtain ⟨rfl, hk2⟩ := hk
      have HZ := Lib.hid (PRet.before (v := v) (e := .returned (errOf v (loopW (wk s (14 - d)) 1 X L).1)) HX.out ⟨rfl, hk2⟩)
      clear CK hk2
      generalize errOf v (loopW (wk s (14 - d)) 1 X L).1 = E at *
      go_wp2
      go_ret
      rw [HF2.out]
      exact HZ.out
    · have q : (m : Int) = 7 := by omega
      have HF2 := Lib.hid (HF.out.trans (head_leaf (by omega) HU.out))
      clear HF HU hm
      go_wp2
      go_ret
      rw [HF2.out]
      exact pret_ok HX.out HL.out.1
theorem pv_step {d : Nat} (hD : d ≤ 14) (IH : PV (d + 1)) : PV d := by
  intro W b s v i left hs hi hl h hK hO
  by_cases h0 : left = 0
  · rw [show 15 - d = (14 - d) + 1 by omega, wk, if_pos h0]
    exact val_end hl (by omega) h hK hO (.inl h0)
  · exact val_step IH hD hs hi hl h0 h hK hO
theorem pv_last : PV 15 := by
  intro W b s v i left hs hi hl h hK hO
  rw [Nat.sub_self, wk]
  exact val_end hl (by omega) h hK hO (.inr (by omega))
theorem pv_any : ∀ k d, d + k = 15 → PV d
  | 0, d, h => by obtain rfl : d = 15 := by omega
                  exact pv_last
  | k + 1, d, h => pv_step (by omega) (pv_any k (d + 1) (by omega))
end Go.Proofs.YtnaghafmpncdkaaDoor.beg
