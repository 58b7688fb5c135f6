/-
  What spec.GetPath returns: the steps of a pointer's text. For texts of at most 1048576 bytes.
-/
import Derived.Test.YtkjffifdlckljaaDoorPathGet
import Derived.Test.YtkjffifdlckljaaDoorPathSpec
import Derived.Test.YtkjffifdlckljaaDoorApp3
namespace Go.Proofs.YtkjffifdlckljaaDoor.path
open Go.ChangeShapes Go.WideShapes Go.ChangeAt Go.RowKit
open Go.Proofs.YtkjffifdlckljaaDoor.strs (encS oneS ReadS)
set_option maxRecDepth 100000

theorem infoS2 : (Tryd.prog.info? 9).map (fun i => (i.zero, i.size, i.bytes)) = some (some (.string ⟨#[]⟩), 1, 16) := by kernel_rfl
/-- What has been read of the bytes ahead of k. -/
structure Rd (s : ByteArray) (k : Nat) (out : List ByteArray) : Prop where
  rest : decS (s.data.toList.drop k) out = gotS s
  size : ∀ x ∈ out, x.size ≤ k
  len : out.length ≤ k
  any : 0 < k → 0 < out.length
theorem Rd.start (s : ByteArray) : Rd s 0 [] := ⟨by unfold gotS; rw [List.drop_zero], fun x h => by simp at h, Nat.le_refl _, fun h => by omega⟩
theorem drop_at (s : ByteArray) (k : Nat) (h : k < s.size) : s.data.toList.drop k = s[k] :: s.data.toList.drop (k + 1) := List.drop_eq_getElem_cons (by simpa using h)
theorem snoc_of {out : List ByteArray} (h : 0 < out.length) : ∃ pre x, out = pre ++ [x] := by
  refine ⟨out.dropLast, out.getLast (List.ne_nil_of_length_pos h), ?_⟩
  rw [List.dropLast_concat_getLast]
theorem Rd.slash {s : ByteArray} {k : Nat} {out : List ByteArray} (h : Rd s k out) (hk : k < s.size) (hc : s[k] = 47) : Rd s (k + 1) (out ++ [⟨#[]⟩]) := by
  refine ⟨?_, fun x hx => ?_, by rw [List.length_append, List.length_singleton]; have := h.len; omega, fun _ => by simp⟩
  · have := h.rest
    rw [drop_at s k hk, hc, decS_slash] at this
    exact this
  · rcases List.mem_append.1 hx with hx | hx
    · have := h.size x hx; omega
    · rw [List.mem_singleton] at hx; subst hx; exact Nat.zero_le _
theorem Rd.snoc {s : ByteArray} {k k' : Nat} {pre : List ByteArray} {x : ByteArray} {b : UInt8} (h : Rd s k (pre ++ [x])) (hk : k < k') (hr : decS (s.data.toList.drop k') (apd (pre ++ [x]) b) = decS (s.data.toList.drop k) (pre ++ [x])) : Rd s k' (pre ++ [x ++ ⟨#[b]⟩]) := by
  rw [apd_snoc] at hr
  refine ⟨hr.trans h.rest, fun y hy => ?_, ?_, fun _ => by simp⟩
  · rcases List.mem_append.1 hy with hy | hy
    · have := h.size y (List.mem_append_left _ hy); omega
    · rw [List.mem_singleton] at hy
      subst hy
      have := h.size x (by simp)
      rw [ByteArray.size_append]
      show x.size + 1 ≤ k'
      omega
  · have := h.len
    rw [List.length_append, List.length_singleton] at this ⊢
    omega
theorem Rd.other {s : ByteArray} {k : Nat} {pre : List ByteArray} {x : ByteArray} (h : Rd s k (pre ++ [x])) (hk : k < s.size) (hc : s[k] ≠ 47) (h2 : s[k] ≠ 126) : Rd s (k + 1) (pre ++ [x ++ ⟨#[s[k]]⟩]) :=
  h.snoc (by omega) (by rw [drop_at s k hk, decS_other hc h2])
theorem Rd.last {s : ByteArray} {k : Nat} {pre : List ByteArray} {x : ByteArray} (h : Rd s k (pre ++ [x])) (hk : k < s.size) (hc : s[k] = 126) (hn : ¬ k + 1 < s.size) : Rd s (k + 1) (pre ++ [x ++ ⟨#[126]⟩]) :=
  h.snoc (by omega) (by
    have e : s.data.toList.drop (k + 1) = [] := List.drop_eq_nil_of_le (by simp; omega)
    rw [drop_at s k hk, e, hc, decS_last])
theorem Rd.pair {s : ByteArray} {k : Nat} {pre : List ByteArray} {x : ByteArray} (h : Rd s k (pre ++ [x])) (hk : k < s.size) (hc : s[k] = 126) (hn : k + 1 < s.size) {b : UInt8} (hb : b = if s[k + 1] = 49 then 47 else 126) : Rd s (k + 2) (pre ++ [x ++ ⟨#[b]⟩]) :=
  h.snoc (by omega) (by rw [drop_at s k hk, drop_at s (k + 1) hn, hc, decS_tilde, hb])
theorem one_byte (s : ByteArray) (k : Nat) (h : k < s.size) : s.extract k (k + 1) = ⟨#[s[k]]⟩ := by
  apply ByteArray.ext
  apply Array.toList_inj.1
  rw [Lib.extract_data, show k + 1 - k = 1 by omega, drop_at s k h]
  rfl
theorem set_last (pre : List ByteArray) (x y : ByteArray) : (pre ++ [x]).set pre.length y = pre ++ [y] := by
  rw [List.set_append_right _ _ (Nat.le_refl _), Nat.sub_self]; rfl
set_option maxHeartbeats 2000000 in
theorem spec_get (s : ByteArray) (w : World) (hs : s.size ≤ 1048576) : GetC 23 s w := by
  obtain ⟨i0, hi0, hz0, hz1, hz2⟩ := info_parts infoS2
  unfold GetC
  rw [← res_is]
  have CP : Hid (∀ W b v, Rd s s.size (gotS s) → OwnL W b 9 encS v (gotS s) → Calls Tryd.prog 19 #[v] W fun e w' => e = .returned (.string (putP (gotS s))) ∧ Below W.heap.size W w') := fun W b v hR ho => by
    obtain ⟨a, c, g, r⟩ := strs.readS_of ho
    exact spec_put _ v a c g W (Nat.le_trans hR.len hs) (fun j hj => Nat.le_trans (hR.size _ (List.getElem_mem hj)) hs) r
  have HY := Lib.hid (res_yes (s := s) (g := gotS s))
  have HN := Lib.hid (res_no (s := s) (g := gotS s))
  have HX : Hid (∀ c r, s.data.toList = c :: r → c ≠ 47 → resOf (gotS s) s = ([], false)) := fun c r h h2 => res_none h h2 _
  have H0 := Lib.hid (Rd.start s)
  generalize resOf (gotS s) s = RES at *
  go_enter Tryd.func23, Tryd.ntmps23
  go_wp2
  go_loopw [4, 5] (fun v i wr => ∃ (k g c : Nat) (out : List ByteArray), k ≤ s.size ∧ i = .int .i64 k ∧ v = .slice (some ⟨g, 0, none⟩) out.length c ∧ Hid (OwnL wr w.heap.size 9 encS (.slice (some ⟨g, 0, none⟩) out.length c) out) ∧ Hid (Rd s k out) ∧ Hid (Below w.heap.size w wr)) (fun _ i _ => s.size - (intOf i).toNat)
  case atStart => exact ⟨0, w.heap.size, 0, [], Nat.zero_le _, rfl, rfl, OwnL.empty _ _ _ (Nat.le_refl _), H0, (Below.refl _ _).alloc (Nat.le_refl _) _⟩
  case round =>
    clear H0
    obtain ⟨k, g, c, out, hk, rfl, rfl, HO, HR, HB⟩ := hrel
    have hsz := HB.out.size
    have hol := HR.out.len
    by_cases hlt : k < s.size
    · have hk0 : (0 : Int) ≤ (k : Int) := by omega
      have hk1 : (k : Int) < (s.size : Int) := by omega
      clear CP HY HN
      by_cases h47 : s[k] = 47
      · have q1 : ((s[k].toNat : Int) == 47) = true := by rw [h47]; rfl
        have HR1 := Lib.hid (HR.out.slash hlt h47)
        have HL := Lib.hid (lit_one wr 9 encS (⟨#[]⟩ : ByteArray))
        unfold encS at HL
        have hbs : w.heap.size ≤ (wr.alloc (.cells #[.string ⟨#[]⟩] 9)).heap.size := by simp; omega
        clear h47 HX HR
        go_wp2_with (first
          | (at_builtin; refine wpList_app3 (by rfl) _ _ _ (by rfl) w.heap.size 9 encS i0 _ 16 Tryd.underlying33 hi0 hz0 hz1 hz2 rfl oneS g c out out.length rfl (by rfl) (HO.out.alloc _) 0 wr.heap.size 1 [⟨#[]⟩] 1 rfl (by rfl) HL.out (by unfold maxLen; omega) (by omega) hbs ?_; intro g' c' w5 hown5 hg5 hgg5))
        have hB5 : Below w.heap.size w w5 := grown_below (HB.out.alloc (by omega) _) hbs (HO.out.alloc _) hg5
        have hl5 : (out ++ [(⟨#[]⟩ : ByteArray)]).length = out.length + 1 := by simp
        go_roundw
        case rel => exact ⟨k + 1, g', c', out ++ [⟨#[]⟩], by omega, by go_num, by rw [hl5], by rw [hl5]; exact hown5, HR1, hB5⟩
        case measure => simp [intOf]; omega
      · have q1 : ((s[k].toNat : Int) == 47) = false := by
          rw [beq_eq_false_iff_ne]
          exact fun e => h47 (UInt8.toNat_inj.1 (by have : (47 : UInt8).toNat = 47 := rfl; omega))
        by_cases hn : out.length = 0
        · have hk00 : k = 0 := by
            rcases Nat.eq_zero_or_pos k with h | h
            · exact h
            · have := HR.out.any h; omega
          have HE : Hid (RES = ([], false)) := HX.out s[k] _ (by have := drop_at s k hlt; rw [← this]; subst hk00; rfl) h47
          have q0 : ((out.length : Int) == 0) = true := by rw [beq_iff_eq]; omega
          clear h47 HX HR HO hn hk00
          go_wp2
          go_ret2
          exact ⟨_, by rw [HE.out]; rfl, by rw [HE.out]; exact OwnL.empty _ _ _ hsz, HB.out.alloc hsz _⟩
        · have q0 : ((out.length : Int) == 0) = false := by rw [beq_eq_false_iff_ne]; omega
          obtain ⟨pre, x, rfl⟩ := snoc_of (out := out) (by omega)
          have hpl : (pre ++ [x]).length = pre.length + 1 := by simp
          have hxs := HR.out.size x (by simp)
          have hcell : wr.cell? ⟨g, pre.length, none⟩ = some (.string x) := by
            have := HO.out.cell pre.length (by rw [hpl]; omega)
            rw [this]
            simp [encS]
          have hfrz : wr.frozen? ⟨g, pre.length, none⟩ = false := World.ownsRow.frozenAt HO.out pre.length
          have HST : Hid (∀ b : UInt8, OwnL (wr.setCell ⟨g, pre.length, none⟩ (.string (x ++ ⟨#[b]⟩))) w.heap.size 9 encS (.slice (some ⟨g, 0, none⟩) (pre.length + 1) c) (pre ++ [x ++ ⟨#[b]⟩]) ∧ wr.grownBy (wr.setCell ⟨g, pre.length, none⟩ (.string (x ++ ⟨#[b]⟩))) (some g)) := fun b => by
            have := strs.ownL_store HO.out pre.length (x ++ ⟨#[b]⟩)
            rw [set_last, hpl] at this
            exact this
          have hgw : w.heap.size ≤ g := HO.out.base_le g rfl
          rw [hpl] at q0 ⊢
          clear HX hn HO
          have hln : ∀ y : ByteArray, (pre ++ [y]).length = pre.length + 1 := fun y => by simp
          have q3 : ((pre.length : Int) + 1 == 0) = false := by rw [beq_eq_false_iff_ne]; omega
          have hex := one_byte s k hlt
          have hes : (s.extract k (k + 1)).size ≤ 1 := by rw [hex]; exact Nat.le_refl 1
          by_cases h126 : s[k] = 126
          · have q2 : (s.extract k (k + 1)).toList = [126] := by rw [hex, h126, Lib.toList_data]
            by_cases hn1 : k + 1 < s.size
            · have hn2 : (k : Int) + 1 < (s.size : Int) := by omega
              have hn0 : (0 : Int) ≤ (k : Int) + 1 := by omega
              by_cases h49 : s[k + 1] = 49
              · have q4 : ((s[k + 1].toNat : Int) == 49) = true := by rw [h49]; rfl
                have HR1 := Lib.hid (HR.out.pair hlt h126 hn1 (b := 47) (by rw [if_pos h49]))
                have HST1 := Lib.hid (HST.out 47)
                clear HR h126 h47 HST hex h49
                go_wp2
                go_roundw
                case rel => exact ⟨k + 2, g, c, pre ++ [x ++ ⟨#[47]⟩], by omega, by go_num, by rw [hln], by rw [hln]; exact HST1.out.1, HR1, HB.out.grown HST1.out.2 hsz (fun j hj => by injection hj with hj; omega)⟩
                case measure => simp [intOf]; omega
              · have q4 : ((s[k + 1].toNat : Int) == 49) = false := by
                  rw [beq_eq_false_iff_ne]
                  exact fun e => h49 (UInt8.toNat_inj.1 (by have : (49 : UInt8).toNat = 49 := rfl; omega))
                have HR1 := Lib.hid (HR.out.pair hlt h126 hn1 (b := 126) (by rw [if_neg h49]))
                have HST1 := Lib.hid (HST.out 126)
                clear HR h126 h47 HST hex h49
                go_wp2
                go_roundw
                case rel => exact ⟨k + 2, g, c, pre ++ [x ++ ⟨#[126]⟩], by omega, by go_num, by rw [hln], by rw [hln]; exact HST1.out.1, HR1, HB.out.grown HST1.out.2 hsz (fun j hj => by injection hj with hj; omega)⟩
                case measure => simp [intOf]; omega
            · have hn2 : ¬ (k : Int) + 1 < (s.size : Int) := by omega
              have HR1 := HR.out.last hlt h126 hn1
              have HST1 := HST.out 126
              rw [h126] at hex
              rw [← hex] at HR1 HST1
              replace HR1 := Lib.hid HR1
              replace HST1 := Lib.hid HST1
              clear HR h126 h47 HST hex hn1
              go_wp2
              go_roundw
              case rel => exact ⟨k + 1, g, c, pre ++ [x ++ s.extract k (k + 1)], by omega, by go_num, by rw [hln], by rw [hln]; exact HST1.out.1, HR1, HB.out.grown HST1.out.2 hsz (fun j hj => by injection hj with hj; omega)⟩
              case measure => simp [intOf]; omega
          · have q2 : ¬ (s.extract k (k + 1)).toList = [126] := by
              rw [hex, Lib.toList_data]
              intro e
              simp at e
              exact h126 e
            have HR1 := HR.out.other hlt h47 h126
            have HST1 := HST.out s[k]
            rw [← hex] at HR1 HST1
            replace HR1 := Lib.hid HR1
            replace HST1 := Lib.hid HST1
            clear HR h126 h47 HST hex
            go_wp2
            go_roundw
            case rel => exact ⟨k + 1, g, c, pre ++ [x ++ s.extract k (k + 1)], by omega, by go_num, by rw [hln], by rw [hln]; exact HST1.out.1, HR1, HB.out.grown HST1.out.2 hsz (fun j hj => by injection hj with hj; omega)⟩
            case measure => simp [intOf]; omega
    · have hk1 : ¬ (k : Int) < (s.size : Int) := by omega
      have e : k = s.size := by omega
      subst e
      have hg : out = gotS s := by
        have := HR.out.rest
        rw [List.drop_eq_nil_of_le (by simp), decS] at this
        exact this
      subst hg
      have D := Lib.hid (CP.out wr _ _ HR.out HO.out)
      clear CP HX HR
      generalize gotS s = G at *
      by_cases hp : putP G = s
      · have HE := Lib.hid (HY.out hp)
        rw [hp] at D
        clear HY HN hp
        go_wp2_with fail
        with_reducible refine D.out.mono ?_
        rintro e w2 ⟨rfl, hb2⟩
        have HB2 := Lib.hid (HB.out.trans (hb2.mono hsz))
        have HO2 := Lib.hid (HO.out.below hb2)
        clear hb2 D HB HO
        go_wp2
        go_ret2
        exact ⟨_, by rw [HE.out]; rfl, by rw [HE.out]; exact HO2.out, HB2.out⟩
      · have HE := Lib.hid (HN.out hp)
        have hq : (putP G).toList ≠ s.toList := fun e => hp (by
          rw [Lib.toList_data, Lib.toList_data] at e
          exact ByteArray.ext (Array.toList_inj.1 e))
        have hq2 : ((putP G).toList == s.toList) = false := beq_eq_false_iff_ne.2 hq
        clear HY HN hp hq
        generalize putP G = pg at *
        go_wp2_with fail
        with_reducible refine D.out.mono ?_
        rintro e w2 ⟨rfl, hb2⟩
        have HB2 := Lib.hid (HB.out.trans (hb2.mono hsz))
        clear D HB HO
        go_wp2
        go_ret2
        exact ⟨_, by rw [HE.out]; rfl, by rw [HE.out]; exact OwnL.empty _ _ _ HB2.out.size, HB2.out.alloc HB2.out.size _⟩
end Go.Proofs.YtkjffifdlckljaaDoor.path
