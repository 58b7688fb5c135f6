/-
  The law FnSigns over a code of at most 1048576 bytes: true, old memory kept.
-/
import Derived.Test.YtkmpeoimdffipaaDoorSignsLaw
import Derived.Test.YtkmpeoimdffipaaDoorSignBack
import Derived.Test.YtkmpeoimdffipaaDoorSignsWalk
import Derived.Test.YtkmpeoimdffipaaDoorDrawSigns
namespace Go.Proofs.YtkmpeoimdffipaaDoor.fnSigns
open Go.ChangeShapes Go.WideShapes Go.ChangeAt Go.RowKit
open Go.Proofs.YtkmpeoimdffipaaDoor.sign Go.Proofs.YtkmpeoimdffipaaDoor.ints Go.Proofs.YtkmpeoimdffipaaDoor.draw
set_option maxRecDepth 100000

/-- Where a sign is read at a place, its bytes stand there. -/
theorem at_bytes (u : ByteArray) (i x nx : Int) (h : getSign.signAt u i = .tuple #[.int .i64 x, .int .i64 nx]) (h0 : 0 ≤ nx) : ∃ j m : Nat, i = (j : Int) ∧ nx = (m : Int) ∧ j ≤ m ∧ m ≤ u.size ∧ putSign x = u.extract j m := by
  unfold getSign.signAt at h
  split at h
  · next hi =>
    have hlt : i.toNat < u.size := by omega
    by_cases hb : Utf8.decode u i.toNat = (65533, 1)
    · rw [getSign.signV_bad hb] at h
      simp at h
      omega
    · rw [getSign.signV_ok (N := (Utf8.decode u i.toNat).1) (M := (Utf8.decode u i.toNat).2) rfl (fun h => hb (Prod.ext h.1 h.2))] at h
      simp at h
      have hf := decode_fits u i.toNat hlt
      have hd := quote.decode_bytes u i.toNat _ _ hlt rfl hb
      exact ⟨i.toNat, i.toNat + (Utf8.decode u i.toNat).2, by omega, by omega, by omega, hf, by rw [← h.1]; exact hd⟩
  · simp at h
    omega
/-- A sign's bytes are read as the sign. -/
theorem back (z : Int) : putSign z = ⟨#[]⟩ ∨ getSign.signAt (putSign z) 0 = .tuple #[.int .i64 z, .int .i64 ((putSign z).size : Int)] ∧ (putSign z).toList.isEmpty = false := by
  by_cases hv : Utf8.valid z = true
  · right
    obtain ⟨n, rfl⟩ : ∃ n : Nat, z = (n : Int) := by
      rw [validRune_eq] at hv
      have : (0 ≤ z ∧ z < 55296) ∨ (57343 < z ∧ z ≤ 1114111) := by simpa [validRune] using hv
      exact ⟨z.toNat, by omega⟩
    have hd := decode_put n hv
    have hb := decode_bound (putSign n) 0
    rw [hd] at hb
    simp only at hb
    have hs : 0 < (putSign n).size := by omega
    refine ⟨?_, ?_⟩
    · unfold getSign.signAt
      rw [if_pos (by omega)]
      have := getSign.signV_ok hd (by
        rintro ⟨e1, e2⟩
        rw [e1] at e2
        revert e2
        decide)
      simpa using this
    · cases hh : (putSign n).toList with
      | nil => have h2 := signs.len_toList (putSign n); rw [hh] at h2; simp at h2; omega
      | cons a b => rfl
  · left
    exact putSign_invalid (by simpa using hv)

theorem put_size (n : Int) : (putSign n).size ≤ 4 := by
  cases hv : Utf8.valid n with
  | false => rw [putSign_invalid hv]; decide
  | true =>
    rw [putSign_valid hv]
    have h := congrArg List.length (quote.encode_list hv)
    have h2 := (Lib.encodeRuneZ_length n).2
    unfold Lib.encodeRune at h
    rw [List.length_map] at h
    have e : (Utf8.encode n).size = (Utf8.encode n).data.toList.length := by simp
    omega
theorem big_no (a : Option Addr) (len cap : Nat) (w : World) (h : len ≤ 1048576) : Calls Tryd.prog 11 #[.slice a len cap] w fun e w' => e = .returned (.bool false) ∧ w = w' := by
  have h' : ¬ (1048576 : Int) < (len : Int) := by omega
  go_enter Tryd.func11, Tryd.ntmps11
  go_wp2
  go_ret
  exact ⟨by simp, rfl⟩
theorem put_quiet (z : Int) (w : World) (n : Nat) : Calls Tryd.prog 13 #[.int .i64 z] (w.drewN n) fun e w'' => e = .returned (.string (putSign z)) ∧ ∃ m, w'' = w.drewN m :=
  (putSign.impl_any z (w.drewN n)).mono fun _ _ ⟨he, hm⟩ => ⟨he, n, hm.symm⟩

set_option maxHeartbeats 8000000 in
theorem core (w : World) (a : Option Addr) (len cap : Nat) (hC : draw.Code w a len w.heap.size) (hT : Lib.Utf8Tabs 0 1 w) :
    Calls Tryd.prog 3 #[.slice a len cap] w fun e w' => e = .returned (.bool true) ∧ Below w.heap.size w w' := by
  have CB := Lib.hid (big_no a len cap w hC.small)
  have HC := Lib.hid hC
  have HT := Lib.hid hT
  clear hC hT
  go_enter Tryd.func3, Tryd.ntmps3
  go_wp2_with fail
  with_reducible refine CB.out.mono ?_
  rintro e w0 ⟨rfl, rfl⟩
  clear CB
  have C1 := Lib.hid (putSign_any w a len cap HC.out)
  go_wp2_with fail
  with_reducible refine C1.out.mono ?_
  rintro e w1 ⟨z, rfl, hb1⟩
  have B1 := Lib.hid hb1
  clear C1 hb1
  have CP := Lib.hid (fun w => putSign.impl_any z w)
  have CPs := Lib.hid (fun w => putSign.spec_any z w)
  have HB := Lib.hid (back z)
  obtain ⟨S, HS⟩ : ∃ S, Hid (putSign z = S) := ⟨_, rfl⟩
  rw [HS.out] at CP CPs HB
  go_wp2_with fail
  with_reducible refine (CP.out _).mono ?_
  rintro e w2 ⟨rfl, rfl⟩
  have C2 := Lib.hid (getSign_any w1 a len cap (HC.out.below B1.out))
  go_wp2_with fail
  with_reducible refine C2.out.mono ?_
  rintro e w2 ⟨u, i, hu, rfl, hb2⟩
  have B2 := Lib.hid (B1.out.trans (hb2.mono B1.out.size))
  clear C2 hb2 B1
  have C3 := Lib.hid (getSign.impl_any u i w2 (by omega) (tabs.below HT.out B2.out))
  have C4 := Lib.hid (fun w => getSign.spec_any u i w (by omega))
  obtain ⟨x, nx, e⟩ := getSign.signAt_ints u i
  have HX := Lib.hid (at_bytes u i x nx e)
  rw [e] at C3 C4
  clear e
  go_wp2_with fail
  with_reducible refine C3.out.mono ?_
  rintro e w3 ⟨rfl, hb3⟩
  have B3 := Lib.hid (B2.out.trans (hb3.mono B2.out.size))
  clear C3 hb3 B2
  go_wp2_with fail
  with_reducible refine (C4.out _).mono ?_
  rintro e w4 ⟨rfl, hb4⟩
  have B4 := Lib.hid (B3.out.trans (hb4.mono B3.out.size))
  clear C4 hb4 B3
  have C5 := Lib.hid (textOk_any w4 a len cap (HC.out.below B4.out))
  go_wp2_with fail
  with_reducible refine C5.out.mono ?_
  rintro e w5 ⟨t, ht, rfl, hb5⟩
  have B5 := Lib.hid (B4.out.trans (hb5.mono B4.out.size))
  clear C5 hb5 B4
  have C6 := Lib.hid (signs_any w5 a len cap (HC.out.below B5.out))
  go_wp2_with fail
  with_reducible refine C6.out.mono ?_
  rintro e w6 ⟨gt, hgt, rfl, hb6⟩
  have B6 := Lib.hid (B5.out.trans (hb6.mono B5.out.size))
  clear C6 hb6 B5
  have C7 := Lib.hid (signs.impl_signs gt w6 (by omega) (tabs.below HT.out B6.out))
  have hlen := signsOf_length gt
  have HJ := Lib.hid (signsLaw.joined_all gt)
  go_wp2_with fail
  with_reducible refine C7.out.mono ?_
  rintro e w7 ⟨v, rfl, hown, hb7⟩
  have B7 := Lib.hid (B6.out.trans (hb7.mono B6.out.size))
  clear C7 hb7 B6
  go_wp2_with fail
  with_reducible refine (CPs.out _).mono ?_
  rintro e w8 ⟨rfl, hb8⟩
  have B8 := Lib.hid (B7.out.trans (hb8.mono B7.out.size))
  have hown8 := hown.below hb8
  clear hb8 B7 hown
  have C9 := Lib.hid (signs.impl_text t w8 (by omega) (tabs.below HT.out B8.out))
  have C10 := Lib.hid (fun w => signs.spec_text t w (by omega))
  generalize textOk t = tb at *
  go_wp2_with fail
  with_reducible refine C9.out.mono ?_
  rintro e w9 ⟨rfl, hb9⟩
  have B9 := Lib.hid (B8.out.trans (hb9.mono B8.out.size))
  have hown9 := hown8.below hb9
  clear C9 hb9 B8 hown8
  go_wp2_with fail
  with_reducible refine (C10.out _).mono ?_
  rintro e w10 ⟨rfl, hb10⟩
  have B10 := Lib.hid (B9.out.trans (hb10.mono B9.out.size))
  have hown10 := hown9.below hb10
  clear C10 hb10 B9 hown9
  have C11 := Lib.hid (signs.spec_signs gt w10 (by omega))
  go_wp2_with fail
  with_reducible refine C11.out.mono ?_
  rintro e w11 ⟨v2, rfl, hown2, hb11⟩
  have B11 := Lib.hid (B10.out.trans (hb11.mono B10.out.size))
  have hown11 := hown10.below hb11
  clear C11 hb11 B10 hown10
  obtain ⟨a1, c1, g1, r1⟩ := readI_of hown11
  obtain ⟨a2, c2, g2, r2⟩ := readI_of hown2
  have C12 := Lib.hid (signsLaw.same_true _ _ _ w11 _ _ _ _ _ _ r1 r2 (by omega))
  have HR1 := Lib.hid r1
  clear hown11 hown2 r2 r1
  go_wp2_with fail
  with_reducible refine C12.out.mono ?_
  rintro e w12 ⟨rfl, n, rfl⟩
  have B12 := Lib.hid (belowN B11.out n)
  have HR2 : Hid (ReadI (w11.drewN n) v (signsOf gt) a1 c1 g1) := ⟨HR1.out.val, HR1.out.adr, HR1.out.cell⟩
  clear C12 HR1 B11
  have HR1 := HR2
  clear HR2
  generalize w11.drewN n = W at *
  by_cases hnx : nx < 0
  · have hgd : decide ((0 : Int) ≤ nx) = false := by simp; omega
    clear HX
    go_wp2
    go_quiet (fail)
    go_wp2
    obtain ⟨rfl, ha1, hc1⟩ := HR1.out
    have HA1 := Lib.hid ha1
    have HC1 := Lib.hid hc1
    clear ha1 hc1 HR1
    go_loopw [14, 15] (fun all k wr => ∃ (A : ByteArray) (q r : Nat), all = .string A ∧ k = .int .i64 (q : Int) ∧ q ≤ (signsOf gt).length ∧ Hid (A.data.toList = signsLaw.joined ((signsOf gt).take q)) ∧ A.size ≤ 4 * q ∧ wr = W.drewN r) (fun _ k _ => (signsOf gt).length - (intOf k).toNat)
    case atStart => exact ⟨_, 0, nq, rfl, rfl, by omega, by unfold Hid; simp [signsLaw.joined], by decide, rfl⟩
    case round =>
      obtain ⟨A, q, r, rfl, rfl, hq, HA, hAs, rfl⟩ := hrel
      have hq0 : (0 : Int) ≤ (q : Int) := by omega
      by_cases hlt : q < (signsOf gt).length
      · have hq1 : (q : Int) < ((signsOf gt).length : Int) := by omega
        obtain rfl := HA1.out (by omega)
        obtain ⟨y, hy, HY⟩ : ∃ y, W.cell? ⟨g1, q, none⟩ = some (.int .i64 y) ∧ Hid ((signsOf gt).take (q + 1) = (signsOf gt).take q ++ [y]) := ⟨_, HC1.out q hlt, List.take_succ_eq_append_getElem hlt⟩
        have CY := Lib.hid (fun w => putSign.impl_any y w)
        have hys := put_size y
        have HJ2 : Hid ((A ++ putSign y).data.toList = signsLaw.joined ((signsOf gt).take (q + 1))) := by
          unfold Hid
          rw [HY.out, signsLaw.joined_snoc, ← HA.out]
          simp [ByteArray.data_append]
        obtain ⟨P, HP⟩ : ∃ P, Hid (putSign y = P) := ⟨_, rfl⟩
        rw [HP.out] at CY hys HJ2
        have hsum : A.size + P.size ≤ 9223372036854775807 := by omega
        have hsz : (A ++ P).size ≤ 4 * (q + 1) := by rw [ByteArray.size_append]; omega
        clear HA HY HJ
        go_wp2_with fail
        with_reducible refine (CY.out _).mono ?_
        rintro e w13 ⟨rfl, rfl⟩
        go_wp2
        go_roundw
        case rel => exact ⟨A ++ P, q + 1, r, rfl, by go_num, by omega, HJ2, hsz, rfl⟩
        case measure => simp [intOf]; omega
      · have hq1 : ¬ (q : Int) < ((signsOf gt).length : Int) := by omega
        have B13 := Lib.hid (belowN B12.out r)
        have CT := Lib.hid (signs.spec_text gt (W.drewN r) (by omega))
        have HG : Hid (textOk gt = true → A = gt) := by
          intro h
          have h1 := HJ.out h
          have h2 := HA.out
          rw [List.take_of_length_le (by omega), h1] at h2
          exact ByteArray.ext (Array.toList_inj.1 h2)
        obtain ⟨tg, HTg⟩ : ∃ tg, Hid (textOk gt = tg) := ⟨_, rfl⟩
        rw [HTg.out] at CT HG
        clear HA HJ HTg HA1 HC1
        have hSs : S.size ≤ 4 := by have := put_size z; rw [HS.out] at this; exact this
        go_wp2_with fail
        with_reducible refine CT.out.mono ?_
        rintro e w14 ⟨rfl, hb14⟩
        have B14 := Lib.hid (B13.out.trans (hb14.mono B13.out.size))
        clear CT hb14 B13
        have CG := Lib.hid (getSign.impl_any S 0 w14 (by omega) (tabs.below HT.out B14.out))
        cases tg
        all_goals
          first
            | (obtain rfl := HG.out rfl)
            | skip
          rcases HB.out with hS | ⟨hS, hE⟩
          · obtain ⟨x2, y2, e2⟩ := getSign.signAt_ints S 0
            rw [e2] at CG
            have hE : S.toList.isEmpty = true := by rw [signs.isEmpty_of (by rw [hS]; rfl)]; rfl
            clear e2 HB hS
            go_wp2_with fail
            with_reducible refine CG.out.mono ?_
            rintro e w15 ⟨rfl, hb15⟩
            have B15 := Lib.hid (B14.out.trans (hb15.mono B14.out.size))
            clear hb15
            go_wp2
            go_ret
            exact ⟨rfl, B15.out⟩
          · rw [hS] at CG
            clear HB hS
            go_wp2_with fail
            with_reducible refine CG.out.mono ?_
            rintro e w15 ⟨rfl, hb15⟩
            have B15 := Lib.hid (B14.out.trans (hb15.mono B14.out.size))
            clear hb15
            go_wp2
            go_ret
            exact ⟨by simp, B15.out⟩
  · obtain ⟨j, m, hij, hnm, hjm, hmu, hP⟩ := HX.out (by omega)
    have hP0 := Lib.hid (fun w k => put_quiet x w k)
    rw [hP] at hP0
    have hj0 : (0 : Int) ≤ i := by omega
    have hm0 : (0 : Int) ≤ nx := by omega
    have hjm' : i ≤ nx := by omega
    have hmu' : nx ≤ (u.size : Int) := by omega
    have hti : i.toNat = j := by omega
    have htn : nx.toNat = m := by omega
    have hgd : decide ((0 : Int) ≤ nx) = true := by simp; omega
    clear hP HX hij hnm
    go_wp2
    go_quiet ((go_at_call 13; exact hP0.out _ _))
    go_wp2
    obtain ⟨rfl, ha1, hc1⟩ := HR1.out
    have HA1 := Lib.hid ha1
    have HC1 := Lib.hid hc1
    clear ha1 hc1 HR1
    go_loopw [14, 15] (fun all k wr => ∃ (A : ByteArray) (q r : Nat), all = .string A ∧ k = .int .i64 (q : Int) ∧ q ≤ (signsOf gt).length ∧ Hid (A.data.toList = signsLaw.joined ((signsOf gt).take q)) ∧ A.size ≤ 4 * q ∧ wr = W.drewN r) (fun _ k _ => (signsOf gt).length - (intOf k).toNat)
    case atStart => exact ⟨_, 0, nq, rfl, rfl, by omega, by unfold Hid; simp [signsLaw.joined], by decide, rfl⟩
    case round =>
      obtain ⟨A, q, r, rfl, rfl, hq, HA, hAs, rfl⟩ := hrel
      have hq0 : (0 : Int) ≤ (q : Int) := by omega
      by_cases hlt : q < (signsOf gt).length
      · have hq1 : (q : Int) < ((signsOf gt).length : Int) := by omega
        obtain rfl := HA1.out (by omega)
        obtain ⟨y, hy, HY⟩ : ∃ y, W.cell? ⟨g1, q, none⟩ = some (.int .i64 y) ∧ Hid ((signsOf gt).take (q + 1) = (signsOf gt).take q ++ [y]) := ⟨_, HC1.out q hlt, List.take_succ_eq_append_getElem hlt⟩
        have CY := Lib.hid (fun w => putSign.impl_any y w)
        have hys := put_size y
        have HJ2 : Hid ((A ++ putSign y).data.toList = signsLaw.joined ((signsOf gt).take (q + 1))) := by
          unfold Hid
          rw [HY.out, signsLaw.joined_snoc, ← HA.out]
          simp [ByteArray.data_append]
        obtain ⟨P, HP⟩ : ∃ P, Hid (putSign y = P) := ⟨_, rfl⟩
        rw [HP.out] at CY hys HJ2
        have hsum : A.size + P.size ≤ 9223372036854775807 := by omega
        have hsz : (A ++ P).size ≤ 4 * (q + 1) := by rw [ByteArray.size_append]; omega
        clear HA HY HJ
        go_wp2_with fail
        with_reducible refine (CY.out _).mono ?_
        rintro e w13 ⟨rfl, rfl⟩
        go_wp2
        go_roundw
        case rel => exact ⟨A ++ P, q + 1, r, rfl, by go_num, by omega, HJ2, hsz, rfl⟩
        case measure => simp [intOf]; omega
      · have hq1 : ¬ (q : Int) < ((signsOf gt).length : Int) := by omega
        have B13 := Lib.hid (belowN B12.out r)
        have CT := Lib.hid (signs.spec_text gt (W.drewN r) (by omega))
        have HG : Hid (textOk gt = true → A = gt) := by
          intro h
          have h1 := HJ.out h
          have h2 := HA.out
          rw [List.take_of_length_le (by omega), h1] at h2
          exact ByteArray.ext (Array.toList_inj.1 h2)
        obtain ⟨tg, HTg⟩ : ∃ tg, Hid (textOk gt = tg) := ⟨_, rfl⟩
        rw [HTg.out] at CT HG
        clear HA HJ HTg HA1 HC1
        have hSs : S.size ≤ 4 := by have := put_size z; rw [HS.out] at this; exact this
        go_wp2_with fail
        with_reducible refine CT.out.mono ?_
        rintro e w14 ⟨rfl, hb14⟩
        have B14 := Lib.hid (B13.out.trans (hb14.mono B13.out.size))
        clear CT hb14 B13
        have CG := Lib.hid (getSign.impl_any S 0 w14 (by omega) (tabs.below HT.out B14.out))
        cases tg
        all_goals
          first
            | (obtain rfl := HG.out rfl)
            | skip
          rcases HB.out with hS | ⟨hS, hE⟩
          · obtain ⟨x2, y2, e2⟩ := getSign.signAt_ints S 0
            rw [e2] at CG
            have hE : S.toList.isEmpty = true := by rw [signs.isEmpty_of (by rw [hS]; rfl)]; rfl
            clear e2 HB hS
            go_wp2_with fail
            with_reducible refine CG.out.mono ?_
            rintro e w15 ⟨rfl, hb15⟩
            have B15 := Lib.hid (B14.out.trans (hb15.mono B14.out.size))
            clear hb15
            go_wp2
            go_ret
            exact ⟨rfl, B15.out⟩
          · rw [hS] at CG
            clear HB hS
            go_wp2_with fail
            with_reducible refine CG.out.mono ?_
            rintro e w15 ⟨rfl, hb15⟩
            have B15 := Lib.hid (B14.out.trans (hb15.mono B14.out.size))
            clear hb15
            go_wp2
            go_ret
            exact ⟨by simp, B15.out⟩

end Go.Proofs.YtkmpeoimdffipaaDoor.fnSigns
