/-
  Plain facts (no Go text but the decoder's): a text comes back from its quotes, bytes from their digits, digits from their bytes; what is read out of quotes is a valid text.
-/
import Derived.Test.YtlnhfgkecifhdaaGreatDoorSignHere
import Derived.Test.YtlnhfgkecifhdaaGreatDoorUnquotePlain
import Derived.Test.YtlnhfgkecifhdaaGreatDoorPutHexWalk
namespace Go.Proofs.YtlnhfgkecifhdaaGreatDoor.unquote
open Go.Proofs.YtlnhfgkecifhdaaGreatDoor.sign Go.Proofs.YtlnhfgkecifhdaaGreatDoor.getHex
open Go.Proofs.YtlnhfgkecifhdaaGreatDoor.quote (quoteB quoteL quoteR quoteOf shortOf hexDig)
open Go.RowKit (Hid)

theorem at_mid (q : ByteArray) (pre x : List UInt8) (hq : q.data.toList = pre ++ x) (k : Nat) : at_ q (pre.length + k) = x.getD k 0 := by
  unfold at_
  rw [hq]
  simp [List.getD_eq_getElem?_getD, List.getElem?_append_right]
theorem at_mid0 (q : ByteArray) (pre x : List UInt8) (hq : q.data.toList = pre ++ x) : at_ q pre.length = x.getD 0 0 := at_mid q pre x hq 0
theorem short_facts (N : Nat) (h : shortOf N ≠ 0) : letterOf (shortOf N) = N ∧ shortOf N ≠ 117 ∧ shortOf N ≠ 47 ∧ shortOf N < 256 := by
  have hc : N = 34 ∨ N = 92 ∨ N = 8 ∨ N = 12 ∨ N = 10 ∨ N = 13 ∨ N = 9 := by
    unfold shortOf at h
    (repeat' split at h) <;> omega
  rcases hc with rfl | rfl | rfl | rfl | rfl | rfl | rfl <;> decide
theorem not_short (N : Nat) (h : ¬ shortOf N ≠ 0) : N ≠ 34 ∧ N ≠ 92 := by
  refine ⟨fun e => h ?_, fun e => h ?_⟩ <;> (subst e; decide)
theorem hexV_dig : ∀ d : Nat, d < 16 → hexV (hexDig d) = (d : Int) := by
  intro d hd
  have : ∀ m : Fin 16, hexV (hexDig m.val) = (m.val : Int) := by decide +kernel
  exact this ⟨d, hd⟩

theorem step_quote (q : ByteArray) (pre post : List UInt8) (N : Nat) (hv : Utf8.valid (N : Int) = true) (hq : q.data.toList = pre ++ (quoteR N ++ post)) :
    (at_ q pre.length).toNat ≠ 34 ∧ stepOf q pre.length = ((N : Int), ((pre.length + (quoteR N).length : Nat) : Int)) ∧ pre.length < q.size := by
  have hz : q.data.toList.length = q.size := by simp
  have hlen := congrArg List.length hq
  rw [List.length_append, List.length_append, hz] at hlen
  have hr := valid_range hv
  by_cases h128 : N < 128
  · have eR : quoteR N = quoteB (UInt8.ofNat N) := by unfold quoteR; rw [if_pos h128]
    have eb : (UInt8.ofNat N).toNat = N := by simp; omega
    by_cases hs : shortOf N ≠ 0
    · obtain ⟨f1, f2, f3, f4⟩ := short_facts N hs
      have eq : quoteR N = [92, UInt8.ofNat (shortOf N)] := by rw [eR]; unfold quoteB; rw [eb, if_pos hs]
      rw [eq] at hq hlen
      rw [eq]
      have a0 := at_mid0 q pre _ hq
      have a1 := at_mid q pre _ hq 1
      simp at a0 a1 hlen
      have ec : (UInt8.ofNat (shortOf N)).toNat = shortOf N := by simp; omega
      refine ⟨by rw [a0]; decide, ?_, by omega⟩
      unfold stepOf escOf
      rw [a0, if_pos (by decide), if_neg (by omega), a1, ec, if_neg f2, if_neg f3, f1, if_neg (by omega)]
      simp
      omega
    · obtain ⟨n1, n2⟩ := not_short N hs
      by_cases hlow : N < 32
      · have eq : quoteR N = [92, 117, 48, 48, hexDig (N / 16), hexDig (N % 16)] := by rw [eR]; unfold quoteB; rw [eb, if_neg hs, if_pos hlow]
        rw [eq] at hq hlen
        rw [eq]
        have a0 := at_mid0 q pre _ hq
        have a1 := at_mid q pre _ hq 1
        have a2 := at_mid q pre _ hq 2
        have a3 := at_mid q pre _ hq 3
        have a4 := at_mid q pre _ hq 4
        have a5 := at_mid q pre _ hq 5
        simp at a0 a1 a2 a3 a4 a5 hlen
        have d0 : hexV 48 = 0 := by decide
        have d4 := hexV_dig (N / 16) (by omega)
        have d5 := hexV_dig (N % 16) (by omega)
        have hu : unit q (pre.length + 2) = (N : Int) := by
          unfold unit
          rw [if_pos (by omega)]
          simp only [unitFrom, Nat.add_assoc, Nat.reduceAdd, a2, a3, a4, a5, d0, d4, d5]
          simp
          omega
        refine ⟨by rw [a0]; decide, ?_, by omega⟩
        unfold stepOf escOf numbered
        rw [a0, if_pos (by decide), if_neg (by omega), a1, if_pos (by decide), show pre.length + 1 + 1 = pre.length + 2 by omega, hu, if_neg (by omega), if_neg (by omega)]
        simp
        omega
      · have eq : quoteR N = [UInt8.ofNat N] := by rw [eR]; unfold quoteB; rw [eb, if_neg hs, if_neg hlow]
        have ee : quoteR N = Lib.encodeRune N := by
          rw [eq]
          unfold Lib.encodeRune
          rw [Lib.encodeRuneZ_one (by omega) (by omega)]
          simp
        have hd := decode_list q pre.length N post hv (by rw [hq, List.drop_left, ee])
        have hl1 : (quoteR N).length = 1 := by rw [eq]; rfl
        rw [← ee, hl1] at hd
        rw [eq] at hq hlen
        rw [eq]
        have a0 := at_mid0 q pre _ hq
        simp at a0 hlen
        have e0 : (at_ q pre.length).toNat = N := by rw [a0]; exact eb
        refine ⟨by rw [e0]; exact n1, ?_, by omega⟩
        unfold stepOf
        rw [e0, if_neg n2, if_neg (by rintro (h | h); exact hlow h; exact hd.2.1 h), hd.1]
        simp
  · have eR : quoteR N = Lib.encodeRune N := by unfold quoteR; rw [if_neg h128]
    have hd := decode_list q pre.length N post hv (by rw [hq, List.drop_left, eR])
    have hpos : 0 < (Lib.encodeRune N).length := by
      unfold Lib.encodeRune
      rw [List.length_map]
      exact (Lib.encodeRuneZ_length N).1
    have a0 := at_mid0 q pre _ hq
    have hb : 128 ≤ (at_ q pre.length).toNat := by
      rw [a0, eR]
      cases hh : Lib.encodeRune (N : Int) with
      | nil => rw [hh] at hpos; simp at hpos
      | cons x xs =>
        have := quote.encode_high (n := (N : Int)) (by omega) (by omega) x (by rw [hh]; simp)
        simpa using this
    rw [eR] at hlen
    refine ⟨by omega, ?_, by omega⟩
    unfold stepOf
    rw [if_neg (by omega), if_neg (by rintro (h | h); omega; exact hd.2.1 h), hd.1, eR]
    simp

theorem run_quote (s q : ByteArray) (hq : q.data.toList = (34 : UInt8) :: (quoteL s.data.toList ++ [34])) : ∀ (f pos F : Nat), okFrom s f pos = true → s.size ≤ pos + f → pos ≤ s.size → q.size < (quoteL (s.data.toList.take pos)).length + 1 + F →
    run q F ((quoteL (s.data.toList.take pos)).length + 1) (s.data.toList.take pos) = (s, (q.size : Int))
  | f, pos, 0, _, _, hp, hF => by
    have hz : q.data.toList.length = q.size := by simp
    have hlen := congrArg List.length hq
    rw [hz] at hlen
    have e : s.data.toList = s.data.toList.take pos ++ s.data.toList.drop pos := (List.take_append_drop _ _).symm
    rw [e, quote.quoteL_append] at hlen
    simp at hlen
    simp at hF
    omega
  | f, pos, F + 1, hok, hf, hp, hF => by
    have hz : q.data.toList.length = q.size := by simp
    have hsz : s.data.toList.length = s.size := by simp
    have hlen := congrArg List.length hq
    rw [hz] at hlen
    by_cases hlt : pos < s.size
    · obtain ⟨f', rfl⟩ : ∃ g, f = g + 1 := ⟨f - 1, by omega⟩
      by_cases hb : Utf8.decode s pos = (65533, 1)
      · rw [okFrom_bad s f' pos hlt hb] at hok; cases hok
      · obtain ⟨N, M, hd⟩ : ∃ N M, Utf8.decode s pos = (N, M) := ⟨_, _, rfl⟩
        have hm := decode_bound s pos
        have hfit := decode_fits s pos hlt
        have hv := quote.decode_valid s pos N M hlt hd hb
        have hbytes := quote.decode_bytes s pos N M hlt hd hb
        have hstep := quote.quote_step s pos N M hlt hd hb
        rw [okFrom_step s f' pos hlt hb] at hok
        rw [hd] at hm hfit hok
        simp only at hm hfit hok
        have e : s.data.toList = s.data.toList.take (pos + M) ++ s.data.toList.drop (pos + M) := (List.take_append_drop _ _).symm
        have hq2 : q.data.toList = ((34 : UInt8) :: quoteL (s.data.toList.take pos)) ++ (quoteR N ++ (quoteL (s.data.toList.drop (pos + M)) ++ [34])) := by
          rw [hq]
          conv => lhs; rw [e, quote.quoteL_append, hstep]
          simp
        obtain ⟨h1, h2, h3⟩ := step_quote q _ _ N hv hq2
        simp only [List.length_cons] at h1 h2 h3
        have hacc : s.data.toList.take pos ++ Lib.encodeRune N = s.data.toList.take (pos + M) := by
          rw [← put_list hv, hbytes, Lib.extract_data, show pos + M - pos = M by omega, ← List.take_add]
        have hl2 : (quoteL (s.data.toList.take (pos + M))).length = (quoteL (s.data.toList.take pos)).length + (quoteR N).length := by rw [hstep, List.length_append]
        have hpos : 1 ≤ (quoteR N).length := by
          unfold quoteR
          split
          · exact (quote.quoteB_len _).1
          · unfold Lib.encodeRune
            rw [List.length_map]
            exact (Lib.encodeRuneZ_length N).1
        have ih := run_quote s q hq f' (pos + M) F hok (by omega) hfit (by omega)
        rw [run, if_neg (by omega), if_neg h1, h2, if_neg (by simp only; omega)]
        simp only
        rw [hacc]
        have e3 : (((quoteL (s.data.toList.take pos)).length + 1 + (quoteR N).length : Nat) : Int).toNat = (quoteL (s.data.toList.take (pos + M))).length + 1 := by omega
        rw [e3]
        exact ih
    · have hps : pos = s.size := by omega
      have ht : s.data.toList.take pos = s.data.toList := List.take_of_length_le (by omega)
      rw [ht] at hF ⊢
      simp at hlen
      have hq2 : q.data.toList = ((34 : UInt8) :: quoteL s.data.toList) ++ [34] := by rw [hq]; simp
      have a0 := at_mid0 q _ _ hq2
      simp only [List.length_cons] at a0
      rw [run, if_neg (by omega), a0, if_pos (by decide)]
      refine Prod.ext rfl ?_
      simp only
      omega

theorem unq_quote (s : ByteArray) (h : textOk s = true) : unq (quoteOf s) 0 = (s, ((quoteOf s).size : Int)) ∧ (quoteOf s).toList.isEmpty = false := by
  have eq : quoteOf s = ⟨((34 : UInt8) :: (quoteL s.data.toList ++ [34])).toArray⟩ := by unfold quoteOf; rw [h]; rfl
  have hl : (quoteOf s).data.toList = (34 : UInt8) :: (quoteL s.data.toList ++ [34]) := by rw [eq]
  have hz : (quoteOf s).data.toList.length = (quoteOf s).size := by simp
  have hz2 : 0 < (quoteOf s).size := by rw [← hz, hl]; simp
  refine ⟨?_, ?_⟩
  · unfold unq
    rw [if_pos ⟨by omega, by omega, by
      show (at_ (quoteOf s) 0).toNat = 34
      unfold at_
      rw [hl]
      rfl⟩]
    have := run_quote s (quoteOf s) hl s.size 0 ((quoteOf s).size + 1) h (by omega) (by omega) (by omega)
    simpa [quoteL] using this
  · rw [Lib.toList_data, hl]
    rfl

theorem run_texty (s : ByteArray) : ∀ (f i : Nat) (acc : List UInt8), Texty acc → 0 ≤ (run s f i acc).2 → Texty (run s f i acc).1.data.toList
  | 0, i, acc, _, h => by simp [run] at h
  | f + 1, i, acc, ha, h => by
    unfold run at *
    by_cases h1 : s.size ≤ i
    · rw [if_pos h1] at h; simp at h
    rw [if_neg h1] at h ⊢
    by_cases h2 : (at_ s i).toNat = 34
    · rw [if_pos h2]
      simpa using ha
    rw [if_neg h2] at h ⊢
    by_cases h3 : (stepOf s i).2 < 0
    · rw [if_pos h3] at h; simp at h
    rw [if_neg h3] at h ⊢
    rcases stepOf_sane s i (by omega) with hs | hs
    · rw [hs] at h3; simp at h3
    · have hsg := hs.sign
      obtain ⟨n, hn⟩ : ∃ n : Nat, (stepOf s i).1 = (n : Int) := ⟨(stepOf s i).1.toNat, by omega⟩
      rw [hn] at h hsg ⊢
      exact run_texty s f _ _ (ha.snoc n (valid_of hsg)) h
theorem unq_text (s : ByteArray) (i : Int) (h : 0 ≤ (unq s i).2) : textOk (unq s i).1 = true := by
  unfold unq at *
  split at h
  · next hc =>
    rw [if_pos hc]
    exact textOk_of _ (run_texty s _ _ _ Texty.nil h)
  · simp at h

/-! Digits. -/
theorem dig_back : ∀ d : Nat, d < 16 → digitVal (putHex.hexDig d) = (d : Int) := by
  intro d hd
  have : ∀ m : Fin 16, digitVal (putHex.hexDig m.val) = (m.val : Int) := by decide +kernel
  exact this ⟨d, hd⟩
theorem back_dig (b : UInt8) (h : 0 ≤ digitVal b) : putHex.hexDig (digitVal b).toNat = b := by
  have : ∀ m : Fin 256, 0 ≤ digitVal (UInt8.ofNat m.val) → putHex.hexDig (digitVal (UInt8.ofNat m.val)).toNat = UInt8.ofNat m.val := by decide +kernel
  have e : UInt8.ofNat b.toNat = b := by simp
  have h2 := this ⟨b.toNat, b.toNat_lt⟩
  simp only [e] at h2
  exact h2 h
theorem hexOf_get : ∀ (l : List UInt8) (j : Nat), j < l.length → (putHex.hexOf l).getD (2 * j) 0 = putHex.hexDig ((l.getD j 0).toNat / 16) ∧ (putHex.hexOf l).getD (2 * j + 1) 0 = putHex.hexDig ((l.getD j 0).toNat % 16)
  | [], j, h => by simp at h
  | b :: l, 0, _ => by simp [putHex.hexOf]
  | b :: l, j + 1, h => by
    have ih := hexOf_get l j (by simpa using h)
    have e : putHex.hexOf (b :: l) = putHex.hexDig (b.toNat / 16) :: putHex.hexDig (b.toNat % 16) :: putHex.hexOf l := by simp [putHex.hexOf]
    rw [e]
    refine ⟨?_, ?_⟩
    · rw [show 2 * (j + 1) = 2 * j + 1 + 1 by omega]
      simpa using ih.1
    · rw [show 2 * (j + 1) + 1 = 2 * j + 1 + 1 + 1 by omega]
      simpa using ih.2
theorem hex_back (s : ByteArray) : hexOk ⟨(putHex.hexOf s.data.toList).toArray⟩ = true ∧ getHex ⟨(putHex.hexOf s.data.toList).toArray⟩ = s := by
  have hz : s.data.toList.length = s.size := by simp
  have hL := putHex.hexOf_length s.data.toList
  generalize hq : (⟨(putHex.hexOf s.data.toList).toArray⟩ : ByteArray) = q
  have hql : q.data.toList = putHex.hexOf s.data.toList := by rw [← hq]
  have hqz : q.size = 2 * s.size := by
    have : q.data.toList.length = q.size := by simp
    rw [← this, hql, hL, hz]
  have ha : ∀ j, j < s.size → digitVal (at_ q (2 * j)) = (((s.data.toList.getD j 0).toNat / 16 : Nat) : Int) ∧ digitVal (at_ q (2 * j + 1)) = (((s.data.toList.getD j 0).toNat % 16 : Nat) : Int) := by
    intro j hj
    obtain ⟨h1, h2⟩ := hexOf_get s.data.toList j (by omega)
    have hb := (s.data.toList.getD j 0).toNat_lt
    unfold at_
    rw [hql, h1, h2]
    exact ⟨dig_back _ (by omega), dig_back _ (by omega)⟩
  have hok : hexOk q = true := ok_at q (by omega) fun j hj => by
    obtain ⟨h1, h2⟩ := ha j (by omega)
    unfold hexBad
    rw [h1, h2]
    simp
    omega
  refine ⟨hok, ?_⟩
  rw [getHex_ok hok]
  apply ByteArray.ext
  apply Array.toList_inj.1
  apply List.ext_getElem
  · simp [dec_length]
    rw [hqz]
    have : s.data.size = s.size := rfl
    omega
  · intro j h1 h2
    have hj : j < s.size := by omega
    obtain ⟨e1, e2⟩ := ha j hj
    simp only [dec, List.getElem_map, List.getElem_range, e1, e2]
    have e3 : s.data.toList.getD j 0 = s.data.toList[j] := by rw [List.getD_eq_getElem?_getD, List.getElem?_eq_getElem h2]; rfl
    rw [e3]
    generalize s.data.toList[j] = b
    have hb := b.toNat_lt
    rw [show (16 * ((b.toNat / 16 : Nat) : Int) + ((b.toNat % 16 : Nat) : Int)).toNat = b.toNat by omega]
    simp
theorem hex_again (s : ByteArray) (h : hexOk s = true) : (⟨(putHex.hexOf (getHex s).data.toList).toArray⟩ : ByteArray) = s := by
  have h2 := h
  unfold hexOk at h2
  rw [Bool.and_eq_true, List.all_eq_true] at h2
  obtain ⟨hm, hall⟩ := h2
  have hm' : s.size % 2 = 0 := by simpa using hm
  have hz : s.data.toList.length = s.size := by simp
  have hl : (getHex s).data.toList = dec s (s.size / 2) := by rw [getHex_ok h]
  apply ByteArray.ext
  apply Array.toList_inj.1
  show putHex.hexOf (getHex s).data.toList = s.data.toList
  rw [hl]
  have hdl := dec_length s (s.size / 2)
  have hhl := putHex.hexOf_length (dec s (s.size / 2))
  have key : ∀ j, j < s.size / 2 → (putHex.hexOf (dec s (s.size / 2))).getD (2 * j) 0 = at_ s (2 * j) ∧ (putHex.hexOf (dec s (s.size / 2))).getD (2 * j + 1) 0 = at_ s (2 * j + 1) := by
    intro j hj
    obtain ⟨g1, g2⟩ := hexOf_get (dec s (s.size / 2)) j (by omega)
    have hb := hall j (by simpa using hj)
    have hb2 : 0 ≤ digitVal (at_ s (2 * j)) ∧ 0 ≤ digitVal (at_ s (2 * j + 1)) := by
      unfold hexBad at hb
      simp at hb
      omega
    have r1 := digitVal_range (at_ s (2 * j))
    have r2 := digitVal_range (at_ s (2 * j + 1))
    have e : (dec s (s.size / 2)).getD j 0 = UInt8.ofNat (16 * digitVal (at_ s (2 * j)) + digitVal (at_ s (2 * j + 1))).toNat := by
      rw [List.getD_eq_getElem?_getD, List.getElem?_eq_getElem (by omega)]
      simp [dec]
    have e2 : ((dec s (s.size / 2)).getD j 0).toNat = (16 * digitVal (at_ s (2 * j)) + digitVal (at_ s (2 * j + 1))).toNat := by
      rw [e]; simp; omega
    rw [g1, g2, e2]
    refine ⟨?_, ?_⟩
    · rw [show (16 * digitVal (at_ s (2 * j)) + digitVal (at_ s (2 * j + 1))).toNat / 16 = (digitVal (at_ s (2 * j))).toNat by omega]
      exact back_dig _ hb2.1
    · rw [show (16 * digitVal (at_ s (2 * j)) + digitVal (at_ s (2 * j + 1))).toNat % 16 = (digitVal (at_ s (2 * j + 1))).toNat by omega]
      exact back_dig _ hb2.2
  apply List.ext_getElem
  · omega
  · intro k h1 h2
    have hk : k < s.size := by omega
    have g : ∀ (l : List UInt8) (i : Nat) (hi : i < l.length), l[i] = l.getD i 0 := by
      intro l i hi
      rw [List.getD_eq_getElem?_getD, List.getElem?_eq_getElem hi]; rfl
    rw [g _ k h1, g _ k h2]
    obtain ⟨k1, k2⟩ := key (k / 2) (by omega)
    by_cases hp : k % 2 = 0
    · rw [show 2 * (k / 2) = k by omega] at k1
      exact k1
    · rw [show 2 * (k / 2) + 1 = k by omega] at k2
      exact k2

end Go.Proofs.YtlnhfgkecifhdaaGreatDoor.unquote
