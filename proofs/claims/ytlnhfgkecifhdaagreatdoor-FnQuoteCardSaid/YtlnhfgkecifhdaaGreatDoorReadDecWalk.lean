/-
  What spec.ReadDec returns: the int whose numeral a text is, and true, or 0 and false. For texts of at most 1048576 bytes.
-/
import Derived.Test.YtlnhfgkecifhdaaGreatDoorReadDecPlain
import Derived.Test.YtlnhfgkecifhdaaGreatDoorDecTextWalk
import Derived.Test.YtlnhfgkecifhdaaGreatDoorSignDec
namespace Go.Proofs.YtlnhfgkecifhdaaGreatDoor.readDec
open Go.ChangeShapes Go.WideShapes Go.ChangeAt Go.RowKit
set_option maxRecDepth 100000

/-- How a call ends: two results that Reads says. -/
structure Ends (l : List UInt8) (e : Ending) : Prop where
  out : ∃ r ok, e = .returned (.tuple #[.int .i64 r, .bool ok]) ∧ Reads l r ok
theorem Ends.mk' {l : List UInt8} {r : Int} {ok : Bool} (h : Reads l r ok) : Ends l (.returned (.tuple #[.int .i64 r, .bool ok])) := ⟨r, ok, rfl, h⟩

theorem reads_no {l : List UInt8} (h : ∀ n : Int, -9223372036854775808 ≤ n → n ≤ 9223372036854775807 → Lib.itoa n ≠ l) : Reads l 0 false := ⟨fun h => (by cases h), fun _ => ⟨rfl, h⟩⟩
theorem reads_bad_digit {l : List UInt8} {k : Nat} (hk : k < (tailOf l).length) (hb : ¬ (48 ≤ ((tailOf l)[k]).toNat ∧ ((tailOf l)[k]).toNat ≤ 57)) : Reads l 0 false :=
  reads_no fun n h0 h1 e => by
    have := (tail_itoa n h0 h1).1
    rw [e] at this
    exact hb (this _ (List.getElem_mem hk))
theorem reads_long {l : List UInt8} (hl : 19 < (tailOf l).length) : Reads l 0 false :=
  reads_no fun n h0 h1 e => by
    have := (tail_itoa n h0 h1).2.1
    rw [e] at this
    omega
theorem reads_empty {l : List UInt8} (hl : tailOf l = []) : Reads l 0 false :=
  reads_no fun n h0 h1 e => by
    have := (tail_itoa n h0 h1).2.2.1
    rw [e] at this
    exact this hl
theorem reads_rough {l : List UInt8} (h : Lib.itoa (rough l) = l) : Reads l (rough l) true := ⟨fun _ => ⟨h, rough_range l⟩, fun h => (by cases h)⟩
theorem reads_other {l : List UInt8} (h : Lib.itoa (rough l) ≠ l) : Reads l 0 false :=
  reads_no fun n h0 h1 e => by
    have := (tail_itoa n h0 h1).2.2.2
    rw [e] at this
    rw [this] at h
    exact h e

theorem val_snoc (l : List UInt8) (k : Nat) (h : k < l.length) : valFrom 0 (l.take (k + 1)) = stepN (valFrom 0 (l.take k)) l[k] := by
  rw [List.take_succ_eq_append_getElem h]
  unfold valFrom
  rw [List.foldl_append]
  rfl
theorem wrap_step (v b : Nat) (hb : 48 ≤ b) : wrap64 (wrap64 (wrap64 (10 * wrap64 (v : Int)) + (b : Int)) - 48) = wrap64 ((10 * v + (b - 48) : Nat) : Int) := by
  unfold wrap64
  omega

def vw (t : ByteArray) (k : Nat) : Int := wrap64 (valFrom 0 (t.data.toList.take k))
theorem vw_zero (t : ByteArray) : vw t 0 = 0 := by unfold vw valFrom; simp [wrap64]
theorem vw_step (t : ByteArray) (k : Nat) (h : k < t.size) (hb : 48 ≤ t[k].toNat) : wrap64 (wrap64 (wrap64 (10 * vw t k) + (t[k].toNat : Int)) - 48) = vw t (k + 1) := by
  have h' : k < t.data.toList.length := by rw [← Lib.size_eq]; exact h
  unfold vw
  rw [val_snoc _ k h', wrap_step _ _ hb]
  rfl
theorem vw_all (t : ByteArray) : vw t t.size = wrap64 (valFrom 0 t.data.toList) := by
  unfold vw
  rw [List.take_of_length_le (by rw [← Lib.size_eq]; exact Nat.le_refl _)]
theorem wrapB (b : UInt8) : wrap64 (b.toNat : Int) = b.toNat := by have := b.toNat_lt; unfold wrap64; omega
theorem reads_bad_at {l : List UInt8} {t : ByteArray} {k : Nat} (ht : tailOf l = t.data.toList) (hk : k < t.size) (hb : ¬ (48 ≤ t[k].toNat ∧ t[k].toNat ≤ 57)) : Reads l 0 false := by
  have h' : k < (tailOf l).length := by rw [ht, ← Lib.size_eq]; exact hk
  refine reads_bad_digit h' ?_
  have e : (tailOf l)[k] = t[k] := by
    simp only [ht]
    rfl
  rw [e]
  exact hb
theorem len_toList (s : ByteArray) : s.toList.length = s.size := by rw [Lib.toList_data, Lib.size_eq]
theorem notEmpty_of {s : ByteArray} (h : s.size ≠ 0) : s.toList.isEmpty = false := by
  cases hh : s.toList with
  | nil => exact absurd (by rw [← len_toList, hh]; rfl) h
  | cons a b => rfl
theorem toList_ne {l : List UInt8} {s : ByteArray} (h : l ≠ s.data.toList) : ((⟨l.toArray⟩ : ByteArray).toList == s.toList) = false := by
  rw [Lib.toList_data, Lib.toList_data]
  simpa using h
theorem toList_eq {l : List UInt8} {s : ByteArray} (h : l = s.data.toList) : ((⟨l.toArray⟩ : ByteArray).toList == s.toList) = true := by
  rw [Lib.toList_data, Lib.toList_data]
  simpa using h
theorem dec_at (n : Int) (hn : -9223372036854775808 ≤ n ∧ n ≤ 9223372036854775807) (w : World) : Calls Tryz.prog 23 #[.int .i64 n] w fun e w' => e = .returned (.string ⟨(Lib.itoa n).toArray⟩) ∧ w = w' := decText.spec_any n hn.1 hn.2 w
theorem wrap_range (n : Int) : -9223372036854775808 ≤ wrap64 n ∧ wrap64 n ≤ 9223372036854775807 := by unfold wrap64; omega

set_option maxHeartbeats 2000000 in
theorem spec_plain (s : ByteArray) (w : World) (hs : s.size ≤ 1048576) (ht : tailOf s.data.toList = s.data.toList) (hp : 0 < s.size) (h0 : (s[0]'hp).toNat ≠ 45) :
    Calls Tryz.prog 18 #[.string s] w fun e w' => Ends s.data.toList e ∧ w = w' := by
  have HT := Lib.hid ht
  have hp0 : (0 : Int) < (s.size : Int) := by omega
  have hne : (((s[0]'hp).toNat : Int) == 45) = false := by simp; omega
  clear h0 ht
  go_enter Tryz.func18, Tryz.ntmps18
  go_wp2
  go_loop [5, 6] (fun n i => ∃ k : Nat, k ≤ s.size ∧ i = .int .i64 k ∧ n = .int .i64 (vw s k)) (fun _ i => s.size - (intOf i).toNat)
  case atStart => exact ⟨0, Nat.zero_le _, rfl, by rw [vw_zero]⟩
  case round =>
    obtain ⟨k, hk, rfl, rfl⟩ := hrel
    by_cases hlt : k < s.size
    · have hk0 : (0 : Int) ≤ (k : Int) := by omega
      have hk1 : (k : Int) < (s.size : Int) := by omega
      have hwb := wrapB
      have hb9 := s[k].toNat_lt
      obtain ⟨a, HA⟩ : ∃ a, Hid (vw s k = a) := ⟨_, rfl⟩
      rw [HA.out]
      by_cases hd : 48 ≤ s[k].toNat ∧ s[k].toNat ≤ 57
      · obtain ⟨hd1, hd2⟩ := hd
        by_cases hlong : s.size ≤ 19
        · have hl' : (s.size : Int) ≤ 19 := by omega
          go_wp2
          refine ⟨⟨k + 1, by omega, by go_num, ?_⟩, by simp [intOf]; omega⟩
          rw [← HA.out, vw_step s k hlt hd1]
        · have hl' : (19 : Int) < (s.size : Int) := by omega
          have E : Reads s.data.toList 0 false := reads_long (by rw [HT.out, ← Lib.size_eq]; omega)
          go_wp2
          go_ret2
          exact ⟨Ends.mk' E, rfl⟩
      · have E : Reads s.data.toList 0 false := reads_bad_at (HT.out) hlt hd
        by_cases hd1 : 48 ≤ s[k].toNat
        · have hd2 : 57 < s[k].toNat := by omega
          clear hd
          go_wp2
          go_ret2
          exact ⟨Ends.mk' E, rfl⟩
        · clear hd
          go_wp2
          go_ret2
          exact ⟨Ends.mk' E, rfl⟩
    · have e : k = s.size := by omega
      subst e

      have ER : Hid (rough s.data.toList = vw s s.size) := by unfold Hid rough; rw [if_pos HT.out, HT.out, vw_all]
      obtain ⟨n, HN⟩ : ∃ n, Hid (vw s s.size = n) := ⟨_, rfl⟩
      rw [HN.out]
      have C := Lib.hid (dec_at n (by rw [← HN.out, vw_all]; exact wrap_range _) w)
      have hemp : s.toList.isEmpty = false := notEmpty_of (by omega)
      obtain ⟨p, hpp, HP⟩ : ∃ p : ByteArray, (⟨(Lib.itoa n).toArray⟩ : ByteArray) = p ∧ Hid (p = ⟨(Lib.itoa n).toArray⟩) := ⟨_, rfl, rfl⟩
      rw [hpp] at C
      clear hpp
      go_wp2_with fail
      with_reducible refine C.out.mono ?_
      rintro e w1 ⟨rfl, rfl⟩
      clear C
      by_cases hcmp : Lib.itoa n = s.data.toList
      · have hc : (p.toList == s.toList) = true := by rw [HP.out]; exact toList_eq hcmp
        have E : Reads s.data.toList n true := by rw [← HN.out, ← ER.out]; exact reads_rough (by rw [ER.out, HN.out]; exact hcmp)
        clear hcmp
        go_wp2
        go_ret2
        exact ⟨Ends.mk' E, rfl⟩
      · have hc : (p.toList == s.toList) = false := by rw [HP.out]; exact toList_ne hcmp
        have E : Reads s.data.toList 0 false := reads_other (by rw [ER.out, HN.out]; exact hcmp)
        clear hcmp
        go_wp2
        go_ret2
        exact ⟨Ends.mk' E, rfl⟩

set_option maxHeartbeats 2000000 in
theorem spec_minus (s : ByteArray) (w : World) (hs : s.size ≤ 1048576) (hp : 0 < s.size) (h0 : (s[0]'hp).toNat = 45) (t : ByteArray) (hte : s.extract 1 s.size = t) (hzt : t.size + 1 = s.size) (ht : tailOf s.data.toList = t.data.toList) (hnt : t.data.toList ≠ s.data.toList) :
    Calls Tryz.prog 18 #[.string s] w fun e w' => Ends s.data.toList e ∧ w = w' := by
  have HT := Lib.hid ht
  have HNT := Lib.hid hnt
  have hp0 : (0 : Int) < (s.size : Int) := by omega
  have hp1 : (1 : Int) ≤ (s.size : Int) := by omega
  have hne : (((s[0]'hp).toNat : Int) == 45) = true := by simp; omega
  have hzt' : t.size ≤ 1048576 := by omega
  have hcmp0 : (t.toList == s.toList) = false := by rw [Lib.toList_data, Lib.toList_data]; simpa using hnt
  have HZ := Lib.hid hzt
  clear h0 ht hnt hzt
  go_enter Tryz.func18, Tryz.ntmps18
  go_wp2
  clear hte
  go_loop [5, 6] (fun n i => ∃ k : Nat, k ≤ t.size ∧ i = .int .i64 k ∧ n = .int .i64 (vw t k)) (fun _ i => t.size - (intOf i).toNat)
  case atStart => exact ⟨0, Nat.zero_le _, rfl, by rw [vw_zero]⟩
  case round =>
    obtain ⟨k, hk, rfl, rfl⟩ := hrel
    by_cases hlt : k < t.size
    · have hk0 : (0 : Int) ≤ (k : Int) := by omega
      have hk1 : (k : Int) < (t.size : Int) := by omega
      have hwb := wrapB
      have hb9 := t[k].toNat_lt
      obtain ⟨a, HA⟩ : ∃ a, Hid (vw t k = a) := ⟨_, rfl⟩
      rw [HA.out]
      by_cases hd : 48 ≤ t[k].toNat ∧ t[k].toNat ≤ 57
      · obtain ⟨hd1, hd2⟩ := hd
        by_cases hlong : t.size ≤ 19
        · have hl' : (t.size : Int) ≤ 19 := by omega
          go_wp2
          refine ⟨⟨k + 1, by omega, by go_num, ?_⟩, by simp [intOf]; omega⟩
          rw [← HA.out, vw_step t k hlt hd1]
        · have hl' : (19 : Int) < (t.size : Int) := by omega
          have E : Reads s.data.toList 0 false := reads_long (by rw [HT.out, ← Lib.size_eq]; omega)
          go_wp2
          go_ret2
          exact ⟨Ends.mk' E, rfl⟩
      · have E : Reads s.data.toList 0 false := reads_bad_at (HT.out) hlt hd
        by_cases hd1 : 48 ≤ t[k].toNat
        · have hd2 : 57 < t[k].toNat := by omega
          clear hd
          go_wp2
          go_ret2
          exact ⟨Ends.mk' E, rfl⟩
        · clear hd
          go_wp2
          go_ret2
          exact ⟨Ends.mk' E, rfl⟩
    · have e : k = t.size := by omega
      subst e

      by_cases hemp0 : t.size = 0
      · have E : Reads s.data.toList 0 false := reads_empty (by rw [HT.out]; exact List.eq_nil_of_length_eq_zero (by rw [← Lib.size_eq]; exact hemp0))
        have hemp : t.toList.isEmpty = true := by rw [List.eq_nil_of_length_eq_zero (show t.toList.length = 0 by rw [len_toList]; exact hemp0)]; rfl
        clear hemp0
        go_wp2
        go_ret2
        exact ⟨Ends.mk' E, rfl⟩
      · have ER : Hid (rough s.data.toList = wrap64 (-(vw t t.size))) := by unfold Hid rough; rw [if_neg (by rw [HT.out]; exact HNT.out), HT.out, vw_all]
        obtain ⟨n, HN⟩ : ∃ n, Hid (vw t t.size = n) := ⟨_, rfl⟩
        rw [HN.out]
        obtain ⟨m, hm, HM⟩ : ∃ m, wrap64 (-n) = m ∧ Hid (m = wrap64 (-n)) := ⟨_, rfl, rfl⟩
        have C := Lib.hid (dec_at m (by rw [HM.out]; exact wrap_range _) w)
        have hemp : t.toList.isEmpty = false := notEmpty_of hemp0
        have hemp2 : (!t.toList.isEmpty) = true := by rw [hemp]; rfl
        clear hemp0
        obtain ⟨p, hpp, HP⟩ : ∃ p : ByteArray, (⟨(Lib.itoa m).toArray⟩ : ByteArray) = p ∧ Hid (p = ⟨(Lib.itoa m).toArray⟩) := ⟨_, rfl, rfl⟩
        rw [hpp] at C
        clear hpp
        go_wp2_with fail
        with_reducible refine C.out.mono ?_
        rintro e w1 ⟨rfl, rfl⟩
        clear C hm
        by_cases hcmp : Lib.itoa m = s.data.toList
        · have hc : (p.toList == s.toList) = true := by rw [HP.out]; exact toList_eq hcmp
          have E : Reads s.data.toList m true := by
            have e1 : m = rough s.data.toList := by rw [ER.out, HN.out]; exact HM.out
            rw [e1]
            exact reads_rough (by rw [← e1]; exact hcmp)
          clear hcmp
          go_wp2
          go_ret2
          exact ⟨Ends.mk' E, rfl⟩
        · have hc : (p.toList == s.toList) = false := by rw [HP.out]; exact toList_ne hcmp
          have E : Reads s.data.toList 0 false := by
            have e1 : m = rough s.data.toList := by rw [ER.out, HN.out]; exact HM.out
            exact reads_other (by rw [← e1]; exact hcmp)
          clear hcmp
          go_wp2
          go_ret2
          exact ⟨Ends.mk' E, rfl⟩

theorem spec_none (s : ByteArray) (w : World) (hp : s.size = 0) :
    Calls Tryz.prog 18 #[.string s] w fun e w' => Ends s.data.toList e ∧ w = w' := by
  have hl : s.data.toList = [] := List.eq_nil_of_length_eq_zero (by rw [← Lib.size_eq]; exact hp)
  have E : Reads s.data.toList 0 false := by rw [hl]; exact reads_empty rfl
  have hz : s = ⟨#[]⟩ := ByteArray.ext (Array.toList_inj.1 hl)
  clear hl hp
  subst hz
  go_enter Tryz.func18, Tryz.ntmps18
  go_wp2
  go_loop [5, 6] (fun n i => i = .int .i64 0 ∧ n = .int .i64 0) (fun _ _ => 0)
  case atStart => exact ⟨rfl, rfl⟩
  case round =>
    obtain ⟨rfl, rfl⟩ := hrel
    go_wp2
    go_ret2
    exact ⟨Ends.mk' E, rfl⟩

theorem spec_any (s : ByteArray) (w : World) (hs : s.size ≤ 1048576) :
    Calls Tryz.prog 18 #[.string s] w fun e w' => Ends s.data.toList e ∧ w = w' := by
  by_cases hp : 0 < s.size
  · have hlen : 0 < s.data.toList.length := by rw [← Lib.size_eq]; exact hp
    have hbyte : s[0] = s.data.toList[0] := rfl
    by_cases h0 : (s[0]'hp).toNat = 45
    · have hl : s.data.toList = 45 :: s.data.toList.drop 1 := by
        have h45 : s.data.toList[0] = 45 := by
          rw [← hbyte]
          exact UInt8.toNat_inj.1 h0
        have := List.drop_eq_getElem_cons (i := 0) hlen
        rw [h45] at this
        simpa using this
      have hx : (s.extract 1 s.size).data.toList = s.data.toList.drop 1 := by
        rw [Lib.extract_data]
        exact List.take_of_length_le (by rw [List.length_drop, ← Lib.size_eq]; omega)
      refine spec_minus s w hs hp h0 _ rfl ?_ ?_ ?_
      · rw [sign.size_extract]; omega
      · rw [hx]
        conv => lhs; rw [hl]
        rfl
      · intro e
        have := congrArg List.length e
        rw [hx, List.length_drop] at this
        omega
    · refine spec_plain s w hs ?_ hp h0
      cases hl : s.data.toList with
      | nil => rw [hl] at hlen; simp at hlen
      | cons c r =>
        refine tail_pos ?_
        intro e
        apply h0
        have : s.data.toList[0] = c := by simp only [hl]; rfl
        rw [hbyte, this, e]
        rfl
  · exact spec_none s w (by omega)

end Go.Proofs.YtlnhfgkecifhdaaGreatDoor.readDec
