/-
  What impl.ReadDec returns, by the library's contracts of strconv.Atoi and strconv.Itoa: as spec.ReadDec. For texts of at most 1048576 bytes.
-/
import Derived.Test.YtlnhfgkecifhdaaGreatDoorReadDecWalk
import Derived.Test.YtlnhfgkecifhdaaGreatDoorDecTab
import Derived.Test.YtlnhfgkecifhdaaGreatDoorShelfAtoi
import Derived.LaidLaws
namespace Go.Proofs.YtlnhfgkecifhdaaGreatDoor.readDec
open Go.ChangeShapes Go.WideShapes Go.ChangeAt Go.RowKit
set_option maxRecDepth 100000

/-- A package variable that holds an error of errors.New. -/
def Sent (w : World) (g : Nat) : Prop := ∃ u v, w.cell? ⟨g, 0, none⟩ = some (.iface u v)
theorem sent_of {w : World} {n : String} {g : Nat} {nm : String} {d : DataW Unit} {l : List (String × DataW Unit)} (hL : laidMet Tryz.prog l w) (hm : (n, .iface nm d) ∈ l)
    (hg : Tryz.prog.globalNamed n = some g) (hty : (Tryz.prog.globals[g]?).map (·.type) = some 56) : Sent w g := by
  obtain ⟨g', t, cs, fuel, p, hg', hty', hvar, hd⟩ := Lib.laidMet.reads hL hm
  obtain rfl := Option.some.inj (hg.symm.trans hg')
  obtain rfl := Option.some.inj (hty.symm.trans hty')
  obtain ⟨f1, u, v, e, _, _⟩ := iface_of_trod Tryz.underlying56 hd
  refine ⟨u, v, ?_⟩
  rw [World.var?_cell hg hvar 0, ← Array.getElem?_toList, e]
  rfl
theorem Sent.below {w w' : World} {g : Nat} (h : Sent w g) (hb : Below w.heap.size w w') : Sent w' g := by
  obtain ⟨u, v, h⟩ := h
  refine ⟨u, v, ?_⟩
  rw [hb.cell (World.block_lt_of_cell? w _ h)]
  exact h
theorem bytes_below (w : World) (t : ByteArray) : Below w.heap.size w (Lib.bytesWorld w 5 t) :=
  ⟨rfl, rfl, rfl, by rw [Lib.bytesWorld_size]; omega, fun k hk => Lib.bytesWorld_at_old w _ t k hk⟩

/-- What strconv.Atoi does: a number and no error, or an error. -/
inductive AtoiEnd (l : List UInt8) (e : Ending) : Prop
  | ok (v : Int) (h : Lib.atoiAll l = .ok v) (he : e = .returned (.tuple #[.int .i64 v, .nilIface]))
  | err (v : Int) (u : TypeId) (x : Value) (h : ∀ n : Int, Lib.atoiAll l ≠ .ok n) (he : e = .returned (.tuple #[.int .i64 v, .iface u x]))
theorem atoi_any (s : ByteArray) (w : World) (hs : s.size ≤ 1048576) (h3 : Sent w 4) (h4 : Sent w 5) :
    Calls Tryz.prog 45 #[.string s] w fun e w' => AtoiEnd s.data.toList e ∧ Below w.heap.size w w' := by
  rcases hh : Lib.atoiAll s.data.toList with v | _ | _
  · refine (Any.strconv_Atoi_ok Tryz.laysC172 s (by omega) v hh w).mono fun e w' ⟨he, hw⟩ => ⟨.ok v hh he, ?_⟩
    rcases hw with rfl | ⟨t, rfl⟩
    · exact Below.refl _ _
    · exact bytes_below w t
  · obtain ⟨u, x, hv⟩ := h3
    refine (Any.strconv_Atoi_syntax Tryz.laysC172 s (by omega) hh _ w hv (.inr ⟨u, x, rfl⟩)).mono fun e w' ⟨N, he, _, _, hb⟩ => ⟨.err _ _ _ (fun n h => by rw [hh] at h; cases h) he, hb⟩
  · obtain ⟨u, x, hv⟩ := h4
    refine (Any.strconv_Atoi_range Tryz.laysC172 s (by omega) hh _ w hv (.inr ⟨u, x, rfl⟩)).mono fun e w' ⟨N, he, _, _, hb⟩ => ⟨.err _ _ _ (fun n h => by rw [hh] at h; cases h) he, hb⟩

theorem reads_no_atoi {l : List UInt8} (h : ∀ n : Int, Lib.atoiAll l ≠ .ok n) : Reads l 0 false :=
  reads_no fun n h0 h1 e => h n (by rw [← e]; exact atoi_itoa n h0 h1)
theorem atoi_range {l : List UInt8} {v : Int} (h : Lib.atoiAll l = .ok v) : -9223372036854775808 ≤ v ∧ v ≤ 9223372036854775807 := by
  unfold Lib.atoiAll at h
  split at h
  · cases h
  · simp only at h
    split at h
    · cases h
    · cases h
    · split at h
      · cases h
      · split at h
        · cases h
        · injection h with h
          subst h
          split <;> omega

set_option maxHeartbeats 1000000 in
theorem impl_any (s : ByteArray) (w : World) (hs : s.size ≤ 1048576) (h3 : Sent w 4) (h4 : Sent w 5) (hT : Lib.TabIs Tryz.prog w "internal/strconv.uint64pow10" .u64 Lib.pow10Tab) :
    Calls Tryz.prog 17 #[.string s] w fun e w' => Ends s.data.toList e ∧ Below w.heap.size w w' := by
  have C := Lib.hid (atoi_any s w hs h3 h4)
  have HT := Lib.hid hT
  clear h3 h4 hT
  go_enter Tryz.func17, Tryz.ntmps17
  go_wp2_with fail
  with_reducible refine C.out.mono ?_
  rintro e w1 ⟨he, hb⟩
  clear C
  rcases he with ⟨v, hv, rfl⟩ | ⟨v, u, x, hno, rfl⟩
  · have C2 := Lib.hid (decText.impl_any v (atoi_range hv).1 (atoi_range hv).2 w1 (decText.pow10_below HT.out hb))
    have HV := Lib.hid hv
    clear hv HT
    obtain ⟨p, hpp, HP⟩ : ∃ p : ByteArray, (⟨(Lib.itoa v).toArray⟩ : ByteArray) = p ∧ Hid (p = ⟨(Lib.itoa v).toArray⟩) := ⟨_, rfl, rfl⟩
    rw [hpp] at C2
    clear hpp
    go_wp2_with fail
    with_reducible refine C2.out.mono ?_
    rintro e w2 ⟨rfl, hb2⟩
    clear C2
    have hbb := hb.trans (hb2.mono hb.size)
    by_cases hcmp : Lib.itoa v = s.data.toList
    · have hc : (p.toList == s.toList) = true := by rw [HP.out]; exact toList_eq hcmp
      have E : Reads s.data.toList v true := ⟨fun _ => ⟨hcmp, atoi_range HV.out⟩, fun h => (by cases h)⟩
      clear hcmp
      go_wp2
      go_ret2
      exact ⟨Ends.mk' E, hbb⟩
    · have hc : (p.toList == s.toList) = false := by rw [HP.out]; exact toList_ne hcmp
      have E : Reads s.data.toList 0 false := reads_no fun n h0 h1 e => by
        have := atoi_itoa n h0 h1
        rw [e, HV.out] at this
        injection this with this
        rw [this] at hcmp
        exact hcmp e
      clear hcmp
      go_wp2
      go_ret2
      exact ⟨Ends.mk' E, hbb⟩
  · have E : Reads s.data.toList 0 false := reads_no_atoi hno
    clear hno HT
    go_wp2
    go_ret2
    exact ⟨Ends.mk' E, hb⟩

end Go.Proofs.YtlnhfgkecifhdaaGreatDoor.readDec
