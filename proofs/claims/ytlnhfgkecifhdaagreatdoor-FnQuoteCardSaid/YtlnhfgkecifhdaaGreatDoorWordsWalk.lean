/-
  What spec.Words and impl.Words return: the parts of a text between spaces. For texts of at most 1048576 bytes.
-/
import Derived.Test.YtlnhfgkecifhdaaGreatDoorStrRead
import Derived.Test.YtlnhfgkecifhdaaGreatDoorWordsPlain
import Derived.Test.YtlnhfgkecifhdaaGreatDoorShelfWords
namespace Go.Proofs.YtlnhfgkecifhdaaGreatDoor.words
open Go.ChangeShapes Go.WideShapes Go.ChangeAt Go.RowKit
open Go.Proofs.YtlnhfgkecifhdaaGreatDoor.strs (encS oneS)
set_option maxRecDepth 100000

theorem info9 : (Tryz.prog.info? 9).map (fun i => (i.zero, i.size, i.bytes)) = some (some (.string ⟨#[]⟩), 1, 16) := by kernel_rfl

set_option maxHeartbeats 1000000 in
theorem spec_any (s : ByteArray) (w : World) (hs : s.size ≤ 1048576) :
    Calls Tryz.prog 26 #[.string s] w fun e w' => ∃ v, e = .returned v ∧ OwnL w' w.heap.size 9 encS v (wordsOf s) ∧ Below w.heap.size w w' := by
  obtain ⟨i0, hi0, hz0, hz1, hz2⟩ := info_parts info9
  go_enter Tryz.func26, Tryz.ntmps26
  go_wp2
  go_loopw [3, 4, 5] (fun v f i wr => ∃ (fr k : Nat) (out : List ByteArray), k ≤ s.size ∧ f = .int .i64 fr ∧ i = .int .i64 k ∧ OwnL wr w.heap.size 9 encS v out ∧ At s fr k out ∧ Below w.heap.size w wr) (fun _ _ i _ => s.size - (intOf i).toNat)
  case atStart => exact ⟨0, 0, [], Nat.zero_le _, rfl, rfl, OwnL.empty _ _ _ (Nat.le_refl _), At.start s, (Below.refl _ _).alloc (Nat.le_refl _) _⟩
  case round =>
    obtain ⟨fr, k, out, hk, rfl, rfl, hown, R, hb⟩ := hrel
    have hsz := hb.size
    have hl := R.len
    have hfk := R.le
    by_cases hlt : k < s.size
    · have hk0 : (0 : Int) ≤ (k : Int) := by omega
      have hk1 : (k : Int) < (s.size : Int) := by omega
      have hf0 : (0 : Int) ≤ (fr : Int) := by omega
      have hf1 : (fr : Int) ≤ (k : Int) := by omega
      by_cases hb32 : s[k] = 32
      · have R1 := R.space hlt hb32
        have hq : ((s[k].toNat : Int) == 32) = true := by rw [hb32]; rfl
        clear hb32 R
        go_wp2_with (first
          | (at_builtin; refine wpList_app (by rfl) _ _ _ (by rfl) w.heap.size 9 encS i0 _ 16 Tryz.underlying36 hi0 hz0 hz1 hz2 rfl oneS u3 out (by rfl) (hown.alloc _) wr.heap.size 1 1 [s.extract fr k] (by rfl) (by rfl) _ (heap_alloc_new wr _) (by rfl) (by unfold maxLen; omega) (by omega) (by simp; omega) ?_; intro v1 w1 hown1 hg1))
        have hb1 : Below w.heap.size w w1 := grown_below (hb.alloc hsz _) (by simp; omega) (hown.alloc _) hg1
        go_roundw
        case rel => exact ⟨k + 1, k + 1, _, by omega, by go_num, by go_num, hown1, R1, hb1⟩
        case measure => simp [intOf]; omega
      · have R1 := R.other hlt hb32
        have hq : ((s[k].toNat : Int) == 32) = false := by
          simp only [beq_eq_false_iff_ne]
          intro e
          exact hb32 (UInt8.toNat_inj.1 (by have : (32 : UInt8).toNat = 32 := rfl; omega))
        clear hb32 R
        go_wp2
        go_roundw
        case rel => exact ⟨fr, k + 1, _, by omega, rfl, by go_num, hown, R1, hb⟩
        case measure => simp [intOf]; omega
    · have HD := Lib.hid (R.done (by omega))
      have hf0 : (0 : Int) ≤ (fr : Int) := by omega
      have hf1 : (fr : Int) ≤ (s.size : Int) := by omega
      clear R
      go_wp2_with (first
        | (at_builtin; refine wpList_app (by rfl) _ _ _ (by rfl) w.heap.size 9 encS i0 _ 16 Tryz.underlying36 hi0 hz0 hz1 hz2 rfl oneS u3 out (by rfl) (hown.alloc _) wr.heap.size 1 1 [s.extract fr s.size] (by rfl) (by rfl) _ (heap_alloc_new wr _) (by rfl) (by unfold maxLen; omega) (by omega) (by simp; omega) ?_; intro v1 w1 hown1 hg1))
      have hb1 : Below w.heap.size w w1 := grown_below (hb.alloc hsz _) (by simp; omega) (hown.alloc _) hg1
      go_ret
      exact ⟨_, rfl, by rw [← HD.out]; exact hown1, hb1⟩

theorem clone_any (s : ByteArray) (w : World) (hs : s.size ≤ 281474976710656) :
    Calls Tryz.prog 50 #[.string s] w fun e w' => e = .returned (.string s) ∧ Below w.heap.size w w' := by
  have C := Lib.hid (Tryz.stringslite_Clone s w hs)
  go_enter Tryz.func50, Tryz.ntmps50
  go_wp2_with fail
  with_reducible refine C.out.mono ?_
  rintro e w1 ⟨rfl, hb⟩
  go_wp2
  go_ret
  exact ⟨rfl, hb⟩

theorem word_size (s : ByteArray) (j : Nat) (h : j < (wordsOf s).length) : ((wordsOf s)[j]).size ≤ s.size := by
  have hsub : ∀ (l : List UInt8) (x : List UInt8), x ∈ ws l → x.length ≤ l.length := by
    intro l
    induction l with
    | nil => intro x hx; simp [ws] at hx; subst hx; simp
    | cons c r ih =>
      intro x hx
      unfold ws at hx
      split at hx
      · rcases List.mem_cons.1 hx with rfl | hx
        · simp
        · have := ih x hx; simp; omega
      · cases hr : ws r with
        | nil => exact absurd hr (ws_ne r)
        | cons a b =>
          rw [hr] at hx
          simp only [ahead] at hx
          rcases List.mem_cons.1 hx with rfl | hx
          · have := ih a (by rw [hr]; simp); simp; omega
          · have := ih x (by rw [hr]; simp [hx]); simp; omega
  have hm : (wordsOf s)[j] ∈ wordsOf s := List.getElem_mem h
  unfold wordsOf at hm
  obtain ⟨x, hx, e⟩ := List.mem_map.1 hm
  have := hsub _ x hx
  rw [Lib.size_eq, Lib.size_eq s]
  have e2 : (wordsOf s)[j] = mkB x := e.symm
  rw [e2]
  exact this

set_option maxHeartbeats 1000000 in
theorem impl_any (s : ByteArray) (w : World) (hs : s.size ≤ 1048576) (m : Int) (hm : w.cell? ⟨3, 0, none⟩ = some (.int .i64 m)) :
    Calls Tryz.prog 25 #[.string s] w fun e w' => ∃ v, e = .returned v ∧ OwnL w' w.heap.size 9 encS v (wordsOf s) ∧ Below w.heap.size w w' := by
  have c := Tryz.strings_Split s ⟨#[32]⟩ m w (by omega) hm (by decide)
  rw [countB_words, splitB_words] at c
  have C := Lib.hid c
  have hl := wordsOf_length s
  have HS := Lib.hid (word_size s)
  clear c hm
  generalize wordsOf s = l at *
  go_enter Tryz.func25, Tryz.ntmps25
  go_wp2_with fail
  with_reducible refine C.out.mono ?_
  rintro e w1 ⟨rfl, rfl⟩
  clear C
  have hown0 : OwnL (w.alloc (.cells (l.map Value.string).toArray 9)) w.heap.size 9 encS (.slice (some ⟨w.heap.size, 0, none⟩) l.length l.length) l :=
    OwnL.of_block w.heap.size _ (Nat.le_refl _) (heap_alloc_new w _) rfl (by unfold maxLen; omega)
  have H0 := Lib.hid hown0
  clear hown0
  go_wp2
  go_loopw [4, 5, 10] (fun _ _ i wr => ∃ k : Nat, k ≤ l.length ∧ i = .int .i64 k ∧ OwnL wr w.heap.size 9 encS (.slice (some ⟨w.heap.size, 0, none⟩) l.length l.length) l ∧ Below w.heap.size w wr) (fun _ _ i _ => l.length - (intOf i).toNat)
  case atStart => exact ⟨0, Nat.zero_le _, rfl, H0.out, (Below.refl _ _).alloc (Nat.le_refl _) _⟩
  case round =>
    obtain ⟨k, hk, rfl, hown, hb⟩ := hrel
    have hsz := hb.size
    by_cases hlt : k < l.length
    · have hk0 : (0 : Int) ≤ (k : Int) := by omega
      have hk1 : (k : Int) < (l.length : Int) := by omega
      have hcell0 := hown.cell k hlt
      obtain ⟨x, hx, HX⟩ : ∃ x, wr.cell? ⟨w.heap.size, k, none⟩ = some (.string x) ∧ Hid (l[k] = x) := ⟨_, hcell0, rfl⟩
      have hxs : x.size ≤ 1048576 := by rw [← HX.out]; exact Nat.le_trans (HS.out k hlt) hs
      have C2 := Lib.hid (clone_any x wr (by omega))
      have OW := Lib.hid hown
      clear hcell0 hown
      go_wp2_with fail
      with_reducible refine C2.out.mono ?_
      rintro e w2 ⟨rfl, hb2⟩
      have hown2 := OW.out.below hb2
      obtain ⟨y, hcell⟩ : ∃ y, w2.cell? ⟨w.heap.size, k, none⟩ = some y := ⟨_, hown2.cell k hlt⟩
      have hfrz : w2.frozen? ⟨w.heap.size, k, none⟩ = false := World.ownsRow.frozenAt hown2 k
      have hst := (strs.ownL_store hown2 k x).1
      rw [show l.set k x = l by rw [← HX.out]; simp] at hst
      have HST := Lib.hid hst
      have hb3 : Below w.heap.size w (w2.setCell ⟨w.heap.size, k, none⟩ (.string x)) := (hb.trans (hb2.mono hsz)).setCell (Nat.le_refl _) _
      have HB := Lib.hid hb3
      clear hst hown2 hb2 hb3 C2 OW hx
      go_wp2
      go_roundw
      case rel => exact ⟨k + 1, by omega, by go_num, HST.out, HB.out⟩
      case measure => simp [intOf]; omega
    · go_wp2
      go_ret
      exact ⟨_, rfl, hown, hb⟩

end Go.Proofs.YtlnhfgkecifhdaaGreatDoor.words
