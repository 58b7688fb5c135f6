/-
  impl's reader of heads: its state; a head that some value has.
-/
import Derived.Test.YtnaghafmpncdkaaDoorBegPlain
import Derived.Test.YtnaghafmpncdkaaDoorBegState
import Derived.Test.YtnaghafmpncdkaaDoorBegTab
import Derived.Test.YtnaghafmpncdkaaDoorGetHeadLast
import Derived.Test.YtnaghafmpncdkaaDoorCutHit
namespace Go.Proofs.YtnaghafmpncdkaaDoor.beg
open Go.ChangeShapes Go.WideShapes Go.ChangeAt Go.RowKit
open Go.Proofs.YtnaghafmpncdkaaDoor.head
set_option maxRecDepth 100000

/-- The reader's block: c heads read. -/
abbrev PR (W : World) (b : Nat) (s : ByteArray) (i : Int) (bad : Bool) (c : Int) : Prop := Rd 96 [.int .i64 c] W b s i bad
abbrev PX (W w' : World) (b : Nat) (s : ByteArray) (i : Int) (bad : Bool) (c : Int) : Prop := RdRet 96 [.int .i64 c] W w' b s i bad
theorem PR.c3 {W : World} {b : Nat} {s : ByteArray} {i : Int} {bad : Bool} {c : Int} (h : PR W b s i bad c) : W.cell? ⟨b, 3, none⟩ = some (.int .i64 c) := (cell_of_row W b 3 _ _ (0, 0) h.row).trans (by simp)
theorem PR.count {W : World} {b : Nat} {s : ByteArray} {i : Int} {bad : Bool} {c : Int} (h : PR W b s i bad c) (c' : Int) : PX W (W.setCell ⟨b, 3, none⟩ (.int .i64 c')) b s i bad c' :=
  ⟨⟨by have := val.blk_set (o := 3) h.row (.int .i64 c'); simpa using this⟩, set_only W b 3 _⟩
theorem PX.refl {W : World} {b : Nat} {s : ByteArray} {i : Int} {bad : Bool} {c : Int} (h : PR W b s i bad c) : PX W W b s i bad c := ⟨h, only_refl W b⟩
theorem PX.trans {W w1 w2 : World} {b : Nat} {s : ByteArray} {i j : Int} {bad bad2 : Bool} {c c2 : Int} (h : PX W w1 b s i bad c) (k : PX w1 w2 b s j bad2 c2) : PX W w2 b s j bad2 c2 := ⟨k.rd, only_trans h.only k.only⟩

/-- The error of a text that ends within; that of no value. -/
def cutE : Value := .iface 99 (.agg #[])
def noE (v : Value) : Value := .iface 212 v
def errOf (v : Value) (r : Int) : Value := if 0 ≤ r then .nilIface else if r = -2 then cutE else noE v
/-- The variables that are read. -/
structure Kit (W : World) (v : Value) : Prop where
  no : W.cell? ⟨1, 0, none⟩ = some (noE v)
  ty : cut.TypeCell W
  tab : begTab.Tab W
def Off (b : Nat) : Prop := 1 ≠ b ∧ 2 ≠ b ∧ 3 ≠ b
theorem Kit.only {W w' : World} {v : Value} {b : Nat} (h : Kit W v) (hg : W.grownBy w' (some b)) (hb : Off b) : Kit w' v := by
  have h1 := World.block_lt_of_cell? W _ h.no
  have h2 : 2 < W.heap.size := World.block_lt_of_cell? W _ h.ty
  refine ⟨(World.cell?_of_block (hg.block _ h1 (fun e => hb.1 (by injection e)))).trans h.no, ?_, h.tab.only hg hb.2.2⟩
  have hh := h.ty
  unfold cut.TypeCell at *
  exact (World.cell?_of_block (hg.block _ h2 (fun e => hb.2.1 (by injection e)))).trans hh
theorem Kit.below {W w' : World} {v : Value} (h : Kit W v) (hb : Below W.heap.size W w') : Kit w' v :=
  ⟨(World.cell?_of_block (hb.block _ (World.block_lt_of_cell? W _ h.no))).trans h.no, h.ty.below hb, h.tab.below h.tab.lt hb⟩

/-- The greatest number of a head of a value. -/
def great (m : Nat) : Nat := if m ≤ 1 then 9223372036854775807 else if m ≤ 3 then 2000 else if m ≤ 5 then 300 else if m = 6 then 1000000 else 22
def Unfit (m n : Nat) : Prop := great m < n ∨ (m = 7 ∧ n < 20)
theorem unfit_head {s : ByteArray} {f : Nat → Nat → Int × Int} {m n X left : Nat} (h8 : m < 8) (h : Unfit m n) : headW s f m n X left = (-1, (left : Int)) := by
  unfold Unfit great at h
  unfold headW
  rcases (show m = 0 ∨ m = 1 ∨ m = 2 ∨ m = 3 ∨ m = 4 ∨ m = 5 ∨ m = 6 ∨ m = 7 by omega) with rfl | rfl | rfl | rfl | rfl | rfl | rfl | rfl <;> simp at h ⊢ <;> omega

/-- The text from a place on begins as it does there. -/
theorem cut_from (s : ByteArray) (i : Nat) (hi : i ≤ s.size) : cutH (s.extract i s.size) 0 ↔ cutH s i := by
  have hz : (s.extract i s.size).size = s.size - i := by simp [ByteArray.size_extract]
  have ha : i < s.size → at_ (s.extract i s.size) 0 = at_ s i := fun h => by
    unfold at_
    rw [ByteArray.data_extract, Array.toList_extract, List.extract_eq_take_drop]
    rw [List.getD_eq_getElem?_getD, List.getD_eq_getElem?_getD, List.getElem?_take_of_lt (by omega), List.getElem?_drop, Nat.add_zero]
  by_cases h : i < s.size
  · have hl : low (s.extract i s.size) 0 = low s i := by unfold low; rw [ha h]
    unfold cutH many
    rw [hl, hz]
    split <;> omega
  · unfold cutH
    rw [hz]
    constructor <;> (intro _; left; omega)
/-- The empty text. -/
theorem empty_is (s : ByteArray) : s.toList.isEmpty = decide (s.size = 0) := by
  rw [ByteArray.toList_eq, Bool.eq_iff_iff, List.isEmpty_iff_length_eq_zero]
  simp
set_option maxHeartbeats 2000000 in
theorem cut_in (t : ByteArray) (W : World) (hs : t.size ≤ 1048576) : Calls Tryd.prog 112 #[.string t] W fun e w' => e = .returned (.bool (decide (cutH t 0))) ∧ Below W.heap.size W w' := by
  by_cases h0 : t.size = 0
  · have hc : decide (cutH t 0) = true := decide_eq_true (.inl (by omega))
    have e0 : t = ⟨#[]⟩ := by
      apply ByteArray.ext
      exact Array.eq_empty_of_size_eq_zero h0
    rw [hc]
    subst e0
    clear hs h0 hc
    go_enter Tryd.func112, Tryd.ntmps112
    go_wp2
    go_ret
    exact ⟨rfl, Below.refl _ _⟩
  · have hlt0 : 0 < t.size := by omega
    obtain ⟨B, hb, hF, hb256⟩ := first_of t 0 hlt0
    have e2 : t.toList.isEmpty = false := by rw [empty_is]; simpa using h0
    have p0 : (0 : Int) < (t.size : Int) := by omega
    have p1 : ¬ (0 : Int) = (t.size : Int) := by omega
    have hl := hF.low
    have ha : bits .and .u8 (B : Int) 31 = ((B % 32 : Nat) : Int) := by rw [u8_and31 _ (by omega) (by omega)]; rfl
    have hm : cutH t 0 ↔ 24 ≤ B % 32 ∧ B % 32 ≤ 27 ∧ t.size ≤ many t 0 := by
      unfold cutH
      rw [hl]
      constructor
      · rintro (h | h)
        · omega
        · simpa using h
      · intro h
        exact .inr (by simpa using h)
    have hmany : many t 0 = if B % 32 < 24 then 0 else 2 ^ (B % 32 - 24) := by unfold many; rw [hl]
    have h32 : B % 32 < 32 := Nat.mod_lt _ (by omega)
    generalize B % 32 = L at *
    by_cases hL : 24 ≤ L ∧ L ≤ 27
    · rw [if_neg (by omega)] at hmany
      rcases (show L = 24 ∨ L = 25 ∨ L = 26 ∨ L = 27 by omega) with rfl | rfl | rfl | rfl
      · have hq : decide (cutH t 0) = decide ((t.size : Int) ≤ 1) := decide_eq_decide.2 (by rw [hm, hmany]; simp; omega)
        rw [hq]
        replace ha : bits .and .u8 (B : Int) 31 = 24 := ha
        clear hm hl hF hq hmany hL h32 hs
        go_enter Tryd.func112, Tryd.ntmps112
        go_wp2
        go_ret
        exact ⟨by simp, Below.refl _ _⟩
      · have hq : decide (cutH t 0) = decide ((t.size : Int) ≤ 2) := decide_eq_decide.2 (by rw [hm, hmany]; simp; omega)
        rw [hq]
        replace ha : bits .and .u8 (B : Int) 31 = 25 := ha
        clear hm hl hF hq hmany hL h32 hs
        go_enter Tryd.func112, Tryd.ntmps112
        go_wp2
        go_ret
        exact ⟨by simp, Below.refl _ _⟩
      · have hq : decide (cutH t 0) = decide ((t.size : Int) ≤ 4) := decide_eq_decide.2 (by rw [hm, hmany]; simp; omega)
        rw [hq]
        replace ha : bits .and .u8 (B : Int) 31 = 26 := ha
        clear hm hl hF hq hmany hL h32 hs
        go_enter Tryd.func112, Tryd.ntmps112
        go_wp2
        go_ret
        exact ⟨by simp, Below.refl _ _⟩
      · have hq : decide (cutH t 0) = decide ((t.size : Int) ≤ 8) := decide_eq_decide.2 (by rw [hm, hmany]; simp; omega)
        rw [hq]
        replace ha : bits .and .u8 (B : Int) 31 = 27 := ha
        clear hm hl hF hq hmany hL h32 hs
        go_enter Tryd.func112, Tryd.ntmps112
        go_wp2
        go_ret
        exact ⟨by simp, Below.refl _ _⟩
    · have hf : decide (cutH t 0) = false := decide_eq_false (fun h => by have := hm.1 h; omega)
      rw [hf]
      by_cases hL2 : L < 24
      · have p2 : ¬ (24 : Int) ≤ (L : Int) := by omega
        clear hm hl hF hmany hf hL h32 hs hL2
        go_enter Tryd.func112, Tryd.ntmps112
        go_wp2
        go_ret
        exact ⟨by simp, Below.refl _ _⟩
      · have p2 : (24 : Int) ≤ (L : Int) := by omega
        have p3 : ¬ (L : Int) ≤ 27 := by omega
        clear hm hl hF hmany hf hL h32 hs hL2
        go_enter Tryd.func112, Tryd.ntmps112
        go_wp2
        go_ret
        exact ⟨by simp, Below.refl _ _⟩
/-- What nextHead tells. -/
structure NX (W w' : World) (b : Nat) (s : ByteArray) (v : Value) (i c : Nat) (e : Ending) : Prop where
  ex : ∃ (m n : Nat) (o : Bool) (J : Int) (bad : Bool) (er : Value), e = .returned (.tuple #[hd m n o, er]) ∧ PX W w' b s J bad c ∧
    ((cutH s i ∧ er = cutE) ∨ (¬ cutH s i ∧ er = noE v ∧ ((getHead s i).2.2 < 0 ∨ ∃ m n X : Nat, getHead s i = ((m : Int), n, (X : Int)) ∧ m < 8 ∧ Unfit m n)) ∨
      (¬ cutH s i ∧ er = .nilIface ∧ o = false ∧ bad = false ∧ getHead s i = ((m : Int), n, J) ∧ m < 8 ∧ ¬ Unfit m n))
theorem short_pr {W : World} {b : Nat} {s : ByteArray} {i : Nat} {c : Int} (hs : s.size ≤ 1048576) (hi : i ≤ s.size) (h : PR W b s i false c) :
    Calls Tryd.prog 79 #[.pointer (some ⟨b, 0, none⟩)] W fun e w' => ∃ (m n : Nat) (o : Bool) (J : Int) (bad : Bool), e = .returned (hd m n o) ∧ PX W w' b s J bad c ∧ n < 18446744073709551616 ∧ m < 8 ∧
      (bad = false → getHead s i = ((m : Int), n, J) ∧ o = false) ∧ (bad = true → getHead s i = (-1, 0, -1)) := by
  have eb : badAt s (i : Int) = false := by unfold badAt; simp; omega
  have h' : PR W b s i (badAt s (i : Int)) c := by rw [eb]; exact h
  refine (short_any s i b (badAt s (i : Int)) W h' (fun m n o j bad => Tells s i m n o j bad ∧ m < 8 ∧ n < 18446744073709551616) (fun W h => (get_c s i b hs W h).mono ?_)).mono ?_
  · rintro e w' ⟨m, n, o, j, bad, rfl, hr⟩
    exact ⟨m, n, o, j, bad, rfl, hr.ret, hr.m_lt, hr.n_lt, hr.far, hr.q, hr.m_lt, hr.n_lt⟩
  rintro e w' ⟨m, n, o, j, bad, rfl, hr, hq, h8, h64⟩
  refine ⟨m, n, o, j, _, rfl, hr, h64, h8, fun hb => ⟨hq.yes hb, ?_⟩, fun hb => hq.no hb⟩
  simp only [Bool.or_eq_false_iff] at hb
  exact hb.1.2
end Go.Proofs.YtnaghafmpncdkaaDoor.beg
