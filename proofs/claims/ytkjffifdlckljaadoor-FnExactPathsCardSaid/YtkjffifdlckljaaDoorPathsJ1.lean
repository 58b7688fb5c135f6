/-
  Values whose lists a call itself has made: each list a whole block of its own between two marks of the heap. What such a value tells apart from its places.
-/
import Derived.Test.YtkjffifdlckljaaDoorPathsJ0
import Derived.Laws.MakeOwn
import Derived.Deep.Heap
import Derived.Test.YtkjffifdlckljaaDoorRows
import Derived.WalkKit
import Derived.ProofKit
import Derived.OpenShut
import Derived.WalkLawsBesides
import Derived.Deep.QuietTactic
import Derived.BigQuiet
import Derived.Deep.RegionWith
import Derived.Lib.Hide
import Derived.Lib.ItoaNum
import Derived.Lib.ItoaLen
import Derived.Lib.Strings
import Derived.WalkSpells
namespace Go.Proofs.YtkjffifdlckljaaDoor.val
open Go.ChangeShapes Go.WideShapes Go.ChangeAt Go.RowKit
set_option maxRecDepth 100000

/-- A value apart from its places. -/
inductive VT where
  | mk (k n e : Int) (s : ByteArray) (kids : List VT)
mutual
def er : LT → VT
  | .mk k n e s _ _ kids => .mk k n e s (erL kids)
def erL : List LT → List VT
  | [] => []
  | t :: ts => er t :: erL ts
end
mutual
def VT.sz : VT → Nat
  | .mk _ _ _ s kids => s.size + VT.szL kids
def VT.szL : List VT → Nat
  | [] => 0
  | t :: ts => 1 + VT.sz t + VT.szL ts
end
mutual
theorem sz_er : ∀ t : LT, (er t).sz = t.sz
  | .mk k n e s a cap kids => by rw [er, VT.sz, LT.sz, szL_er kids]
theorem szL_er : ∀ l : List LT, VT.szL (erL l) = LT.szL l
  | [] => by rw [erL, VT.szL, LT.szL]
  | t :: ts => by rw [erL, VT.szL, LT.szL, sz_er t, szL_er ts]
end
theorem er_sz {t u : LT} (h : er t = er u) : t.sz = u.sz := by rw [← sz_er t, ← sz_er u, h]
theorem erL_map (l : List LT) : erL l = l.map er := by
  induction l with
  | nil => rfl
  | cons t ts ih => simp [erL, ih]
theorem er_mk (t : LT) : er t = .mk t.k t.n t.e t.s (t.kids.map er) := by cases t; simp [er, erL_map, LT.k, LT.n, LT.e, LT.s, LT.kids]

/-- The value's lists lie in blocks of their own from lo on, below hi: each from its block's head, none frozen. -/
inductive Own (w : World) (lo hi : Nat) : LT → Prop
  | mk {k n e : Int} {s : ByteArray} {g cap : Nat} {kids : List LT} (cs : Array Value) (hk : InI k) (hn : InI n) (he : InI e) (hs : s.size ≤ 9223372036854775807) (hl : kids.length ≤ cap ∧ cap ≤ 9223372036854775807)
      (hlo : lo ≤ g) (hhi : g < hi) (hb : w.heap[g]? = some (.cells cs 24 (0, 0))) (hz : kids.length * 5 ≤ cs.size)
      (hc : ∀ i (h : i < kids.length), At5 w ⟨g, i * 5, none⟩ kids[i]) (hkids : ∀ i (h : i < kids.length), Own w lo hi kids[i]) : Own w lo hi (.mk k n e s (some ⟨g, 0, none⟩) cap kids)

theorem At5.of_block {w w' : World} {g o : Nat} {t : LT} (h : At5 w ⟨g, o, none⟩ t) (hb : w'.heap[g]? = w.heap[g]?) : At5 w' ⟨g, o, none⟩ t := by
  have c : ∀ j, w'.cell? ⟨g, j, none⟩ = w.cell? ⟨g, j, none⟩ := fun j => World.cell?_of_block hb
  exact ⟨(c _).trans h.c0, (c _).trans h.c1, (c _).trans h.c2, (c _).trans h.c3, (c _).trans h.c4⟩
theorem Own.kept {w w' : World} {lo hi lo' hi' : Nat} {t : LT} (h : Own w lo hi t) (hl : lo' ≤ lo) (hh : hi ≤ hi') (hk : ∀ b, lo ≤ b → b < hi → w'.heap[b]? = w.heap[b]?) : Own w' lo' hi' t := by
  induction h with
  | mk cs k1 k2 k3 k4 k5 hlo hhi hb hz hc _ ih =>
    exact .mk cs k1 k2 k3 k4 k5 (by omega) (by omega) ((hk _ hlo hhi).trans hb) hz (fun i hi => (hc i hi).of_block (hk _ hlo hhi)) ih
theorem Own.behind {w w' : World} {lo hi : Nat} {t : LT} (h : Own w lo hi t) (hb : Below hi w w') : Own w' lo hi t := h.kept (Nat.le_refl _) (Nat.le_refl _) fun b _ hb' => hb.block b hb'
theorem add0 (g i : Nat) : (⟨g, 0, none⟩ : Addr).add i = ⟨g, i, none⟩ := by unfold Addr.add; split <;> simp_all
theorem Own.isIn {w : World} {lo hi : Nat} {t : LT} (h : Own w lo hi t) : In w hi t := by
  induction h with
  | mk cs k1 k2 k3 k4 k5 hlo hhi hb hz hc _ ih => exact .mk k1 k2 k3 k4 k5 (fun i hi => ⟨_, rfl, hhi, by rw [add0]; exact hc i hi⟩) ih
theorem Own.adr {w : World} {lo hi : Nat} {t : LT} (h : Own w lo hi t) : ∃ g, t.a = some ⟨g, 0, none⟩ ∧ lo ≤ g ∧ g < hi := by
  cases h with
  | mk cs k1 k2 k3 k4 k5 hlo hhi hb hz hc _ => exact ⟨_, rfl, hlo, hhi⟩

/-- Five cells stored into a block. -/
theorem blk_set {w : World} {g o : Nat} {cs : Array Value} {T : TypeId} (h : w.heap[g]? = some (.cells cs T (0, 0))) (v : Value) : (w.setCell ⟨g, o, none⟩ v).heap[g]? = some (.cells (cs.setIfInBounds o v) T (0, 0)) := by
  rw [World.setCell, Array.getElem?_modify, if_pos rfl, h]; simp
theorem blk_other {w : World} {g b o : Nat} (v : Value) (h : b ≠ g) : (w.setCell ⟨g, o, none⟩ v).heap[b]? = w.heap[b]? := Go.Deep.blk_setCell_other w ⟨g, o, none⟩ v b h
theorem set_size {w : World} {g o : Nat} (v : Value) : (w.setCell ⟨g, o, none⟩ v).heap.size = w.heap.size := Go.Deep.nblk_setCell w _ v
/-- The world behind a value's store. -/
def put5 (w : World) (g o : Nat) (t : LT) : World := ((((w.setCell ⟨g, o, none⟩ (.int .i64 t.k)).setCell ⟨g, o + 1, none⟩ (.int .i64 t.n)).setCell ⟨g, o + 2, none⟩ (.int .i64 t.e)).setCell ⟨g, o + 3, none⟩ (.string t.s)).setCell ⟨g, o + 4, none⟩ t.row
theorem put5_other {w : World} {g o b : Nat} (t : LT) (h : b ≠ g) : (put5 w g o t).heap[b]? = w.heap[b]? := by
  unfold put5
  rw [blk_other _ h, blk_other _ h, blk_other _ h, blk_other _ h, blk_other _ h]
theorem put5_size {w : World} {g o : Nat} (t : LT) : (put5 w g o t).heap.size = w.heap.size := by
  unfold put5
  simp only [set_size]
theorem put5_below {w : World} {g o : Nat} (t : LT) {B : Nat} (hB : B ≤ g) : Below B w (put5 w g o t) := by
  unfold put5
  exact ((((((Below.refl _ _).setCell hB _).setCell hB _).setCell hB _).setCell hB _).setCell hB _)
def set5 (cs : Array Value) (o : Nat) (t : LT) : Array Value := ((((cs.setIfInBounds o (.int .i64 t.k)).setIfInBounds (o + 1) (.int .i64 t.n)).setIfInBounds (o + 2) (.int .i64 t.e)).setIfInBounds (o + 3) (.string t.s)).setIfInBounds (o + 4) t.row
theorem put5_block {w : World} {g o : Nat} {cs : Array Value} {T : TypeId} (t : LT) (h : w.heap[g]? = some (.cells cs T (0, 0))) : (put5 w g o t).heap[g]? = some (.cells (set5 cs o t) T (0, 0)) := by
  unfold put5 set5
  exact blk_set (blk_set (blk_set (blk_set (blk_set h _) _) _) _) _
theorem set5_size (cs : Array Value) (o : Nat) (t : LT) : (set5 cs o t).size = cs.size := by simp [set5]
theorem put5_at {w : World} {g o : Nat} {cs : Array Value} {T : TypeId} (t : LT) (h : w.heap[g]? = some (.cells cs T (0, 0))) (hs : o + 5 ≤ cs.size) : At5 (put5 w g o t) ⟨g, o, none⟩ t := by
  have hb := put5_block (o := o) t h
  have c : ∀ j, (put5 w g o t).cell? ⟨g, j, none⟩ = (set5 cs o t)[j]? := fun j => cell_of_row _ g j _ _ (0, 0) hb
  refine ⟨(c _).trans ?_, (c _).trans ?_, (c _).trans ?_, (c _).trans ?_, (c _).trans ?_⟩ <;> (unfold set5; simp [Array.getElem?_setIfInBounds]; try omega)
theorem put5_apart {w : World} {g o o' : Nat} {cs : Array Value} {T : TypeId} {t t' : LT} (h : w.heap[g]? = some (.cells cs T (0, 0))) (hap : o' + 5 ≤ o ∨ o + 5 ≤ o') (ha : At5 w ⟨g, o', none⟩ t') : At5 (put5 w g o t) ⟨g, o', none⟩ t' := by
  have hb := put5_block (o := o) t h
  have c : ∀ j, (put5 w g o t).cell? ⟨g, j, none⟩ = (set5 cs o t)[j]? := fun j => cell_of_row _ g j _ _ (0, 0) hb
  have d : ∀ j, w.cell? ⟨g, j, none⟩ = cs[j]? := fun j => cell_of_row _ g j _ _ (0, 0) h
  have e : ∀ j, (j < o ∨ o + 5 ≤ j) → (put5 w g o t).cell? ⟨g, j, none⟩ = w.cell? ⟨g, j, none⟩ := by
    intro j hj
    rw [c, d]
    unfold set5
    rw [Array.getElem?_setIfInBounds_ne (by omega), Array.getElem?_setIfInBounds_ne (by omega), Array.getElem?_setIfInBounds_ne (by omega), Array.getElem?_setIfInBounds_ne (by omega), Array.getElem?_setIfInBounds_ne (by omega)]
  exact ⟨(e _ (by omega)).trans ha.c0, (e _ (by simp only; omega)).trans ha.c1, (e _ (by simp only; omega)).trans ha.c2, (e _ (by simp only; omega)).trans ha.c3, (e _ (by simp only; omega)).trans ha.c4⟩

end Go.Proofs.YtkjffifdlckljaaDoor.val
/-
  A slice of strings that a call has made, and what it reads as.
-/
namespace Go.Proofs.YtkjffifdlckljaaDoor.strs
open Go.ChangeShapes Go.WideShapes Go.ChangeAt Go.RowKit
set_option maxRecDepth 100000

def encS (b : ByteArray) : Value := .string b
theorem oneS (x : ByteArray) : (encS x).oneCell' = true := rfl

/-- A slice of strings that reads as l. -/
structure ReadS (w : World) (v : Value) (l : List ByteArray) (a : Option Addr) (c : Nat) (g : Nat) : Prop where
  val : v = .slice a l.length c
  adr : 0 < l.length → a = some ⟨g, 0, none⟩
  cell : ∀ j (h : j < l.length), w.cell? ⟨g, j, none⟩ = some (.string l[j])
theorem readS_of {w : World} {base : Nat} {v : Value} {l : List ByteArray} (h : OwnL w base 9 encS v l) : ∃ a c g, ReadS w v l a c g := by
  rcases h.2 with ⟨rfl, hn⟩ | ⟨g, cap, cur, rfl, hb, hg, hc, hm, hs, ht⟩
  · exact ⟨none, 0, 0, by rw [hn], fun h0 => by omega, fun j hj => by omega⟩
  · exact ⟨_, cap, g, rfl, fun _ => rfl, fun j hj => h.cell j hj⟩

theorem ownL_store {w : World} {base g cap : Nat} {l : List ByteArray} (h : OwnL w base 9 encS (.slice (some ⟨g, 0, none⟩) l.length cap) l) (j : Nat) (x : ByteArray) :
    OwnL (w.setCell ⟨g, j, none⟩ (.string x)) base 9 encS (.slice (some ⟨g, 0, none⟩) l.length cap) (l.set j x) ∧ w.grownBy (w.setCell ⟨g, j, none⟩ (.string x)) (some g) := by
  obtain ⟨h1, h2⟩ := World.ownsRow.stored h j (.string x)
  refine ⟨?_, h2⟩
  unfold OwnL
  rw [List.length_set, List.map_set]
  exact h1
theorem grown_of_below {w w1 w' : World} {row : Option Nat} (hg : w.grownBy w1 row) (hb : Below w1.heap.size w1 w') : w.grownBy w' row :=
  hg.trans ⟨hb.os, hb.tape, hb.output, hb.size, fun k hk _ => hb.block k hk⟩

end Go.Proofs.YtkjffifdlckljaaDoor.strs
/-
  What spec.DecText and impl.DecText return: the decimal numeral of any int.
-/
namespace Go.Proofs.YtkjffifdlckljaaDoor.decText
open Go.ChangeShapes Go.WideShapes Go.ChangeAt Go.RowKit
set_option maxRecDepth 100000

/-- The digits of a number, none for 0. -/
def digs (u : Nat) : List UInt8 := if u = 0 then [] else digs (u / 10) ++ [UInt8.ofNat (48 + u % 10)]
theorem digs_zero : digs 0 = [] := by unfold digs; rfl
theorem digs_step {u : Nat} (h : 0 < u) : digs u = digs (u / 10) ++ [UInt8.ofNat (48 + u % 10)] := by
  rw [digs, if_neg (by omega)]
theorem digs_eq : ∀ u : Nat, 0 < u → digs u = Lib.decDigits u := by
  intro u
  induction u using Nat.strongRecOn with
  | ind u ih =>
    intro h
    rw [digs_step h, Lib.decDigits]
    by_cases hs : u < 10
    · rw [dif_pos hs, show u / 10 = 0 by omega, digs_zero, show u % 10 = u by omega]; rfl
    · rw [dif_neg hs, ih (u / 10) (by omega) (by omega)]

theorem piece_fin : ∀ d : Fin 10, (ByteArray.mk #[48, 49, 50, 51, 52, 53, 54, 55, 56, 57]).extract d.val (d.val + 1) = ⟨#[UInt8.ofNat (48 + d.val)]⟩ := by decide +kernel
theorem piece (d : Nat) (h : d < 10) (out : List UInt8) : (ByteArray.mk #[48, 49, 50, 51, 52, 53, 54, 55, 56, 57]).extract d (d + 1) ++ (⟨out.toArray⟩ : ByteArray) = ⟨(UInt8.ofNat (48 + d) :: out).toArray⟩ := by
  rw [piece_fin ⟨d, h⟩]
  apply ByteArray.ext
  apply Array.toList_inj.1
  rw [ByteArray.data_append]
  simp
theorem minus (out : List UInt8) : (ByteArray.mk #[45]) ++ (⟨out.toArray⟩ : ByteArray) = ⟨((45 : UInt8) :: out).toArray⟩ := by
  apply ByteArray.ext
  apply Array.toList_inj.1
  rw [ByteArray.data_append]
  simp
/-- How much has been written when v is left of u. -/
structure Left (u v : Nat) (out : List UInt8) : Prop where
  digits : digs u = digs v ++ out
  small : v * 10 ^ out.length ≤ u
theorem Left.step {u v : Nat} {out : List UInt8} (h : Left u v out) (hv : 0 < v) : Left u (v / 10) (UInt8.ofNat (48 + v % 10) :: out) := by
  refine ⟨?_, ?_⟩
  · rw [h.digits, digs_step hv]; simp
  · rw [List.length_cons, Nat.pow_succ, Nat.mul_comm (10 ^ out.length), ← Nat.mul_assoc]
    exact Nat.le_trans (Nat.mul_le_mul_right _ (by omega)) h.small
theorem Left.len {u v : Nat} {out : List UInt8} (h : Left u v out) (hv : 0 < v) (hu : u < 10 ^ 19) : out.length < 19 := by
  have h1 := h.small
  have h2 : 10 ^ out.length ≤ v * 10 ^ out.length := Nat.le_mul_of_pos_left _ hv
  exact (Nat.pow_lt_pow_iff_right (by omega)).1 (Nat.lt_of_le_of_lt (Nat.le_trans h2 h1) hu)
theorem ret_str {a b : ByteArray} (h : a = b) : Ending.returned (.string a) = .returned (.string b) := by rw [h]

theorem spec_zero (w : World) : Calls Tryd.prog 85 #[.int .i64 0] w fun e w' => e = .returned (.string ⟨#[48]⟩) ∧ w = w' := by
  go_enter Tryd.func85, Tryd.ntmps85
  go_wp2
  go_ret
  exact ⟨rfl, rfl⟩

set_option maxHeartbeats 1000000 in
theorem spec_pos (u : Nat) (h0 : 0 < u) (h1 : u ≤ 9223372036854775807) (w : World) :
    Calls Tryd.prog 85 #[.int .i64 u] w fun e w' => e = .returned (.string ⟨(Lib.decDigits u).toArray⟩) ∧ w = w' := by
  have hz : ((u : Int) == 0) = false := by simp; omega
  go_enter Tryd.func85, Tryd.ntmps85
  go_wp2
  go_loop [3, 4, 5] (fun o m _ => ∃ (v : Nat) (out : List UInt8), v ≤ u ∧ m = .int .i64 v ∧ o = .string ⟨out.toArray⟩ ∧ Left u v out) (fun _ m _ => (intOf m).toNat)
  case atStart => exact ⟨u, [], Nat.le_refl _, rfl, rfl, by simp, by simp⟩
  case round =>
    obtain ⟨v, out, hv, rfl, rfl, HD⟩ := hrel
    by_cases hlt : 0 < v
    · have hne : ((v : Int) != 0) = true := by simp; omega
      have hlen := HD.len hlt (by omega)
      have R1 := HD.step hlt
      clear HD
      go_wp2
      refine ⟨⟨v / 10, _, by omega, by congr 1, ?_, R1⟩, by simp [intOf]; omega⟩
      rw [piece (v % 10) (by omega)]
    · have e : v = 0 := by omega
      subst e
      have E : Hid (out = Lib.decDigits u) := by have := HD.digits; rw [digs_zero, digs_eq u h0] at this; exact this.symm
      clear HD
      go_wp2
      go_ret
      exact ⟨by rw [← E.out]; rfl, rfl⟩

set_option maxHeartbeats 1000000 in
theorem spec_neg (u : Nat) (h0 : 0 < u) (h1 : u ≤ 9223372036854775808) (w : World) :
    Calls Tryd.prog 85 #[.int .i64 (-(u : Int))] w fun e w' => e = .returned (.string ⟨((45 : UInt8) :: Lib.decDigits u).toArray⟩) ∧ w = w' := by
  have hz : ((-(u : Int)) == 0) = false := by simp; omega
  go_enter Tryd.func85, Tryd.ntmps85
  go_wp2
  go_loop [3, 4, 5] (fun o m _ => ∃ (v : Nat) (out : List UInt8), v ≤ u ∧ m = .int .i64 (-(v : Int)) ∧ o = .string ⟨out.toArray⟩ ∧ Left u v out) (fun _ m _ => (-(intOf m)).toNat)
  case atStart => exact ⟨u, [], Nat.le_refl _, rfl, rfl, by simp, by simp⟩
  case round =>
    obtain ⟨v, out, hv, rfl, rfl, HD⟩ := hrel
    by_cases hlt : 0 < v
    · have hne : ((-(v : Int)) != 0) = true := by simp; omega
      have hlen := HD.len hlt (by omega)
      have R1 := HD.step hlt
      clear HD
      go_wp2
      · refine ⟨⟨v / 10, _, by omega, by congr 1, ?_, R1⟩, by simp [intOf]; omega⟩
        rw [piece (v % 10) (by omega)]
      · have hz0 : (v : Int) % 10 ≤ 0 := by assumption
        refine ⟨⟨v / 10, _, by omega, by congr 1, ?_, R1⟩, by simp [intOf]; omega⟩
        rw [show (-((v : Int) % 10)).toNat = v % 10 by omega, show (-((v : Int) % 10) + 1).toNat = v % 10 + 1 by omega, piece (v % 10) (by omega)]
    · have e : v = 0 := by omega
      subst e
      have E : Hid (out = Lib.decDigits u) := by have := HD.digits; rw [digs_zero, digs_eq u h0] at this; exact this.symm
      have hlen : out.length ≤ 20 := by rw [E.out, Lib.decDigits_length]; exact Lib.nDigits_le20 u (by omega)
      clear HD
      go_wp2
      go_ret
      exact ⟨by rw [← E.out]; exact ret_str (minus out), rfl⟩

theorem spec_any (n : Int) (h0 : -9223372036854775808 ≤ n) (h1 : n ≤ 9223372036854775807) (w : World) :
    Calls Tryd.prog 85 #[.int .i64 n] w fun e w' => e = .returned (.string ⟨(Lib.itoa n).toArray⟩) ∧ w = w' := by
  unfold Lib.itoa
  by_cases hn : n < 0
  · rw [if_pos hn]
    have := spec_neg n.natAbs (by omega) (by omega) w
    rw [show (-(n.natAbs : Int)) = n by omega] at this
    exact this
  · rw [if_neg hn]
    by_cases hz : n = 0
    · subst hz
      rw [show Int.toNat 0 = 0 from rfl, Lib.decDigits_one (by omega)]
      exact spec_zero w
    · have := spec_pos n.toNat (by omega) (by omega) w
      rw [show ((n.toNat : Nat) : Int) = n by omega] at this
      exact this
end Go.Proofs.YtkjffifdlckljaaDoor.decText
