/-
  Values whose lists a call itself has made: each list a whole block of its own between two marks of the heap. What such a value tells apart from its places.
-/
import Derived.Test.YthjholhjkahdkaaValT
import Derived.Laws.MakeOwn
import Derived.Deep.Heap
namespace Go.Proofs.Ythjholhjkahdkaa.val
open Go.ChangeShapes Go.WideShapes Go.ChangeAt Go.RowKit
set_option maxRecDepth 100000

/-- A value apart from its places. -/
inductive VT where
  | mk (k n e : Int) (s : ByteArray) (kids : List VT)
mutual
def er : LT → VT
  | .mk k n e s _ _ kids => .mk k n e s (erL kids)
def erL : List LT → List VT
  | [] => []
  | t :: ts => er t :: erL ts
end
mutual
def VT.sz : VT → Nat
  | .mk _ _ _ s kids => s.size + VT.szL kids
def VT.szL : List VT → Nat
  | [] => 0
  | t :: ts => 1 + VT.sz t + VT.szL ts
end
mutual
theorem sz_er : ∀ t : LT, (er t).sz = t.sz
  | .mk k n e s a cap kids => by rw [er, VT.sz, LT.sz, szL_er kids]
theorem szL_er : ∀ l : List LT, VT.szL (erL l) = LT.szL l
  | [] => by rw [erL, VT.szL, LT.szL]
  | t :: ts => by rw [erL, VT.szL, LT.szL, sz_er t, szL_er ts]
end
theorem er_sz {t u : LT} (h : er t = er u) : t.sz = u.sz := by rw [← sz_er t, ← sz_er u, h]
theorem erL_map (l : List LT) : erL l = l.map er := by
  induction l with
  | nil => rfl
  | cons t ts ih => simp [erL, ih]
theorem er_mk (t : LT) : er t = .mk t.k t.n t.e t.s (t.kids.map er) := by cases t; simp [er, erL_map, LT.k, LT.n, LT.e, LT.s, LT.kids]

/-- The value's lists lie in blocks of their own from lo on, below hi: each from its block's head, none frozen. -/
inductive Own (w : World) (lo hi : Nat) : LT → Prop
  | mk {k n e : Int} {s : ByteArray} {g cap : Nat} {kids : List LT} (cs : Array Value) (hk : InI k) (hn : InI n) (he : InI e) (hs : s.size ≤ 9223372036854775807) (hl : kids.length ≤ cap ∧ cap ≤ 9223372036854775807)
      (hlo : lo ≤ g) (hhi : g < hi) (hb : w.heap[g]? = some (.cells cs 26 (0, 0))) (hz : kids.length * 5 ≤ cs.size)
      (hc : ∀ i (h : i < kids.length), At5 w ⟨g, i * 5, none⟩ kids[i]) (hkids : ∀ i (h : i < kids.length), Own w lo hi kids[i]) : Own w lo hi (.mk k n e s (some ⟨g, 0, none⟩) cap kids)

theorem At5.of_block {w w' : World} {g o : Nat} {t : LT} (h : At5 w ⟨g, o, none⟩ t) (hb : w'.heap[g]? = w.heap[g]?) : At5 w' ⟨g, o, none⟩ t := by
  have c : ∀ j, w'.cell? ⟨g, j, none⟩ = w.cell? ⟨g, j, none⟩ := fun j => World.cell?_of_block hb
  exact ⟨(c _).trans h.c0, (c _).trans h.c1, (c _).trans h.c2, (c _).trans h.c3, (c _).trans h.c4⟩
theorem Own.kept {w w' : World} {lo hi lo' hi' : Nat} {t : LT} (h : Own w lo hi t) (hl : lo' ≤ lo) (hh : hi ≤ hi') (hk : ∀ b, lo ≤ b → b < hi → w'.heap[b]? = w.heap[b]?) : Own w' lo' hi' t := by
  induction h with
  | mk cs k1 k2 k3 k4 k5 hlo hhi hb hz hc _ ih =>
    exact .mk cs k1 k2 k3 k4 k5 (by omega) (by omega) ((hk _ hlo hhi).trans hb) hz (fun i hi => (hc i hi).of_block (hk _ hlo hhi)) ih
theorem Own.behind {w w' : World} {lo hi : Nat} {t : LT} (h : Own w lo hi t) (hb : Below hi w w') : Own w' lo hi t := h.kept (Nat.le_refl _) (Nat.le_refl _) fun b _ hb' => hb.block b hb'
theorem add0 (g i : Nat) : (⟨g, 0, none⟩ : Addr).add i = ⟨g, i, none⟩ := by unfold Addr.add; split <;> simp_all
theorem Own.isIn {w : World} {lo hi : Nat} {t : LT} (h : Own w lo hi t) : In w hi t := by
  induction h with
  | mk cs k1 k2 k3 k4 k5 hlo hhi hb hz hc _ ih => exact .mk k1 k2 k3 k4 k5 (fun i hi => ⟨_, rfl, hhi, by rw [add0]; exact hc i hi⟩) ih
theorem Own.adr {w : World} {lo hi : Nat} {t : LT} (h : Own w lo hi t) : ∃ g, t.a = some ⟨g, 0, none⟩ ∧ lo ≤ g ∧ g < hi := by
  cases h with
  | mk cs k1 k2 k3 k4 k5 hlo hhi hb hz hc _ => exact ⟨_, rfl, hlo, hhi⟩

/-- Five cells stored into a block. -/
theorem blk_set {w : World} {g o : Nat} {cs : Array Value} {T : TypeId} (h : w.heap[g]? = some (.cells cs T (0, 0))) (v : Value) : (w.setCell ⟨g, o, none⟩ v).heap[g]? = some (.cells (cs.setIfInBounds o v) T (0, 0)) := by
  rw [World.setCell, Array.getElem?_modify, if_pos rfl, h]; simp
theorem blk_other {w : World} {g b o : Nat} (v : Value) (h : b ≠ g) : (w.setCell ⟨g, o, none⟩ v).heap[b]? = w.heap[b]? := Go.Deep.blk_setCell_other w ⟨g, o, none⟩ v b h
theorem set_size {w : World} {g o : Nat} (v : Value) : (w.setCell ⟨g, o, none⟩ v).heap.size = w.heap.size := Go.Deep.nblk_setCell w _ v
/-- The world behind a value's store. -/
def put5 (w : World) (g o : Nat) (t : LT) : World := ((((w.setCell ⟨g, o, none⟩ (.int .i64 t.k)).setCell ⟨g, o + 1, none⟩ (.int .i64 t.n)).setCell ⟨g, o + 2, none⟩ (.int .i64 t.e)).setCell ⟨g, o + 3, none⟩ (.string t.s)).setCell ⟨g, o + 4, none⟩ t.row
theorem put5_other {w : World} {g o b : Nat} (t : LT) (h : b ≠ g) : (put5 w g o t).heap[b]? = w.heap[b]? := by
  unfold put5
  rw [blk_other _ h, blk_other _ h, blk_other _ h, blk_other _ h, blk_other _ h]
theorem put5_size {w : World} {g o : Nat} (t : LT) : (put5 w g o t).heap.size = w.heap.size := by
  unfold put5
  simp only [set_size]
theorem put5_below {w : World} {g o : Nat} (t : LT) {B : Nat} (hB : B ≤ g) : Below B w (put5 w g o t) := by
  unfold put5
  exact ((((((Below.refl _ _).setCell hB _).setCell hB _).setCell hB _).setCell hB _).setCell hB _)
def set5 (cs : Array Value) (o : Nat) (t : LT) : Array Value := ((((cs.setIfInBounds o (.int .i64 t.k)).setIfInBounds (o + 1) (.int .i64 t.n)).setIfInBounds (o + 2) (.int .i64 t.e)).setIfInBounds (o + 3) (.string t.s)).setIfInBounds (o + 4) t.row
theorem put5_block {w : World} {g o : Nat} {cs : Array Value} {T : TypeId} (t : LT) (h : w.heap[g]? = some (.cells cs T (0, 0))) : (put5 w g o t).heap[g]? = some (.cells (set5 cs o t) T (0, 0)) := by
  unfold put5 set5
  exact blk_set (blk_set (blk_set (blk_set (blk_set h _) _) _) _) _
theorem set5_size (cs : Array Value) (o : Nat) (t : LT) : (set5 cs o t).size = cs.size := by simp [set5]
theorem put5_at {w : World} {g o : Nat} {cs : Array Value} {T : TypeId} (t : LT) (h : w.heap[g]? = some (.cells cs T (0, 0))) (hs : o + 5 ≤ cs.size) : At5 (put5 w g o t) ⟨g, o, none⟩ t := by
  have hb := put5_block (o := o) t h
  have c : ∀ j, (put5 w g o t).cell? ⟨g, j, none⟩ = (set5 cs o t)[j]? := fun j => cell_of_row _ g j _ _ (0, 0) hb
  refine ⟨(c _).trans ?_, (c _).trans ?_, (c _).trans ?_, (c _).trans ?_, (c _).trans ?_⟩ <;> (unfold set5; simp [Array.getElem?_setIfInBounds]; try omega)
theorem put5_apart {w : World} {g o o' : Nat} {cs : Array Value} {T : TypeId} {t t' : LT} (h : w.heap[g]? = some (.cells cs T (0, 0))) (hap : o' + 5 ≤ o ∨ o + 5 ≤ o') (ha : At5 w ⟨g, o', none⟩ t') : At5 (put5 w g o t) ⟨g, o', none⟩ t' := by
  have hb := put5_block (o := o) t h
  have c : ∀ j, (put5 w g o t).cell? ⟨g, j, none⟩ = (set5 cs o t)[j]? := fun j => cell_of_row _ g j _ _ (0, 0) hb
  have d : ∀ j, w.cell? ⟨g, j, none⟩ = cs[j]? := fun j => cell_of_row _ g j _ _ (0, 0) h
  have e : ∀ j, (j < o ∨ o + 5 ≤ j) → (put5 w g o t).cell? ⟨g, j, none⟩ = w.cell? ⟨g, j, none⟩ := by
    intro j hj
    rw [c, d]
    unfold set5
    rw [Array.getElem?_setIfInBounds_ne (by omega), Array.getElem?_setIfInBounds_ne (by omega), Array.getElem?_setIfInBounds_ne (by omega), Array.getElem?_setIfInBounds_ne (by omega), Array.getElem?_setIfInBounds_ne (by omega)]
  exact ⟨(e _ (by omega)).trans ha.c0, (e _ (by simp only; omega)).trans ha.c1, (e _ (by simp only; omega)).trans ha.c2, (e _ (by simp only; omega)).trans ha.c3, (e _ (by simp only; omega)).trans ha.c4⟩

end Go.Proofs.Ythjholhjkahdkaa.val
