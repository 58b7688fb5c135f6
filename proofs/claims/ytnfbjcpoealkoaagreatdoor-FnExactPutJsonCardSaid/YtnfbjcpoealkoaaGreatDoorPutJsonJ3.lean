/-
  Values whose lists a call itself has made: each list a whole block of its own between two marks of the heap. What such a value tells apart from its places.
-/
import Derived.Test.YtnfbjcpoealkoaaGreatDoorPutJsonJ0
import Derived.Laws.MakeOwn
import Derived.Deep.Heap
import Derived.Test.YtnfbjcpoealkoaaGreatDoorPutJsonJ2
import Derived.Lib.AppendStr
import Derived.Lib.Hide
namespace Go.Proofs.YtnfbjcpoealkoaaGreatDoor.val
open Go.ChangeShapes Go.WideShapes Go.ChangeAt Go.RowKit
set_option maxRecDepth 100000

/-- A value apart from its places. -/
inductive VT where
  | mk (k n e : Int) (s : ByteArray) (kids : List VT)
mutual
def er : LT → VT
  | .mk k n e s _ _ kids => .mk k n e s (erL kids)
def erL : List LT → List VT
  | [] => []
  | t :: ts => er t :: erL ts
end
mutual
def VT.sz : VT → Nat
  | .mk _ _ _ s kids => s.size + VT.szL kids
def VT.szL : List VT → Nat
  | [] => 0
  | t :: ts => 1 + VT.sz t + VT.szL ts
end
mutual
theorem sz_er : ∀ t : LT, (er t).sz = t.sz
  | .mk k n e s a cap kids => by rw [er, VT.sz, LT.sz, szL_er kids]
theorem szL_er : ∀ l : List LT, VT.szL (erL l) = LT.szL l
  | [] => by rw [erL, VT.szL, LT.szL]
  | t :: ts => by rw [erL, VT.szL, LT.szL, sz_er t, szL_er ts]
end
theorem er_sz {t u : LT} (h : er t = er u) : t.sz = u.sz := by rw [← sz_er t, ← sz_er u, h]
theorem erL_map (l : List LT) : erL l = l.map er := by
  induction l with
  | nil => rfl
  | cons t ts ih => simp [erL, ih]
theorem er_mk (t : LT) : er t = .mk t.k t.n t.e t.s (t.kids.map er) := by cases t; simp [er, erL_map, LT.k, LT.n, LT.e, LT.s, LT.kids]

/-- The value's lists lie in blocks of their own from lo on, below hi: each from its block's head, none frozen. -/
inductive Own (w : World) (lo hi : Nat) : LT → Prop
  | mk {k n e : Int} {s : ByteArray} {g cap : Nat} {kids : List LT} (cs : Array Value) (hk : InI k) (hn : InI n) (he : InI e) (hs : s.size ≤ 9223372036854775807) (hl : kids.length ≤ cap ∧ cap ≤ 9223372036854775807)
      (hlo : lo ≤ g) (hhi : g < hi) (hb : w.heap[g]? = some (.cells cs 46 (0, 0))) (hz : kids.length * 5 ≤ cs.size)
      (hc : ∀ i (h : i < kids.length), At5 w ⟨g, i * 5, none⟩ kids[i]) (hkids : ∀ i (h : i < kids.length), Own w lo hi kids[i]) : Own w lo hi (.mk k n e s (some ⟨g, 0, none⟩) cap kids)

theorem At5.of_block {w w' : World} {g o : Nat} {t : LT} (h : At5 w ⟨g, o, none⟩ t) (hb : w'.heap[g]? = w.heap[g]?) : At5 w' ⟨g, o, none⟩ t := by
  have c : ∀ j, w'.cell? ⟨g, j, none⟩ = w.cell? ⟨g, j, none⟩ := fun j => World.cell?_of_block hb
  exact ⟨(c _).trans h.c0, (c _).trans h.c1, (c _).trans h.c2, (c _).trans h.c3, (c _).trans h.c4⟩
theorem Own.kept {w w' : World} {lo hi lo' hi' : Nat} {t : LT} (h : Own w lo hi t) (hl : lo' ≤ lo) (hh : hi ≤ hi') (hk : ∀ b, lo ≤ b → b < hi → w'.heap[b]? = w.heap[b]?) : Own w' lo' hi' t := by
  induction h with
  | mk cs k1 k2 k3 k4 k5 hlo hhi hb hz hc _ ih =>
    exact .mk cs k1 k2 k3 k4 k5 (by omega) (by omega) ((hk _ hlo hhi).trans hb) hz (fun i hi => (hc i hi).of_block (hk _ hlo hhi)) ih
theorem Own.behind {w w' : World} {lo hi : Nat} {t : LT} (h : Own w lo hi t) (hb : Below hi w w') : Own w' lo hi t := h.kept (Nat.le_refl _) (Nat.le_refl _) fun b _ hb' => hb.block b hb'
theorem add0 (g i : Nat) : (⟨g, 0, none⟩ : Addr).add i = ⟨g, i, none⟩ := by unfold Addr.add; split <;> simp_all
theorem Own.isIn {w : World} {lo hi : Nat} {t : LT} (h : Own w lo hi t) : In w hi t := by
  induction h with
  | mk cs k1 k2 k3 k4 k5 hlo hhi hb hz hc _ ih => exact .mk k1 k2 k3 k4 k5 (fun i hi => ⟨_, rfl, hhi, by rw [add0]; exact hc i hi⟩) ih
theorem Own.adr {w : World} {lo hi : Nat} {t : LT} (h : Own w lo hi t) : ∃ g, t.a = some ⟨g, 0, none⟩ ∧ lo ≤ g ∧ g < hi := by
  cases h with
  | mk cs k1 k2 k3 k4 k5 hlo hhi hb hz hc _ => exact ⟨_, rfl, hlo, hhi⟩

/-- Five cells stored into a block. -/
theorem blk_set {w : World} {g o : Nat} {cs : Array Value} {T : TypeId} (h : w.heap[g]? = some (.cells cs T (0, 0))) (v : Value) : (w.setCell ⟨g, o, none⟩ v).heap[g]? = some (.cells (cs.setIfInBounds o v) T (0, 0)) := by
  rw [World.setCell, Array.getElem?_modify, if_pos rfl, h]; simp
theorem blk_other {w : World} {g b o : Nat} (v : Value) (h : b ≠ g) : (w.setCell ⟨g, o, none⟩ v).heap[b]? = w.heap[b]? := Go.Deep.blk_setCell_other w ⟨g, o, none⟩ v b h
theorem set_size {w : World} {g o : Nat} (v : Value) : (w.setCell ⟨g, o, none⟩ v).heap.size = w.heap.size := Go.Deep.nblk_setCell w _ v
/-- The world behind a value's store. -/
def put5 (w : World) (g o : Nat) (t : LT) : World := ((((w.setCell ⟨g, o, none⟩ (.int .i64 t.k)).setCell ⟨g, o + 1, none⟩ (.int .i64 t.n)).setCell ⟨g, o + 2, none⟩ (.int .i64 t.e)).setCell ⟨g, o + 3, none⟩ (.string t.s)).setCell ⟨g, o + 4, none⟩ t.row
theorem put5_other {w : World} {g o b : Nat} (t : LT) (h : b ≠ g) : (put5 w g o t).heap[b]? = w.heap[b]? := by
  unfold put5
  rw [blk_other _ h, blk_other _ h, blk_other _ h, blk_other _ h, blk_other _ h]
theorem put5_size {w : World} {g o : Nat} (t : LT) : (put5 w g o t).heap.size = w.heap.size := by
  unfold put5
  simp only [set_size]
theorem put5_below {w : World} {g o : Nat} (t : LT) {B : Nat} (hB : B ≤ g) : Below B w (put5 w g o t) := by
  unfold put5
  exact ((((((Below.refl _ _).setCell hB _).setCell hB _).setCell hB _).setCell hB _).setCell hB _)
def set5 (cs : Array Value) (o : Nat) (t : LT) : Array Value := ((((cs.setIfInBounds o (.int .i64 t.k)).setIfInBounds (o + 1) (.int .i64 t.n)).setIfInBounds (o + 2) (.int .i64 t.e)).setIfInBounds (o + 3) (.string t.s)).setIfInBounds (o + 4) t.row
theorem put5_block {w : World} {g o : Nat} {cs : Array Value} {T : TypeId} (t : LT) (h : w.heap[g]? = some (.cells cs T (0, 0))) : (put5 w g o t).heap[g]? = some (.cells (set5 cs o t) T (0, 0)) := by
  unfold put5 set5
  exact blk_set (blk_set (blk_set (blk_set (blk_set h _) _) _) _) _
theorem set5_size (cs : Array Value) (o : Nat) (t : LT) : (set5 cs o t).size = cs.size := by simp [set5]
theorem put5_at {w : World} {g o : Nat} {cs : Array Value} {T : TypeId} (t : LT) (h : w.heap[g]? = some (.cells cs T (0, 0))) (hs : o + 5 ≤ cs.size) : At5 (put5 w g o t) ⟨g, o, none⟩ t := by
  have hb := put5_block (o := o) t h
  have c : ∀ j, (put5 w g o t).cell? ⟨g, j, none⟩ = (set5 cs o t)[j]? := fun j => cell_of_row _ g j _ _ (0, 0) hb
  refine ⟨(c _).trans ?_, (c _).trans ?_, (c _).trans ?_, (c _).trans ?_, (c _).trans ?_⟩ <;> (unfold set5; simp [Array.getElem?_setIfInBounds]; try omega)
theorem put5_apart {w : World} {g o o' : Nat} {cs : Array Value} {T : TypeId} {t t' : LT} (h : w.heap[g]? = some (.cells cs T (0, 0))) (hap : o' + 5 ≤ o ∨ o + 5 ≤ o') (ha : At5 w ⟨g, o', none⟩ t') : At5 (put5 w g o t) ⟨g, o', none⟩ t' := by
  have hb := put5_block (o := o) t h
  have c : ∀ j, (put5 w g o t).cell? ⟨g, j, none⟩ = (set5 cs o t)[j]? := fun j => cell_of_row _ g j _ _ (0, 0) hb
  have d : ∀ j, w.cell? ⟨g, j, none⟩ = cs[j]? := fun j => cell_of_row _ g j _ _ (0, 0) h
  have e : ∀ j, (j < o ∨ o + 5 ≤ j) → (put5 w g o t).cell? ⟨g, j, none⟩ = w.cell? ⟨g, j, none⟩ := by
    intro j hj
    rw [c, d]
    unfold set5
    rw [Array.getElem?_setIfInBounds_ne (by omega), Array.getElem?_setIfInBounds_ne (by omega), Array.getElem?_setIfInBounds_ne (by omega), Array.getElem?_setIfInBounds_ne (by omega), Array.getElem?_setIfInBounds_ne (by omega)]
  exact ⟨(e _ (by omega)).trans ha.c0, (e _ (by simp only; omega)).trans ha.c1, (e _ (by simp only; omega)).trans ha.c2, (e _ (by simp only; omega)).trans ha.c3, (e _ (by simp only; omega)).trans ha.c4⟩

end Go.Proofs.YtnfbjcpoealkoaaGreatDoor.val
/-
  What impl's writer of JSON adds by itself: a colon, a line break.
-/
namespace Go.Proofs.YtnfbjcpoealkoaaGreatDoor.json
open Go.ChangeShapes Go.WideShapes Go.ChangeAt Go.RowKit Go.Proofs.YtnfbjcpoealkoaaGreatDoor.val
set_option maxRecDepth 100000

theorem info8 : (Tryz.prog.info? 5).map (fun i => (i.zero, i.size, i.bytes)) = some (some (.int .u8 0), 1, 1) := by kernel_rfl
theorem oneB (x : UInt8) : (encB x).oneCell' = true := rfl
/-- Nothing ahead of the block b is written, and behind it no block whose cells are not bytes. -/
structure Bk (b : Nat) (W w' : World) : Prop where
  low : Below b W w'
  keep : ∀ k cs t fr, k ≠ b → t ≠ 5 → W.heap[k]? = some (.cells cs t fr) → w'.heap[k]? = some (.cells cs t fr)
theorem Bk.refl (b : Nat) (W : World) : Bk b W W := ⟨Below.refl _ _, fun _ _ _ _ _ _ h => h⟩
theorem Bk.trans {b : Nat} {W w1 w2 : World} (h : Bk b W w1) (h' : Bk b w1 w2) : Bk b W w2 := ⟨h.low.trans h'.low, fun k cs t fr a c d => h'.keep k cs t fr a c (h.keep k cs t fr a c d)⟩
theorem Bk.of {b : Nat} {W w' : World} (h : Below W.heap.size W w') (hb : b ≤ W.heap.size) : Bk b W w' := ⟨h.mono hb, fun k _ _ _ _ _ hk => (h.block k (Array.getElem?_eq_some_iff.1 hk).1).trans hk⟩
theorem Bk.alloc {b : Nat} {W w : World} (h : Bk b W w) (hb : b ≤ w.heap.size) (o : Obj) : Bk b W (w.alloc o) := h.trans (Bk.of ((Below.refl w.heap.size w).alloc (Nat.le_refl _) o) hb)
theorem own_type {W : World} {B k : Nat} {v : Value} {l : List UInt8} {cs : Array Value} {t : TypeId} {fr : Nat × Nat} (h : OwnL W B 5 encB v l) (ht : t ≠ 5) (hk : W.heap[k]? = some (.cells cs t fr)) : v.ownBlock ≠ some k := by
  intro e
  rcases h.2 with ⟨hv, _⟩ | ⟨g, cap, cur, hv, _, hg, _⟩
  · rw [hv] at e
    simp [Value.ownBlock] at e
  · rw [hv] at e
    have e' : g = k := by simpa [Value.ownBlock] using e
    subst e'
    rw [hg] at hk
    injection hk with hk
    injection hk with _ h2 _
    exact ht h2.symm
/-- A writer's block: its bytes, in blocks behind it, and whether it breaks lines. -/
structure Wj (W : World) (b : Nat) (v : Value) (l : List UInt8) (p : Bool) : Prop where
  row : W.heap[b]? = some (.cells #[v, .bool p] 141 (0, 0))
  own : OwnL W (b + 1) 5 encB v l
section
variable {W w1 : World} {b : Nat} {v v' : Value} {l l' : List UInt8} {p : Bool}
theorem Wj.c0 (h : Wj W b v l p) : W.cell? ⟨b, 0, none⟩ = some v := cell_of_row W b 0 _ _ (0, 0) h.row
theorem Wj.c1 (h : Wj W b v l p) : W.cell? ⟨b, 1, none⟩ = some (.bool p) := cell_of_row W b 1 _ _ (0, 0) h.row
theorem Wj.fr (h : Wj W b v l p) (o : Nat) : W.frozen? ⟨b, o, none⟩ = false := frozen_of_row W b o _ _ h.row
theorem Wj.lt (h : Wj W b v l p) : b < W.heap.size := (Array.getElem?_eq_some_iff.1 h.row).1
theorem Wj.drewN (h : Wj W b v l p) (n : Nat) : Wj (W.drewN n) b v l p := ⟨h.row, h.own⟩
theorem Wj.later {B : Nat} (h : Wj W b v l p) (hb : Below W.heap.size W w1) : Wj w1 b v l p := ⟨(hb.block _ h.lt).trans h.row, h.own.below hb⟩
theorem Wj.alloc (h : Wj W b v l p) (o : Obj) : Wj (W.alloc o) b v l p := ⟨(Below.heap_alloc _ _ _ h.lt).trans h.row, h.own.alloc o⟩
/-- Behind 'w.out = append(w.out, ..)'. -/
theorem Wj.more (h : Wj W b v l p) (ho : OwnL w1 (b + 1) 5 encB v' l') (hg : W.grownBy w1 v.ownBlock) :
    Wj (w1.setCell ⟨b, 0, none⟩ v') b v' l' p ∧ Bk b W (w1.setCell ⟨b, 0, none⟩ v') ∧ w1.cell? ⟨b, 0, none⟩ = some v ∧ w1.frozen? ⟨b, 0, none⟩ = false := by
  have hlt := h.lt
  have hne : ∀ k, v.ownBlock = some k → b + 1 ≤ k := fun k hk => h.own.base_le k hk
  have hne' : ∀ k, v'.ownBlock = some k → b + 1 ≤ k := fun k hk => ho.base_le k hk
  have hr : w1.heap[b]? = some (.cells #[v, .bool p] 141 (0, 0)) := by
    rw [hg.block b hlt (fun e => by have := hne b e.symm; omega)]
    exact h.row
  refine ⟨⟨?_, ?_⟩, ?_, cell_of_row w1 b 0 _ _ (0, 0) hr, frozen_of_row w1 b 0 _ _ hr⟩
  · have := blk_set (o := 0) hr v'
    simpa using this
  · obtain ⟨h1, h2⟩ := ho
    refine ⟨h1, ?_⟩
    rcases h2 with h2 | ⟨g, cap, cur, hv, hb, hg', rest⟩
    · exact .inl h2
    · exact .inr ⟨g, cap, cur, hv, hb, (blk_other v' (by omega)).trans hg', rest⟩
  · refine ⟨((Below.refl b W).grown hg (by omega) (fun k hk => by have := hne k hk; omega)).setCell (p := ⟨b, 0, none⟩) (Nat.le_refl _) _, ?_⟩
    intro k cs t fr hkb ht hk
    have hno := own_type h.own ht hk
    exact (blk_other v' (by omega)).trans ((hg.block k (Array.getElem?_eq_some_iff.1 hk).1 (fun e => hno e.symm)).trans hk)
end
/-- What a call that adds bytes leaves. -/
def PutR (W : World) (b : Nat) (l : List UInt8) (p : Bool) (e : Ending) (w' : World) : Prop := (∃ u, e = .returned u) ∧ (∃ v', Wj w' b v' l p) ∧ Bk b W w'
theorem new_at (w : World) (o : Obj) (g : Nat) (hg : g = w.heap.size) : (w.alloc o).heap[g]? = some o := by subst hg; exact heap_alloc_new w o
theorem add_one (W : World) {b : Nat} {v : Value} {l : List UInt8} {p : Bool} (h : Wj W b v l p) (x : UInt8) (w1 : World) (v1 : Value) (ho : OwnL w1 (b + 1) 5 encB v1 (l ++ [x])) (hg : (W.alloc (.cells #[encB x] 5)).grownBy w1 v.ownBlock) :
    Wj (w1.setCell ⟨b, 0, none⟩ v1) b v1 (l ++ [x]) p ∧ Bk b W (w1.setCell ⟨b, 0, none⟩ v1) ∧ w1.cell? ⟨b, 0, none⟩ = some v ∧ w1.frozen? ⟨b, 0, none⟩ = false := by
  obtain ⟨h1, h2, h3, h4⟩ := (h.alloc (.cells #[encB x] 5)).more ho hg
  exact ⟨h1, ((Bk.refl b W).alloc (Nat.le_of_lt h.lt) _).trans h2, h3, h4⟩
set_option maxHeartbeats 1000000 in
theorem colon_any (W : World) (b : Nat) (v : Value) (l : List UInt8) (p : Bool) (hl : l.length ≤ 1000000000) (hw : Wj W b v l p) :
    Calls Tryz.prog 194 #[.pointer (some ⟨b, 0, none⟩)] W (PutR W b (l ++ colonL p) p) := by
  obtain ⟨i0, hi0, hz0, hz1, hz2⟩ := info_parts info8
  obtain ⟨a, c, rfl, _⟩ := hw.own.shape
  have HW := Lib.hid hw
  have c0 := hw.c0
  have c1 := hw.c1
  have f0 := hw.fr 0
  have hlt := hw.lt
  clear hw
  cases p with
  | false =>
    go_enter Tryz.func194, Tryz.ntmps194
    go_wp2_with (at_builtin; refine wpList_app (by rfl) _ _ _ (by rfl) (b + 1) 5 encB i0 _ 1 Tryz.underlying22 hi0 hz0 hz1 hz2 rfl oneB _ l (by rfl) (HW.out.own.alloc _) W.heap.size 1 1 [58] (by rfl) (by rfl) _ (heap_alloc_new W _) (by rfl) (by unfold maxLen; omega) (by omega) (by simp; omega) ?_; intro v1 w1 hown1 hg1; obtain ⟨KW, KB, kc, kf⟩ := add_one W HW.out 58 w1 v1 hown1 hg1; obtain ⟨a1, d1, rfl, _⟩ := hown1.shape; rw [List.length_append, List.length_singleton] at KW KB; have kp := KW.c1; replace KW := Lib.hid KW; replace KB := Lib.hid KB; clear hown1 hg1)
    refine bodyPost_ret (results_none rfl _ _ _) rfl ?_
    exact ⟨⟨_, rfl⟩, ⟨_, KW.out⟩, KB.out⟩
  | true =>
    go_enter Tryz.func194, Tryz.ntmps194
    go_wp2_with (first
      | (at_builtin; refine wpList_app (by rfl) _ _ _ (by rfl) (b + 1) 5 encB i0 _ 1 Tryz.underlying22 hi0 hz0 hz1 hz2 rfl oneB _ l (by rfl) (HW.out.own.alloc _) W.heap.size 1 1 [58] (by rfl) (by rfl) _ (heap_alloc_new W _) (by rfl) (by unfold maxLen; omega) (by omega) (by simp; omega) ?_; intro v1 w1 hown1 hg1; obtain ⟨KW, KB, kc, kf⟩ := add_one W HW.out 58 w1 v1 hown1 hg1; obtain ⟨a1, d1, rfl, _⟩ := hown1.shape; rw [List.length_append, List.length_singleton] at KW KB; have kp := KW.c1; have kq := KW.c0; have kr := KW.fr 0; replace KW := Lib.hid KW; replace KB := Lib.hid KB; clear hown1 hg1)
      | (at_builtin; refine wpList_app (by rfl) _ _ _ (by rfl) (b + 1) 5 encB i0 _ 1 Tryz.underlying22 hi0 hz0 hz1 hz2 rfl oneB _ (l ++ [58]) (by rfl) (KW.out.own.alloc _) w1.heap.size 1 1 [32] (by rfl) (by rfl) _ (new_at _ _ _ (by rw [set_size])) (by rfl) (by unfold maxLen; simp; omega) (by simp; omega) (by have := KW.out.lt; rw [set_size] at this; simp; omega) ?_; intro v2 w2 hown2 hg2; obtain ⟨KW2, KB2, kc2, kf2⟩ := add_one _ KW.out 32 w2 v2 hown2 hg2; obtain ⟨a2, d2, rfl, _⟩ := hown2.shape; replace KW2 := Lib.hid KW2; replace KB2 := Lib.hid (KB.out.trans KB2); clear hown2 hg2))
    refine bodyPost_ret (results_none rfl _ _ _) rfl ?_
    have e : (l ++ [58] ++ [32]).length = l.length + 2 := by simp
    have q1 := KW2.out
    have q2 := KB2.out
    rw [e] at q1 q2
    rw [List.append_assoc] at q1
    exact ⟨⟨_, rfl⟩, ⟨_, q1⟩, q2⟩
theorem line_step (l : List UInt8) (j : Nat) : l ++ 10 :: List.replicate (2 * j) 32 ++ [32, 32] = l ++ 10 :: List.replicate (2 * (j + 1)) 32 := by
  rw [show 2 * (j + 1) = 2 * j + 1 + 1 by omega, List.replicate_succ', List.replicate_succ']
  simp
theorem add_two (W : World) {b : Nat} {v : Value} {l : List UInt8} {p : Bool} (h : Wj W b v l p) (x y : UInt8) (w1 : World) (v1 : Value) (ho : OwnL w1 (b + 1) 5 encB v1 (l ++ [x, y])) (hg : (W.alloc (.cells #[encB x, encB y] 5)).grownBy w1 v.ownBlock) :
    Wj (w1.setCell ⟨b, 0, none⟩ v1) b v1 (l ++ [x, y]) p ∧ Bk b W (w1.setCell ⟨b, 0, none⟩ v1) ∧ w1.cell? ⟨b, 0, none⟩ = some v ∧ w1.frozen? ⟨b, 0, none⟩ = false := by
  obtain ⟨h1, h2, h3, h4⟩ := (h.alloc (.cells #[encB x, encB y] 5)).more ho hg
  exact ⟨h1, ((Bk.refl b W).alloc (Nat.le_of_lt h.lt) _).trans h2, h3, h4⟩
set_option maxHeartbeats 1000000 in
theorem line_any (W : World) (b lv : Nat) (v : Value) (l : List UInt8) (p : Bool) (hl : l.length ≤ 1000000000) (hlv : lv ≤ 1000) (hw : Wj W b v l p) :
    Calls Tryz.prog 195 #[.pointer (some ⟨b, 0, none⟩), .int .i64 lv] W (PutR W b (l ++ lineL p lv) p) := by
  obtain ⟨i0, hi0, hz0, hz1, hz2⟩ := info_parts info8
  obtain ⟨a, c, rfl, _⟩ := hw.own.shape
  have HW := Lib.hid hw
  have c0 := hw.c0
  have c1 := hw.c1
  have f0 := hw.fr 0
  have hlt := hw.lt
  clear hw
  cases p with
  | false =>
    have HX : Hid (Wj W b (.slice a l.length c) (l ++ lineL false lv) false) := by
      unfold Hid lineL
      rw [if_neg (by decide), List.append_nil]
      exact HW.out
    go_enter Tryz.func195, Tryz.ntmps195
    go_wp2
    refine bodyPost_ret (results_none rfl _ _ _) rfl ?_
    exact ⟨⟨_, rfl⟩, ⟨_, HX.out⟩, Bk.refl _ _⟩
  | true =>
    have HLL : Hid (lineL true lv = 10 :: List.replicate (2 * lv) 32) := rfl
    generalize lineL true lv = R at *
    go_enter Tryz.func195, Tryz.ntmps195
    go_wp2_with (at_builtin; refine wpList_app (by rfl) _ _ _ (by rfl) (b + 1) 5 encB i0 _ 1 Tryz.underlying22 hi0 hz0 hz1 hz2 rfl oneB _ l (by rfl) (HW.out.own.alloc _) W.heap.size 1 1 [10] (by rfl) (by rfl) _ (heap_alloc_new W _) (by rfl) (by unfold maxLen; omega) (by omega) (by simp; omega) ?_; intro v1 w1 hown1 hg1; obtain ⟨KW, KB, kc, kf⟩ := add_one W HW.out 10 w1 v1 hown1 hg1; obtain ⟨a1, d1, rfl, _⟩ := hown1.shape; rw [List.length_append, List.length_singleton] at KW KB; replace KW := Lib.hid KW; replace KB := Lib.hid KB; clear hown1 hg1)
    have HS0 : Hid (Wj (w1.setCell ⟨b, 0, none⟩ (.slice a1 (l.length + 1) d1)) b (.slice a1 (l.length + 1) d1) (l ++ 10 :: List.replicate (2 * 0) 32) true) := KW
    go_loopw [19] (fun x wr => ∃ (j : Nat) (v2 : Value), x = .int .i64 j ∧ j ≤ lv ∧ Hid (Wj wr b v2 (l ++ 10 :: List.replicate (2 * j) 32) true) ∧ Hid (Bk b W wr)) (fun x _ => lv - (intOf x).toNat)
    case atStart => exact ⟨0, _, rfl, Nat.zero_le _, HS0, KB⟩
    case round =>
      clear HS0 KW KB kc kf c0 c1 f0 HW
      obtain ⟨j, v2, rfl, hj, HW2, HB2⟩ := hrel
      by_cases hjl : j < lv
      · obtain ⟨a2, d2, rfl, _⟩ := HW2.out.own.shape
        have k0 := HW2.out.c0
        have kf := HW2.out.fr 0
        have hlt2 := HW2.out.lt
        have hj1 : (j : Int) < (lv : Int) := by omega
        have hln : (l ++ 10 :: List.replicate (2 * j) 32).length ≤ 1000002010 := by simp; omega
        have HN := Lib.hid (line_step l j)
        generalize l ++ 10 :: List.replicate (2 * j) 32 = l2 at *
        go_wp2_with (at_builtin; refine wpList_app (by rfl) _ _ _ (by rfl) (b + 1) 5 encB i0 _ 1 Tryz.underlying22 hi0 hz0 hz1 hz2 rfl oneB _ l2 (by rfl) (HW2.out.own.alloc _) wr.heap.size 2 2 [32, 32] (by rfl) (by rfl) _ (heap_alloc_new wr _) (by rfl) (by unfold maxLen; omega) (by omega) (by simp; omega) ?_; intro v3 w3 hown3 hg3; obtain ⟨KW, KB, kc, kf3⟩ := add_two wr HW2.out 32 32 w3 v3 hown3 hg3; obtain ⟨a3, d3, rfl, _⟩ := hown3.shape; replace KW := Lib.hid KW; replace KB := Lib.hid (HB2.out.trans KB); clear hown3 hg3)
        have e : (l2 ++ [32, 32]).length = l2.length + 2 := by simp
        have q1 := KW.out
        have q2 := KB.out
        rw [e] at q1 q2
        replace KW := Lib.hid q1
        replace KB := Lib.hid q2
        clear q1 q2 e
        go_roundw
        case rel => exact ⟨j + 1, _, by go_num, by omega, by rw [← HN.out]; exact KW, KB⟩
        case measure => simp [intOf]; omega
      · have hj1 : ¬ (j : Int) < (lv : Int) := by omega
        have ej : j = lv := by omega
        subst ej
        have HF : Hid (Wj wr b v2 (l ++ R) true) := by unfold Hid; rw [HLL.out]; exact HW2.out
        clear HW2
        go_wp2
        go_end0
        exact ⟨⟨_, rfl⟩, ⟨_, HF.out⟩, HB2.out⟩
end Go.Proofs.YtnfbjcpoealkoaaGreatDoor.json
