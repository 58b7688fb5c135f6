/-
  The drawing functions of the laws on values: spec.l02Make.
-/
import Derived.Test.YthjholhjkahdkaaDrawLeafW
import Derived.Deep.RegionHeld3
namespace Go.Proofs.Ythjholhjkahdkaa.made
open Go.ChangeShapes Go.WideShapes Go.ChangeAt Go.RowKit
open Go.Proofs.Ythjholhjkahdkaa.val Go.Proofs.Ythjholhjkahdkaa.draw
set_option maxRecDepth 100000

theorem draw_drewN {w : World} {g : Nat} {a : Option Addr} {len cap : Nat} (h : Draw w g a len cap) (n : Nat) : Draw (w.drewN n) g a len cap := h.kept fun _ _ => rfl
theorem draw_set {w : World} {g N : Nat} {a : Option Addr} {len cap : Nat} (h : Draw w g a len cap) (hN : g < N) (o : Nat) (v : Value) : Draw (w.setCell ⟨N, o, none⟩ v) g a len cap := h.kept fun x hx => Go.Deep.blk_setCell_other _ _ _ _ (by show x ≠ N; omega)
theorem draw_grown {w w' : World} {g : Nat} {o : Option Nat} {a : Option Addr} {len cap : Nat} (h : Draw w g a len cap) (k : w.grownBy w' o) (ho : ∀ x, o = some x → g < x) : Draw w' g a len cap :=
  h.kept fun x hx => k.block x (by have := h.lt; omega) (fun e => by have := ho x e.symm; omega)
theorem Five.set4 {W : World} {N : Nat} {k n e : Int} {s : ByteArray} {v : Value} (h : Five W N k n e s v) (v' : Value) : Five (W.setCell ⟨N, 4, none⟩ v') N k n e s v' := ⟨by have := val.blk_set (o := 4) h.row v'; simpa using this⟩
theorem Five.set0 {W : World} {N : Nat} {k n e : Int} {s : ByteArray} {v : Value} (h : Five W N k n e s v) (k' : Int) : Five (W.setCell ⟨N, 0, none⟩ (.int .i64 k')) N k' n e s v := ⟨by have := val.blk_set (o := 0) h.row (.int .i64 k'); simpa using this⟩
theorem Five.other {W : World} {N M : Nat} {k n e : Int} {s : ByteArray} {v : Value} (h : Five W N k n e s v) (hM : N ≠ M) (o : Nat) (x : Value) : Five (W.setCell ⟨M, o, none⟩ x) N k n e s v := ⟨(Go.Deep.blk_setCell_other _ _ _ _ hM).trans h.row⟩
theorem Five.grown {W w' : World} {N : Nat} {o : Option Nat} {k n e : Int} {s : ByteArray} {v : Value} (h : Five W N k n e s v) (hg : W.grownBy w' o) (hb : ∀ x, o = some x → N ≠ x) : Five w' N k n e s v :=
  ⟨(hg.block N h.lt (fun e => hb N e.symm rfl)).trans h.row⟩
/-- How great what is made may be. -/
def mz : Nat → Nat
  | 0 => 20
  | d + 1 => 3 * (12 + mz d)
theorem mz_le (d : Nat) : 20 ≤ mz d := by
  induction d with
  | zero => exact Nat.le_refl _
  | succ d ih => rw [mz]; omega
def MK (d : Nat) : Prop := ∀ (W : World) (g : Nat) (a : Option Addr) (len cap : Nat) (plain : Bool), Draw W g a len cap →
  Calls Try.prog 40 #[.pointer (some ⟨g, 0, none⟩), .int .i64 d, .bool plain] W fun e w' => VRet W w' g a len cap (mz d) e
theorem own_blk {t : LT} {k : Nat} (h : t.row.ownBlock = some k) : k ∈ t.blks := by
  obtain ⟨_, _, _, _, a, cap, kids⟩ := t
  cases a with
  | none => cases h
  | some x =>
    rw [blks_some]
    have : x.block = k := by injection h
    rw [this]
    exact List.mem_cons_self ..
/-- The value off the result's block. -/
theorem ret_any {W w1 : World} {g N Z : Nat} {a : Option Addr} {len cap : Nat} {t : LT} (h : FreshO W w1 g t) (hn : N ∉ t.blks) (hd : Draw w1 g a len cap) (hN : W.heap.size ≤ N) (hgN : g < N) (hz : t.sz ≤ Z) (hw : OwnR w1 W.heap.size t.row t.kids) :
    VRet W (five w1 N t.k t.n t.e t.s t.row) g a len cap Z (.returned (.agg #[.int .i64 t.k, .int .i64 t.n, .int .i64 t.e, .string t.s, t.row])) :=
  ⟨t, rfl, h.five hN hn _ _ _ _ _, draw_five hd hgN _ _ _ _ _, hz, own_five hw (fun k hk e => hn (by rw [← e]; exact own_blk hk)) _ _ _ _ _⟩
theorem tagL : ∀ k, k < 5 → ∃ z : Int, InI z ∧ (#[Value.int .i64 0, .int .i64 1, .int .i64 24, .int .i64 1000, .int .i64 1000000] : Array Value)[k]? = some (.int .i64 z) := by
  intro k hk
  have h : k = 0 ∨ k = 1 ∨ k = 2 ∨ k = 3 ∨ k = 4 := by omega
  rcases h with rfl | rfl | rfl | rfl | rfl <;> exact ⟨_, by unfold InI; omega, rfl⟩
set_option maxHeartbeats 4000000 in
theorem make_zero : MK 0 := by
  intro W g a len cap plain hd
  have hgl := hd.lt
  have HD0 := Lib.hid (hd.below ((Below.refl _ W).alloc (Nat.le_refl _) (.cells #[.int .i64 0, .int .i64 0, .int .i64 0, .string ⟨#[]⟩, .slice none 0 0] 26)))
  have C0 := Lib.hid (leaf_any (W.alloc (.cells #[.int .i64 0, .int .i64 0, .int .i64 0, .string ⟨#[]⟩, .slice none 0 0] 26)) g a len cap plain HD0.out)
  have hz0 := mz_le 0
  clear hd
  go_enter Try.func40, Try.ntmps40
  go_wp2_with fail
  with_reducible refine C0.out.mono ?_
  rintro e w1 ⟨t, rfl, hF, hd1, hz, hwn⟩
  obtain ⟨hf1, ho1⟩ := box_only hF.only hgl rfl
  have hF1 : FreshO W w1 g t := FreshO.before ((Below.refl _ _).alloc (Nat.le_refl _) _) hF
  have hnn : W.heap.size ∉ t.blks := fun hm => by have := hF.new _ hm; simp at this; omega
  have HV := Lib.hid (ret_any (Z := mz 0) hF1 hnn hd1 (Nat.le_refl _) hgl (by omega) (own_mono hwn (by simp)))
  have HP := Lib.hid (hf1.put t.k t.n t.e t.s t.row)
  obtain ⟨q0, q1, q2, q3, q4, qf⟩ := hf1.c
  obtain ⟨k0, k1, k2, k3, k4, _⟩ := HP.out.c
  have hrow : t.row = .slice t.a t.kids.length t.cap := rfl
  unfold five at k0 k1 k2 k3 k4 HV
  rw [hrow] at HV k0 k1 k2 k3 k4 ⊢
  clear hwn hF hF1 hd1 hf1 ho1 HP C0 HD0 hrow hnn hz hz0
  go_wp2
  refine bodyPost_ret (v := .agg #[.int .i64 t.k, .int .i64 t.n, .int .i64 t.e, .string t.s, .slice t.a t.kids.length t.cap]) (by simp [results, Try.results40, go_sem, k0, k1, k2, k3, k4]) rfl ?_
  exact HV.out
/-- Between the rounds: the result's block, the value's own, its list. -/
structure LS (W wr : World) (B N6 N7 g : Nat) (a : Option Addr) (len cap : Nat) (k : Int) (v : Value) (done : List LT) : Prop where
  f6 : Five wr N6 0 0 0 ⟨#[]⟩ (.slice none 0 0)
  f7 : Five wr N7 k 0 0 ⟨#[]⟩ v
  km : KM W B wr g v done
  dr : Draw wr g a len cap
theorem LS.drewN {W wr : World} {B N6 N7 g : Nat} {a : Option Addr} {len cap : Nat} {k : Int} {v : Value} {done : List LT} (h : LS W wr B N6 N7 g a len cap k v done) (n : Nat) : LS W (wr.drewN n) B N6 N7 g a len cap k v done :=
  ⟨h.f6.drewN n, h.f7.drewN n, h.km.drewN n, draw_drewN h.dr n⟩
theorem LS.drew {W wr : World} {B N6 N7 g : Nat} {a : Option Addr} {len cap : Nat} {k : Int} {v : Value} {done : List LT} (h : LS W wr B N6 N7 g a len cap k v done) : LS W wr.drew B N6 N7 g a len cap k v done := h.drewN 1
theorem LS.grown {W wr w' : World} {B N6 N7 g : Nat} {a : Option Addr} {len cap : Nat} {k : Int} {v : Value} {done : List LT} (h : LS W wr B N6 N7 g a len cap k v done) (hg : g < W.heap.size) (h6 : N6 ≠ g) (h7 : N7 ≠ g) (hb : wr.grownBy w' (some g)) (hd : Draw w' g a len cap) : LS W w' B N6 N7 g a len cap k v done :=
  ⟨h.f6.only hb h6, h.f7.only hb h7, h.km.grown hg hb, hd⟩
theorem FreshO.undrew {wr w : World} {g : Nat} {t : LT} (h : FreshO wr.drew w g t) : FreshO wr w g t := ⟨h.tr, h.new, h.nodup, ⟨h.only.os, h.only.tape, h.only.output, h.only.size, h.only.block⟩⟩
theorem row_slice {w : World} {B : Nat} {v : Value} {l : List LT} (h : OwnR w B v l) : ∃ a c, v = .slice a l.length c := by
  obtain ⟨_, h⟩ := h
  rcases h with ⟨rfl, h0⟩ | ⟨g, cap, cur, rfl, _⟩
  · exact ⟨none, 0, by rw [h0]⟩
  · exact ⟨_, _, rfl⟩
/-- A value in a literal's block. -/
def box5 (t : LT) : Obj := .cells #[.int .i64 t.k, .int .i64 t.n, .int .i64 t.e, .string t.s, t.row] 26
theorem one_at (w : World) (t : LT) : ∀ i (h : i < [t].length), At5 (w.alloc (box5 t)) ((⟨w.heap.size, 0, none⟩ : Addr).add (i * 5)) [t][i] := fun i hi => by
  obtain rfl : i = 0 := by simp at hi; omega
  have hb := Box.new w t 26
  rw [Nat.zero_mul, add0]
  exact ⟨hb.b0, hb.b1, hb.b2, hb.b3, hb.b4⟩
theorem LS.app {W wr : World} {B N6 N7 g : Nat} {a : Option Addr} {len cap : Nat} {k : Int} {v : Value} {done : List LT} (h : LS W wr B N6 N7 g a len cap k v done) (t : LT) : KM W B (wr.alloc (box5 t)) g v done := h.km.below ((Below.refl _ _).alloc (Nat.le_refl _) _)
/-- A value more behind. -/
theorem LS.stepped {W wr w4 w5 : World} {B N6 N7 g : Nat} {a : Option Addr} {len cap : Nat} {k : Int} {v v' : Value} {done : List LT} {t : LT} (h : LS W w4 B N6 N7 g a len cap k v done) (hg : g < W.heap.size) (h6 : W.heap.size ≤ N6 ∧ N6 < B) (h7 : W.heap.size ≤ N7 ∧ N7 < B) (hF : FreshO wr w4 g t)
    (ho : OwnR w5 B v' (done ++ [t])) (hgr : (w4.alloc (box5 t)).grownBy w5 v.ownBlock) (hv : v'.ownBlock = v.ownBlock ∨ v'.ownBlock = some (w4.alloc (box5 t)).heap.size) : Five w5 N6 0 0 0 ⟨#[]⟩ (.slice none 0 0) ∧ Five w5 N7 k 0 0 ⟨#[]⟩ v ∧ Draw w5 g a len cap := by
  have hb : Below w4.heap.size w4 (w4.alloc (box5 t)) := (Below.refl _ _).alloc (Nat.le_refl _) _
  have hvl : ∀ x, v.ownBlock = some x → B ≤ x := fun x hx => (h.km.row.lt x hx).1
  exact ⟨(h.f6.below hb).grown hgr (fun x hx => by have := hvl x hx; omega), (h.f7.below hb).grown hgr (fun x hx => by have := hvl x hx; omega), draw_grown (h.dr.below hb) hgr (fun x hx => by have := hvl x hx; have := h.km.base; omega)⟩
theorem LS.next {W wr w4 w5 : World} {B N6 N7 g : Nat} {a : Option Addr} {len cap : Nat} {k : Int} {v v' : Value} {done : List LT} {t : LT} (h0 : LS W wr B N6 N7 g a len cap k v done) (h : LS W w4 B N6 N7 g a len cap k v done) (hg : g < W.heap.size) (h6 : W.heap.size ≤ N6 ∧ N6 < B) (h7 : W.heap.size ≤ N7 ∧ N7 < B) (h67 : N6 ≠ N7) (hF : FreshO wr w4 g t)
    (ho : OwnR w5 B v' (done ++ [t])) (hgr : (w4.alloc (box5 t)).grownBy w5 v.ownBlock) (hv : v'.ownBlock = v.ownBlock ∨ v'.ownBlock = some (w4.alloc (box5 t)).heap.size) : LS W (w5.setCell ⟨N7, 4, none⟩ v') B N6 N7 g a len cap k v' (done ++ [t]) := by
  obtain ⟨h1, h2, h3⟩ := h.stepped hg h6 h7 hF ho hgr hv
  have hb : Below w4.heap.size w4 (w4.alloc (box5 t)) := (Below.refl _ _).alloc (Nat.le_refl _) _
  have hk := h0.km.step (news := [t]) hg (only_below hF.only hb) (fun i hi => by
    obtain rfl : i = 0 := by simp at hi; omega
    exact hF.tr.behind hb) (fun x hx => hF.new x (by rwa [blksL_one] at hx)) (by rw [blksL_one]; exact hF.nodup) ho hgr (by
    rcases hv with hv | hv
    · exact .inl hv
    · exact .inr ⟨_, hv, Nat.le_refl _⟩)
  exact ⟨h1.other h67 _ _, h2.set4 _, hk.set h7.1 h7.2 _ _, draw_set h3 (by omega) _ _⟩
theorem szL_next {done : List LT} {t : LT} {j M : Nat} (h : LT.szL done ≤ j * (1 + M)) (ht : t.sz ≤ M) : LT.szL (done ++ [t]) ≤ (j + 1) * (1 + M) := by
  rw [szL_append, LT.szL, LT.szL, Nat.add_mul]
  omega
/-- The value off the loop's state. -/
theorem LS.fin {W wr : World} {B N6 N7 g Z : Nat} {a : Option Addr} {len cap : Nat} {k : Int} {va : Option Addr} {L vc : Nat} {done : List LT} (h : LS W wr B N6 N7 g a len cap k (.slice va L vc) done) (hg : g < N6) (h6 : W.heap.size ≤ N6 ∧ N6 < B) (hk : InI k) (hz : LT.szL done ≤ Z) :
    Five (five wr N6 k 0 0 ⟨#[]⟩ (.slice va L vc)) N6 k 0 0 ⟨#[]⟩ (.slice va L vc) ∧ VRet W (five wr N6 k 0 0 ⟨#[]⟩ (.slice va L vc)) g a len cap Z (.returned (.agg #[.int .i64 k, .int .i64 0, .int .i64 0, .string ⟨#[]⟩, .slice va L vc])) := by
  refine ⟨h.f6.put _ _ _ _ _, ?_⟩
  obtain ⟨a', c', hv, hf⟩ := h.km.val
  injection hv with h1 h2 h3
  subst h1; subst h2; subst h3
  obtain ⟨hF, hB⟩ := hf k 0 hk (by unfold InI; decide)
  have hs : (val.LT.mk k 0 0 ⟨#[]⟩ va vc done).sz ≤ Z := by
    rw [LT.sz]
    have : (⟨#[]⟩ : ByteArray).size = 0 := rfl
    omega
  have hn : N6 ∉ (val.LT.mk k 0 0 ⟨#[]⟩ va vc done).blks := fun hm => by have := hB N6 hm; omega
  have hr := ret_any (N := N6) (t := .mk k 0 0 ⟨#[]⟩ va vc done) hF hn h.dr h6.1 hg hs (own_mono h.km.row h.km.base)
  have hrow : (val.LT.mk k 0 0 ⟨#[]⟩ va vc done).row = .slice va done.length vc := rfl
  rw [hrow] at hr
  exact hr
theorem tag_fin {W wr : World} {B N6 g Z : Nat} {a : Option Addr} {len cap : Nat} {n : Int} {va : Option Addr} {L vc : Nat} {done : List LT} (h : KM W B wr g (.slice va L vc) done) (h6 : Five wr N6 0 0 0 ⟨#[]⟩ (.slice none 0 0)) (hd : Draw wr g a len cap) (hg : g < N6) (hN : W.heap.size ≤ N6 ∧ N6 < B) (hn : InI n) (hz : LT.szL done ≤ Z) :
    Five (five wr N6 9 n 0 ⟨#[]⟩ (.slice va L vc)) N6 9 n 0 ⟨#[]⟩ (.slice va L vc) ∧ VRet W (five wr N6 9 n 0 ⟨#[]⟩ (.slice va L vc)) g a len cap Z (.returned (.agg #[.int .i64 9, .int .i64 n, .int .i64 0, .string ⟨#[]⟩, .slice va L vc])) := by
  refine ⟨h6.put _ _ _ _ _, ?_⟩
  obtain ⟨a', c', hv, hf⟩ := h.val
  injection hv with h1 h2 h3
  subst h1; subst h2; subst h3
  obtain ⟨hF, hB⟩ := hf 9 n (by unfold InI; decide) hn
  have hs : (val.LT.mk 9 n 0 ⟨#[]⟩ va vc done).sz ≤ Z := by
    rw [LT.sz]
    have : (⟨#[]⟩ : ByteArray).size = 0 := rfl
    omega
  have hnn : N6 ∉ (val.LT.mk 9 n 0 ⟨#[]⟩ va vc done).blks := fun hm => by have := hB N6 hm; omega
  have hr := ret_any (N := N6) (t := .mk 9 n 0 ⟨#[]⟩ va vc done) hF hnn hd hN.1 hg hs (own_mono h.row h.base)
  have hrow : (val.LT.mk 9 n 0 ⟨#[]⟩ va vc done).row = .slice va done.length vc := rfl
  rw [hrow] at hr
  exact hr
theorem keyL : ∀ k, k < 4 → ∃ s : ByteArray, s.size ≤ 10 ∧ (#[Value.string { data := #[110, 97, 109, 101] }, .string { data := #[105, 100] }, .string { data := #[108, 105, 115, 116] }, .string { data := #[99, 111, 109, 109, 111, 110, 32, 107, 101, 121] }] : Array Value)[k]? = some (.string s) := by
  intro k hk
  have h : k = 0 ∨ k = 1 ∨ k = 2 ∨ k = 3 := by omega
  rcases h with rfl | rfl | rfl | rfl <;> exact ⟨_, by decide, rfl⟩
theorem LS.below {W wr w' : World} {B N6 N7 g : Nat} {a : Option Addr} {len cap : Nat} {k : Int} {v : Value} {done : List LT} (h : LS W wr B N6 N7 g a len cap k v done) (hb : Below wr.heap.size wr w') : LS W w' B N6 N7 g a len cap k v done := ⟨h.f6.below hb, h.f7.below hb, h.km.below hb, h.dr.below hb⟩
/-- A key and a value in a literal's block. -/
def box10 (t u : LT) : Obj := .cells #[.int .i64 t.k, .int .i64 t.n, .int .i64 t.e, .string t.s, t.row, .int .i64 u.k, .int .i64 u.n, .int .i64 u.e, .string u.s, u.row] 26
theorem two_at (w : World) (t u : LT) : ∀ i (h : i < [t, u].length), At5 (w.alloc (box10 t u)) ((⟨w.heap.size, 0, none⟩ : Addr).add (i * 5)) [t, u][i] := fun i hi => by
  have hr := heap_alloc_new w (box10 t u)
  unfold box10 at hr ⊢
  rcases (show i = 0 ∨ i = 1 by simp at hi; omega) with rfl | rfl
  · rw [Nat.zero_mul, add0]
    exact ⟨cell_of_row _ _ 0 _ _ (0, 0) hr, cell_of_row _ _ 1 _ _ (0, 0) hr, cell_of_row _ _ 2 _ _ (0, 0) hr, cell_of_row _ _ 3 _ _ (0, 0) hr, cell_of_row _ _ 4 _ _ (0, 0) hr⟩
  · exact ⟨cell_of_row _ _ 5 _ _ (0, 0) hr, cell_of_row _ _ 6 _ _ (0, 0) hr, cell_of_row _ _ 7 _ _ (0, 0) hr, cell_of_row _ _ 8 _ _ (0, 0) hr, cell_of_row _ _ 9 _ _ (0, 0) hr⟩
/-- A pair more behind. -/
theorem LS.pair {W wr w4 w5 : World} {B N6 N7 g : Nat} {a : Option Addr} {len cap : Nat} {k : Int} {v v' : Value} {done : List LT} {t : LT} (kk kn : Int) (ks : ByteArray) (hk : InI kk) (hn : InI kn) (hs : ks.size ≤ 10) (h0 : LS W wr B N6 N7 g a len cap k v done) (h : LS W w4 B N6 N7 g a len cap k v done) (hg : g < W.heap.size) (h6 : W.heap.size ≤ N6 ∧ N6 < B) (h7 : W.heap.size ≤ N7 ∧ N7 < B) (h67 : N6 ≠ N7) (hF : FreshO wr w4 g t)
    (ho : OwnR w5 B v' (done ++ [.mk kk kn 0 ks none 0 [], t])) (hgr : (w4.alloc (box10 (.mk kk kn 0 ks none 0 []) t)).grownBy w5 v.ownBlock) (hv : v'.ownBlock = v.ownBlock ∨ v'.ownBlock = some (w4.alloc (box10 (.mk kk kn 0 ks none 0 []) t)).heap.size) :
    (Five w5 N6 0 0 0 ⟨#[]⟩ (.slice none 0 0) ∧ Five w5 N7 k 0 0 ⟨#[]⟩ v ∧ Draw w5 g a len cap) ∧ LS W (w5.setCell ⟨N7, 4, none⟩ v') B N6 N7 g a len cap k v' (done ++ [.mk kk kn 0 ks none 0 [], t]) := by
  have hb : Below w4.heap.size w4 (w4.alloc (box10 (.mk kk kn 0 ks none 0 []) t)) := (Below.refl _ _).alloc (Nat.le_refl _) _
  have hvl : ∀ x, v.ownBlock = some x → B ≤ x := fun x hx => (h.km.row.lt x hx).1
  have h1 := (h.f6.below hb).grown hgr (fun x hx => by have := hvl x hx; omega)
  have h2 := (h.f7.below hb).grown hgr (fun x hx => by have := hvl x hx; omega)
  have h3 := draw_grown (h.dr.below hb) hgr (fun x hx => by have := hvl x hx; have := h.km.base; omega)
  have hbl : LT.blksL [.mk kk kn 0 ks none 0 [], t] = t.blks := by rw [LT.blksL, blksL_one]; rfl
  have hkm := h0.km.step (news := [.mk kk kn 0 ks none 0 [], t]) hg (only_below hF.only hb) (fun i hi => by
    rcases (show i = 0 ∨ i = 1 by simp at hi; omega) with rfl | rfl
    · exact .nil hk hn (by unfold InI; decide) (by show ks.size ≤ _; omega)
    · exact hF.tr.behind hb) (fun x hx => hF.new x (by rwa [hbl] at hx)) (by rw [hbl]; exact hF.nodup) ho hgr (by
    rcases hv with hv | hv
    · exact .inl hv
    · exact .inr ⟨_, hv, Nat.le_refl _⟩)
  exact ⟨⟨h1, h2, h3⟩, ⟨h1.other h67 _ _, h2.set4 _, hkm.set h7.1 h7.2 _ _, draw_set h3 (by omega) _ _⟩⟩
theorem szL_pair {done : List LT} {t : LT} {j M : Nat} {kk kn : Int} {ks : ByteArray} (h : LT.szL done ≤ j * (12 + M)) (ht : t.sz ≤ M) (hs : ks.size ≤ 10) : LT.szL (done ++ [.mk kk kn 0 ks none 0 [], t]) ≤ (j + 1) * (12 + M) := by
  rw [szL_append, LT.szL, LT.szL, LT.szL, Nat.add_mul]
  have : (val.LT.mk kk kn 0 ks none 0 []).sz = ks.size := by rw [LT.sz, LT.szL]; rfl
  omega
set_option maxHeartbeats 16000000 in
theorem make_step {d : Nat} (IH : MK d) (hD : d ≤ 10) : MK (d + 1) := by
  intro W g a len cap plain hd
  have hgl := hd.lt
  have HD0 := Lib.hid (hd.below ((Below.refl _ W).alloc (Nat.le_refl _) (.cells #[.int .i64 0, .int .i64 0, .int .i64 0, .string ⟨#[]⟩, .slice none 0 0] 26)))
  have C0 := Lib.hid (once_any (W.alloc (.cells #[.int .i64 0, .int .i64 0, .int .i64 0, .string ⟨#[]⟩, .slice none 0 0] 26)) g a len cap 3 (by omega) (by omega) HD0.out)
  have p0 : ¬ ((d + 1 : Nat) : Int) ≤ 0 := by omega
  have e1 : ((d + 1 : Nat) : Int) - 1 = (d : Int) := by omega
  have IHH := Lib.hid IH
  clear hd IH
  obtain ⟨D, hDD⟩ : ∃ D : Int, ((d + 1 : Nat) : Int) = D := ⟨_, rfl⟩
  rw [hDD] at p0 e1 ⊢
  go_enter Try.func40, Try.ntmps40
  go_wp2_with fail
  with_reducible refine C0.out.mono ?_
  rintro e w1 ⟨b, rfl, hd1, hg1⟩
  obtain ⟨hf1, ho1⟩ := box_only hg1 hgl rfl
  have HF := Lib.hid hf1
  have HO := Lib.hid ho1
  have HD := Lib.hid hd1
  have hz1 : W.heap.size < w1.heap.size := hf1.lt
  clear C0 HD0 hd1 hg1 hf1 ho1
  cases b with
  | true =>
    have C1 := Lib.hid (leaf_any w1 g a len cap plain HD.out)
    go_wp2_with fail
    with_reducible refine C1.out.mono ?_
    rintro e w2 ⟨t, rfl, hF, hd1, hz, hwn⟩
    have hF1 : FreshO W w2 g t := FreshO.behind HO.out hF
    have hf2 := HF.out.only hF.only (by omega)
    have hnn : W.heap.size ∉ t.blks := fun hm => by have := hF.new _ hm; omega
    have HV := Lib.hid (ret_any (Z := mz (d + 1)) hF1 hnn hd1 (Nat.le_refl _) hgl (by have := mz_le (d + 1); omega) (own_mono hwn (by omega)))
    have HP := Lib.hid (hf2.put t.k t.n t.e t.s t.row)
    obtain ⟨q0, q1, q2, q3, q4, qf⟩ := hf2.c
    obtain ⟨k0, k1, k2, k3, k4, _⟩ := HP.out.c
    have hrow : t.row = .slice t.a t.kids.length t.cap := rfl
    unfold five at k0 k1 k2 k3 k4 HV
    rw [hrow] at HV k0 k1 k2 k3 k4 ⊢
    clear hwn hF hF1 hd1 hf2 HP C1 HD HO HF hrow hnn hz hDD
    go_wp2
    refine bodyPost_ret (v := .agg #[.int .i64 t.k, .int .i64 t.n, .int .i64 t.e, .string t.s, .slice t.a t.kids.length t.cap]) (by simp [results, Try.results40, go_sem, k0, k1, k2, k3, k4]) rfl ?_
    exact HV.out
  | false =>
    have HB7 := Lib.hid ((Below.refl _ w1).alloc (Nat.le_refl _) (.cells #[.int .i64 7, .int .i64 0, .int .i64 0, .string ⟨#[]⟩, .slice none 0 0] 26))
    have HS := Lib.hid (LS.mk (N7 := w1.heap.size) (HF.out.below HB7.out) (Five.new w1 7 0 0 ⟨#[]⟩ (.slice none 0 0)) (KM.nil (B := w1.heap.size + 1) (only_below HO.out HB7.out) (by omega) (by simp)) (HD.out.below HB7.out))
    clear HB7 HF HO HD
    have C1 := Lib.hid (fun w h => below_any w g a len cap 4 (by omega) (by omega) h)
    go_wp2_with fail
    with_reducible refine (C1.out _ HS.out.dr).mono ?_
    rintro e w2 ⟨n, hn, rfl, hd2, hg2⟩
    replace HS := Lib.hid (HS.out.grown hgl (by omega) (by omega) hg2 hd2)
    have hN67 : W.heap.size < w1.heap.size := hz1
    generalize w1.heap.size = N7 at *
    have C2 := Lib.hid (below_any w2 g a len cap 5 (by omega) (by omega) hd2)
    clear C1 hd2 hg2 hz1
    go_wp2_with fail
    with_reducible refine C2.out.mono ?_
    rintro e w3 ⟨x, hx, rfl, hd3, hg3⟩
    replace HS := Lib.hid (HS.out.grown hgl (by omega) (by omega) hg3 hd3)
    clear C2 hd3 hg3
    have CM : Hid (∀ w, Draw w g a len cap → Calls Try.prog 40 #[.pointer (some ⟨g, 0, none⟩), .int .i64 d, .bool plain] w fun e w' => VRet w w' g a len cap (mz d) e) := fun w h => IHH.out w g a len cap plain h
    have CW : Hid (∀ w, Draw w g a len cap → Calls Try.prog 40 #[.pointer (some ⟨g, 0, none⟩), .int .i64 (IntKind.i64.wrap (d : Int)), .bool plain] w fun e w' => VRet w w' g a len cap (mz d) e) := by
      have hw : IntKind.i64.wrap (d : Int) = (d : Int) := by rw [IntKind.wrap_i64]; omega
      rw [hw]
      exact CM
    clear IHH
    obtain ⟨i0, hi0, hz0, hz1, hz2⟩ := info_parts infoV
    rcases (show (x = 0 ∧ plain = false) ∨ x = 1 ∨ x = 2 ∨ (x = 0 ∧ plain = true) ∨ x = 3 ∨ x = 4 by cases plain <;> simp <;> omega) with ⟨hq, rfl⟩ | hq | hq | ⟨hq, rfl⟩ | hq | hq
    · have q : (x : Int) = 0 := by omega
      clear hx hq
      have hgz := HS.out.dr.lt
      have hN3 := HS.out.f6.lt
      go_wp2_with fail
      with_reducible refine (pickInt_any _ g a len cap w3.heap.size 5 5 _ (HS.out.dr.below ((Below.refl _ _).alloc (Nat.le_refl _) _)) hgz (by omega) (by omega) (heap_alloc_new w3 _) InI tagL).mono ?_
      rintro e w4 ⟨z, hzz, rfl, hd4, hg4⟩
      have hb3 : Below w3.heap.size w3 (w3.alloc (.cells #[.int .i64 0, .int .i64 1, .int .i64 24, .int .i64 1000, .int .i64 1000000] 3)) := (Below.refl _ _).alloc (Nat.le_refl _) _
      have HF := Lib.hid ((HS.out.f6.below hb3).only hg4 (by omega))
      have HO := Lib.hid ((only_below HS.out.km.only hb3).trans hg4)
      have hz4 : W.heap.size < w4.heap.size := HF.out.lt
      have HZ := Lib.hid hzz
      have C4 := Lib.hid (CM.out w4 hd4)
      clear HS hd4 hg4 hb3 hzz hgz hN3 CM CW
      go_wp2_with fail
      with_reducible refine C4.out.mono ?_
      rintro e w5 ⟨t, rfl, hF, hd5, hz5, _⟩
      have HF5 := Lib.hid (HF.out.only hF.only (by omega))
      have hF5 : FreshO W w5 g t := FreshO.behind HO.out hF
      have HK := Lib.hid (KM.one (B := W.heap.size + 1) hF5 (by omega) (fun k hk => by have := hF.new k hk; omega) (by have := hF.only.size; omega))
      have HD5 := Lib.hid hd5
      have HSZ := Lib.hid hz5
      have hrow : t.row = .slice t.a t.kids.length t.cap := rfl
      rw [hrow] at HK ⊢
      clear C4 HF HO hF hd5 hF5 hz5 hrow
      have HFA := Lib.hid (HF5.out.below ((Below.refl _ _).alloc (Nat.le_refl _) (.cells #[.int .i64 t.k, .int .i64 t.n, .int .i64 t.e, .string t.s, .slice t.a t.kids.length t.cap] 26)))
      have HDA := Lib.hid (HD5.out.below ((Below.refl _ _).alloc (Nat.le_refl _) (.cells #[.int .i64 t.k, .int .i64 t.n, .int .i64 t.e, .string t.s, .slice t.a t.kids.length t.cap] 26)))
      obtain ⟨hP, hV⟩ := tag_fin (Z := mz (d + 1)) HK.out HFA.out HDA.out hgl (by omega) HZ.out (by
        have h1 := HSZ.out
        have h2 := mz_le d
        rw [mz, LT.szL, LT.szL]
        omega)
      have HV := Lib.hid hV
      obtain ⟨q0, q1, q2, q3, q4, qf⟩ := HFA.out.c
      obtain ⟨k0, k1, k2, k3, k4, _⟩ := hP.c
      unfold five at k0 k1 k2 k3 k4 HV
      clear hP hV HK HFA HDA HF5 HD5 HSZ HZ
      go_wp2
      refine bodyPost_ret (v := .agg #[.int .i64 9, .int .i64 z, .int .i64 0, .string ⟨#[]⟩, .slice (some ⟨w5.heap.size, 0, none⟩) 1 1]) (by simp [results, Try.results40, go_sem, k0, k1, k2, k3, k4]) rfl ?_
      exact HV.out
    · have q : (x : Int) = 1 := by omega
      clear hx hq
      have HS8 : Hid (LS W (w3.setCell ⟨N7, 0, none⟩ (.int .i64 8)) (N7 + 1) W.heap.size N7 g a len cap 8 (.slice none 0 0) []) := ⟨HS.out.f6.other (by omega) _ _, HS.out.f7.set0 8, HS.out.km.set (by omega) (by omega) _ _, draw_set HS.out.dr (by omega) _ _⟩
      obtain ⟨c0, c1, c2, c3, c4, cf⟩ := HS.out.f7.c
      clear HS
      go_wp2_with fail
      clear c0 c1 c2 c3 c4 cf
      go_loopw [9] (fun i wr => ∃ (j : Nat) (va : Option Addr) (L vc : Nat) (done : List LT), i = .int .i64 j ∧ j ≤ n ∧ Hid (LS W wr (N7 + 1) W.heap.size N7 g a len cap 8 (.slice va L vc) done) ∧ Hid (LT.szL done ≤ j * (12 + mz d)) ∧ Hid (done.length ≤ 2 * j)) (fun i _ => n - (intOf i).toNat)
      case atStart => exact ⟨0, none, 0, 0, [], rfl, Nat.zero_le _, HS8, by unfold Hid; simp [LT.szL], by unfold Hid; simp⟩
      case round =>
        clear HS8
        obtain ⟨j, va, L, vc, done, rfl, hj, HL, HZ, HN⟩ := hrel
        by_cases hjn : j < n
        · have hj1 : (j : Int) < (n : Int) := by omega
          have hj0 : (0 : Int) ≤ (j : Int) := by omega
          have hj4 : (j : Int) < 4 := by omega
          obtain ⟨ks, hks, hkc⟩ := keyL j (by omega)
          have hbs : Below wr.heap.size wr (wr.alloc (.cells #[.string ⟨#[110, 97, 109, 101]⟩, .string ⟨#[105, 100]⟩, .string ⟨#[108, 105, 115, 116]⟩, .string ⟨#[99, 111, 109, 109, 111, 110, 32, 107, 101, 121]⟩] 9)) := (Below.refl _ _).alloc (Nat.le_refl _) _
          have kc : (wr.alloc (.cells #[.string ⟨#[110, 97, 109, 101]⟩, .string ⟨#[105, 100]⟩, .string ⟨#[108, 105, 115, 116]⟩, .string ⟨#[99, 111, 109, 109, 111, 110, 32, 107, 101, 121]⟩] 9)).cell? ⟨wr.heap.size, j, none⟩ = some (.string ks) := by
            rw [cell_of_row _ wr.heap.size j _ _ (0, 0) (heap_alloc_new wr _)]
            exact hkc
          have CS := Lib.hid (fun w => str_any ks w)
          go_wp2_with fail
          with_reducible refine (CS.out _).mono ?_
          rintro e w5 ⟨rfl, hb5⟩
          have hbk : Below wr.heap.size wr w5 := below_of2 hbs hb5
          have hb8 : Below w5.heap.size w5 (w5.alloc (.cells #[.int .i64 5, .int .i64 0, .int .i64 0, .string ks, .slice none 0 0] 26)) := (Below.refl _ _).alloc (Nat.le_refl _) _
          have HLA := Lib.hid (HL.out.below (below_of2 hbk hb8))
          have HKA := Lib.hid (Five.new w5 5 0 0 ks (.slice none 0 0))
          have hN8 : N7 < w5.heap.size := by have := HL.out.km.top; have := hbk.size; omega
          have C8 := Lib.hid (once_any (w5.alloc (.cells #[.int .i64 5, .int .i64 0, .int .i64 0, .string ks, .slice none 0 0] 26)) g a len cap 8 (by omega) (by omega) HLA.out.dr)
          have hNr : wr.heap.size ≤ w5.heap.size := hbk.size
          have HBB := Lib.hid (below_of2 hbk hb8)
          clear hbs hb5 hbk hb8 CS kc hkc
          go_wp2_with fail
          with_reducible refine C8.out.mono ?_
          rintro e w6 ⟨b8, rfl, hd6, hg6⟩
          have HLX := Lib.hid (HLA.out.grown hgl (by omega) (by omega) hg6 hd6)
          have HKX := Lib.hid (HKA.out.only hg6 (by omega))
          have HGX := Lib.hid (only_after HBB.out hg6)
          clear HBB C8 HLA HKA hd6 hg6
          generalize w5.heap.size = N8 at *
          rcases (show (b8 = true ∧ plain = false) ∨ b8 = false ∨ (b8 = true ∧ plain = true) by cases b8 <;> cases plain <;> simp) with ⟨rfl, rfl⟩ | rfl | ⟨rfl, rfl⟩
          · have CI := Lib.hid (num.int_any (j : Int) w6)
            go_wp2_with fail
            with_reducible refine CI.out.mono ?_
            rintro e w7 ⟨rfl, hb7⟩
            replace HLX := Lib.hid (HLX.out.below hb7)
            replace HKX := Lib.hid (HKX.out.below hb7)
            obtain ⟨y0, y1, y2, y3, y4, yf⟩ := HKX.out.c
            have hLL := HL.out.grown hgl (by omega) (by omega) (five_only (only_below HGX.out hb7) hNr 3 (j : Int) 0 ⟨#[]⟩ (.slice none 0 0)) (draw_five HLX.out.dr (by omega) 3 (j : Int) 0 ⟨#[]⟩ (.slice none 0 0))
            have hKK := HKX.out.put 3 (j : Int) 0 ⟨#[]⟩ (.slice none 0 0)
            replace HLX := Lib.hid hLL
            replace HKX := Lib.hid hKK
            clear hLL hKK hb7 CI HL HGX
            unfold five at HLX HKX
            go_upto_region 18 with (fail)
            clear y0 y1 y2 y3 y4 yf
            generalize ((((w7.setCell ⟨N8, 0, none⟩ (.int .i64 3)).setCell ⟨N8, 1, none⟩ (.int .i64 (j : Int))).setCell ⟨N8, 2, none⟩ (.int .i64 0)).setCell ⟨N8, 3, none⟩ (.string ⟨#[]⟩)).setCell ⟨N8, 4, none⟩ (.slice none 0 0) = w7b at *
            have hIj : InI (j : Int) := by unfold InI; omega
            have CM8 := CW
            go_wp2_with fail
            obtain ⟨c0, c1, c2, c3, c4, cf⟩ := HLX.out.f7.c
            obtain ⟨y0, y1, y2, y3, y4, yf⟩ := HKX.out.c
            go_region_law
              (first
              | (have _q := hF
                 refine step_appN (by rfl) _ _ (by rfl) Try.underlying24 i0 _ hi0 hz0 hz1 hz2 rfl (N7 + 1) (.slice va L vc) done [.mk 3 (j : Int) 0 ⟨#[]⟩ none 0 [], t] 2 rfl (by rfl) (hL4.km.below ((Below.refl _ _).alloc (Nat.le_refl _) (box10 (.mk 3 (j : Int) 0 ⟨#[]⟩ none 0 []) t))).row ⟨w8.heap.size, 0, none⟩ 2 (by rfl) (two_at w8 (.mk 3 (j : Int) 0 ⟨#[]⟩ none 0 []) t) (by have := HN.out; omega) (hL4.km.below ((Below.refl _ _).alloc (Nat.le_refl _) (box10 (.mk 3 (j : Int) 0 ⟨#[]⟩ none 0 []) t))).top ?_
                 intro v' w9 ho5 hg5 hv5
                 obtain ⟨va', vc', rfl⟩ := row_slice ho5
                 obtain ⟨⟨_, g7, _⟩, hLN⟩ := HLX.out.pair 3 (j : Int) ⟨#[]⟩ (by unfold InI; decide) hIj (by decide) hL4 hgl (by omega) (by omega) (by omega) hF.undrew ho5 hg5 hv5
                 have g5 : w9.cell? ⟨N7, 4, none⟩ = some (.slice va L vc) := g7.c.c4
                 have gf5 : w9.frozen? ⟨N7, 4, none⟩ = false := g7.c.fr 4)
              | (go_simp
                 go_at_call 40
                 with_reducible refine (CM8.out _ HLX.out.drew.dr).mono ?_
                 rintro e w8 ⟨t, rfl, hF, hd8, hz8, _⟩
                 have hL4 := HLX.out.grown hgl (by omega) (by omega) hF.undrew.only hd8
                 have hK4 := HKX.out.only hF.undrew.only (by omega)
                 obtain ⟨z0, z1, z2, z3, z4, _⟩ := hK4.c
                 have g4 : w8.cell? ⟨N7, 4, none⟩ = some (.slice va L vc) := hL4.f7.c.c4
                 have hbx : Below w8.heap.size w8 (w8.alloc (.cells #[.int .i64 3, .int .i64 (j : Int), .int .i64 0, .string ⟨#[]⟩, .slice none 0 0, .int .i64 t.k, .int .i64 t.n, .int .i64 t.e, .string t.s, t.row] 26)) := (Below.refl _ _).alloc (Nat.le_refl _) _
                 have g4a := (hL4.f7.below hbx).c.c4
                 obtain ⟨x0, x1, x2, x3, x4, _⟩ := (hK4.below hbx).c)
              | fail)
            all_goals
              have HLN := Lib.hid hLN
              have HZN := Lib.hid (szL_pair (kk := 3) (kn := (j : Int)) (ks := ⟨#[]⟩) HZ.out hz8 (by decide))
              have HNN : Hid ((done ++ [.mk 3 (j : Int) 0 ⟨#[]⟩ none 0 [], t]).length ≤ 2 * (j + 1)) := by have := HN.out; unfold Hid; rw [List.length_append]; simp; omega
              rw [List.length_append, show [val.LT.mk 3 (j : Int) 0 ⟨#[]⟩ none 0 [], t].length = 2 from rfl] at HLN
              clear HLX hLN hL4 ho5 hg5 hv5 g5 gf5 g7 hF hd8 c0 c1 c2 c3 c4 cf HZ HN HKX y0 y1 y2 y3 y4 yf
              go_wp2
              go_roundw
              case rel => exact ⟨j + 1, va', _, vc', _, by go_num, by omega, HLN, HZN, HNN⟩
              case measure => simp [intOf]; omega
          · clear HL HGX
            have CM8 := CW
            go_wp2_with fail
            obtain ⟨c0, c1, c2, c3, c4, cf⟩ := HLX.out.f7.c
            obtain ⟨y0, y1, y2, y3, y4, yf⟩ := HKX.out.c
            go_region_law
              (first
              | (have _q := hF
                 refine step_appN (by rfl) _ _ (by rfl) Try.underlying24 i0 _ hi0 hz0 hz1 hz2 rfl (N7 + 1) (.slice va L vc) done [.mk 5 0 0 ks none 0 [], t] 2 rfl (by rfl) (hL4.km.below ((Below.refl _ _).alloc (Nat.le_refl _) (box10 (.mk 5 0 0 ks none 0 []) t))).row ⟨w8.heap.size, 0, none⟩ 2 (by rfl) (two_at w8 (.mk 5 0 0 ks none 0 []) t) (by have := HN.out; omega) (hL4.km.below ((Below.refl _ _).alloc (Nat.le_refl _) (box10 (.mk 5 0 0 ks none 0 []) t))).top ?_
                 intro v' w9 ho5 hg5 hv5
                 obtain ⟨va', vc', rfl⟩ := row_slice ho5
                 obtain ⟨⟨_, g7, _⟩, hLN⟩ := HLX.out.pair 5 0 ks (by unfold InI; decide) (by unfold InI; decide) hks hL4 hgl (by omega) (by omega) (by omega) hF.undrew ho5 hg5 hv5
                 have g5 : w9.cell? ⟨N7, 4, none⟩ = some (.slice va L vc) := g7.c.c4
                 have gf5 : w9.frozen? ⟨N7, 4, none⟩ = false := g7.c.fr 4)
              | (go_simp
                 go_at_call 40
                 with_reducible refine (CM8.out _ HLX.out.drew.dr).mono ?_
                 rintro e w8 ⟨t, rfl, hF, hd8, hz8, _⟩
                 have hL4 := HLX.out.grown hgl (by omega) (by omega) hF.undrew.only hd8
                 have hK4 := HKX.out.only hF.undrew.only (by omega)
                 obtain ⟨z0, z1, z2, z3, z4, _⟩ := hK4.c
                 have g4 : w8.cell? ⟨N7, 4, none⟩ = some (.slice va L vc) := hL4.f7.c.c4
                 have hbx : Below w8.heap.size w8 (w8.alloc (.cells #[.int .i64 5, .int .i64 0, .int .i64 0, .string ks, .slice none 0 0, .int .i64 t.k, .int .i64 t.n, .int .i64 t.e, .string t.s, t.row] 26)) := (Below.refl _ _).alloc (Nat.le_refl _) _
                 have g4a := (hL4.f7.below hbx).c.c4
                 obtain ⟨x0, x1, x2, x3, x4, _⟩ := (hK4.below hbx).c)
              | fail)
            all_goals
              have HLN := Lib.hid hLN
              have HZN := Lib.hid (szL_pair (kk := 5) (kn := 0) (ks := ks) HZ.out hz8 hks)
              have HNN : Hid ((done ++ [.mk 5 0 0 ks none 0 [], t]).length ≤ 2 * (j + 1)) := by have := HN.out; unfold Hid; rw [List.length_append]; simp; omega
              rw [List.length_append, show [val.LT.mk 5 0 0 ks none 0 [], t].length = 2 from rfl] at HLN
              clear HLX hLN hL4 ho5 hg5 hv5 g5 gf5 g7 hF hd8 c0 c1 c2 c3 c4 cf HZ HN HKX y0 y1 y2 y3 y4 yf
              go_wp2
              go_roundw
              case rel => exact ⟨j + 1, va', _, vc', _, by go_num, by omega, HLN, HZN, HNN⟩
              case measure => simp [intOf]; omega
          · clear HL HGX
            have CM8 := CW
            go_wp2_with fail
            obtain ⟨c0, c1, c2, c3, c4, cf⟩ := HLX.out.f7.c
            obtain ⟨y0, y1, y2, y3, y4, yf⟩ := HKX.out.c
            go_region_law
              (first
              | (have _q := hF
                 refine step_appN (by rfl) _ _ (by rfl) Try.underlying24 i0 _ hi0 hz0 hz1 hz2 rfl (N7 + 1) (.slice va L vc) done [.mk 5 0 0 ks none 0 [], t] 2 rfl (by rfl) (hL4.km.below ((Below.refl _ _).alloc (Nat.le_refl _) (box10 (.mk 5 0 0 ks none 0 []) t))).row ⟨w8.heap.size, 0, none⟩ 2 (by rfl) (two_at w8 (.mk 5 0 0 ks none 0 []) t) (by have := HN.out; omega) (hL4.km.below ((Below.refl _ _).alloc (Nat.le_refl _) (box10 (.mk 5 0 0 ks none 0 []) t))).top ?_
                 intro v' w9 ho5 hg5 hv5
                 obtain ⟨va', vc', rfl⟩ := row_slice ho5
                 obtain ⟨⟨_, g7, _⟩, hLN⟩ := HLX.out.pair 5 0 ks (by unfold InI; decide) (by unfold InI; decide) hks hL4 hgl (by omega) (by omega) (by omega) hF.undrew ho5 hg5 hv5
                 have g5 : w9.cell? ⟨N7, 4, none⟩ = some (.slice va L vc) := g7.c.c4
                 have gf5 : w9.frozen? ⟨N7, 4, none⟩ = false := g7.c.fr 4)
              | (go_simp
                 go_at_call 40
                 with_reducible refine (CM8.out _ HLX.out.drew.dr).mono ?_
                 rintro e w8 ⟨t, rfl, hF, hd8, hz8, _⟩
                 have hL4 := HLX.out.grown hgl (by omega) (by omega) hF.undrew.only hd8
                 have hK4 := HKX.out.only hF.undrew.only (by omega)
                 obtain ⟨z0, z1, z2, z3, z4, _⟩ := hK4.c
                 have g4 : w8.cell? ⟨N7, 4, none⟩ = some (.slice va L vc) := hL4.f7.c.c4
                 have hbx : Below w8.heap.size w8 (w8.alloc (.cells #[.int .i64 5, .int .i64 0, .int .i64 0, .string ks, .slice none 0 0, .int .i64 t.k, .int .i64 t.n, .int .i64 t.e, .string t.s, t.row] 26)) := (Below.refl _ _).alloc (Nat.le_refl _) _
                 have g4a := (hL4.f7.below hbx).c.c4
                 obtain ⟨x0, x1, x2, x3, x4, _⟩ := (hK4.below hbx).c)
              | fail)
            all_goals
              have HLN := Lib.hid hLN
              have HZN := Lib.hid (szL_pair (kk := 5) (kn := 0) (ks := ks) HZ.out hz8 hks)
              have HNN : Hid ((done ++ [.mk 5 0 0 ks none 0 [], t]).length ≤ 2 * (j + 1)) := by have := HN.out; unfold Hid; rw [List.length_append]; simp; omega
              rw [List.length_append, show [val.LT.mk 5 0 0 ks none 0 [], t].length = 2 from rfl] at HLN
              clear HLX hLN hL4 ho5 hg5 hv5 g5 gf5 g7 hF hd8 c0 c1 c2 c3 c4 cf HZ HN HKX y0 y1 y2 y3 y4 yf
              go_wp2
              go_roundw
              case rel => exact ⟨j + 1, va', _, vc', _, by go_num, by omega, HLN, HZN, HNN⟩
              case measure => simp [intOf]; omega
        · have hj1 : ¬ (j : Int) < (n : Int) := by omega
          obtain ⟨hP, hV⟩ := HL.out.fin (Z := mz (d + 1)) hgl (by omega) (by unfold InI; decide) (by
            have h1 := HZ.out
            have h2 : j ≤ 3 := by omega
            have h3 : j * (12 + mz d) ≤ 3 * (12 + mz d) := Nat.mul_le_mul_right _ h2
            rw [mz]
            omega)
          have HV := Lib.hid hV
          obtain ⟨c0, c1, c2, c3, c4, cf⟩ := HL.out.f7.c
          obtain ⟨q0, q1, q2, q3, q4, qf⟩ := HL.out.f6.c
          obtain ⟨k0, k1, k2, k3, k4, _⟩ := hP.c
          unfold five at k0 k1 k2 k3 k4 HV
          clear HL HZ HN hP hV
          go_wp2
          refine bodyPost_ret (v := .agg #[.int .i64 8, .int .i64 0, .int .i64 0, .string ⟨#[]⟩, .slice va L vc]) (by simp [results, Try.results40, go_sem, k0, k1, k2, k3, k4]) rfl ?_
          exact HV.out
    · have q : (x : Int) = 2 := by omega
      clear hx hq
      have HS8 : Hid (LS W (w3.setCell ⟨N7, 0, none⟩ (.int .i64 8)) (N7 + 1) W.heap.size N7 g a len cap 8 (.slice none 0 0) []) := ⟨HS.out.f6.other (by omega) _ _, HS.out.f7.set0 8, HS.out.km.set (by omega) (by omega) _ _, draw_set HS.out.dr (by omega) _ _⟩
      obtain ⟨c0, c1, c2, c3, c4, cf⟩ := HS.out.f7.c
      clear HS
      go_wp2_with fail
      clear c0 c1 c2 c3 c4 cf
      go_loopw [9] (fun i wr => ∃ (j : Nat) (va : Option Addr) (L vc : Nat) (done : List LT), i = .int .i64 j ∧ j ≤ n ∧ Hid (LS W wr (N7 + 1) W.heap.size N7 g a len cap 8 (.slice va L vc) done) ∧ Hid (LT.szL done ≤ j * (12 + mz d)) ∧ Hid (done.length ≤ 2 * j)) (fun i _ => n - (intOf i).toNat)
      case atStart => exact ⟨0, none, 0, 0, [], rfl, Nat.zero_le _, HS8, by unfold Hid; simp [LT.szL], by unfold Hid; simp⟩
      case round =>
        clear HS8
        obtain ⟨j, va, L, vc, done, rfl, hj, HL, HZ, HN⟩ := hrel
        by_cases hjn : j < n
        · have hj1 : (j : Int) < (n : Int) := by omega
          have hj0 : (0 : Int) ≤ (j : Int) := by omega
          have hj4 : (j : Int) < 4 := by omega
          obtain ⟨ks, hks, hkc⟩ := keyL j (by omega)
          have hbs : Below wr.heap.size wr (wr.alloc (.cells #[.string ⟨#[110, 97, 109, 101]⟩, .string ⟨#[105, 100]⟩, .string ⟨#[108, 105, 115, 116]⟩, .string ⟨#[99, 111, 109, 109, 111, 110, 32, 107, 101, 121]⟩] 9)) := (Below.refl _ _).alloc (Nat.le_refl _) _
          have kc : (wr.alloc (.cells #[.string ⟨#[110, 97, 109, 101]⟩, .string ⟨#[105, 100]⟩, .string ⟨#[108, 105, 115, 116]⟩, .string ⟨#[99, 111, 109, 109, 111, 110, 32, 107, 101, 121]⟩] 9)).cell? ⟨wr.heap.size, j, none⟩ = some (.string ks) := by
            rw [cell_of_row _ wr.heap.size j _ _ (0, 0) (heap_alloc_new wr _)]
            exact hkc
          have CS := Lib.hid (fun w => str_any ks w)
          go_wp2_with fail
          with_reducible refine (CS.out _).mono ?_
          rintro e w5 ⟨rfl, hb5⟩
          have hbk : Below wr.heap.size wr w5 := below_of2 hbs hb5
          have hb8 : Below w5.heap.size w5 (w5.alloc (.cells #[.int .i64 5, .int .i64 0, .int .i64 0, .string ks, .slice none 0 0] 26)) := (Below.refl _ _).alloc (Nat.le_refl _) _
          have HLA := Lib.hid (HL.out.below (below_of2 hbk hb8))
          have HKA := Lib.hid (Five.new w5 5 0 0 ks (.slice none 0 0))
          have hN8 : N7 < w5.heap.size := by have := HL.out.km.top; have := hbk.size; omega
          have C8 := Lib.hid (once_any (w5.alloc (.cells #[.int .i64 5, .int .i64 0, .int .i64 0, .string ks, .slice none 0 0] 26)) g a len cap 8 (by omega) (by omega) HLA.out.dr)
          have hNr : wr.heap.size ≤ w5.heap.size := hbk.size
          have HBB := Lib.hid (below_of2 hbk hb8)
          clear hbs hb5 hbk hb8 CS kc hkc
          go_wp2_with fail
          with_reducible refine C8.out.mono ?_
          rintro e w6 ⟨b8, rfl, hd6, hg6⟩
          have HLX := Lib.hid (HLA.out.grown hgl (by omega) (by omega) hg6 hd6)
          have HKX := Lib.hid (HKA.out.only hg6 (by omega))
          have HGX := Lib.hid (only_after HBB.out hg6)
          clear HBB C8 HLA HKA hd6 hg6
          generalize w5.heap.size = N8 at *
          rcases (show (b8 = true ∧ plain = false) ∨ b8 = false ∨ (b8 = true ∧ plain = true) by cases b8 <;> cases plain <;> simp) with ⟨rfl, rfl⟩ | rfl | ⟨rfl, rfl⟩
          · have CI := Lib.hid (num.int_any (j : Int) w6)
            go_wp2_with fail
            with_reducible refine CI.out.mono ?_
            rintro e w7 ⟨rfl, hb7⟩
            replace HLX := Lib.hid (HLX.out.below hb7)
            replace HKX := Lib.hid (HKX.out.below hb7)
            obtain ⟨y0, y1, y2, y3, y4, yf⟩ := HKX.out.c
            have hLL := HL.out.grown hgl (by omega) (by omega) (five_only (only_below HGX.out hb7) hNr 3 (j : Int) 0 ⟨#[]⟩ (.slice none 0 0)) (draw_five HLX.out.dr (by omega) 3 (j : Int) 0 ⟨#[]⟩ (.slice none 0 0))
            have hKK := HKX.out.put 3 (j : Int) 0 ⟨#[]⟩ (.slice none 0 0)
            replace HLX := Lib.hid hLL
            replace HKX := Lib.hid hKK
            clear hLL hKK hb7 CI HL HGX
            unfold five at HLX HKX
            go_upto_region 18 with (fail)
            clear y0 y1 y2 y3 y4 yf
            generalize ((((w7.setCell ⟨N8, 0, none⟩ (.int .i64 3)).setCell ⟨N8, 1, none⟩ (.int .i64 (j : Int))).setCell ⟨N8, 2, none⟩ (.int .i64 0)).setCell ⟨N8, 3, none⟩ (.string ⟨#[]⟩)).setCell ⟨N8, 4, none⟩ (.slice none 0 0) = w7b at *
            have hIj : InI (j : Int) := by unfold InI; omega
            have CM8 := CW
            go_wp2_with fail
            obtain ⟨c0, c1, c2, c3, c4, cf⟩ := HLX.out.f7.c
            obtain ⟨y0, y1, y2, y3, y4, yf⟩ := HKX.out.c
            go_region_law
              (first
              | (have _q := hF
                 refine step_appN (by rfl) _ _ (by rfl) Try.underlying24 i0 _ hi0 hz0 hz1 hz2 rfl (N7 + 1) (.slice va L vc) done [.mk 3 (j : Int) 0 ⟨#[]⟩ none 0 [], t] 2 rfl (by rfl) (hL4.km.below ((Below.refl _ _).alloc (Nat.le_refl _) (box10 (.mk 3 (j : Int) 0 ⟨#[]⟩ none 0 []) t))).row ⟨w8.heap.size, 0, none⟩ 2 (by rfl) (two_at w8 (.mk 3 (j : Int) 0 ⟨#[]⟩ none 0 []) t) (by have := HN.out; omega) (hL4.km.below ((Below.refl _ _).alloc (Nat.le_refl _) (box10 (.mk 3 (j : Int) 0 ⟨#[]⟩ none 0 []) t))).top ?_
                 intro v' w9 ho5 hg5 hv5
                 obtain ⟨va', vc', rfl⟩ := row_slice ho5
                 obtain ⟨⟨_, g7, _⟩, hLN⟩ := HLX.out.pair 3 (j : Int) ⟨#[]⟩ (by unfold InI; decide) hIj (by decide) hL4 hgl (by omega) (by omega) (by omega) hF.undrew ho5 hg5 hv5
                 have g5 : w9.cell? ⟨N7, 4, none⟩ = some (.slice va L vc) := g7.c.c4
                 have gf5 : w9.frozen? ⟨N7, 4, none⟩ = false := g7.c.fr 4)
              | (go_simp
                 go_at_call 40
                 with_reducible refine (CM8.out _ HLX.out.drew.dr).mono ?_
                 rintro e w8 ⟨t, rfl, hF, hd8, hz8, _⟩
                 have hL4 := HLX.out.grown hgl (by omega) (by omega) hF.undrew.only hd8
                 have hK4 := HKX.out.only hF.undrew.only (by omega)
                 obtain ⟨z0, z1, z2, z3, z4, _⟩ := hK4.c
                 have g4 : w8.cell? ⟨N7, 4, none⟩ = some (.slice va L vc) := hL4.f7.c.c4
                 have hbx : Below w8.heap.size w8 (w8.alloc (.cells #[.int .i64 3, .int .i64 (j : Int), .int .i64 0, .string ⟨#[]⟩, .slice none 0 0, .int .i64 t.k, .int .i64 t.n, .int .i64 t.e, .string t.s, t.row] 26)) := (Below.refl _ _).alloc (Nat.le_refl _) _
                 have g4a := (hL4.f7.below hbx).c.c4
                 obtain ⟨x0, x1, x2, x3, x4, _⟩ := (hK4.below hbx).c)
              | fail)
            all_goals
              have HLN := Lib.hid hLN
              have HZN := Lib.hid (szL_pair (kk := 3) (kn := (j : Int)) (ks := ⟨#[]⟩) HZ.out hz8 (by decide))
              have HNN : Hid ((done ++ [.mk 3 (j : Int) 0 ⟨#[]⟩ none 0 [], t]).length ≤ 2 * (j + 1)) := by have := HN.out; unfold Hid; rw [List.length_append]; simp; omega
              rw [List.length_append, show [val.LT.mk 3 (j : Int) 0 ⟨#[]⟩ none 0 [], t].length = 2 from rfl] at HLN
              clear HLX hLN hL4 ho5 hg5 hv5 g5 gf5 g7 hF hd8 c0 c1 c2 c3 c4 cf HZ HN HKX y0 y1 y2 y3 y4 yf
              go_wp2
              go_roundw
              case rel => exact ⟨j + 1, va', _, vc', _, by go_num, by omega, HLN, HZN, HNN⟩
              case measure => simp [intOf]; omega
          · clear HL HGX
            have CM8 := CW
            go_wp2_with fail
            obtain ⟨c0, c1, c2, c3, c4, cf⟩ := HLX.out.f7.c
            obtain ⟨y0, y1, y2, y3, y4, yf⟩ := HKX.out.c
            go_region_law
              (first
              | (have _q := hF
                 refine step_appN (by rfl) _ _ (by rfl) Try.underlying24 i0 _ hi0 hz0 hz1 hz2 rfl (N7 + 1) (.slice va L vc) done [.mk 5 0 0 ks none 0 [], t] 2 rfl (by rfl) (hL4.km.below ((Below.refl _ _).alloc (Nat.le_refl _) (box10 (.mk 5 0 0 ks none 0 []) t))).row ⟨w8.heap.size, 0, none⟩ 2 (by rfl) (two_at w8 (.mk 5 0 0 ks none 0 []) t) (by have := HN.out; omega) (hL4.km.below ((Below.refl _ _).alloc (Nat.le_refl _) (box10 (.mk 5 0 0 ks none 0 []) t))).top ?_
                 intro v' w9 ho5 hg5 hv5
                 obtain ⟨va', vc', rfl⟩ := row_slice ho5
                 obtain ⟨⟨_, g7, _⟩, hLN⟩ := HLX.out.pair 5 0 ks (by unfold InI; decide) (by unfold InI; decide) hks hL4 hgl (by omega) (by omega) (by omega) hF.undrew ho5 hg5 hv5
                 have g5 : w9.cell? ⟨N7, 4, none⟩ = some (.slice va L vc) := g7.c.c4
                 have gf5 : w9.frozen? ⟨N7, 4, none⟩ = false := g7.c.fr 4)
              | (go_simp
                 go_at_call 40
                 with_reducible refine (CM8.out _ HLX.out.drew.dr).mono ?_
                 rintro e w8 ⟨t, rfl, hF, hd8, hz8, _⟩
                 have hL4 := HLX.out.grown hgl (by omega) (by omega) hF.undrew.only hd8
                 have hK4 := HKX.out.only hF.undrew.only (by omega)
                 obtain ⟨z0, z1, z2, z3, z4, _⟩ := hK4.c
                 have g4 : w8.cell? ⟨N7, 4, none⟩ = some (.slice va L vc) := hL4.f7.c.c4
                 have hbx : Below w8.heap.size w8 (w8.alloc (.cells #[.int .i64 5, .int .i64 0, .int .i64 0, .string ks, .slice none 0 0, .int .i64 t.k, .int .i64 t.n, .int .i64 t.e, .string t.s, t.row] 26)) := (Below.refl _ _).alloc (Nat.le_refl _) _
                 have g4a := (hL4.f7.below hbx).c.c4
                 obtain ⟨x0, x1, x2, x3, x4, _⟩ := (hK4.below hbx).c)
              | fail)
            all_goals
              have HLN := Lib.hid hLN
              have HZN := Lib.hid (szL_pair (kk := 5) (kn := 0) (ks := ks) HZ.out hz8 hks)
              have HNN : Hid ((done ++ [.mk 5 0 0 ks none 0 [], t]).length ≤ 2 * (j + 1)) := by have := HN.out; unfold Hid; rw [List.length_append]; simp; omega
              rw [List.length_append, show [val.LT.mk 5 0 0 ks none 0 [], t].length = 2 from rfl] at HLN
              clear HLX hLN hL4 ho5 hg5 hv5 g5 gf5 g7 hF hd8 c0 c1 c2 c3 c4 cf HZ HN HKX y0 y1 y2 y3 y4 yf
              go_wp2
              go_roundw
              case rel => exact ⟨j + 1, va', _, vc', _, by go_num, by omega, HLN, HZN, HNN⟩
              case measure => simp [intOf]; omega
          · clear HL HGX
            have CM8 := CW
            go_wp2_with fail
            obtain ⟨c0, c1, c2, c3, c4, cf⟩ := HLX.out.f7.c
            obtain ⟨y0, y1, y2, y3, y4, yf⟩ := HKX.out.c
            go_region_law
              (first
              | (have _q := hF
                 refine step_appN (by rfl) _ _ (by rfl) Try.underlying24 i0 _ hi0 hz0 hz1 hz2 rfl (N7 + 1) (.slice va L vc) done [.mk 5 0 0 ks none 0 [], t] 2 rfl (by rfl) (hL4.km.below ((Below.refl _ _).alloc (Nat.le_refl _) (box10 (.mk 5 0 0 ks none 0 []) t))).row ⟨w8.heap.size, 0, none⟩ 2 (by rfl) (two_at w8 (.mk 5 0 0 ks none 0 []) t) (by have := HN.out; omega) (hL4.km.below ((Below.refl _ _).alloc (Nat.le_refl _) (box10 (.mk 5 0 0 ks none 0 []) t))).top ?_
                 intro v' w9 ho5 hg5 hv5
                 obtain ⟨va', vc', rfl⟩ := row_slice ho5
                 obtain ⟨⟨_, g7, _⟩, hLN⟩ := HLX.out.pair 5 0 ks (by unfold InI; decide) (by unfold InI; decide) hks hL4 hgl (by omega) (by omega) (by omega) hF.undrew ho5 hg5 hv5
                 have g5 : w9.cell? ⟨N7, 4, none⟩ = some (.slice va L vc) := g7.c.c4
                 have gf5 : w9.frozen? ⟨N7, 4, none⟩ = false := g7.c.fr 4)
              | (go_simp
                 go_at_call 40
                 with_reducible refine (CM8.out _ HLX.out.drew.dr).mono ?_
                 rintro e w8 ⟨t, rfl, hF, hd8, hz8, _⟩
                 have hL4 := HLX.out.grown hgl (by omega) (by omega) hF.undrew.only hd8
                 have hK4 := HKX.out.only hF.undrew.only (by omega)
                 obtain ⟨z0, z1, z2, z3, z4, _⟩ := hK4.c
                 have g4 : w8.cell? ⟨N7, 4, none⟩ = some (.slice va L vc) := hL4.f7.c.c4
                 have hbx : Below w8.heap.size w8 (w8.alloc (.cells #[.int .i64 5, .int .i64 0, .int .i64 0, .string ks, .slice none 0 0, .int .i64 t.k, .int .i64 t.n, .int .i64 t.e, .string t.s, t.row] 26)) := (Below.refl _ _).alloc (Nat.le_refl _) _
                 have g4a := (hL4.f7.below hbx).c.c4
                 obtain ⟨x0, x1, x2, x3, x4, _⟩ := (hK4.below hbx).c)
              | fail)
            all_goals
              have HLN := Lib.hid hLN
              have HZN := Lib.hid (szL_pair (kk := 5) (kn := 0) (ks := ks) HZ.out hz8 hks)
              have HNN : Hid ((done ++ [.mk 5 0 0 ks none 0 [], t]).length ≤ 2 * (j + 1)) := by have := HN.out; unfold Hid; rw [List.length_append]; simp; omega
              rw [List.length_append, show [val.LT.mk 5 0 0 ks none 0 [], t].length = 2 from rfl] at HLN
              clear HLX hLN hL4 ho5 hg5 hv5 g5 gf5 g7 hF hd8 c0 c1 c2 c3 c4 cf HZ HN HKX y0 y1 y2 y3 y4 yf
              go_wp2
              go_roundw
              case rel => exact ⟨j + 1, va', _, vc', _, by go_num, by omega, HLN, HZN, HNN⟩
              case measure => simp [intOf]; omega
        · have hj1 : ¬ (j : Int) < (n : Int) := by omega
          obtain ⟨hP, hV⟩ := HL.out.fin (Z := mz (d + 1)) hgl (by omega) (by unfold InI; decide) (by
            have h1 := HZ.out
            have h2 : j ≤ 3 := by omega
            have h3 : j * (12 + mz d) ≤ 3 * (12 + mz d) := Nat.mul_le_mul_right _ h2
            rw [mz]
            omega)
          have HV := Lib.hid hV
          obtain ⟨c0, c1, c2, c3, c4, cf⟩ := HL.out.f7.c
          obtain ⟨q0, q1, q2, q3, q4, qf⟩ := HL.out.f6.c
          obtain ⟨k0, k1, k2, k3, k4, _⟩ := hP.c
          unfold five at k0 k1 k2 k3 k4 HV
          clear HL HZ HN hP hV
          go_wp2
          refine bodyPost_ret (v := .agg #[.int .i64 8, .int .i64 0, .int .i64 0, .string ⟨#[]⟩, .slice va L vc]) (by simp [results, Try.results40, go_sem, k0, k1, k2, k3, k4]) rfl ?_
          exact HV.out
    · have q : (x : Int) = 0 := by omega
      clear hx hq
      go_wp2_with fail
      go_loopw [11] (fun i wr => ∃ (j : Nat) (va : Option Addr) (L vc : Nat) (done : List LT), i = .int .i64 j ∧ j ≤ n ∧ Hid (LS W wr (N7 + 1) W.heap.size N7 g a len cap 7 (.slice va L vc) done) ∧ Hid (LT.szL done ≤ j * (1 + mz d)) ∧ Hid (done.length ≤ 2 * j)) (fun i _ => n - (intOf i).toNat)
      case atStart => exact ⟨0, none, 0, 0, [], rfl, Nat.zero_le _, HS, by unfold Hid; simp [LT.szL], by unfold Hid; simp⟩
      case round =>
        clear HS
        obtain ⟨j, va, L, vc, done, rfl, hj, HL, HZ, HN⟩ := hrel
        by_cases hjn : j < n
        · have hj1 : (j : Int) < (n : Int) := by omega
          obtain ⟨c0, c1, c2, c3, c4, cf⟩ := HL.out.f7.c
          go_wp2_with fail
          go_region_law
            (first
            | (have _q := hF
               refine step_appN (by rfl) _ _ (by rfl) Try.underlying24 i0 _ hi0 hz0 hz1 hz2 rfl (N7 + 1) (.slice va L vc) done [t] 1 rfl (by rfl) (hL4.app t).row ⟨w4.heap.size, 0, none⟩ 1 (by rfl) (one_at w4 t) (by have := HN.out; omega) (hL4.app t).top ?_
               intro v' w5 ho5 hg5 hv5
               obtain ⟨va', vc', rfl⟩ := row_slice ho5
               have g5 : w5.cell? ⟨N7, 4, none⟩ = some (.slice va L vc) := (hL4.stepped hgl (by omega) (by omega) hF.undrew ho5 hg5 hv5).2.1.c.c4
               have gf5 : w5.frozen? ⟨N7, 4, none⟩ = false := (hL4.stepped hgl (by omega) (by omega) hF.undrew ho5 hg5 hv5).2.1.c.fr 4)
            | (go_simp
               go_at_call 40
               with_reducible refine (CW.out _ HL.out.drew.dr).mono ?_
               rintro e w4 ⟨t, rfl, hF, hd4, hz4, _⟩
               have hL4 := HL.out.grown hgl (by omega) (by omega) hF.undrew.only hd4
               have g4 : w4.cell? ⟨N7, 4, none⟩ = some (.slice va L vc) := hL4.f7.c.c4
               have g4a : (w4.alloc (.cells #[.int .i64 t.k, .int .i64 t.n, .int .i64 t.e, .string t.s, t.row] 26)).cell? ⟨N7, 4, none⟩ = some (.slice va L vc) := (hL4.f7.below ((Below.refl _ _).alloc (Nat.le_refl _) _)).c.c4)
            | fail)
          all_goals
            have HLN := Lib.hid (HL.out.next hL4 hgl (by omega) (by omega) (by omega) hF.undrew ho5 hg5 hv5)
            have HZN := Lib.hid (szL_next HZ.out hz4)
            have HNN : Hid ((done ++ [t]).length ≤ 2 * (j + 1)) := by have := HN.out; unfold Hid; rw [List.length_append, List.length_singleton]; omega
            rw [List.length_append, List.length_singleton] at HLN
            clear HL hL4 ho5 hg5 hv5 g5 gf5 g4 g4a hF hd4 c0 c1 c2 c3 c4 cf HZ HN
            go_wp2
            go_roundw
            case rel => exact ⟨j + 1, va', _, vc', _, by go_num, by omega, HLN, HZN, HNN⟩
            case measure => simp [intOf]; omega
        · have hj1 : ¬ (j : Int) < (n : Int) := by omega
          obtain ⟨hP, hV⟩ := HL.out.fin (Z := mz (d + 1)) hgl (by omega) (by unfold InI; decide) (by
            have h1 := HZ.out
            have h2 : j ≤ 3 := by omega
            have h3 : j * (1 + mz d) ≤ 3 * (1 + mz d) := Nat.mul_le_mul_right _ h2
            rw [mz]
            omega)
          have HV := Lib.hid hV
          obtain ⟨c0, c1, c2, c3, c4, cf⟩ := HL.out.f7.c
          obtain ⟨q0, q1, q2, q3, q4, qf⟩ := HL.out.f6.c
          obtain ⟨k0, k1, k2, k3, k4, _⟩ := hP.c
          unfold five at k0 k1 k2 k3 k4 HV
          clear HL HZ HN hP hV
          go_wp2
          refine bodyPost_ret (v := .agg #[.int .i64 7, .int .i64 0, .int .i64 0, .string ⟨#[]⟩, .slice va L vc]) (by simp [results, Try.results40, go_sem, k0, k1, k2, k3, k4]) rfl ?_
          exact HV.out
    · have q : (x : Int) = 3 := by omega
      clear hx hq
      go_wp2_with fail
      go_loopw [11] (fun i wr => ∃ (j : Nat) (va : Option Addr) (L vc : Nat) (done : List LT), i = .int .i64 j ∧ j ≤ n ∧ Hid (LS W wr (N7 + 1) W.heap.size N7 g a len cap 7 (.slice va L vc) done) ∧ Hid (LT.szL done ≤ j * (1 + mz d)) ∧ Hid (done.length ≤ 2 * j)) (fun i _ => n - (intOf i).toNat)
      case atStart => exact ⟨0, none, 0, 0, [], rfl, Nat.zero_le _, HS, by unfold Hid; simp [LT.szL], by unfold Hid; simp⟩
      case round =>
        clear HS
        obtain ⟨j, va, L, vc, done, rfl, hj, HL, HZ, HN⟩ := hrel
        by_cases hjn : j < n
        · have hj1 : (j : Int) < (n : Int) := by omega
          obtain ⟨c0, c1, c2, c3, c4, cf⟩ := HL.out.f7.c
          go_wp2_with fail
          go_region_law
            (first
            | (have _q := hF
               refine step_appN (by rfl) _ _ (by rfl) Try.underlying24 i0 _ hi0 hz0 hz1 hz2 rfl (N7 + 1) (.slice va L vc) done [t] 1 rfl (by rfl) (hL4.app t).row ⟨w4.heap.size, 0, none⟩ 1 (by rfl) (one_at w4 t) (by have := HN.out; omega) (hL4.app t).top ?_
               intro v' w5 ho5 hg5 hv5
               obtain ⟨va', vc', rfl⟩ := row_slice ho5
               have g5 : w5.cell? ⟨N7, 4, none⟩ = some (.slice va L vc) := (hL4.stepped hgl (by omega) (by omega) hF.undrew ho5 hg5 hv5).2.1.c.c4
               have gf5 : w5.frozen? ⟨N7, 4, none⟩ = false := (hL4.stepped hgl (by omega) (by omega) hF.undrew ho5 hg5 hv5).2.1.c.fr 4)
            | (go_simp
               go_at_call 40
               with_reducible refine (CW.out _ HL.out.drew.dr).mono ?_
               rintro e w4 ⟨t, rfl, hF, hd4, hz4, _⟩
               have hL4 := HL.out.grown hgl (by omega) (by omega) hF.undrew.only hd4
               have g4 : w4.cell? ⟨N7, 4, none⟩ = some (.slice va L vc) := hL4.f7.c.c4
               have g4a : (w4.alloc (.cells #[.int .i64 t.k, .int .i64 t.n, .int .i64 t.e, .string t.s, t.row] 26)).cell? ⟨N7, 4, none⟩ = some (.slice va L vc) := (hL4.f7.below ((Below.refl _ _).alloc (Nat.le_refl _) _)).c.c4)
            | fail)
          all_goals
            have HLN := Lib.hid (HL.out.next hL4 hgl (by omega) (by omega) (by omega) hF.undrew ho5 hg5 hv5)
            have HZN := Lib.hid (szL_next HZ.out hz4)
            have HNN : Hid ((done ++ [t]).length ≤ 2 * (j + 1)) := by have := HN.out; unfold Hid; rw [List.length_append, List.length_singleton]; omega
            rw [List.length_append, List.length_singleton] at HLN
            clear HL hL4 ho5 hg5 hv5 g5 gf5 g4 g4a hF hd4 c0 c1 c2 c3 c4 cf HZ HN
            go_wp2
            go_roundw
            case rel => exact ⟨j + 1, va', _, vc', _, by go_num, by omega, HLN, HZN, HNN⟩
            case measure => simp [intOf]; omega
        · have hj1 : ¬ (j : Int) < (n : Int) := by omega
          obtain ⟨hP, hV⟩ := HL.out.fin (Z := mz (d + 1)) hgl (by omega) (by unfold InI; decide) (by
            have h1 := HZ.out
            have h2 : j ≤ 3 := by omega
            have h3 : j * (1 + mz d) ≤ 3 * (1 + mz d) := Nat.mul_le_mul_right _ h2
            rw [mz]
            omega)
          have HV := Lib.hid hV
          obtain ⟨c0, c1, c2, c3, c4, cf⟩ := HL.out.f7.c
          obtain ⟨q0, q1, q2, q3, q4, qf⟩ := HL.out.f6.c
          obtain ⟨k0, k1, k2, k3, k4, _⟩ := hP.c
          unfold five at k0 k1 k2 k3 k4 HV
          clear HL HZ HN hP hV
          go_wp2
          refine bodyPost_ret (v := .agg #[.int .i64 7, .int .i64 0, .int .i64 0, .string ⟨#[]⟩, .slice va L vc]) (by simp [results, Try.results40, go_sem, k0, k1, k2, k3, k4]) rfl ?_
          exact HV.out
    · have q : (x : Int) = 4 := by omega
      clear hx hq
      go_wp2_with fail
      go_loopw [11] (fun i wr => ∃ (j : Nat) (va : Option Addr) (L vc : Nat) (done : List LT), i = .int .i64 j ∧ j ≤ n ∧ Hid (LS W wr (N7 + 1) W.heap.size N7 g a len cap 7 (.slice va L vc) done) ∧ Hid (LT.szL done ≤ j * (1 + mz d)) ∧ Hid (done.length ≤ 2 * j)) (fun i _ => n - (intOf i).toNat)
      case atStart => exact ⟨0, none, 0, 0, [], rfl, Nat.zero_le _, HS, by unfold Hid; simp [LT.szL], by unfold Hid; simp⟩
      case round =>
        clear HS
        obtain ⟨j, va, L, vc, done, rfl, hj, HL, HZ, HN⟩ := hrel
        by_cases hjn : j < n
        · have hj1 : (j : Int) < (n : Int) := by omega
          obtain ⟨c0, c1, c2, c3, c4, cf⟩ := HL.out.f7.c
          go_wp2_with fail
          go_region_law
            (first
            | (have _q := hF
               refine step_appN (by rfl) _ _ (by rfl) Try.underlying24 i0 _ hi0 hz0 hz1 hz2 rfl (N7 + 1) (.slice va L vc) done [t] 1 rfl (by rfl) (hL4.app t).row ⟨w4.heap.size, 0, none⟩ 1 (by rfl) (one_at w4 t) (by have := HN.out; omega) (hL4.app t).top ?_
               intro v' w5 ho5 hg5 hv5
               obtain ⟨va', vc', rfl⟩ := row_slice ho5
               have g5 : w5.cell? ⟨N7, 4, none⟩ = some (.slice va L vc) := (hL4.stepped hgl (by omega) (by omega) hF.undrew ho5 hg5 hv5).2.1.c.c4
               have gf5 : w5.frozen? ⟨N7, 4, none⟩ = false := (hL4.stepped hgl (by omega) (by omega) hF.undrew ho5 hg5 hv5).2.1.c.fr 4)
            | (go_simp
               go_at_call 40
               with_reducible refine (CW.out _ HL.out.drew.dr).mono ?_
               rintro e w4 ⟨t, rfl, hF, hd4, hz4, _⟩
               have hL4 := HL.out.grown hgl (by omega) (by omega) hF.undrew.only hd4
               have g4 : w4.cell? ⟨N7, 4, none⟩ = some (.slice va L vc) := hL4.f7.c.c4
               have g4a : (w4.alloc (.cells #[.int .i64 t.k, .int .i64 t.n, .int .i64 t.e, .string t.s, t.row] 26)).cell? ⟨N7, 4, none⟩ = some (.slice va L vc) := (hL4.f7.below ((Below.refl _ _).alloc (Nat.le_refl _) _)).c.c4)
            | fail)
          all_goals
            have HLN := Lib.hid (HL.out.next hL4 hgl (by omega) (by omega) (by omega) hF.undrew ho5 hg5 hv5)
            have HZN := Lib.hid (szL_next HZ.out hz4)
            have HNN : Hid ((done ++ [t]).length ≤ 2 * (j + 1)) := by have := HN.out; unfold Hid; rw [List.length_append, List.length_singleton]; omega
            rw [List.length_append, List.length_singleton] at HLN
            clear HL hL4 ho5 hg5 hv5 g5 gf5 g4 g4a hF hd4 c0 c1 c2 c3 c4 cf HZ HN
            go_wp2
            go_roundw
            case rel => exact ⟨j + 1, va', _, vc', _, by go_num, by omega, HLN, HZN, HNN⟩
            case measure => simp [intOf]; omega
        · have hj1 : ¬ (j : Int) < (n : Int) := by omega
          obtain ⟨hP, hV⟩ := HL.out.fin (Z := mz (d + 1)) hgl (by omega) (by unfold InI; decide) (by
            have h1 := HZ.out
            have h2 : j ≤ 3 := by omega
            have h3 : j * (1 + mz d) ≤ 3 * (1 + mz d) := Nat.mul_le_mul_right _ h2
            rw [mz]
            omega)
          have HV := Lib.hid hV
          obtain ⟨c0, c1, c2, c3, c4, cf⟩ := HL.out.f7.c
          obtain ⟨q0, q1, q2, q3, q4, qf⟩ := HL.out.f6.c
          obtain ⟨k0, k1, k2, k3, k4, _⟩ := hP.c
          unfold five at k0 k1 k2 k3 k4 HV
          clear HL HZ HN hP hV
          go_wp2
          refine bodyPost_ret (v := .agg #[.int .i64 7, .int .i64 0, .int .i64 0, .string ⟨#[]⟩, .slice va L vc]) (by simp [results, Try.results40, go_sem, k0, k1, k2, k3, k4]) rfl ?_
          exact HV.out
theorem make_any : ∀ d, d ≤ 11 → MK d
  | 0, _ => make_zero
  | d + 1, h => make_step (make_any d (by omega)) (by omega)
end Go.Proofs.Ythjholhjkahdkaa.made
