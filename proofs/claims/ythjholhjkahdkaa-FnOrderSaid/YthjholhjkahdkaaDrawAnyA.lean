/-
  The drawing functions of the laws on values: spec.l02Any.
-/
import Derived.Test.YthjholhjkahdkaaDrawMake
namespace Go.Proofs.Ythjholhjkahdkaa.made
open Go.ChangeShapes Go.WideShapes Go.ChangeAt Go.RowKit
open Go.Proofs.Ythjholhjkahdkaa.val Go.Proofs.Ythjholhjkahdkaa.draw
set_option maxRecDepth 100000

theorem anyN : ∀ k, k < 4 → ∃ z : Int, InI z ∧ (#[Value.int .i64 1, .int .i64 10, .int .i64 (-1), .int .i64 1000001] : Array Value)[k]? = some (.int .i64 z) := by
  intro k hk
  have h : k = 0 ∨ k = 1 ∨ k = 2 ∨ k = 3 := by omega
  rcases h with rfl | rfl | rfl | rfl <;> exact ⟨_, by unfold InI; omega, rfl⟩
/-- The row as a value's list. -/
theorem KM.vals {W : World} {B : Nat} {wr : World} {b : Nat} {v : Value} {done : List LT} (h : KM W B wr b v done) : ∃ a cap, v = .slice a done.length cap ∧ ∀ (k n e : Int) (s : ByteArray), InI k → InI n → InI e → s.size ≤ 9223372036854775807 → FreshO W wr b (.mk k n e s a cap done) ∧ ∀ x, x ∈ (val.LT.mk k n e s a cap done).blks → v.ownBlock = some x ∨ x ∈ LT.blksL done := by
  obtain ⟨hl, hrow⟩ := id h.row
  rcases hrow with ⟨rfl, h0⟩ | ⟨g, cap, cur, rfl, hg⟩
  · obtain rfl : done = [] := List.eq_nil_of_length_eq_zero h0
    exact ⟨none, 0, rfl, fun k n e s hk hn he hs => ⟨FreshO.leaf hk hn he hs h.only, fun x hx => by simp [LT.blks, LT.blksL] at hx⟩⟩
  · obtain ⟨⟨cs, h1, h2⟩, h3, h4, h5, h6, h7⟩ := h.row.at5
    have hB : ∀ (k n e : Int) (s : ByteArray), ∀ x, x ∈ (val.LT.mk k n e s (some ⟨g, 0, none⟩) cap done).blks → x = g ∨ x ∈ LT.blksL done := fun k n e s x hx => by
      rw [blks_some] at hx
      rcases List.mem_cons.1 hx with rfl | hx
      · exact .inl rfl
      · exact .inr hx
    refine ⟨some ⟨g, 0, none⟩, cap, rfl, fun k n e s hk hn he hs => ⟨⟨.mk cs hk hn he hs ⟨h5, by unfold maxLen at h6; exact h6⟩ h1 h2 h7 h.trs, fun x hx => ?_, ?_, h.only⟩, fun x hx => ?_⟩⟩
    · rcases hB k n e s x hx with rfl | hx
      · exact Nat.le_trans h.base h3
      · exact Nat.le_trans h.base (h.new x hx)
    · rw [blks_some]
      exact h.nodup
    · rcases hB k n e s x hx with rfl | hx
      · exact .inl rfl
      · exact .inr hx
/-- The value in its own block N3, beside the result's N2. -/
structure AS (W wr : World) (N2 N3 g : Nat) (a : Option Addr) (len cap Z : Nat) (t : LT) : Prop where
  f2 : Five wr N2 0 0 0 ⟨#[]⟩ (.slice none 0 0)
  f3 : Five wr N3 t.k t.n t.e t.s t.row
  fr : FreshO W wr g t
  n2 : N2 ∉ t.blks
  n3 : N3 ∉ t.blks
  dr : Draw wr g a len cap
  sz : t.sz ≤ Z
  own : OwnR wr W.heap.size t.row t.kids
theorem tr_k {w : World} {t : LT} (h : Tr w t) : InI t.k ∧ InI t.n ∧ InI t.e ∧ t.s.size ≤ 9223372036854775807 := by cases h <;> exact ⟨‹_›, ‹_›, ‹_›, ‹_›⟩
theorem tr_kids {w : World} {t : LT} (h : Tr w t) : (∀ i (hi : i < t.kids.length), Tr w t.kids[i]) ∧ t.blks = t.row.ownBlock.toList ++ LT.blksL t.kids := by
  cases h with
  | nil => exact ⟨fun i hi => by simp [LT.kids] at hi, by simp [LT.blks, LT.row, LT.a, LT.kids, Value.ownBlock, LT.blksL]⟩
  | mk cs h1 h2 h3 h4 h5 hb hz hc hkids => exact ⟨hkids, by rw [blks_some]; rfl⟩
/-- The same value with another kind, another number. -/
theorem tr_with {w : World} {k n e : Int} {s : ByteArray} {a : Option Addr} {cap : Nat} {kids : List LT} (h : Tr w (.mk k n e s a cap kids)) (k' n' : Int) (hk : InI k') (hn : InI n') : Tr w (.mk k' n' e s a cap kids) := by
  cases h with
  | nil h1 h2 h3 h4 => exact .nil hk hn h3 h4
  | mk cs h1 h2 h3 h4 h5 hb hz hc hkids => exact .mk cs hk hn h3 h4 h5 hb hz hc hkids
theorem blks_any (k n k' n' e : Int) (s : ByteArray) (a : Option Addr) (cap : Nat) (kids : List LT) : (val.LT.mk k n e s a cap kids).blks = (val.LT.mk k' n' e s a cap kids).blks := by cases a <;> rfl
theorem AS.km {W wr : World} {N2 N3 g : Nat} {a : Option Addr} {len cap Z : Nat} {t : LT} (h : AS W wr N2 N3 g a len cap Z t) : KM W W.heap.size wr g t.row t.kids := by
  obtain ⟨h1, h2⟩ := tr_kids h.fr.tr
  refine ⟨h.own, h1, fun k hk => h.fr.new k (by rw [h2]; exact List.mem_append_right _ hk), by rw [← h2]; exact h.fr.nodup, h.fr.only, Nat.le_refl _, h.fr.only.size⟩
theorem AS.fin {W wr : World} {N2 N3 g : Nat} {a : Option Addr} {len cap Z : Nat} {t : LT} (h : AS W wr N2 N3 g a len cap Z t) (hg : g < N2) (hN : W.heap.size ≤ N2) :
    Five (five wr N2 t.k t.n t.e t.s t.row) N2 t.k t.n t.e t.s t.row ∧ VRet W (five wr N2 t.k t.n t.e t.s t.row) g a len cap Z (.returned (.agg #[.int .i64 t.k, .int .i64 t.n, .int .i64 t.e, .string t.s, t.row])) :=
  ⟨h.f2.put _ _ _ _ _, ret_any h.fr h.n2 h.dr hN hg h.sz h.own⟩
theorem AS.mono {W wr : World} {N2 N3 g : Nat} {a : Option Addr} {len cap Z Z' : Nat} {t : LT} (h : AS W wr N2 N3 g a len cap Z t) (hz : Z ≤ Z') : AS W wr N2 N3 g a len cap Z' t := ⟨h.f2, h.f3, h.fr, h.n2, h.n3, h.dr, Nat.le_trans h.sz hz, h.own⟩
theorem AS.grown {W wr w' : World} {N2 N3 g : Nat} {a : Option Addr} {len cap Z : Nat} {t : LT} (h : AS W wr N2 N3 g a len cap Z t) (hg : g < W.heap.size) (h2 : N2 ≠ g) (h3 : N3 ≠ g) (hb : wr.grownBy w' (some g)) (hd : Draw w' g a len cap) : AS W w' N2 N3 g a len cap Z t :=
  ⟨h.f2.only hb h2, h.f3.only hb h3, ⟨h.fr.tr.kept fun k hk => hb.block k (h.fr.tr.lt k hk) (fun e => by injection e with e; have := h.fr.new k hk; omega), h.fr.new, h.fr.nodup, h.fr.only.trans hb⟩, h.n2, h.n3, hd, h.sz,
    h.own.same fun k hk => hb.block k (h.own.lt k hk).2 (fun e => by injection e with e; have := (h.own.lt k hk).1; omega)⟩
theorem AS.below {W wr w' : World} {N2 N3 g : Nat} {a : Option Addr} {len cap Z : Nat} {t : LT} (h : AS W wr N2 N3 g a len cap Z t) (hb : Below wr.heap.size wr w') : AS W w' N2 N3 g a len cap Z t :=
  ⟨h.f2.below hb, h.f3.below hb, h.fr.more hb, h.n2, h.n3, h.dr.below hb, h.sz, h.own.same fun k hk => hb.block k (h.own.lt k hk).2⟩
theorem AS.drew {W wr : World} {N2 N3 g : Nat} {a : Option Addr} {len cap Z : Nat} {t : LT} (h : AS W wr N2 N3 g a len cap Z t) : AS W wr.drew N2 N3 g a len cap Z t := h.below ⟨rfl, rfl, rfl, Nat.le_refl _, fun _ _ => rfl⟩
theorem own_set {w : World} {B N : Nat} {t : LT} (h : OwnR w B t.row t.kids) (hN : N ∉ t.blks) (o : Nat) (x : Value) : OwnR (w.setCell ⟨N, o, none⟩ x) B t.row t.kids :=
  h.same fun k hk => Go.Deep.blk_setCell_other _ _ _ _ (by show k ≠ N; exact fun e => hN (by rw [← e]; exact own_blk hk))
/-- A kind stored. -/
theorem AS.kind {W wr : World} {N2 N3 g : Nat} {a : Option Addr} {len cap Z : Nat} {t : LT} (h : AS W wr N2 N3 g a len cap Z t) (h3 : W.heap.size ≤ N3) (h23 : N2 ≠ N3) (hg : g < N3) (k' : Int) (hk : InI k') : AS W (wr.setCell ⟨N3, 0, none⟩ (.int .i64 k')) N2 N3 g a len cap Z (.mk k' t.n t.e t.s t.a t.cap t.kids) := by
  obtain ⟨k, n, e, s, b, c, kids⟩ := t
  have hb := blks_any k' n k n e s b c kids
  have hn := tr_k h.fr.tr
  show AS W _ N2 N3 g a len cap Z (.mk k' n e s b c kids)
  exact ⟨h.f2.other h23 _ _, h.f3.set0 k', ⟨tr_with ((h.fr.set h3 h.n3 0 (.int .i64 k')).tr) k' n hk hn.2.1, by rw [hb]; exact h.fr.new, by rw [hb]; exact h.fr.nodup, only_set h.fr.only h3 _ _⟩, by rw [hb]; exact h.n2, by rw [hb]; exact h.n3, draw_set h.dr hg _ _, h.sz, own_set h.own h.n3 _ _⟩
theorem Five.set1 {W : World} {N : Nat} {k n e : Int} {s : ByteArray} {v : Value} (h : Five W N k n e s v) (n' : Int) : Five (W.setCell ⟨N, 1, none⟩ (.int .i64 n')) N k n' e s v := ⟨by have := val.blk_set (o := 1) h.row (.int .i64 n'); simpa using this⟩
theorem AS.num {W wr : World} {N2 N3 g : Nat} {a : Option Addr} {len cap Z : Nat} {t : LT} (h : AS W wr N2 N3 g a len cap Z t) (h3 : W.heap.size ≤ N3) (h23 : N2 ≠ N3) (hg : g < N3) (n' : Int) (hn' : InI n') : AS W (wr.setCell ⟨N3, 1, none⟩ (.int .i64 n')) N2 N3 g a len cap Z (.mk t.k n' t.e t.s t.a t.cap t.kids) := by
  obtain ⟨k, n, e, s, b, c, kids⟩ := t
  have hb := blks_any k n' k n e s b c kids
  have hn := tr_k h.fr.tr
  show AS W _ N2 N3 g a len cap Z (.mk k n' e s b c kids)
  exact ⟨h.f2.other h23 _ _, h.f3.set1 n', ⟨tr_with ((h.fr.set h3 h.n3 1 (.int .i64 n')).tr) k n' hn.1 hn', by rw [hb]; exact h.fr.new, by rw [hb]; exact h.fr.nodup, only_set h.fr.only h3 _ _⟩, by rw [hb]; exact h.n2, by rw [hb]; exact h.n3, draw_set h.dr hg _ _, h.sz, own_set h.own h.n3 _ _⟩
/-- A value more in its list. -/
theorem AS.app {W wr w4 w5 : World} {N2 N3 g : Nat} {a : Option Addr} {len cap Z Z' : Nat} {t u : LT} {va : Option Addr} {vc : Nat} (h0 : AS W wr N2 N3 g a len cap Z t) (h : AS W w4 N2 N3 g a len cap Z t) (hg : g < W.heap.size) (h2 : W.heap.size ≤ N2) (h3 : W.heap.size ≤ N3) (h23 : N2 ≠ N3) (hF : FreshO wr w4 g u) (hu : Z + 1 + u.sz ≤ Z')
    (ho : OwnR w5 W.heap.size (.slice va (t.kids.length + 1) vc) (t.kids ++ [u])) (hgr : (w4.alloc (box5 u)).grownBy w5 t.row.ownBlock) (hv : (Value.slice va (t.kids.length + 1) vc).ownBlock = t.row.ownBlock ∨ (Value.slice va (t.kids.length + 1) vc).ownBlock = some (w4.alloc (box5 u)).heap.size) :
    Five w5 N3 t.k t.n t.e t.s t.row ∧ AS W (w5.setCell ⟨N3, 4, none⟩ (.slice va (t.kids.length + 1) vc)) N2 N3 g a len cap Z' (.mk t.k t.n t.e t.s va vc (t.kids ++ [u])) := by
  have hb : Below w4.heap.size w4 (w4.alloc (box5 u)) := (Below.refl _ _).alloc (Nat.le_refl _) _
  have hbl := (tr_kids h.fr.tr).2
  have hvn : ∀ x, t.row.ownBlock = some x → x ≠ N2 ∧ x ≠ N3 ∧ W.heap.size ≤ x := fun x hx => ⟨fun e => h.n2 (by rw [← e]; exact own_blk hx), fun e => h.n3 (by rw [← e]; exact own_blk hx), (h.own.lt x hx).1⟩
  have f2 := (h.f2.below hb).grown hgr (fun x hx e => (hvn x hx).1 e.symm)
  have f3 := (h.f3.below hb).grown hgr (fun x hx e => (hvn x hx).2.1 e.symm)
  have hd := draw_grown (h.dr.below hb) hgr (fun x hx => by have := (hvn x hx).2.2; omega)
  have hk := h0.km.step (news := [u]) hg (only_below hF.only hb) (fun i hi => by
    obtain rfl : i = 0 := by simp at hi; omega
    exact hF.tr.behind hb) (fun x hx => hF.new x (by rwa [blksL_one] at hx)) (by rw [blksL_one]; exact hF.nodup) ho hgr (by
    rcases hv with hv | hv
    · exact .inl hv
    · exact .inr ⟨_, hv, Nat.le_refl _⟩)
  refine ⟨f3, ?_⟩
  have hn := tr_k h.fr.tr
  obtain ⟨va', vc', hv', hf⟩ := hk.vals
  injection hv' with e1 e2 e3
  subst e1; subst e3
  obtain ⟨hFr, hB⟩ := hf t.k t.n t.e t.s hn.1 hn.2.1 hn.2.2.1 hn.2.2.2
  have h4lt : N2 < w4.heap.size ∧ N3 < w4.heap.size := ⟨h.f2.lt, h.f3.lt⟩
  have h0lt : N2 < wr.heap.size ∧ N3 < wr.heap.size := ⟨h0.f2.lt, h0.f3.lt⟩
  have hnew : ∀ x, x ∈ (val.LT.mk t.k t.n t.e t.s va vc (t.kids ++ [u])).blks → x ∈ t.blks ∨ wr.heap.size ≤ x := fun x hx => by
    rcases hB x hx with hx | hx
    · rcases hv with hv | hv
      · rw [hv] at hx; exact .inl (own_blk hx)
      · rw [hv] at hx
        obtain rfl := Option.some.inj hx
        right
        have := hF.only.size
        simp
        omega
    · rw [blksL_append, blksL_one] at hx
      rcases List.mem_append.1 hx with hx | hx
      · exact .inl (by rw [hbl]; exact List.mem_append_right _ hx)
      · exact .inr (hF.new x hx)
  have n2 : N2 ∉ (val.LT.mk t.k t.n t.e t.s va vc (t.kids ++ [u])).blks := fun hm => by
    rcases hnew N2 hm with h5 | h5
    · exact h.n2 h5
    · omega
  have n3 : N3 ∉ (val.LT.mk t.k t.n t.e t.s va vc (t.kids ++ [u])).blks := fun hm => by
    rcases hnew N3 hm with h5 | h5
    · exact h.n3 h5
    · omega
  have hrow : (val.LT.mk t.k t.n t.e t.s va vc (t.kids ++ [u])).row = .slice va (t.kids.length + 1) vc := by unfold LT.row; simp [LT.a, LT.kids, LT.cap]
  refine ⟨f2.other h23 _ _, ?_, hFr.set h3 n3 _ _, n2, n3, draw_set hd (by omega) _ _, ?_, ?_⟩
  · rw [hrow]; exact f3.set4 _
  · have h7 := h.sz
    obtain ⟨k, n, e, s, b, c, kids⟩ := t
    rw [LT.sz] at h7 ⊢
    simp only [LT.s, LT.kids] at h7 ⊢
    rw [szL_append, LT.szL, LT.szL]
    omega
  · rw [hrow]
    exact OwnR.same ho fun k hk => Go.Deep.blk_setCell_other _ _ _ _ (by show k ≠ N3; exact fun e => n3 (by rw [← e]; exact own_blk (by rw [hrow]; exact hk)))
/-- The value as the one of a list. -/
theorem AS.wrap {W wr : World} {N2 N3 g : Nat} {a : Option Addr} {len cap Z : Nat} {t : LT} (h : AS W wr N2 N3 g a len cap Z t) (hg : g < N3) (h2 : W.heap.size ≤ N2) (h3 : W.heap.size ≤ N3) (h23 : N2 ≠ N3) :
    AS W (five (wr.alloc (box5 t)) N3 7 0 0 ⟨#[]⟩ (.slice (some ⟨wr.heap.size, 0, none⟩) 1 1)) N2 N3 g a len cap (Z + 1) (.mk 7 0 0 ⟨#[]⟩ (some ⟨wr.heap.size, 0, none⟩) 1 [t]) := by
  have hb : Below wr.heap.size wr (wr.alloc (box5 t)) := (Below.refl _ _).alloc (Nat.le_refl _) _
  have hk : KM W W.heap.size (wr.alloc (box5 t)) g (.slice (some ⟨wr.heap.size, 0, none⟩) 1 1) [t] := KM.one h.fr (Nat.le_refl _) h.fr.new h.fr.only.size
  obtain ⟨va', vc', hv', hf⟩ := hk.vals
  injection hv' with e1 e2 e3
  subst e1; subst e3
  obtain ⟨hFr, hB⟩ := hf 7 0 0 ⟨#[]⟩ (by unfold InI; decide) (by unfold InI; decide) (by unfold InI; decide) (by decide)
  have hn : ∀ x, x < wr.heap.size → x ∉ t.blks → x ∉ (val.LT.mk 7 0 0 ⟨#[]⟩ (some ⟨wr.heap.size, 0, none⟩) 1 [t]).blks := fun x hx hn hm => by
    rcases hB x hm with h5 | h5
    · injection h5 with h5; simp only at h5; omega
    · rw [blksL_one] at h5; exact hn h5
  have n2 := hn N2 h.f2.lt h.n2
  have n3 := hn N3 h.f3.lt h.n3
  refine ⟨⟨(five_other _ _ _ _ _ _ _ _ h23).trans (h.f2.below hb).row⟩, (h.f3.below hb).put 7 0 0 ⟨#[]⟩ _, hFr.five h3 n3 _ _ _ _ _, n2, n3, draw_five (h.dr.below hb) hg _ _ _ _ _, ?_, own_five hk.row (fun k hk2 e => n3 (by rw [← e]; exact own_blk hk2)) _ _ _ _ _⟩
  have := h.sz
  rw [LT.sz, LT.szL, LT.szL]
  have : (⟨#[]⟩ : ByteArray).size = 0 := rfl
  omega
theorem row_app (k n e : Int) (s : ByteArray) (va : Option Addr) (vc : Nat) (l : List LT) (u : LT) : (val.LT.mk k n e s va vc (l ++ [u])).row = .slice va (l.length + 1) vc := by unfold LT.row; simp [LT.a, LT.kids, LT.cap]
def zeroT : LT := .mk 0 0 0 ⟨#[]⟩ none 0 []
theorem AS.reset {W wr : World} {N2 N3 g : Nat} {a : Option Addr} {len cap Z : Nat} {t : LT} (h : AS W wr N2 N3 g a len cap Z t) (h3 : W.heap.size ≤ N3) (h23 : N2 ≠ N3) (hg : g < N3) : AS W (five wr N3 7 0 0 ⟨#[]⟩ (.slice none 0 0)) N2 N3 g a len cap 0 (.mk 7 0 0 ⟨#[]⟩ none 0 []) :=
  ⟨⟨(five_other _ _ _ _ _ _ _ _ h23).trans h.f2.row⟩, h.f3.put 7 0 0 ⟨#[]⟩ _, FreshO.leaf (by unfold InI; decide) (by unfold InI; decide) (by unfold InI; decide) (by decide) (five_only h.fr.only h3 _ _ _ _ _), by simp [LT.blks, LT.blksL], by simp [LT.blks, LT.blksL], draw_five h.dr hg _ _ _ _ _, by simp only [LT.sz, LT.szL]; decide, own_nil _ _ _ _ _ _⟩
theorem zero_fresh (w : World) (g : Nat) : FreshO w w g zeroT := FreshO.leaf (by unfold InI; decide) (by unfold InI; decide) (by unfold InI; decide) (by decide) (World.grownBy.refl _ _)
/-- A map with a key twice. -/
def litT (M : Nat) : LT := .mk 8 0 0 ⟨#[]⟩ (some ⟨M, 0, none⟩) 4 [.mk 5 0 0 ⟨#[97]⟩ none 0 [], .mk 3 1 0 ⟨#[]⟩ none 0 [], .mk 5 0 0 ⟨#[97]⟩ none 0 [], .mk 3 2 0 ⟨#[]⟩ none 0 []]
theorem lit_fin {W wr : World} {N2 N3 g : Nat} {a : Option Addr} {len cap Z : Nat} {t : LT} (h : AS W wr N2 N3 g a len cap Z t) (hg : g < N2) (hN : W.heap.size ≤ N2) :
    Five (five (wr.alloc (.cells #[.int .i64 5, .int .i64 0, .int .i64 0, .string ⟨#[97]⟩, .slice none 0 0, .int .i64 3, .int .i64 1, .int .i64 0, .string ⟨#[]⟩, .slice none 0 0, .int .i64 5, .int .i64 0, .int .i64 0, .string ⟨#[97]⟩, .slice none 0 0, .int .i64 3, .int .i64 2, .int .i64 0, .string ⟨#[]⟩, .slice none 0 0] 26)) N2 8 0 0 ⟨#[]⟩ (.slice (some ⟨wr.heap.size, 0, none⟩) 4 4)) N2 8 0 0 ⟨#[]⟩ (.slice (some ⟨wr.heap.size, 0, none⟩) 4 4) ∧
    VRet W (five (wr.alloc (.cells #[.int .i64 5, .int .i64 0, .int .i64 0, .string ⟨#[97]⟩, .slice none 0 0, .int .i64 3, .int .i64 1, .int .i64 0, .string ⟨#[]⟩, .slice none 0 0, .int .i64 5, .int .i64 0, .int .i64 0, .string ⟨#[97]⟩, .slice none 0 0, .int .i64 3, .int .i64 2, .int .i64 0, .string ⟨#[]⟩, .slice none 0 0] 26)) N2 8 0 0 ⟨#[]⟩ (.slice (some ⟨wr.heap.size, 0, none⟩) 4 4)) g a len cap 1400 (.returned (.agg #[.int .i64 8, .int .i64 0, .int .i64 0, .string ⟨#[]⟩, .slice (some ⟨wr.heap.size, 0, none⟩) 4 4])) := by
  have hr := heap_alloc_new wr (.cells #[.int .i64 5, .int .i64 0, .int .i64 0, .string ⟨#[97]⟩, .slice none 0 0, .int .i64 3, .int .i64 1, .int .i64 0, .string ⟨#[]⟩, .slice none 0 0, .int .i64 5, .int .i64 0, .int .i64 0, .string ⟨#[97]⟩, .slice none 0 0, .int .i64 3, .int .i64 2, .int .i64 0, .string ⟨#[]⟩, .slice none 0 0] 26)
  have hb : Below wr.heap.size wr (wr.alloc (.cells #[.int .i64 5, .int .i64 0, .int .i64 0, .string ⟨#[97]⟩, .slice none 0 0, .int .i64 3, .int .i64 1, .int .i64 0, .string ⟨#[]⟩, .slice none 0 0, .int .i64 5, .int .i64 0, .int .i64 0, .string ⟨#[97]⟩, .slice none 0 0, .int .i64 3, .int .i64 2, .int .i64 0, .string ⟨#[]⟩, .slice none 0 0] 26)) := (Below.refl _ _).alloc (Nat.le_refl _) _
  generalize wr.alloc (.cells #[.int .i64 5, .int .i64 0, .int .i64 0, .string ⟨#[97]⟩, .slice none 0 0, .int .i64 3, .int .i64 1, .int .i64 0, .string ⟨#[]⟩, .slice none 0 0, .int .i64 5, .int .i64 0, .int .i64 0, .string ⟨#[97]⟩, .slice none 0 0, .int .i64 3, .int .i64 2, .int .i64 0, .string ⟨#[]⟩, .slice none 0 0] 26) = wx at *
  have hlt := h.f2.lt
  have hcell := fun o => cell_of_row wx wr.heap.size o _ _ (0, 0) hr
  have hl : ∀ (k n : Int) (s : ByteArray), InI k → InI n → s.size ≤ 9223372036854775807 → Tr wx (.mk k n 0 s none 0 []) := fun k n s hk hn hs => .nil hk hn (by unfold InI; decide) hs
  have htr : Tr wx (litT wr.heap.size) := by
    refine .mk _ (by unfold InI; decide) (by unfold InI; decide) (by unfold InI; decide) (by decide) (by simp) hr (by simp) (fun i hi => ?_) (fun i hi => ?_)
    · rcases (show i = 0 ∨ i = 1 ∨ i = 2 ∨ i = 3 by simp at hi; omega) with rfl | rfl | rfl | rfl
      · exact ⟨hcell 0, hcell 1, hcell 2, hcell 3, hcell 4⟩
      · exact ⟨hcell 5, hcell 6, hcell 7, hcell 8, hcell 9⟩
      · exact ⟨hcell 10, hcell 11, hcell 12, hcell 13, hcell 14⟩
      · exact ⟨hcell 15, hcell 16, hcell 17, hcell 18, hcell 19⟩
    · rcases (show i = 0 ∨ i = 1 ∨ i = 2 ∨ i = 3 by simp at hi; omega) with rfl | rfl | rfl | rfl <;> exact hl _ _ _ (by unfold InI; decide) (by unfold InI; decide) (by decide)
  have hbl : (litT wr.heap.size).blks = [wr.heap.size] := rfl
  have hfr : FreshO W wx g (litT wr.heap.size) := ⟨htr, fun k hk => by rw [hbl] at hk; have := h.fr.only.size; simp at hk; omega, by rw [hbl]; simp, only_below h.fr.only hb⟩
  refine ⟨(h.f2.below hb).put _ _ _ _ _, ?_⟩
  have hz : (litT wr.heap.size).sz ≤ 1400 := by
    unfold litT
    simp only [LT.sz, LT.szL]
    decide
  have hown : OwnR wx W.heap.size (litT wr.heap.size).row (litT wr.heap.size).kids := ⟨rfl, .inr ⟨wr.heap.size, 4, _, rfl, h.fr.only.size, hr, by show 4 ≤ 4; omega, by unfold maxLen; omega, rfl, rfl⟩⟩
  have hnn : N2 ∉ (litT wr.heap.size).blks := by
    rw [hbl]
    intro hm
    have := List.mem_singleton.1 hm
    omega
  exact ret_any (t := litT wr.heap.size) hfr hnn (h.dr.below hb) hN hg hz hown
theorem only_of_alloc {b : Nat} (w : World) (o : Obj) {w' : World} (h : (w.alloc o).grownBy w' (some b)) : w.grownBy w' (some b) := only_after ((Below.refl _ _).alloc (Nat.le_refl _) _) h
end Go.Proofs.Ythjholhjkahdkaa.made
