/-
  The draws of the law on the order of numbers.
-/
import Derived.Test.YthjholhjkahdkaaDrawAny
import Derived.Test.YthjholhjkahdkaaFnOrderJ0
import Derived.Test.YthjholhjkahdkaaFnOrderJ1
namespace Go.Proofs.Ythjholhjkahdkaa.made
open Go.ChangeShapes Go.WideShapes Go.ChangeAt Go.RowKit
open Go.Proofs.Ythjholhjkahdkaa.val Go.Proofs.Ythjholhjkahdkaa.draw
set_option maxRecDepth 100000

theorem numN : ∀ k, k < 10 → ∃ z : Int, InI z ∧ (#[Value.int .i64 0, .int .i64 1, .int .i64 (-1), .int .i64 10, .int .i64 15, .int .i64 (-150), .int .i64 9223372036854775807, .int .i64 (-9223372036854775808), .int .i64 123, .int .i64 100] : Array Value)[k]? = some (.int .i64 z) := by
  intro k hk
  have h : k = 0 ∨ k = 1 ∨ k = 2 ∨ k = 3 ∨ k = 4 ∨ k = 5 ∨ k = 6 ∨ k = 7 ∨ k = 8 ∨ k = 9 := by omega
  rcases h with rfl | rfl | rfl | rfl | rfl | rfl | rfl | rfl | rfl | rfl <;> exact ⟨_, by unfold InI; omega, rfl⟩
theorem numE : ∀ k, k < 9 → ∃ z : Int, InI z ∧ (#[Value.int .i64 0, .int .i64 0, .int .i64 (-1), .int .i64 (-2), .int .i64 1, .int .i64 2, .int .i64 19, .int .i64 20, .int .i64 (-20)] : Array Value)[k]? = some (.int .i64 z) := by
  intro k hk
  have h : k = 0 ∨ k = 1 ∨ k = 2 ∨ k = 3 ∨ k = 4 ∨ k = 5 ∨ k = 6 ∨ k = 7 ∨ k = 8 := by omega
  rcases h with rfl | rfl | rfl | rfl | rfl | rfl | rfl | rfl | rfl <;> exact ⟨_, by unfold InI; omega, rfl⟩
theorem leaf_ret2 {W w1 : World} {g N : Nat} {a : Option Addr} {len cap : Nat} (k n e : Int) (s : ByteArray) (hk : InI k) (hn : InI n) (he : InI e) (hs : s.size ≤ 20) (hd : Draw w1 g a len cap) (ho : W.grownBy w1 (some g)) (hN : W.heap.size ≤ N) (hgN : g < N) :
    VRet W (five w1 N k n e s (.slice none 0 0)) g a len cap 1400 (.returned (.agg #[.int .i64 k, .int .i64 n, .int .i64 e, .string s, .slice none 0 0])) := by
  obtain ⟨t, h1, h2, h3, h4, h5⟩ := leaf_ret k n e s hk hn he hs hd ho hN hgN
  exact ⟨t, h1, h2, h3, by omega, h5⟩
set_option maxHeartbeats 8000000 in
theorem num_any (W : World) (g : Nat) (a : Option Addr) (len cap : Nat) (hd : Draw W g a len cap) :
    Calls Try.prog 14 #[.pointer (some ⟨g, 0, none⟩)] W fun e w' => VRet W w' g a len cap 1400 e := by
  have hgl := hd.lt
  have HD0 := Lib.hid (hd.below ((Below.refl _ W).alloc (Nat.le_refl _) (.cells #[.int .i64 0, .int .i64 0, .int .i64 0, .string ⟨#[]⟩, .slice none 0 0] 26)))
  have C0 := Lib.hid (once_any (W.alloc (.cells #[.int .i64 0, .int .i64 0, .int .i64 0, .string ⟨#[]⟩, .slice none 0 0] 26)) g a len cap 6 (by omega) (by omega) HD0.out)
  clear hd
  go_enter Try.func14, Try.ntmps14
  go_wp2_with fail
  with_reducible refine C0.out.mono ?_
  rintro e w1 ⟨b, rfl, hd1, hg1⟩
  obtain ⟨hf1, ho1⟩ := box_only hg1 hgl rfl
  have HF := Lib.hid hf1
  have HO := Lib.hid ho1
  have HD := Lib.hid hd1
  have hz1 : W.heap.size < w1.heap.size := hf1.lt
  clear C0 HD0 hd1 hg1 hf1 ho1
  cases b with
  | true =>
    have C1 := Lib.hid (any_any w1 g a len cap HD.out)
    go_wp2_with fail
    with_reducible refine C1.out.mono ?_
    rintro e w2 ⟨t, rfl, hF, hd1, hz, hwn⟩
    have hF1 : FreshO W w2 g t := FreshO.behind HO.out hF
    have hf2 := HF.out.only hF.only (by omega)
    have hnn : W.heap.size ∉ t.blks := fun hm => by have := hF.new _ hm; omega
    have HV := Lib.hid (ret_any (Z := 1400) hF1 hnn hd1 (Nat.le_refl _) hgl hz (own_mono hwn (by omega)))
    have HP := Lib.hid (hf2.put t.k t.n t.e t.s t.row)
    obtain ⟨q0, q1, q2, q3, q4, qf⟩ := hf2.c
    obtain ⟨k0, k1, k2, k3, k4, _⟩ := HP.out.c
    have hrow : t.row = .slice t.a t.kids.length t.cap := rfl
    unfold five at k0 k1 k2 k3 k4 HV
    rw [hrow] at HV k0 k1 k2 k3 k4 ⊢
    clear hwn hF hF1 hd1 hf2 HP C1 HD HO HF hrow hnn hz
    go_wp2
    refine bodyPost_ret (v := .agg #[.int .i64 t.k, .int .i64 t.n, .int .i64 t.e, .string t.s, .slice t.a t.kids.length t.cap]) (by simp [results, Try.results14, go_sem, k0, k1, k2, k3, k4]) rfl ?_
    exact HV.out
  | false =>
    have hgz := HD.out.lt
    go_wp2_with fail
    with_reducible refine (pickInt_any _ g a len cap w1.heap.size 10 10 _ (HD.out.below ((Below.refl _ _).alloc (Nat.le_refl _) _)) hgz (by omega) (by omega) (heap_alloc_new w1 _) InI numN).mono ?_
    rintro e w2 ⟨n, hn, rfl, hd2, hg2⟩
    replace HF := Lib.hid ((HF.out.below ((Below.refl _ _).alloc (Nat.le_refl _) _)).only hg2 (by omega))
    replace HO := Lib.hid ((only_below HO.out ((Below.refl _ _).alloc (Nat.le_refl _) _)).trans hg2)
    replace HD := Lib.hid hd2
    clear hd2 hg2 hgz
    have hgz := HD.out.lt
    have HN := Lib.hid hn
    clear hn
    go_wp2_with fail
    with_reducible refine (pickInt_any _ g a len cap w2.heap.size 9 9 _ (HD.out.below ((Below.refl _ _).alloc (Nat.le_refl _) _)) hgz (by omega) (by omega) (heap_alloc_new w2 _) InI numE).mono ?_
    rintro e w3 ⟨f, hf, rfl, hd2, hg2⟩
    replace HF := Lib.hid ((HF.out.below ((Below.refl _ _).alloc (Nat.le_refl _) _)).only hg2 (by omega))
    replace HO := Lib.hid ((only_below HO.out ((Below.refl _ _).alloc (Nat.le_refl _) _)).trans hg2)
    replace HD := Lib.hid hd2
    have hfl := HF.out.lt
    have HI := Lib.hid (num.norm_in n f HN.out)
    have C3 := Lib.hid (num.spec_norm n f HN.out w3)
    clear hd2 hg2 hgz hf
    unfold num.normV at C3
    generalize num.norm n f = p at *
    obtain ⟨pk, pn, pe, ok⟩ := p
    simp only at C3 HI
    go_wp2_with fail
    with_reducible refine C3.out.mono ?_
    rintro e w4 ⟨rfl, hb4⟩
    have hb5 : Below w3.heap.size w3 (w4.alloc (.cells #[.int .i64 pk, .int .i64 pn, .int .i64 pe, .string ⟨#[]⟩, .slice none 0 0] 26)) := hb4.alloc hb4.size _
    replace HF := Lib.hid (HF.out.below hb5)
    replace HO := Lib.hid (only_below HO.out hb5)
    replace HD := Lib.hid (HD.out.below hb5)
    have H3 := Lib.hid (Five.new w4 pk pn pe ⟨#[]⟩ (.slice none 0 0))
    have hz4 := hb4.size
    clear C3 hb4 hb5 HN
    cases ok with
    | true =>
      have HV := Lib.hid (leaf_ret2 (W := W) (N := W.heap.size) pk pn pe ⟨#[]⟩ HI.out.1 HI.out.2.1 HI.out.2.2 (by decide) HD.out HO.out (Nat.le_refl _) hgl)
      have HP := Lib.hid (HF.out.put pk pn pe ⟨#[]⟩ (.slice none 0 0))
      obtain ⟨c0, c1, c2, c3, c4, cf⟩ := H3.out.c
      obtain ⟨q0, q1, q2, q3, q4, qf⟩ := HF.out.c
      obtain ⟨k0, k1, k2, k3, k4, _⟩ := HP.out.c
      unfold five at k0 k1 k2 k3 k4 HV
      clear HF HD HO HP H3 HI
      go_wp2
      refine bodyPost_ret (v := .agg #[.int .i64 pk, .int .i64 pn, .int .i64 pe, .string ⟨#[]⟩, .slice none 0 0]) (by simp [results, Try.results14, go_sem, k0, k1, k2, k3, k4]) rfl ?_
      exact HV.out
    | false =>
      have C5 := Lib.hid (below_any _ g a len cap 9 (by omega) (by omega) HD.out)
      clear H3 HI
      go_wp2_with fail
      with_reducible refine C5.out.mono ?_
      rintro e w6 ⟨y, hy, rfl, hd2, hg2⟩
      replace HF := Lib.hid (HF.out.only hg2 (by omega))
      replace HO := Lib.hid (HO.out.trans hg2)
      replace HD := Lib.hid hd2
      clear C5 hd2 hg2
      go_wp2_with fail
      with_reducible refine (num.int_any (y : Int) w6).mono ?_
      rintro e w7 ⟨rfl, hb2⟩
      replace HF := Lib.hid (HF.out.below hb2)
      replace HO := Lib.hid (only_below HO.out hb2)
      replace HD := Lib.hid (HD.out.below hb2)
      clear hb2
      have HV := Lib.hid (leaf_ret2 (W := W) (N := W.heap.size) 3 (y : Int) 0 ⟨#[]⟩ (by unfold InI; omega) (by unfold InI; omega) (by unfold InI; omega) (by decide) HD.out HO.out (Nat.le_refl _) hgl)
      have HP := Lib.hid (HF.out.put 3 (y : Int) 0 ⟨#[]⟩ (.slice none 0 0))
      obtain ⟨q0, q1, q2, q3, q4, qf⟩ := HF.out.c
      obtain ⟨k0, k1, k2, k3, k4, _⟩ := HP.out.c
      unfold five at k0 k1 k2 k3 k4 HV
      clear HF HD HO HP
      go_wp2
      refine bodyPost_ret (v := .agg #[.int .i64 3, .int .i64 y, .int .i64 0, .string ⟨#[]⟩, .slice none 0 0]) (by simp [results, Try.results14, go_sem, k0, k1, k2, k3, k4]) rfl ?_
      exact HV.out
theorem below_g {w w1 w2 : World} {g : Nat} (hb : Below w.heap.size w w1) (hg : w1.grownBy w2 (some g)) (hl : w.heap.size ≤ g) : Below w.heap.size w w2 :=
  hb.grown hg hb.size (fun k hk => by have := Option.some.inj hk; omega)
/-- What the law draws. -/
structure Drawn (W w' : World) (t : LT) : Prop where
  isIn : In w' w'.heap.size t
  nodes : t.nodes ≤ 2000000
theorem drawn_of {W w' : World} {g : Nat} {t : LT} (h : FreshO W w' g t) (hz : t.sz ≤ 1400) : Drawn W w' t := ⟨h.tr.isIn h.tr.lt, nodes_small t (by omega)⟩
theorem Drawn.behind {W w' w'' : World} {t : LT} (h : Drawn W w' t) (hb : Below w'.heap.size w' w'') : Drawn W w'' t := ⟨(h.isIn.behind hb).mono hb.size, h.nodes⟩
set_option maxHeartbeats 4000000 in
theorem whole_draw (W : World) (a : Option Addr) (len cap : Nat) (hc : draw.Code W a len W.heap.size) :
    Calls Try.prog 7 #[.slice a len cap] W fun e w' => ∃ t : LT, e = .returned (.agg #[.int .i64 t.k, .int .i64 t.n, .int .i64 t.e, .string t.s, t.row]) ∧ Drawn W w' t ∧ Below W.heap.size W w' := by
  have hbZ : Below W.heap.size W (W.alloc (.cells #[.int .i64 0, .int .i64 0, .int .i64 0, .string ⟨#[]⟩, .slice none 0 0] 26)) := (Below.refl _ _).alloc (Nat.le_refl _) _
  have C0 := Lib.hid (new_any (W.alloc (.cells #[.int .i64 0, .int .i64 0, .int .i64 0, .string ⟨#[]⟩, .slice none 0 0] 26)) a len cap (hc.below hbZ))
  have hfz := Five.new W 0 0 0 ⟨#[]⟩ (.slice none 0 0)
  clear hc
  go_enter Try.func7, Try.ntmps7
  go_wp2_with fail
  with_reducible refine C0.out.mono ?_
  rintro e w1 ⟨rfl, hd1, hb1⟩
  have HF := Lib.hid (hfz.below hb1)
  have HB := Lib.hid (below_of2 hbZ hb1)
  have hz1 : W.heap.size < w1.heap.size := HF.out.lt
  have hgw : (W.alloc (.cells #[.int .i64 0, .int .i64 0, .int .i64 0, .string ⟨#[]⟩, .slice none 0 0] 26)).heap.size = W.heap.size + 1 := by simp
  have C1 := Lib.hid (num_any w1 _ a len cap hd1)
  rw [hgw] at C1 ⊢
  clear C0 hd1 hb1 hbZ hfz hgw
  go_wp2_with fail
  with_reducible refine C1.out.mono ?_
  rintro e w2 ⟨t, rfl, hF, hd2, hz, _⟩
  have hf2 := HF.out.only hF.only (by omega)
  have hB2 : Below W.heap.size W w2 := below_g HB.out hF.only (by omega)
  have hnn : W.heap.size ∉ t.blks := fun hm => by have := hF.new _ hm; omega
  have HB3 := Lib.hid (below_five hB2 (N := W.heap.size) (Nat.le_refl _) t.k t.n t.e t.s t.row)
  have hdr : Drawn W (five w2 W.heap.size t.k t.n t.e t.s t.row) t := by
    have htr : Tr (five w2 W.heap.size t.k t.n t.e t.s t.row) t := hF.tr.kept fun x hx => five_other _ _ _ _ _ _ _ _ (fun e => hnn (e ▸ hx))
    exact ⟨htr.isIn htr.lt, nodes_small t (by omega)⟩
  have HDR := Lib.hid hdr
  have HP := Lib.hid (hf2.put t.k t.n t.e t.s t.row)
  obtain ⟨q0, q1, q2, q3, q4, qf⟩ := hf2.c
  obtain ⟨k0, k1, k2, k3, k4, _⟩ := HP.out.c
  have hrow : t.row = .slice t.a t.kids.length t.cap := rfl
  unfold five at k0 k1 k2 k3 k4 HB3 HDR
  rw [hrow] at HB3 HDR k0 k1 k2 k3 k4 ⊢
  have HR := Lib.hid hrow
  clear hF hd2 hz hf2 hB2 hnn hdr HP HF HB C1 hrow
  go_wp2
  refine bodyPost_ret (v := .agg #[.int .i64 t.k, .int .i64 t.n, .int .i64 t.e, .string t.s, .slice t.a t.kids.length t.cap]) (by simp [results, Try.results7, go_sem, k0, k1, k2, k3, k4]) rfl ?_
  exact ⟨t, by rw [HR.out], HDR.out, HB3.out⟩
end Go.Proofs.Ythjholhjkahdkaa.made
/-
  The draw of two numbers.
-/
namespace Go.Proofs.Ythjholhjkahdkaa.made
open Go.ChangeShapes Go.WideShapes Go.ChangeAt Go.RowKit
open Go.Proofs.Ythjholhjkahdkaa.val Go.Proofs.Ythjholhjkahdkaa.draw
set_option maxRecDepth 100000

theorem cell_drew (w : World) (a : Addr) : w.drew.cell? a = w.cell? a := rfl
/-- Two values returned off two young blocks. -/
theorem two_fin {W w1 : World} {N2 N3 : Nat} {t u : LT} (h2 : Five w1 N2 0 0 0 ⟨#[]⟩ (.slice none 0 0)) (h3 : Five w1 N3 0 0 0 ⟨#[]⟩ (.slice none 0 0)) (h23 : N2 ≠ N3) (hN2 : W.heap.size ≤ N2) (hN3 : W.heap.size ≤ N3) (ht : Tr w1 t) (hu : Tr w1 u) (t2 : N2 ∉ t.blks) (t3 : N3 ∉ t.blks) (u2 : N2 ∉ u.blks) (u3 : N3 ∉ u.blks) (hzt : t.nodes ≤ 2000000) (hzu : u.nodes ≤ 2000000) (hb : Below W.heap.size W w1) :
    Five (five (five w1 N2 t.k t.n t.e t.s t.row) N3 u.k u.n u.e u.s u.row) N2 t.k t.n t.e t.s t.row ∧ Five (five (five w1 N2 t.k t.n t.e t.s t.row) N3 u.k u.n u.e u.s u.row) N3 u.k u.n u.e u.s u.row ∧
    Drawn W (five (five w1 N2 t.k t.n t.e t.s t.row) N3 u.k u.n u.e u.s u.row) t ∧ Drawn W (five (five w1 N2 t.k t.n t.e t.s t.row) N3 u.k u.n u.e u.s u.row) u ∧ Below W.heap.size W (five (five w1 N2 t.k t.n t.e t.s t.row) N3 u.k u.n u.e u.s u.row) := by
  have hk : ∀ {x : LT}, Tr w1 x → N2 ∉ x.blks → N3 ∉ x.blks → Tr (five (five w1 N2 t.k t.n t.e t.s t.row) N3 u.k u.n u.e u.s u.row) x := fun {x} hx n2 n3 => hx.kept fun y hy => (five_other _ _ y _ _ _ _ _ (fun e => n3 (by rw [← e]; exact hy))).trans (five_other _ _ y _ _ _ _ _ (fun e => n2 (by rw [← e]; exact hy)))
  have h2' := h2.put t.k t.n t.e t.s t.row
  have h3' : Five (five w1 N2 t.k t.n t.e t.s t.row) N3 0 0 0 ⟨#[]⟩ (.slice none 0 0) := ⟨(five_other _ _ _ _ _ _ _ _ (fun e => h23 e.symm)).trans h3.row⟩
  exact ⟨⟨(five_other _ _ _ _ _ _ _ _ h23).trans h2'.row⟩, h3'.put _ _ _ _ _, ⟨(hk ht t2 t3).isIn (hk ht t2 t3).lt, hzt⟩, ⟨(hk hu u2 u3).isIn (hk hu u2 u3).lt, hzu⟩, below_five (below_five hb hN2 _ _ _ _ _) hN3 _ _ _ _ _⟩
set_option maxHeartbeats 8000000 in
theorem two_draw (W : World) (a : Option Addr) (len cap : Nat) (hc : draw.Code W a len W.heap.size) :
    Calls Try.prog 5 #[.slice a len cap] W fun e w' => ∃ t u : LT, e = .returned (.tuple #[.agg #[.int .i64 t.k, .int .i64 t.n, .int .i64 t.e, .string t.s, t.row], .agg #[.int .i64 u.k, .int .i64 u.n, .int .i64 u.e, .string u.s, u.row]]) ∧ Drawn W w' t ∧ Drawn W w' u ∧ Below W.heap.size W w' := by
  have hb1 : Below W.heap.size W (W.alloc (.cells #[.int .i64 0, .int .i64 0, .int .i64 0, .string ⟨#[]⟩, .slice none 0 0] 26)) := (Below.refl _ _).alloc (Nat.le_refl _) _
  have hf2 := Five.new W 0 0 0 ⟨#[]⟩ (.slice none 0 0)
  have hz1 : (W.alloc (.cells #[.int .i64 0, .int .i64 0, .int .i64 0, .string ⟨#[]⟩, .slice none 0 0] 26)).heap.size = W.heap.size + 1 := by simp
  generalize hWA : W.alloc (.cells #[.int .i64 0, .int .i64 0, .int .i64 0, .string ⟨#[]⟩, .slice none 0 0] 26) = WA at *
  have hb2 : Below WA.heap.size WA (WA.alloc (.cells #[.int .i64 0, .int .i64 0, .int .i64 0, .string ⟨#[]⟩, .slice none 0 0] 26)) := (Below.refl _ _).alloc (Nat.le_refl _) _
  have hf3 := Five.new WA 0 0 0 ⟨#[]⟩ (.slice none 0 0)
  have hf2' := hf2.below hb2
  have hbb := below_of2 hb1 hb2
  have hz2 : (WA.alloc (.cells #[.int .i64 0, .int .i64 0, .int .i64 0, .string ⟨#[]⟩, .slice none 0 0] 26)).heap.size = W.heap.size + 2 := by simp [hz1]
  have C0 := Lib.hid (new_any (WA.alloc (.cells #[.int .i64 0, .int .i64 0, .int .i64 0, .string ⟨#[]⟩, .slice none 0 0] 26)) a len cap (hc.below hbb))
  rw [hz1] at hf3
  subst hWA
  have HZ2 := Lib.hid hz2
  have F2 := Lib.hid hf2'
  have F3 := Lib.hid hf3
  have HB := Lib.hid hbb
  clear hc hb1 hf2 hz1 hb2 hf3 hf2' hbb hz2
  go_enter Try.func5, Try.ntmps5
  go_wp2_with fail
  with_reducible refine C0.out.mono ?_
  rintro e w1 ⟨rfl, hd1, hbw⟩
  replace F2 := Lib.hid (F2.out.below hbw)
  replace F3 := Lib.hid (F3.out.below hbw)
  replace HB := Lib.hid (below_of2 HB.out hbw)
  rw [HZ2.out] at hd1 ⊢
  have hl3 := F3.out.lt
  have hlg := hd1.lt
  have C1 := Lib.hid (num_any w1 (W.heap.size + 2) a len cap hd1)
  clear C0 hbw hd1
  go_wp2_with fail
  with_reducible refine C1.out.mono ?_
  rintro e w2 ⟨t, rfl, hF, hd2, hz, _⟩
  have hrow : t.row = .slice t.a t.kids.length t.cap := rfl
  have hbx : Below w2.heap.size w2 (w2.alloc (.cells #[.int .i64 t.k, .int .i64 t.n, .int .i64 t.e, .string t.s, t.row] 26)) := (Below.refl _ _).alloc (Nat.le_refl _) _
  replace F2 := Lib.hid ((F2.out.only hF.only (by omega)).below hbx)
  replace F3 := Lib.hid ((F3.out.only hF.only (by omega)).below hbx)
  have F5 := Lib.hid (Five.new w2 t.k t.n t.e t.s t.row)
  replace HB := Lib.hid (below_of2 (below_g HB.out hF.only (by omega)) hbx)
  have TT := Lib.hid (hF.tr.behind hbx)
  have NT : Hid (W.heap.size ∉ t.blks ∧ W.heap.size + 1 ∉ t.blks) := ⟨fun hm => by have := hF.new _ hm; omega, fun hm => by have := hF.new _ hm; omega⟩
  have NG : Hid (∀ k, k ∈ t.blks → W.heap.size + 2 < k) := fun k hk => by have := hF.new k hk; omega
  have HZT : Hid (t.nodes ≤ 2000000) := nodes_small t (by omega)
  have hl5 : W.heap.size + 2 < w2.heap.size := hd2.lt
  have C2 := Lib.hid (once_any _ (W.heap.size + 2) a len cap 4 (by omega) (by omega) (hd2.below hbx))
  rw [hrow] at F5 C2 F2 F3 HB TT ⊢
  clear C1 hF hd2 hz hbx hrow
  go_wp2_with fail
  with_reducible refine C2.out.mono ?_
  rintro e w3 ⟨b, rfl, hd3, hg3⟩
  replace F2 := Lib.hid (F2.out.only hg3 (by omega))
  replace F3 := Lib.hid (F3.out.only hg3 (by omega))
  replace F5 := Lib.hid (F5.out.only hg3 (by omega))
  replace HB := Lib.hid (below_g HB.out hg3 (by omega))
  replace TT := Lib.hid (TT.out.kept fun k hk => hg3.block k (TT.out.lt k hk) (fun e => by injection e with e; have := NG.out k hk; omega))
  generalize w2.heap.size = N5 at *
  have hdw : Below w3.heap.size w3 w3.drew := ⟨rfl, rfl, rfl, Nat.le_refl _, fun _ _ => rfl⟩
  have hl3' := F3.out.lt
  clear C2 hg3
  cases b with
  | true =>
    have CC0 := copy_any (TT.out.isIn TT.out.lt) HZT.out w3.drew hdw (Nat.le_refl _)
    rw [show t.row = .slice t.a t.kids.length t.cap from rfl] at CC0
    have CC := Lib.hid CC0
    clear CC0
    obtain ⟨y0, y1, y2, y3, y4, _⟩ := F5.out.c
    obtain ⟨r0, r1, r2, r3, r4, rf⟩ := F2.out.c
    obtain ⟨s0, s1, s2, s3, s4, sf⟩ := F3.out.c
    go_wp2_with fail
    have hn1 : ¬ N5 = W.heap.size := by omega
    have hn2 : ¬ N5 = W.heap.size + 1 := by omega
    have hn3 : ¬ W.heap.size = N5 := by omega
    have hn4 : ¬ W.heap.size + 1 = N5 := by omega
    go_region_law
      (first
      | (go_simp
         go_at_call 16; with_reducible refine CC.out.mono ?_; rintro e w4 ⟨u, he, hU⟩
         rw [show u.row = .slice u.a u.kids.length u.cap from rfl] at he
         subst he
         have hbu : Below w3.heap.size w3 w4 := below_of2 hdw hU.below
         have h2 := F2.out.below hbu
         have h3 := F3.out.below hbu
         have h5 := F5.out.below hbu
         have hT := TT.out.behind hbu
         have hB4 := below_of2 HB.out hbu
         obtain ⟨z0, z1, z2, z3, z4, zf⟩ := h5.c
         obtain ⟨v0, v1, v2, v3, v4, vf⟩ := h2.c
         obtain ⟨x0, x1, x2, x3, x4, xf⟩ := h3.c)
      | fail)
    all_goals
      have hrow : t.row = .slice t.a t.kids.length t.cap := rfl
      have hrowu : u.row = .slice u.a u.kids.length u.cap := rfl
      obtain ⟨p2, p3, dt, du, pb⟩ := two_fin h2 h3 (by omega) (Nat.le_refl _) (by omega) hT hU.tr NT.out.1 NT.out.2 (fun hm => by have := hU.new _ hm; have := (show w3.heap.size ≤ w3.drew.heap.size from Nat.le_refl _); omega) (fun hm => by have := hU.new _ hm; have := (show w3.heap.size ≤ w3.drew.heap.size from Nat.le_refl _); omega) HZT.out (by have h1 := HZT.out; rw [← nodes_er, ← hU.er, nodes_er] at h1; exact h1) hB4
      obtain ⟨k0, k1, k2, k3, k4, _⟩ := p2.c
      obtain ⟨l0, l1, l2, l3, l4, _⟩ := p3.c
      have DD := Lib.hid (And.intro dt (And.intro du pb))
      rw [hrow, hrowu] at k0 k1 k2 k3 k4 l0 l1 l2 l3 l4 DD
      unfold five at k0 k1 k2 k3 k4 l0 l1 l2 l3 l4 DD
      clear p2 p3 dt du pb hT hB4 h2 h3 h5 hbu z0 z1 z2 z3 z4 zf v0 v1 v2 v3 v4 vf x0 x1 x2 x3 x4 xf y0 y1 y2 y3 y4 r0 r1 r2 r3 r4 rf s0 s1 s2 s3 s4 sf F2 F3 F5 HB CC TT NT NG HZT hrow hrowu
      go_wp2
      refine bodyPost_ret (v := .tuple #[.agg #[.int .i64 t.k, .int .i64 t.n, .int .i64 t.e, .string t.s, .slice t.a t.kids.length t.cap], .agg #[.int .i64 u.k, .int .i64 u.n, .int .i64 u.e, .string u.s, .slice u.a u.kids.length u.cap]]) (by simp [results, Try.results5, go_sem, k0, k1, k2, k3, k4, l0, l1, l2, l3, l4]) rfl ?_
      exact ⟨t, u, rfl, DD.out.1, DD.out.2.1, DD.out.2.2⟩
  | false =>
    have CC := Lib.hid (num_any w3.drew (W.heap.size + 2) a len cap (draw_drewN hd3 1))
    obtain ⟨y0, y1, y2, y3, y4, _⟩ := F5.out.c
    obtain ⟨r0, r1, r2, r3, r4, rf⟩ := F2.out.c
    obtain ⟨s0, s1, s2, s3, s4, sf⟩ := F3.out.c
    go_wp2_with fail
    have hn1 : ¬ N5 = W.heap.size := by omega
    have hn2 : ¬ N5 = W.heap.size + 1 := by omega
    have hn3 : ¬ W.heap.size = N5 := by omega
    have hn4 : ¬ W.heap.size + 1 = N5 := by omega
    go_region_law
      (first
      | (go_simp
         go_at_call 14; with_reducible refine CC.out.mono ?_; rintro e w4 ⟨u, he, hU, hdu, hzu, _⟩
         rw [show u.row = .slice u.a u.kids.length u.cap from rfl] at he
         subst he
         have hbu : w3.grownBy w4 (some (W.heap.size + 2)) := hU.undrew.only
         have h2 := F2.out.only hbu (by omega)
         have h3 := F3.out.only hbu (by omega)
         have h5 := F5.out.only hbu (by omega)
         have hT := TT.out.kept fun k hk => hbu.block k (TT.out.lt k hk) (fun e => by injection e with e; have := NG.out k hk; omega)
         have hB4 := below_g HB.out hbu (by omega)
         obtain ⟨z0, z1, z2, z3, z4, zf⟩ := h5.c
         obtain ⟨v0, v1, v2, v3, v4, vf⟩ := h2.c
         obtain ⟨x0, x1, x2, x3, x4, xf⟩ := h3.c)
      | fail)
    all_goals
      have hrow : t.row = .slice t.a t.kids.length t.cap := rfl
      have hrowu : u.row = .slice u.a u.kids.length u.cap := rfl
      obtain ⟨p2, p3, dt, du, pb⟩ := two_fin h2 h3 (by omega) (Nat.le_refl _) (by omega) hT hU.tr NT.out.1 NT.out.2 (fun hm => by have := hU.undrew.new _ hm; have := (Nat.le_refl w3.heap.size); omega) (fun hm => by have := hU.undrew.new _ hm; have := (Nat.le_refl w3.heap.size); omega) HZT.out (nodes_small u (by omega)) hB4
      obtain ⟨k0, k1, k2, k3, k4, _⟩ := p2.c
      obtain ⟨l0, l1, l2, l3, l4, _⟩ := p3.c
      have DD := Lib.hid (And.intro dt (And.intro du pb))
      rw [hrow, hrowu] at k0 k1 k2 k3 k4 l0 l1 l2 l3 l4 DD
      unfold five at k0 k1 k2 k3 k4 l0 l1 l2 l3 l4 DD
      clear p2 p3 dt du pb hT hB4 h2 h3 h5 hbu z0 z1 z2 z3 z4 zf v0 v1 v2 v3 v4 vf x0 x1 x2 x3 x4 xf y0 y1 y2 y3 y4 r0 r1 r2 r3 r4 rf s0 s1 s2 s3 s4 sf F2 F3 F5 HB CC TT NT NG HZT hrow hrowu
      go_wp2
      refine bodyPost_ret (v := .tuple #[.agg #[.int .i64 t.k, .int .i64 t.n, .int .i64 t.e, .string t.s, .slice t.a t.kids.length t.cap], .agg #[.int .i64 u.k, .int .i64 u.n, .int .i64 u.e, .string u.s, .slice u.a u.kids.length u.cap]]) (by simp [results, Try.results5, go_sem, k0, k1, k2, k3, k4, l0, l1, l2, l3, l4]) rfl ?_
      exact ⟨t, u, rfl, DD.out.1, DD.out.2.1, DD.out.2.2⟩
end Go.Proofs.Ythjholhjkahdkaa.made
/-
  The law's own 'same' is true of two numbers with the same fields and no kids.
-/
namespace Go.Proofs.Ythjholhjkahdkaa.made
open Go.ChangeShapes Go.WideShapes Go.ChangeAt Go.RowKit
open Go.Proofs.Ythjholhjkahdkaa.val Go.Proofs.Ythjholhjkahdkaa.draw
set_option maxRecDepth 100000

set_option maxHeartbeats 4000000 in
theorem same_leaf (k n e : Int) (s : ByteArray) (a b : Option Addr) (c d : Nat) (w : World) :
    Calls Try.prog 11 #[.agg #[.int .i64 k, .int .i64 n, .int .i64 e, .string s, .slice a 0 c], .agg #[.int .i64 k, .int .i64 n, .int .i64 e, .string s, .slice b 0 d]] w fun r w' => r = .returned (.bool true) ∧ Below w.heap.size w w' := by
  have hb : Below w.heap.size w ((w.alloc (.cells #[.int .i64 k, .int .i64 n, .int .i64 e, .string s, .slice a 0 c] 26)).alloc (.cells #[.int .i64 k, .int .i64 n, .int .i64 e, .string s, .slice b 0 d] 26)) := ((Below.refl _ _).alloc (Nat.le_refl _) _).alloc (by simp) _
  have HB := Lib.hid hb
  clear hb
  go_enter Try.func11, Try.ntmps11
  go_wp2
  go_loop [5] (fun i => i = .int .i64 0) (fun _ => 0)
  case atStart => rfl
  case round =>
    obtain rfl := hrel
    go_wp2
    go_ret
    exact ⟨rfl, HB.out⟩
end Go.Proofs.Ythjholhjkahdkaa.made
