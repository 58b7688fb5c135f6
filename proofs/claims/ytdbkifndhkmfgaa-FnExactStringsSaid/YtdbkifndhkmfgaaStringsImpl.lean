/-
  What impl.Strings returns where impl.finite hands its value back: the texts of all nodes that have one, each node ahead of its kids.
-/
import Derived.Test.YtdbkifndhkmfgaaRangeBoxO
import Derived.Test.YtdbkifndhkmfgaaStringsSpec
import Derived.Test.YtdbkifndhkmfgaaKeysWalk
namespace Go.Proofs.Ytdbkifndhkmfgaa.val
open Go.ChangeShapes Go.WideShapes Go.ChangeAt Go.RowKit
open Go.Proofs.Ytdbkifndhkmfgaa.strs (encS oneS)
set_option maxRecDepth 100000
attribute [local go_sem] Oper.semAt_some

theorem own_same {α : Type} {w w' : World} {base : Nat} {e : TypeId} {enc : α → Value} {v : Value} {l : List α} (h : OwnL w base e enc v l) (hk : ∀ k, v.ownBlock = some k → w'.heap[k]? = w.heap[k]?) : OwnL w' base e enc v l := by
  obtain ⟨h1, h2⟩ := h
  refine ⟨h1, ?_⟩
  rcases h2 with h2 | ⟨g, cap, cur, rfl, hb, hg, rest⟩
  · exact .inl h2
  · exact .inr ⟨g, cap, cur, rfl, hb, (hk g rfl).trans hg, rest⟩
/-- The list so far and the variable that holds it. -/
structure StrInv (w W : World) (F B : Nat) (l : List ByteArray) (v : Value) (O : Nat → Prop) : Prop where
  var : One W F 32 v
  own : OwnL W (w.heap.size + 1) 9 encS v l
  blocks : ∀ k, O k ↔ v.ownBlock = some k
  ne : v.ownBlock ≠ some F
  below : Below w.heap.size w W
  size : B ≤ W.heap.size
def StrAt (w W : World) (F B : Nat) (l : List ByteArray) (O : Nat → Prop) : Prop := ∃ v, StrInv w W F B l v O
theorem StrAt.kept {w W W' : World} {F B B' : Nat} {l : List ByteArray} {O : Nat → Prop} (h : StrAt w W F B l O) (hb : Below B' W W') (hO : ∀ k, O k → W'.heap[k]? = W.heap[k]?) (hB : w.heap.size ≤ B') (hF : F < B') : StrAt w W' F B l O := by
  obtain ⟨v, h⟩ := h
  exact ⟨v, h.var.below hb hF, own_same h.own (fun k hk => hO k ((h.blocks k).2 hk)), h.blocks, h.ne, h.below.trans (hb.mono hB), Nat.le_trans h.size hb.size⟩
theorem StrAt.inside {w W : World} {F B : Nat} {l : List ByteArray} {O : Nat → Prop} (h : StrAt w W F B l O) : ∀ k, O k → w.heap.size ≤ k ∧ k < W.heap.size := fun k hk => by
  obtain ⟨v, h⟩ := h
  have := World.ownsRow.lt h.own k ((h.blocks k).1 hk)
  exact ⟨by omega, this.2⟩

theorem StrInv.behind {w W w2 : World} {F B : Nat} {l : List ByteArray} {v : Value} {O : Nat → Prop} (h : StrInv w W F B l v O) (hb : Below W.heap.size W w2) : StrInv w w2 F B l v O :=
  ⟨h.var.below hb (Array.getElem?_eq_some_iff.1 h.var).1, own_same h.own (fun k hk => hb.block k (World.ownsRow.lt h.own k hk).2), h.blocks, h.ne, h.below.trans (hb.mono (h.below.size)), Nat.le_trans h.size hb.size⟩
/-- What one text more leaves. -/
structure StrStep (w W w3 : World) (F B : Nat) (l : List ByteArray) (v v' : Value) (O : Nat → Prop) : Prop where
  cell : w3.cell? ⟨F, 0, none⟩ = some v
  frozen : w3.frozen? ⟨F, 0, none⟩ = false
  mid : MidO w.heap.size B O (fun k => v'.ownBlock = some k) W (w3.setCell ⟨F, 0, none⟩ v')
  inv : StrInv w (w3.setCell ⟨F, 0, none⟩ v') F B l v' (fun k => v'.ownBlock = some k)
theorem StrInv.step {w W w2 w3 : World} {F B : Nat} {l l' : List ByteArray} {v v' : Value} {O : Nat → Prop} {o : Obj} (h : StrInv w W F B l v O) (hb : Below W.heap.size W w2) (ho : OwnL w3 (w.heap.size + 1) 9 encS v' l') (hg : (w2.alloc o).grownBy w3 v.ownBlock)
    (hv : v'.ownBlock = v.ownBlock ∨ v'.ownBlock = some (w2.alloc o).heap.size) (hF : w.heap.size ≤ F) (hFB : F < B) : StrStep w W w3 F B l' v v' O := by
  have h2 := h.behind hb
  have hFl : F < w2.heap.size := (Array.getElem?_eq_some_iff.1 h2.var).1
  have hz2 := hb.size
  have hzg := hg.size
  have hwz := h.below.size
  simp only [World.size_alloc] at hzg
  have hk3 : ∀ k, k < w2.heap.size → v.ownBlock ≠ some k → w3.heap[k]? = w2.heap[k]? := fun k hk hn => by
    rw [hg.block k (by simp; omega) (fun e => hn e.symm), Below.heap_alloc _ _ _ hk]
  have hv3 : One w3 F 32 v := (hk3 F hFl h.ne).trans h2.var
  have hne : v'.ownBlock ≠ some F := fun e => by
    rcases hv with hv | hv
    · exact h.ne (hv ▸ e)
    · rw [hv] at e
      injection e with e
      simp only [World.size_alloc] at e
      omega
  have hown : ∀ k, v.ownBlock = some k → w.heap.size + 1 ≤ k := fun k hk => h.own.base_le k hk
  refine ⟨hv3.cell, hv3.frozen, ⟨?_, ?_, ?_, ?_, ?_, ?_⟩, ⟨hv3.set v', own_same ho (fun k hk => blk_other v' (fun e => hne (e ▸ hk))), fun _ => Iff.rfl, hne, ?_, ?_⟩⟩
  · exact (hg.os.trans hb.os)
  · exact (hg.tape.trans hb.tape)
  · exact (hg.output.trans hb.output)
  · rw [set_size]; omega
  · intro k hk hr hn
    rw [blk_other v' (by omega), hk3 k (by omega) (fun e => hn ((h.blocks k).2 e)), hb.block k hk]
  · intro k hk
    rcases hv with hv | hv
    · exact .inl ((h.blocks k).2 (hv ▸ hk))
    · right
      rw [hv] at hk
      injection hk with hk
      simp only [World.size_alloc] at hk
      omega
  · refine h2.below.trans ?_
    exact (((Below.refl w.heap.size w2).alloc (by omega) o).grown hg (by simp; omega) (fun k hk => by have := hown k hk; omega)).setCell (p := ⟨F, 0, none⟩) hF _
  · rw [set_size]
    have := h.size
    omega
theorem step_appIn {Fc : Fence} {n : Nat} {P : Program} {w : World} {ops : Array Oper} {o : Oper} {a : Act} {K : Act → World → Prop} {Q : Exit → Act → World → Prop} {E : Prop} {α : Type}
    (hgd : o.guard = none) (s x : Operand) (t : TypeId) (hop : o.op = Op.call { callee := Callee.builtin Builtin.append, args := #[s, x], argTypes := #[t, t] })
    (base : Nat) (e : TypeId) (enc : α → Value) (i : TypeInfo) (z : Value) (bytes : Nat) (h1 : P.underlying t = some (.slice e)) (h2 : P.info? e = some i) (h3 : i.zero = some z) (h4 : i.size = 1) (h5 : i.bytes = bytes) (h6 : z.cells.size = 1) (h1c : ∀ x, (enc x).oneCell' = true)
    (v : Value) (l : List α) (hs : a.eval s = v) (hown : OwnL w base e enc v l) (g m c : Nat) (news : List α) (hx : a.eval x = .slice (some ⟨g, 0, none⟩) m c) (hm : news.length = m) (cs : Array Value) (hgc : w.heap[g]? = some (.cells cs e (0, 0))) (hcs : cs.toList = news.map enc)
    (b1 : l.length + m ≤ maxLen) (b2 : (l.length + m) * bytes ≤ 140737488355328) (b3 : base ≤ w.heap.size)
    (h : ∀ v' w', OwnL w' base e enc v' (l ++ news) → w.grownBy w' v.ownBlock → (v'.ownBlock = v.ownBlock ∨ v'.ownBlock = some w.heap.size) → K (a.put o.dst v') w') :
    if Region.wanted o (yielded ops a.tmps) = true then Oper.wpIn Fc n P o a w K Q else E := by
  have hw : Region.wanted o (yielded ops a.tmps) = true := by simp [Region.wanted, hgd]
  rw [if_pos hw]
  subst hm
  obtain ⟨v', w', hrun, r1, r2, _, r4⟩ := run_append_own_at (P := P) w base t o.type e i z 1 bytes h1 h2 h3 h4 h5 h6 (by omega) v l.length (l.map enc) hown ⟨g, 0, none⟩ news.length c (news.map enc) (by simp)
    (fun j u hj => by
      have hp : (⟨g, 0, none⟩ : Addr).add j = ⟨g, j, none⟩ := by unfold Addr.add; split <;> simp_all
      rw [hp, cell_of_row w g j cs e (0, 0) hgc, ← hj, ← hcs]; simp)
    (fun u hu => by obtain ⟨x, _, rfl⟩ := List.mem_map.1 hu; exact h1c x) b1 b2 b3
  unfold Oper.wpIn
  refine ⟨?_, ?_⟩
  · simp [Oper.about, hop, resolve, Target.leads, Sem.run_pure]
  · rw [Oper.semAt_plain Fc _ _ (by rw [hop]; intro c hc'; cases hc')]
    simp [execOp, hop, resolve, invoke, builtin, hs, hx, hrun, Result.andThen]
    exact h v' w' (by unfold OwnL; rw [List.length_append, List.map_append]; exact r1) r2 r4

mutual
theorem pre_sz : ∀ (d : Nat) (t : LT) (x : Nat × LT), x ∈ LT.pre d t → x.2.s.size ≤ t.sz
  | d, .mk k n e s a cap kids, x, h => by
    rw [LT.pre] at h
    rw [LT.sz]
    rcases List.mem_cons.1 h with rfl | h
    · simp only [LT.s]; omega
    · have := preL_sz (d + 1) kids x h; omega
theorem preL_sz : ∀ (d : Nat) (l : List LT) (x : Nat × LT), x ∈ preL d l → x.2.s.size ≤ LT.szL l
  | d, [], x, h => by rw [preL] at h; cases h
  | d, t :: ts, x, h => by
    rw [preL] at h
    rw [LT.szL]
    rcases List.mem_append.1 h with h | h
    · have := pre_sz d t x h; omega
    · have := preL_sz d ts x h; omega
end
set_option maxHeartbeats 2000000 in
theorem strings_any (HF : FinC) (w : World) (t : LT) (h : Mine w t) (hz : t.nodes ≤ 2000000) (hsz : t.sz ≤ 1048576) :
    Calls Try.prog 15 #[.agg #[.int .i64 t.k, .int .i64 t.n, .int .i64 t.e, .string t.s, t.row]] w fun e w' => ∃ v, e = .returned v ∧ OwnL w' w.heap.size 9 encS v (er t).strs ∧ Below w.heap.size w w' := by
  refine (callsIn_wide (n := 4)).1 ?_
  refine callsIn_of_wp_marks Try.func15 rfl trivial ?_ rfl
  simp only [Try.ntmps15, List.size_toArray, List.length_cons, List.length_nil, Nat.reduceAdd, Nat.reduceSub, Array.replicate_succ, Array.replicate_zero, List.push_toArray, List.append_toArray, List.nil_append, List.cons_append]
  have HIn := Lib.hid h.isIn
  have HMI := Lib.hid h
  have HFF := Lib.hid HF
  have HZ := Lib.hid hz
  have HSZ := Lib.hid hsz
  obtain ⟨W00, hW00⟩ : ∃ W0, ((w.alloc (.cells #[.int .i64 t.k, .int .i64 t.n, .int .i64 t.e, .string t.s, t.row] 36)).alloc (.cells #[] 9)).alloc (.cells #[.slice (some ⟨w.heap.size + 1, 0, none⟩) 0 0] 32) = W0 := ⟨_, rfl⟩
  have hs0 : W00.heap.size = w.heap.size + 3 := by rw [← hW00]; simp
  have hb0 : Below w.heap.size w W00 := by rw [← hW00]; exact (((Below.refl _ _).alloc (Nat.le_refl _) _).alloc (by simp) _).alloc (by simp; omega) _
  have hk0 : OwnL W00 (w.heap.size + 1) 9 encS (.slice (some ⟨w.heap.size + 1, 0, none⟩) 0 0) [] := by
    have h1 := OwnL.empty (base := w.heap.size + 1) (w.alloc (.cells #[.int .i64 t.k, .int .i64 t.n, .int .i64 t.e, .string t.s, t.row] 36)) 9 encS (by simp)
    have h2 := h1.alloc (.cells #[.slice (some ⟨w.heap.size + 1, 0, none⟩) 0 0] 32)
    rw [← hW00]
    simpa using h2
  have hm0 : One W00 (w.heap.size + 1 + 1) 32 (.slice (some ⟨w.heap.size + 1, 0, none⟩) 0 0) := by
    have := heap_alloc_new ((w.alloc (.cells #[.int .i64 t.k, .int .i64 t.n, .int .i64 t.e, .string t.s, t.row] 36)).alloc (.cells #[] 9)) (.cells #[.slice (some ⟨w.heap.size + 1, 0, none⟩) 0 0] 32)
    rw [← hW00]
    unfold One
    simpa using this
  have HB0 := Lib.hid hb0
  have HM0 := Lib.hid hm0
  have HS0 := Lib.hid hs0
  have HK0 := Lib.hid hk0
  have HW00 := Lib.hid hW00
  clear h HF hz hb0 hm0 hs0 hk0 hW00 hsz
  gi_wp2_with (refine ⟨trivial, ?_⟩; gi_at_call 35; rw [HW00.out]; refine (HFF.out.run HMI.out HZ.out HB0.out).mono ?_; rintro e w1 ⟨rfl, hb1⟩)
  gi_wp2_with (refine ⟨trivial, ?_⟩; gi_at_call 34; refine (callsIn_wide.2 (walk_any _ t)).mono ?_; rintro e w' ⟨rfl, rfl⟩)
  have hb0 := HB0.out
  have hm0 := HM0.out
  have hs0 := HS0.out
  have hk0 := HK0.out
  have hz := HZ.out
  have hx0 : Box (w1.alloc (.cells #[.int .i64 t.k, .int .i64 t.n, .int .i64 t.e, .string t.s, t.row] 36)) w1.heap.size t := Box.new w1 t 36
  have hs1 := hb1.size
  rw [hs0] at hs1 hb1
  have hb2 : Below (w.heap.size + 3) w1 (w1.alloc (.cells #[.int .i64 t.k, .int .i64 t.n, .int .i64 t.e, .string t.s, t.row] 36)) := (Below.refl _ _).alloc hs1 _
  have hbw : Below w.heap.size w (w1.alloc (.cells #[.int .i64 t.k, .int .i64 t.n, .int .i64 t.e, .string t.s, t.row] 36)) := hb0.trans ((hb1.trans hb2).mono (by omega))
  have hm2 : One (w1.alloc (.cells #[.int .i64 t.k, .int .i64 t.n, .int .i64 t.e, .string t.s, t.row] 36)) (w.heap.size + 1 + 1) 32 (.slice (some ⟨w.heap.size + 1, 0, none⟩) 0 0) := hm0.below (hb1.trans hb2) (by omega)
  have hk2 : OwnL (w1.alloc (.cells #[.int .i64 t.k, .int .i64 t.n, .int .i64 t.e, .string t.s, t.row] 36)) (w.heap.size + 1) 9 encS (.slice (some ⟨w.heap.size + 1, 0, none⟩) 0 0) [] := own_same hk0 (fun k hk => (hb1.trans hb2).block k (by simp [Value.ownBlock] at hk; omega))
  have hs2 : w.heap.size + 3 < (w1.alloc (.cells #[.int .i64 t.k, .int .i64 t.n, .int .i64 t.e, .string t.s, t.row] 36)).heap.size := by simp; omega
  have HIn1 : In (w1.alloc (.cells #[.int .i64 t.k, .int .i64 t.n, .int .i64 t.e, .string t.s, t.row] 36)) w.heap.size t := HIn.out.behind hbw
  generalize w1.alloc (.cells #[.int .i64 t.k, .int .i64 t.n, .int .i64 t.e, .string t.s, t.row] 36) = W0 at *
  generalize w1.heap.size = Bx at *
  clear HW00 HB0 HM0 HS0 HK0 hb0 hm0 hs0 hk0 hb1 hb2 hs1
  have HS : StrAt w W0 (w.heap.size + 1 + 1) W0.heap.size [] (fun k => k = w.heap.size + 1) := ⟨_, hm2, hk2, fun k => by simp [Value.ownBlock, eq_comm], by simp [Value.ownBlock], hbw, Nat.le_refl _⟩
  refine range_boxO (by decide) (Bx := Bx) (n₀ := w.heap.size) (t := t) rfl hz (by omega) HIn1 hx0 rfl (fun pre O W => StrAt w W (w.heap.size + 1 + 1) W0.heap.size (textsOf pre) O) (fun _ _ _ => False)
    (fun _ _ A B hs hb hO => hs.kept hb hO (by omega) (by omega)) (fun _ _ _ hs => hs.inside) (fun _ _ _ _ hs _ => hs) _ HS
    (fun x W a' W' => a' = { tmps := #[.agg #[.int .i64 t.k, .int .i64 t.n, .int .i64 t.e, .string t.s, t.row], .pointer (some ⟨w.heap.size, 0, none⟩), .slice none 0 0, .pointer (some ⟨w.heap.size + 1 + 1, 0, none⟩), undef, .pointer (some ⟨W.heap.size, 0, none⟩), .slice (some ⟨w.heap.size + 1, 0, none⟩) 0 0, .agg #[.int .i64 t.k, .int .i64 t.n, .int .i64 t.e, .string t.s, t.row], .agg #[.int .i64 t.k, .int .i64 t.n, .int .i64 t.e, .string t.s, t.row], .func (.func 48) #[] #[.pointer (some ⟨Bx, 0, none⟩)], .int .i64 (x.1 : Nat), .agg #[.int .i64 x.2.k, .int .i64 x.2.n, .int .i64 x.2.e, .string x.2.s, x.2.row], undef, undef, undef, undef, undef, undef, undef, undef, undef, undef, undef, undef, undef, undef, undef], defers := [] } ∧ W' = W.alloc (.cells #[.int .i64 x.2.k, .int .i64 x.2.n, .int .i64 x.2.e, .string x.2.s, x.2.row] 36)) (fun x W a' W' h => by rw [h.2]; exact (Below.refl _ _).alloc (Nat.le_refl _) _) ?assign ?body ?done ?stop
  case assign =>
    intro l x W K hK
    have hrow : x.2.row = .slice x.2.a x.2.kids.length x.2.cap := rfl
    have HK := Lib.hid hK
    clear hK
    simp only [encs, hrow]
    clear hrow
    gi_wp2
    exact HK.out _ _ ⟨rfl, rfl⟩
  case body =>
    rintro l pre x O V V' W a' hI hOV hlen ⟨rfl, rfl⟩ hV hW
    have hlp := pre_lt hlen
    obtain ⟨v, hI⟩ := hI
    obtain ⟨va, vc, rfl, hvc⟩ := hI.own.shape
    have hbx : W.heap[V.heap.size]? = some (.cells #[.int .i64 x.2.k, .int .i64 x.2.n, .int .i64 x.2.e, .string x.2.s, x.2.row] 36 (0, 0)) := (hW _ (Nat.le_refl _)).trans (heap_alloc_new V (.cells #[.int .i64 x.2.k, .int .i64 x.2.n, .int .i64 x.2.e, .string x.2.s, x.2.row] 36))
    have k0 : W.cell? ⟨V.heap.size, 0, none⟩ = some (.int .i64 x.2.k) := cell_of_row W _ 0 _ _ (0, 0) hbx
    have k3 : W.cell? ⟨V.heap.size, 3, none⟩ = some (.string x.2.s) := cell_of_row W _ 3 _ _ (0, 0) hbx
    have f1 := hI.var.cell
    have f2 := hI.var.frozen
    have htl := textsOf_len pre
    have hll : (textsOf pre).length ≤ 2000000 := by omega
    have HI := Lib.hid hI
    have hxs : x.2.s.size ≤ 1048576 := Nat.le_trans (pre_sz 0 t x (hlen.subset (by simp))) HSZ.out
    have CC := Lib.hid (fun W => clone_any x.2.s W (by omega))
    have hFB : w.heap.size + 1 + 1 < W0.heap.size := by omega
    obtain ⟨i0, hi0, hz0, hz1, hz2⟩ := info_parts infoS
    cases htx : isText x.2.k with
    | true =>
      have HT := Lib.hid (textsOf_yes pre x htx)
      rcases (show x.2.k = 5 ∨ x.2.k = 6 by unfold isText at htx; simpa using htx) with h5 | h6
      · have t5 : (x.2.k == 5) = true := by simp [h5]
        clear hI hlen HS hm2 hk2 hx0 hbw hz hs2 HIn1 hW hV hbx htx h5 hlp htl hOV
        gi_wp2_with fail
        refine wpIn_region_any (by kernel_rfl) ?_
        change wpAnyIn _ _ _ _ _ _ _ _ _ (World.drew _)
        refine wpAnyIn_ready (rs := [0, 1]) (by kernel_rfl) (by simp) ?_
        refine AllReadyIn.cons rfl (fun K hK => ?_) (AllReadyIn.cons rfl (fun K hK => ?_) AllReadyIn.nil)
        · go_simp
          refine hK _ _ ?_
          clear hK K
          refine wpAnyIn_ready (rs := [1]) (by kernel_rfl) (by simp) ?_
          refine AllReadyIn.cons rfl (fun K hK => ?_) AllReadyIn.nil
          go_simp
          refine hK _ _ ?_
          clear hK K
          refine wpAnyIn_ready (rs := [2]) (by kernel_rfl) (by simp) ?_
          refine AllReadyIn.cons rfl (fun K hK => ?_) AllReadyIn.nil
          go_simp
          refine hK _ _ ?_
          clear hK K
          refine wpAnyIn_ready (rs := [3]) (by kernel_rfl) (by simp) ?_
          refine AllReadyIn.cons rfl (fun K hK => ?_) AllReadyIn.nil
          go_simp
          refine ⟨trivial, (CallsIn.inRound l (callsIn_wide.2 (CC.out _))).mono ?_⟩
          rintro e w2 ⟨rfl, hb2⟩
          have HB2 : Hid (Below W.heap.size W w2) := (belowN (Below.refl W.heap.size W) 1).trans hb2
          have g1 := (HI.out.behind HB2.out).var.cell
          have hFl : w.heap.size + 1 + 1 < w2.heap.size := (Array.getElem?_eq_some_iff.1 (HI.out.behind HB2.out).var).1
          refine hK _ _ ?_
          clear hK K hb2
          refine wpAnyIn_ready (rs := [4]) (by kernel_rfl) (by simp) ?_
          refine AllReadyIn.cons rfl (fun K hK => ?_) AllReadyIn.nil
          go_simp
          refine hK _ _ ?_
          clear hK K
          refine wpAnyIn_ready (rs := [5]) (by kernel_rfl) (by simp) ?_
          refine AllReadyIn.cons rfl (fun K hK => ?_) AllReadyIn.nil
          refine step_appIn (by rfl) _ _ _ (by rfl) (w.heap.size + 1) 9 encS i0 _ 16 Try.underlying32 hi0 hz0 hz1 hz2 rfl oneS (.slice va (textsOf pre).length vc) (textsOf pre) (by rfl) ((HI.out.behind HB2.out).own.alloc _) w2.heap.size 1 1 [x.2.s] (by rfl) (by rfl) _ (heap_alloc_new w2 _) (by rfl) (by unfold maxLen; omega) (by omega) (by simp; omega) ?_
          intro v' w3 ho3 hg3 hv3
          have HSS := Lib.hid (HI.out.step HB2.out ho3 hg3 hv3 (by omega) hFB)
          have s1 := HSS.out.cell
          have s2 := HSS.out.frozen
          obtain ⟨va', vc', rfl, _⟩ := ho3.shape
          rw [List.length_append, List.length_singleton] at HSS
          refine hK _ _ ?_
          clear hK K ho3 hg3 hv3
          refine wpAnyIn_ready (rs := [6]) (by kernel_rfl) (by simp) ?_
          refine AllReadyIn.cons rfl (fun K hK => ?_) AllReadyIn.nil
          go_simp
          refine hK _ _ ?_
          clear hK K
          refine wpAnyIn_done (by kernel_rfl) ?_ _
          exact ⟨_, HSS.out.mid, by show StrAt _ _ _ _ (textsOf (pre ++ [x])) _; rw [HT.out]; exact ⟨_, HSS.out.inv⟩⟩
        · go_simp
          refine hK _ _ ?_
          clear hK K
          refine wpAnyIn_ready (rs := [0, 2]) (by kernel_rfl) (by simp) ?_
          refine AllReadyIn.cons rfl (fun K hK => ?_) (AllReadyIn.cons rfl (fun K hK => ?_) AllReadyIn.nil)
          · go_simp
            refine hK _ _ ?_
            clear hK K
            refine wpAnyIn_ready (rs := [2]) (by kernel_rfl) (by simp) ?_
            refine AllReadyIn.cons rfl (fun K hK => ?_) AllReadyIn.nil
            go_simp
            refine hK _ _ ?_
            clear hK K
            refine wpAnyIn_ready (rs := [3]) (by kernel_rfl) (by simp) ?_
            refine AllReadyIn.cons rfl (fun K hK => ?_) AllReadyIn.nil
            go_simp
            refine ⟨trivial, (CallsIn.inRound l (callsIn_wide.2 (CC.out _))).mono ?_⟩
            rintro e w2 ⟨rfl, hb2⟩
            have HB2 : Hid (Below W.heap.size W w2) := (belowN (Below.refl W.heap.size W) 1).trans hb2
            have g1 := (HI.out.behind HB2.out).var.cell
            have hFl : w.heap.size + 1 + 1 < w2.heap.size := (Array.getElem?_eq_some_iff.1 (HI.out.behind HB2.out).var).1
            refine hK _ _ ?_
            clear hK K hb2
            refine wpAnyIn_ready (rs := [4]) (by kernel_rfl) (by simp) ?_
            refine AllReadyIn.cons rfl (fun K hK => ?_) AllReadyIn.nil
            go_simp
            refine hK _ _ ?_
            clear hK K
            refine wpAnyIn_ready (rs := [5]) (by kernel_rfl) (by simp) ?_
            refine AllReadyIn.cons rfl (fun K hK => ?_) AllReadyIn.nil
            refine step_appIn (by rfl) _ _ _ (by rfl) (w.heap.size + 1) 9 encS i0 _ 16 Try.underlying32 hi0 hz0 hz1 hz2 rfl oneS (.slice va (textsOf pre).length vc) (textsOf pre) (by rfl) ((HI.out.behind HB2.out).own.alloc _) w2.heap.size 1 1 [x.2.s] (by rfl) (by rfl) _ (heap_alloc_new w2 _) (by rfl) (by unfold maxLen; omega) (by omega) (by simp; omega) ?_
            intro v' w3 ho3 hg3 hv3
            have HSS := Lib.hid (HI.out.step HB2.out ho3 hg3 hv3 (by omega) hFB)
            have s1 := HSS.out.cell
            have s2 := HSS.out.frozen
            obtain ⟨va', vc', rfl, _⟩ := ho3.shape
            rw [List.length_append, List.length_singleton] at HSS
            refine hK _ _ ?_
            clear hK K ho3 hg3 hv3
            refine wpAnyIn_ready (rs := [6]) (by kernel_rfl) (by simp) ?_
            refine AllReadyIn.cons rfl (fun K hK => ?_) AllReadyIn.nil
            go_simp
            refine hK _ _ ?_
            clear hK K
            refine wpAnyIn_done (by kernel_rfl) ?_ _
            exact ⟨_, HSS.out.mid, by show StrAt _ _ _ _ (textsOf (pre ++ [x])) _; rw [HT.out]; exact ⟨_, HSS.out.inv⟩⟩
          · go_simp
            refine hK _ _ ?_
            clear hK K
            refine wpAnyIn_ready (rs := [0, 3]) (by kernel_rfl) (by simp) ?_
            refine AllReadyIn.cons rfl (fun K hK => ?_) (AllReadyIn.cons rfl (fun K hK => ?_) AllReadyIn.nil)
            · go_simp
              refine hK _ _ ?_
              clear hK K
              refine wpAnyIn_ready (rs := [3]) (by kernel_rfl) (by simp) ?_
              refine AllReadyIn.cons rfl (fun K hK => ?_) AllReadyIn.nil
              go_simp
              refine ⟨trivial, (CallsIn.inRound l (callsIn_wide.2 (CC.out _))).mono ?_⟩
              rintro e w2 ⟨rfl, hb2⟩
              have HB2 : Hid (Below W.heap.size W w2) := (belowN (Below.refl W.heap.size W) 1).trans hb2
              have g1 := (HI.out.behind HB2.out).var.cell
              have hFl : w.heap.size + 1 + 1 < w2.heap.size := (Array.getElem?_eq_some_iff.1 (HI.out.behind HB2.out).var).1
              refine hK _ _ ?_
              clear hK K hb2
              refine wpAnyIn_ready (rs := [4]) (by kernel_rfl) (by simp) ?_
              refine AllReadyIn.cons rfl (fun K hK => ?_) AllReadyIn.nil
              go_simp
              refine hK _ _ ?_
              clear hK K
              refine wpAnyIn_ready (rs := [5]) (by kernel_rfl) (by simp) ?_
              refine AllReadyIn.cons rfl (fun K hK => ?_) AllReadyIn.nil
              refine step_appIn (by rfl) _ _ _ (by rfl) (w.heap.size + 1) 9 encS i0 _ 16 Try.underlying32 hi0 hz0 hz1 hz2 rfl oneS (.slice va (textsOf pre).length vc) (textsOf pre) (by rfl) ((HI.out.behind HB2.out).own.alloc _) w2.heap.size 1 1 [x.2.s] (by rfl) (by rfl) _ (heap_alloc_new w2 _) (by rfl) (by unfold maxLen; omega) (by omega) (by simp; omega) ?_
              intro v' w3 ho3 hg3 hv3
              have HSS := Lib.hid (HI.out.step HB2.out ho3 hg3 hv3 (by omega) hFB)
              have s1 := HSS.out.cell
              have s2 := HSS.out.frozen
              obtain ⟨va', vc', rfl, _⟩ := ho3.shape
              rw [List.length_append, List.length_singleton] at HSS
              refine hK _ _ ?_
              clear hK K ho3 hg3 hv3
              refine wpAnyIn_ready (rs := [6]) (by kernel_rfl) (by simp) ?_
              refine AllReadyIn.cons rfl (fun K hK => ?_) AllReadyIn.nil
              go_simp
              refine hK _ _ ?_
              clear hK K
              refine wpAnyIn_done (by kernel_rfl) ?_ _
              exact ⟨_, HSS.out.mid, by show StrAt _ _ _ _ (textsOf (pre ++ [x])) _; rw [HT.out]; exact ⟨_, HSS.out.inv⟩⟩
            · go_simp
              refine ⟨trivial, (CallsIn.inRound l (callsIn_wide.2 (CC.out _))).mono ?_⟩
              rintro e w2 ⟨rfl, hb2⟩
              have HB2 : Hid (Below W.heap.size W w2) := (belowN (Below.refl W.heap.size W) 1).trans hb2
              have g1 := (HI.out.behind HB2.out).var.cell
              have hFl : w.heap.size + 1 + 1 < w2.heap.size := (Array.getElem?_eq_some_iff.1 (HI.out.behind HB2.out).var).1
              refine hK _ _ ?_
              clear hK K hb2
              refine wpAnyIn_ready (rs := [0, 4]) (by kernel_rfl) (by simp) ?_
              refine AllReadyIn.cons rfl (fun K hK => ?_) (AllReadyIn.cons rfl (fun K hK => ?_) AllReadyIn.nil)
              · go_simp
                refine hK _ _ ?_
                clear hK K
                refine wpAnyIn_ready (rs := [4]) (by kernel_rfl) (by simp) ?_
                refine AllReadyIn.cons rfl (fun K hK => ?_) AllReadyIn.nil
                go_simp
                refine hK _ _ ?_
                clear hK K
                refine wpAnyIn_ready (rs := [5]) (by kernel_rfl) (by simp) ?_
                refine AllReadyIn.cons rfl (fun K hK => ?_) AllReadyIn.nil
                refine step_appIn (by rfl) _ _ _ (by rfl) (w.heap.size + 1) 9 encS i0 _ 16 Try.underlying32 hi0 hz0 hz1 hz2 rfl oneS (.slice va (textsOf pre).length vc) (textsOf pre) (by rfl) ((HI.out.behind HB2.out).own.alloc _) w2.heap.size 1 1 [x.2.s] (by rfl) (by rfl) _ (heap_alloc_new w2 _) (by rfl) (by unfold maxLen; omega) (by omega) (by simp; omega) ?_
                intro v' w3 ho3 hg3 hv3
                have HSS := Lib.hid (HI.out.step HB2.out ho3 hg3 hv3 (by omega) hFB)
                have s1 := HSS.out.cell
                have s2 := HSS.out.frozen
                obtain ⟨va', vc', rfl, _⟩ := ho3.shape
                rw [List.length_append, List.length_singleton] at HSS
                refine hK _ _ ?_
                clear hK K ho3 hg3 hv3
                refine wpAnyIn_ready (rs := [6]) (by kernel_rfl) (by simp) ?_
                refine AllReadyIn.cons rfl (fun K hK => ?_) AllReadyIn.nil
                go_simp
                refine hK _ _ ?_
                clear hK K
                refine wpAnyIn_done (by kernel_rfl) ?_ _
                exact ⟨_, HSS.out.mid, by show StrAt _ _ _ _ (textsOf (pre ++ [x])) _; rw [HT.out]; exact ⟨_, HSS.out.inv⟩⟩
              · go_simp
                refine hK _ _ ?_
                clear hK K
                refine wpAnyIn_ready (rs := [0]) (by kernel_rfl) (by simp) ?_
                refine AllReadyIn.cons rfl (fun K hK => ?_) AllReadyIn.nil
                go_simp
                refine hK _ _ ?_
                clear hK K
                refine wpAnyIn_ready (rs := [5]) (by kernel_rfl) (by simp) ?_
                refine AllReadyIn.cons rfl (fun K hK => ?_) AllReadyIn.nil
                refine step_appIn (by rfl) _ _ _ (by rfl) (w.heap.size + 1) 9 encS i0 _ 16 Try.underlying32 hi0 hz0 hz1 hz2 rfl oneS (.slice va (textsOf pre).length vc) (textsOf pre) (by rfl) ((HI.out.behind HB2.out).own.alloc _) w2.heap.size 1 1 [x.2.s] (by rfl) (by rfl) _ (heap_alloc_new w2 _) (by rfl) (by unfold maxLen; omega) (by omega) (by simp; omega) ?_
                intro v' w3 ho3 hg3 hv3
                have HSS := Lib.hid (HI.out.step HB2.out ho3 hg3 hv3 (by omega) hFB)
                have s1 := HSS.out.cell
                have s2 := HSS.out.frozen
                obtain ⟨va', vc', rfl, _⟩ := ho3.shape
                rw [List.length_append, List.length_singleton] at HSS
                refine hK _ _ ?_
                clear hK K ho3 hg3 hv3
                refine wpAnyIn_ready (rs := [6]) (by kernel_rfl) (by simp) ?_
                refine AllReadyIn.cons rfl (fun K hK => ?_) AllReadyIn.nil
                go_simp
                refine hK _ _ ?_
                clear hK K
                refine wpAnyIn_done (by kernel_rfl) ?_ _
                exact ⟨_, HSS.out.mid, by show StrAt _ _ _ _ (textsOf (pre ++ [x])) _; rw [HT.out]; exact ⟨_, HSS.out.inv⟩⟩
      · have t5 : (x.2.k == 5) = false := by simp [h6]
        have t6 : (x.2.k == 6) = true := by simp [h6]
        clear hI hlen HS hm2 hk2 hx0 hbw hz hs2 HIn1 hW hV hbx htx h6 hlp htl hOV
        gi_wp2_with fail
        refine wpIn_region_any (by kernel_rfl) ?_
        change wpAnyIn _ _ _ _ _ _ _ _ _ (World.drew _)
        refine wpAnyIn_ready (rs := [0, 1]) (by kernel_rfl) (by simp) ?_
        refine AllReadyIn.cons rfl (fun K hK => ?_) (AllReadyIn.cons rfl (fun K hK => ?_) AllReadyIn.nil)
        · go_simp
          refine hK _ _ ?_
          clear hK K
          refine wpAnyIn_ready (rs := [1]) (by kernel_rfl) (by simp) ?_
          refine AllReadyIn.cons rfl (fun K hK => ?_) AllReadyIn.nil
          go_simp
          refine hK _ _ ?_
          clear hK K
          refine wpAnyIn_ready (rs := [2]) (by kernel_rfl) (by simp) ?_
          refine AllReadyIn.cons rfl (fun K hK => ?_) AllReadyIn.nil
          go_simp
          refine hK _ _ ?_
          clear hK K
          refine wpAnyIn_ready (rs := [3]) (by kernel_rfl) (by simp) ?_
          refine AllReadyIn.cons rfl (fun K hK => ?_) AllReadyIn.nil
          go_simp
          refine ⟨trivial, (CallsIn.inRound l (callsIn_wide.2 (CC.out _))).mono ?_⟩
          rintro e w2 ⟨rfl, hb2⟩
          have HB2 : Hid (Below W.heap.size W w2) := (belowN (Below.refl W.heap.size W) 1).trans hb2
          have g1 := (HI.out.behind HB2.out).var.cell
          have hFl : w.heap.size + 1 + 1 < w2.heap.size := (Array.getElem?_eq_some_iff.1 (HI.out.behind HB2.out).var).1
          refine hK _ _ ?_
          clear hK K hb2
          refine wpAnyIn_ready (rs := [4]) (by kernel_rfl) (by simp) ?_
          refine AllReadyIn.cons rfl (fun K hK => ?_) AllReadyIn.nil
          go_simp
          refine hK _ _ ?_
          clear hK K
          refine wpAnyIn_ready (rs := [5]) (by kernel_rfl) (by simp) ?_
          refine AllReadyIn.cons rfl (fun K hK => ?_) AllReadyIn.nil
          refine step_appIn (by rfl) _ _ _ (by rfl) (w.heap.size + 1) 9 encS i0 _ 16 Try.underlying32 hi0 hz0 hz1 hz2 rfl oneS (.slice va (textsOf pre).length vc) (textsOf pre) (by rfl) ((HI.out.behind HB2.out).own.alloc _) w2.heap.size 1 1 [x.2.s] (by rfl) (by rfl) _ (heap_alloc_new w2 _) (by rfl) (by unfold maxLen; omega) (by omega) (by simp; omega) ?_
          intro v' w3 ho3 hg3 hv3
          have HSS := Lib.hid (HI.out.step HB2.out ho3 hg3 hv3 (by omega) hFB)
          have s1 := HSS.out.cell
          have s2 := HSS.out.frozen
          obtain ⟨va', vc', rfl, _⟩ := ho3.shape
          rw [List.length_append, List.length_singleton] at HSS
          refine hK _ _ ?_
          clear hK K ho3 hg3 hv3
          refine wpAnyIn_ready (rs := [6]) (by kernel_rfl) (by simp) ?_
          refine AllReadyIn.cons rfl (fun K hK => ?_) AllReadyIn.nil
          go_simp
          refine hK _ _ ?_
          clear hK K
          refine wpAnyIn_done (by kernel_rfl) ?_ _
          exact ⟨_, HSS.out.mid, by show StrAt _ _ _ _ (textsOf (pre ++ [x])) _; rw [HT.out]; exact ⟨_, HSS.out.inv⟩⟩
        · go_simp
          refine hK _ _ ?_
          clear hK K
          refine wpAnyIn_ready (rs := [0, 2]) (by kernel_rfl) (by simp) ?_
          refine AllReadyIn.cons rfl (fun K hK => ?_) (AllReadyIn.cons rfl (fun K hK => ?_) AllReadyIn.nil)
          · go_simp
            refine hK _ _ ?_
            clear hK K
            refine wpAnyIn_ready (rs := [2]) (by kernel_rfl) (by simp) ?_
            refine AllReadyIn.cons rfl (fun K hK => ?_) AllReadyIn.nil
            go_simp
            refine hK _ _ ?_
            clear hK K
            refine wpAnyIn_ready (rs := [3]) (by kernel_rfl) (by simp) ?_
            refine AllReadyIn.cons rfl (fun K hK => ?_) AllReadyIn.nil
            go_simp
            refine ⟨trivial, (CallsIn.inRound l (callsIn_wide.2 (CC.out _))).mono ?_⟩
            rintro e w2 ⟨rfl, hb2⟩
            have HB2 : Hid (Below W.heap.size W w2) := (belowN (Below.refl W.heap.size W) 1).trans hb2
            have g1 := (HI.out.behind HB2.out).var.cell
            have hFl : w.heap.size + 1 + 1 < w2.heap.size := (Array.getElem?_eq_some_iff.1 (HI.out.behind HB2.out).var).1
            refine hK _ _ ?_
            clear hK K hb2
            refine wpAnyIn_ready (rs := [4]) (by kernel_rfl) (by simp) ?_
            refine AllReadyIn.cons rfl (fun K hK => ?_) AllReadyIn.nil
            go_simp
            refine hK _ _ ?_
            clear hK K
            refine wpAnyIn_ready (rs := [5]) (by kernel_rfl) (by simp) ?_
            refine AllReadyIn.cons rfl (fun K hK => ?_) AllReadyIn.nil
            refine step_appIn (by rfl) _ _ _ (by rfl) (w.heap.size + 1) 9 encS i0 _ 16 Try.underlying32 hi0 hz0 hz1 hz2 rfl oneS (.slice va (textsOf pre).length vc) (textsOf pre) (by rfl) ((HI.out.behind HB2.out).own.alloc _) w2.heap.size 1 1 [x.2.s] (by rfl) (by rfl) _ (heap_alloc_new w2 _) (by rfl) (by unfold maxLen; omega) (by omega) (by simp; omega) ?_
            intro v' w3 ho3 hg3 hv3
            have HSS := Lib.hid (HI.out.step HB2.out ho3 hg3 hv3 (by omega) hFB)
            have s1 := HSS.out.cell
            have s2 := HSS.out.frozen
            obtain ⟨va', vc', rfl, _⟩ := ho3.shape
            rw [List.length_append, List.length_singleton] at HSS
            refine hK _ _ ?_
            clear hK K ho3 hg3 hv3
            refine wpAnyIn_ready (rs := [6]) (by kernel_rfl) (by simp) ?_
            refine AllReadyIn.cons rfl (fun K hK => ?_) AllReadyIn.nil
            go_simp
            refine hK _ _ ?_
            clear hK K
            refine wpAnyIn_done (by kernel_rfl) ?_ _
            exact ⟨_, HSS.out.mid, by show StrAt _ _ _ _ (textsOf (pre ++ [x])) _; rw [HT.out]; exact ⟨_, HSS.out.inv⟩⟩
          · go_simp
            refine hK _ _ ?_
            clear hK K
            refine wpAnyIn_ready (rs := [0, 3]) (by kernel_rfl) (by simp) ?_
            refine AllReadyIn.cons rfl (fun K hK => ?_) (AllReadyIn.cons rfl (fun K hK => ?_) AllReadyIn.nil)
            · go_simp
              refine hK _ _ ?_
              clear hK K
              refine wpAnyIn_ready (rs := [3]) (by kernel_rfl) (by simp) ?_
              refine AllReadyIn.cons rfl (fun K hK => ?_) AllReadyIn.nil
              go_simp
              refine ⟨trivial, (CallsIn.inRound l (callsIn_wide.2 (CC.out _))).mono ?_⟩
              rintro e w2 ⟨rfl, hb2⟩
              have HB2 : Hid (Below W.heap.size W w2) := (belowN (Below.refl W.heap.size W) 1).trans hb2
              have g1 := (HI.out.behind HB2.out).var.cell
              have hFl : w.heap.size + 1 + 1 < w2.heap.size := (Array.getElem?_eq_some_iff.1 (HI.out.behind HB2.out).var).1
              refine hK _ _ ?_
              clear hK K hb2
              refine wpAnyIn_ready (rs := [4]) (by kernel_rfl) (by simp) ?_
              refine AllReadyIn.cons rfl (fun K hK => ?_) AllReadyIn.nil
              go_simp
              refine hK _ _ ?_
              clear hK K
              refine wpAnyIn_ready (rs := [5]) (by kernel_rfl) (by simp) ?_
              refine AllReadyIn.cons rfl (fun K hK => ?_) AllReadyIn.nil
              refine step_appIn (by rfl) _ _ _ (by rfl) (w.heap.size + 1) 9 encS i0 _ 16 Try.underlying32 hi0 hz0 hz1 hz2 rfl oneS (.slice va (textsOf pre).length vc) (textsOf pre) (by rfl) ((HI.out.behind HB2.out).own.alloc _) w2.heap.size 1 1 [x.2.s] (by rfl) (by rfl) _ (heap_alloc_new w2 _) (by rfl) (by unfold maxLen; omega) (by omega) (by simp; omega) ?_
              intro v' w3 ho3 hg3 hv3
              have HSS := Lib.hid (HI.out.step HB2.out ho3 hg3 hv3 (by omega) hFB)
              have s1 := HSS.out.cell
              have s2 := HSS.out.frozen
              obtain ⟨va', vc', rfl, _⟩ := ho3.shape
              rw [List.length_append, List.length_singleton] at HSS
              refine hK _ _ ?_
              clear hK K ho3 hg3 hv3
              refine wpAnyIn_ready (rs := [6]) (by kernel_rfl) (by simp) ?_
              refine AllReadyIn.cons rfl (fun K hK => ?_) AllReadyIn.nil
              go_simp
              refine hK _ _ ?_
              clear hK K
              refine wpAnyIn_done (by kernel_rfl) ?_ _
              exact ⟨_, HSS.out.mid, by show StrAt _ _ _ _ (textsOf (pre ++ [x])) _; rw [HT.out]; exact ⟨_, HSS.out.inv⟩⟩
            · go_simp
              refine ⟨trivial, (CallsIn.inRound l (callsIn_wide.2 (CC.out _))).mono ?_⟩
              rintro e w2 ⟨rfl, hb2⟩
              have HB2 : Hid (Below W.heap.size W w2) := (belowN (Below.refl W.heap.size W) 1).trans hb2
              have g1 := (HI.out.behind HB2.out).var.cell
              have hFl : w.heap.size + 1 + 1 < w2.heap.size := (Array.getElem?_eq_some_iff.1 (HI.out.behind HB2.out).var).1
              refine hK _ _ ?_
              clear hK K hb2
              refine wpAnyIn_ready (rs := [0, 4]) (by kernel_rfl) (by simp) ?_
              refine AllReadyIn.cons rfl (fun K hK => ?_) (AllReadyIn.cons rfl (fun K hK => ?_) AllReadyIn.nil)
              · go_simp
                refine hK _ _ ?_
                clear hK K
                refine wpAnyIn_ready (rs := [4]) (by kernel_rfl) (by simp) ?_
                refine AllReadyIn.cons rfl (fun K hK => ?_) AllReadyIn.nil
                go_simp
                refine hK _ _ ?_
                clear hK K
                refine wpAnyIn_ready (rs := [5]) (by kernel_rfl) (by simp) ?_
                refine AllReadyIn.cons rfl (fun K hK => ?_) AllReadyIn.nil
                refine step_appIn (by rfl) _ _ _ (by rfl) (w.heap.size + 1) 9 encS i0 _ 16 Try.underlying32 hi0 hz0 hz1 hz2 rfl oneS (.slice va (textsOf pre).length vc) (textsOf pre) (by rfl) ((HI.out.behind HB2.out).own.alloc _) w2.heap.size 1 1 [x.2.s] (by rfl) (by rfl) _ (heap_alloc_new w2 _) (by rfl) (by unfold maxLen; omega) (by omega) (by simp; omega) ?_
                intro v' w3 ho3 hg3 hv3
                have HSS := Lib.hid (HI.out.step HB2.out ho3 hg3 hv3 (by omega) hFB)
                have s1 := HSS.out.cell
                have s2 := HSS.out.frozen
                obtain ⟨va', vc', rfl, _⟩ := ho3.shape
                rw [List.length_append, List.length_singleton] at HSS
                refine hK _ _ ?_
                clear hK K ho3 hg3 hv3
                refine wpAnyIn_ready (rs := [6]) (by kernel_rfl) (by simp) ?_
                refine AllReadyIn.cons rfl (fun K hK => ?_) AllReadyIn.nil
                go_simp
                refine hK _ _ ?_
                clear hK K
                refine wpAnyIn_done (by kernel_rfl) ?_ _
                exact ⟨_, HSS.out.mid, by show StrAt _ _ _ _ (textsOf (pre ++ [x])) _; rw [HT.out]; exact ⟨_, HSS.out.inv⟩⟩
              · go_simp
                refine hK _ _ ?_
                clear hK K
                refine wpAnyIn_ready (rs := [0]) (by kernel_rfl) (by simp) ?_
                refine AllReadyIn.cons rfl (fun K hK => ?_) AllReadyIn.nil
                go_simp
                refine hK _ _ ?_
                clear hK K
                refine wpAnyIn_ready (rs := [5]) (by kernel_rfl) (by simp) ?_
                refine AllReadyIn.cons rfl (fun K hK => ?_) AllReadyIn.nil
                refine step_appIn (by rfl) _ _ _ (by rfl) (w.heap.size + 1) 9 encS i0 _ 16 Try.underlying32 hi0 hz0 hz1 hz2 rfl oneS (.slice va (textsOf pre).length vc) (textsOf pre) (by rfl) ((HI.out.behind HB2.out).own.alloc _) w2.heap.size 1 1 [x.2.s] (by rfl) (by rfl) _ (heap_alloc_new w2 _) (by rfl) (by unfold maxLen; omega) (by omega) (by simp; omega) ?_
                intro v' w3 ho3 hg3 hv3
                have HSS := Lib.hid (HI.out.step HB2.out ho3 hg3 hv3 (by omega) hFB)
                have s1 := HSS.out.cell
                have s2 := HSS.out.frozen
                obtain ⟨va', vc', rfl, _⟩ := ho3.shape
                rw [List.length_append, List.length_singleton] at HSS
                refine hK _ _ ?_
                clear hK K ho3 hg3 hv3
                refine wpAnyIn_ready (rs := [6]) (by kernel_rfl) (by simp) ?_
                refine AllReadyIn.cons rfl (fun K hK => ?_) AllReadyIn.nil
                go_simp
                refine hK _ _ ?_
                clear hK K
                refine wpAnyIn_done (by kernel_rfl) ?_ _
                exact ⟨_, HSS.out.mid, by show StrAt _ _ _ _ (textsOf (pre ++ [x])) _; rw [HT.out]; exact ⟨_, HSS.out.inv⟩⟩
    | false =>
      have HT := Lib.hid (textsOf_no pre x htx)
      have t5 : (x.2.k == 5) = false := by unfold isText at htx; simp at htx; simp [htx.1]
      have t6 : (x.2.k == 6) = false := by unfold isText at htx; simp at htx; simp [htx.2]
      clear hI hlen HS hm2 hk2 hx0 hbw hz hs2 HIn1 hW hV hbx htx hlp htl hOV
      gi_wp2
      exact ⟨O, ⟨rfl, rfl, rfl, Nat.le_refl _, fun _ _ _ _ => rfl, fun k hk => .inl hk⟩, by show StrAt _ _ _ _ (textsOf (pre ++ [x])) _; rw [HT.out]; exact ⟨_, HI.out⟩⟩
  case done =>
    rintro D W hD ⟨O, ⟨v, hI⟩, hOD⟩ hK
    obtain ⟨va, vc, rfl, hvc⟩ := hI.own.shape
    have k3 := hI.var.cell
    have k4 := hI.var.frozen
    have HBL : Hid (Below w.heap.size w (W.putObj D (.deferred none))) := hI.below.trans (below_put _ _ (by omega))
    have HOW : Hid (OwnL (W.putObj D (.deferred none)) w.heap.size 9 encS (.slice va (textsOf (t.pre 0)).length vc) (er t).strs) := by
      have := own_same (w' := W.putObj D (.deferred none)) hI.own (fun k hk => World.putObj_heap_other (fun e => hOD ((hI.blocks D).2 (e ▸ hk))))
      rw [texts_pre] at this ⊢
      exact this.mono (by omega)
    clear HS hm2 hk2 hx0 hbw hz hs2 HIn1 hI hD hvc
    gi_wp2
    refine ⟨by simp, .inl ⟨_, _, rfl, run_takeDeferred hK, ?_⟩⟩
    exact ⟨.slice va (textsOf (t.pre 0)).length vc, by simp [results, Try.results15, go_sem], _, rfl, HOW.out, HBL.out⟩
  case stop =>
    rintro D c p W hD hp hI hK
    exact hI.elim

end Go.Proofs.Ytdbkifndhkmfgaa.val
