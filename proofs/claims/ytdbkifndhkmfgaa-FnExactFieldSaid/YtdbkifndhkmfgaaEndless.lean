/-
  impl.endless answers false at a value whose lists lie in whole blocks that the call has made: no list holds itself.
-/
import Derived.Test.YtdbkifndhkmfgaaEndPlain
import Derived.Test.YtdbkifndhkmfgaaFinite
namespace Go.Proofs.Ytdbkifndhkmfgaa.val
open Go.ChangeShapes Go.WideShapes Go.ChangeAt Go.RowKit
set_option maxRecDepth 100000

theorem info29 : (Try.prog.info? 36).map (fun i => i.size) = some 5 := by kernel_rfl
theorem zero3 (w : World) : (zeroValue 3).run Try.prog w = .ok (.int .i64 0) w := by simp [zeroValue, go_sem, Try.t3]

theorem pop_facts (m n c : Nat) (hm : m = n + 1) (hb : m ≤ 2000000) (hc : m + 1 ≤ c) : ((m : Int) == 0) = false ∧ (m : Int) ≤ (c : Int) ∧ (n : Int) < (m : Int) ∧ wrap64 ((m : Int) - 1) = (n : Int) := by
  subst hm
  refine ⟨?_, by omega, by omega, ?_⟩
  · simp only [beq_eq_false_iff_ne, ne_eq]; omega
  · unfold wrap64; omega

set_option maxHeartbeats 4000000 in
theorem endless_any : EndC := by
  intro w t hM hz
  obtain ⟨i0, hi0, hz0, hz1, hz2⟩ := info_parts infoL
  obtain ⟨j0, hj0, hj1⟩ : ∃ j, Try.prog.info? 36 = some j ∧ j.size ≠ 0 := by
    have h := info29
    cases hq : Try.prog.info? 36 with
    | none => rw [hq] at h; cases h
    | some j => rw [hq] at h; simp at h; exact ⟨j, rfl, by omega⟩
  obtain ⟨lo, hO⟩ := hM
  have hrow : t.row = .slice t.a t.kids.length t.cap := rfl
  simp only [hrow]
  clear hrow
  have HS : Hid (EndRel w (((w.alloc (.cells #[.int .i64 t.k, .int .i64 t.n, .int .i64 t.e, .string t.s, .slice t.a t.kids.length t.cap] 36)).alloc (.map #[] 0)).alloc (.cells #[.slice t.a t.kids.length t.cap] 34)) lo (w.heap.size + 1) (w.heap.size + 2) t (.slice (some ⟨w.heap.size + 2, 0, none⟩) 1 1) (fun _ => 0) [] [⟨t.a, t.cap, t.kids⟩]) := by
    have hb : Below w.heap.size w (((w.alloc (.cells #[.int .i64 t.k, .int .i64 t.n, .int .i64 t.e, .string t.s, .slice t.a t.kids.length t.cap] 36)).alloc (.map #[] 0)).alloc (.cells #[.slice t.a t.kids.length t.cap] 34)) := (((Below.refl _ _).alloc (Nat.le_refl _) _).alloc (by simp) _).alloc (by simp; omega) _
    refine ⟨?_, ?_, ?_, .base (List.suffix_refl _), fun _ => .inl rfl, fun _ h => absurd h (by decide), by simp, hb⟩
    · have hn := heap_alloc_new ((w.alloc (.cells #[.int .i64 t.k, .int .i64 t.n, .int .i64 t.e, .string t.s, .slice t.a t.kids.length t.cap] 36)).alloc (.map #[] 0)) (.cells #[.slice t.a t.kids.length t.cap] 34)
      simp only [World.size_alloc] at hn
      exact OwnL.of_block (l := [(⟨t.a, t.cap, t.kids⟩ : Seg)]) (w.heap.size + 2) _ (by omega) hn rfl (by simp [maxLen])
    · have hm := MapIs.made (w.alloc (.cells #[.int .i64 t.k, .int .i64 t.n, .int .i64 t.e, .string t.s, .slice t.a t.kids.length t.cap] 36)) w.heap.size
      simp only [World.size_alloc] at hm
      exact hm.kept (Below.heap_alloc _ _ _ (by simp)) (fun k hk => Below.heap_alloc _ _ _ (by simp; omega))
    · intro s hs
      obtain rfl := List.mem_singleton.1 hs
      exact (segO_kids hO).kept hb.block
  clear hO
  have HN := Lib.hid hz
  clear hz
  have hmm := @run_makeMap Try.prog
  go_enter Try.func50, Try.ntmps50
  go_wp2
  go_loopw [4] (fun v wr => ∃ k, EndAt w wr lo (w.heap.size + 1) (w.heap.size + 2) t v k) (fun v wr => leastOf (EndAt w wr lo (w.heap.size + 1) (w.heap.size + 2) t v))
  case atStart => exact ⟨_, _, _, _, HS.out, rfl⟩
  case round =>
    clear HS hmm
    obtain ⟨f, E, st, R, hlk⟩ := EndAt.least hrel
    have HL := Lib.hid hlk
    clear hlk hrel
    have hwz := R.size
    have hshort := R.ch.short
    cases st with
    | nil => cases R.ch
    | cons s rest =>
      have hsl : (s :: rest).reverse.length = rest.length + 1 := by simp
      obtain ⟨a, c, hv, hc1, hc2, hg⟩ := R.own.shape
      obtain ⟨g, rfl, hgl, hgs⟩ := hg (by rw [hsl]; omega)
      rw [hsl] at hv hc1
      subst hv
      have hcell : wr.cell? ⟨g, rest.length, none⟩ = some s.enc := by
        have := R.own.cell rest.length (by rw [hsl]; omega)
        simpa using this
      have hfr : wr.frozen? ⟨g, rest.length, none⟩ = false := World.ownsRow.frozenAt (by have := R.own; unfold OwnL at this; rw [hsl] at this; exact this) _
      have hrb : rest.length ≤ 2000000 := by have := HN.out; simp only [List.length_cons] at hshort; omega
      have hd0 : (0 : Int) ≤ (rest.length : Int) := by omega
      have hd1 : (rest.length : Int) < ((rest.length + 1 : Nat) : Int) := by omega
      have hwr := wrap_small rest.length hrb
      obtain ⟨sa, scap, ts⟩ := s
      cases ts with
      | nil =>
        cases rest with
        | nil =>
          have HB := Lib.hid R.low
          unfold Seg.enc at hcell
          simp only [List.length_nil] at *
          clear R hwz hshort hsl hc1 hc2 hgl hgs hrb hg hz0 hz1 hz2 hi0
          go_wp2
          go_ret
          exact ⟨rfl, HB.out⟩
        | cons s' rest' =>
          obtain ⟨p, cap', x, ts, rfl⟩ : ∃ p cap' x ts, s' = ⟨some p, cap', x :: ts⟩ := by
            cases R.ch with
            | push h hs => exact ⟨_, _, _, _, rfl⟩
          obtain ⟨q, hq, hsol, _, _⟩ := (R.seg ⟨some p, cap', x :: ts⟩ (by simp)).head
          injection hq with hq
          subst hq
          have hcell2 : wr.cell? ⟨g, rest'.length, none⟩ = some (Seg.enc ⟨some p, cap', x :: ts⟩) := by
            have := R.own.cell rest'.length (by rw [hsl]; simp; omega)
            rw [this]
            simp
          have HR := Lib.hid R
          have HM := Lib.hid R.map
          have HL2 : Hid (farW (upd f p 2) (⟨some p, cap', x :: ts⟩ :: rest') < leastOf (EndAt w wr lo (w.heap.size + 1) (w.heap.size + 2) t (Value.slice (some ⟨g, 0, none⟩) ((⟨some p, cap', x :: ts⟩ :: rest' : List Seg).length + 1) c))) := by
            unfold Hid; rw [HL.out]; exact far_pop
          unfold Seg.enc at hcell hcell2
          simp only [List.length_nil] at hcell
          simp only [List.length_cons] at hcell2
          have hm1 : (⟨some p, cap', x :: ts⟩ :: rest' : List Seg).length = rest'.length + 1 := List.length_cons
          generalize (⟨some p, cap', x :: ts⟩ :: rest' : List Seg).length = m at *
          obtain ⟨hl0, hl2, hd3, hwr2⟩ := pop_facts m rest'.length c hm1 hrb hc1
          have hl1 : (0 : Int) < ((ts.length + 1 : Nat) : Int) := Int.ofNat_lt.2 (Nat.succ_pos _)
          have hd2 : (0 : Int) ≤ (rest'.length : Int) := Int.natCast_nonneg _
          have HM1 := Lib.hid hm1
          clear R hwz hshort hsl hc1 hc2 hgl hgs hrb hg hz0 hz1 hz2 hi0 HL hm1
          go_wp2_with (first | (at_mapUpdate; refine wpList_store_ptr _ rfl _ _ _ 81 rfl Try.underlying81 Try.underlying82 hj0 hj1 (w.heap.size + 1) f rfl HM.out p 2 rfl rfl hsol (by decide) ?_; intro w1 hM1 hg1 hs1))
          obtain ⟨E', hR⟩ := EndRel.pop (Nat.le_succ _) (Nat.lt_succ_self _) HR.out hM1 hg1
          rw [← HM1.out] at hR
          refine ⟨?_, ?measure⟩
          (repeat apply Exists.intro)
          refine ⟨?rel, rfl⟩
          case rel => exact ⟨_, _, _, _, hR, rfl⟩
          case measure => exact EndAt.less hR HL2.out
      | cons x ts =>
        have hS := R.seg _ (List.mem_cons_self ..)
        obtain ⟨p, hp, hsol, h5, _⟩ := hS.head
        subst hp
        have hfresh := R.fresh
        have hlook := R.map.look Try.underlying81 Try.underlying82 hj0 hj1 (zero3 wr) hsol
        have hts : (0 : Int) < ((ts.length + 1 : Nat) : Int) := Int.ofNat_lt.2 (Nat.succ_pos _)
        unfold Seg.enc at hcell
        simp only [List.length_cons] at hcell
        rcases R.few p with hf | hf | hf
        · -- the element is entered
          have c4 := h5.c4
          have HR := Lib.hid R
          have HM := Lib.hid R.map
          have HL2 : Hid (∀ f', farW f' (⟨x.a, x.cap, x.kids⟩ :: ⟨some p, scap, x :: ts⟩ :: rest) < leastOf (EndAt w wr lo (w.heap.size + 1) (w.heap.size + 2) t (Value.slice (some ⟨g, 0, none⟩) (rest.length + 1) c))) := fun f' => by rw [HL.out]; exact far_push (by rw [hf]; decide)
          rw [hf] at hlook
          have hk1 : ((⟨some p, scap, x :: ts⟩ : Seg) :: rest).reverse.length + 1 ≤ maxLen := by rw [List.length_reverse, List.length_cons]; exact small_len hrb
          have hk2 : (((⟨some p, scap, x :: ts⟩ : Seg) :: rest).reverse.length + 1) * 24 ≤ 140737488355328 := by rw [List.length_reverse, List.length_cons]; exact small_bytes hrb
          have HI0 := Lib.hid (And.intro hi0 (And.intro hz0 (And.intro hz1 hz2)))
          have HWZ := Lib.hid hwz
          have hrow : x.row = .slice x.a x.kids.length x.cap := rfl
          rw [hrow] at c4
          have HO1 : Hid (∀ w1, wr.grownBy w1 (some (w.heap.size + 1)) → OwnL w1 (w.heap.size + 2) 34 Seg.enc (.slice (some ⟨g, 0, none⟩) (rest.length + 1) c) (⟨some p, scap, x :: ts⟩ :: rest : List Seg).reverse) := fun w1 hg1 =>
            own_at_block R.own (fun k hk hk' => hg1.block k hk' (fun h => by injection h with h; subst h; exact Nat.not_succ_le_self _ hk))
          have HC4 : Hid (∀ w1, wr.grownBy w1 (some (w.heap.size + 1)) → w1.cell? ⟨p.block, p.off + 4, none⟩ = some (.slice x.a x.kids.length x.cap)) := fun w1 hg1 =>
            (World.cell?_of_block (a := ⟨p.block, p.off + 4, none⟩) (hg1.block p.block (World.block_lt_of_cell? wr _ h5.c0) (fun h => by injection h with h; have h1 := hsol.1; rw [h] at h1; exact absurd h1 (Nat.not_lt.2 (Nat.le_succ _))))).trans c4
          clear R hwz hshort hsl hc1 hc2 hgl hgs hrb hg hz0 hz1 hz2 hi0 HL hS h5 hfresh hf hrow c4
          go_wp2_with (first
          | (at_mapUpdate; refine wpList_store_ptr _ rfl _ _ _ 81 rfl Try.underlying81 Try.underlying82 hj0 hj1 (w.heap.size + 1) f rfl HM.out p 1 rfl rfl hsol (by decide) ?_; intro w1 hM1 hg1 hs1
             have c41 := HC4.out w1 hg1
             have HM1 := Lib.hid hM1
             have HG1 := Lib.hid hg1
             have HS1 := Lib.hid hs1
             have O1 := Lib.hid (HO1.out w1 hg1)
             clear hM1 hg1 hs1 hcell hfr hlook)
          | (at_builtin; refine wpList_append_own _ rfl _ _ 75 rfl (w.heap.size + 2) 34 i0 (.slice none 0 0) 1 24 Try.underlying75 HI0.out.1 HI0.out.2.1 HI0.out.2.2.1 HI0.out.2.2.2 rfl (by decide) _ _ _ rfl (O1.out.alloc _) ⟨w1.heap.size, 0, none⟩ 1 1 [Seg.enc ⟨x.a, x.cap, x.kids⟩] rfl rfl (cell_one_new _ _ _) (by simp [Value.oneCell', Seg.enc]) hk1 hk2 (by rw [World.size_alloc, HS1.out]; exact Nat.le_succ_of_le HWZ.out) ?_; intro v' w3 hown' hgrow _))
          have hR := EndRel.push (Nat.le_succ _) (Nat.lt_succ_self _) HR.out HM1.out HG1.out HS1.out hown' hgrow
          exact ⟨⟨_, _, _, _, hR, rfl⟩, EndAt.less hR (HL2.out _)⟩
        · exact absurd hf hfresh
        · -- the element was left behind
          by_cases hs1 : scap = 1
          · subst hs1
            have HR := Lib.hid (R.left (Nat.le_succ _) (Nat.lt_succ_self _) (some p) 0 (segO_last hS).2)
            have HL2 : Hid (farW f (⟨some p, 0, ts⟩ :: rest) < leastOf (EndAt w wr lo (w.heap.size + 1) (w.heap.size + 2) t (Value.slice (some ⟨g, 0, none⟩) (rest.length + 1) c))) := by unfold Hid; rw [HL.out]; exact far_left hf
            rw [hf] at hlook
            clear R hwz hshort hsl hc1 hc2 hgl hgs hrb hg hz0 hz1 hz2 hi0 HL hS h5 hfresh hf
            go_wp2
            exact ⟨⟨_, _, _, _, HR.out, rfl⟩, EndAt.less HR.out HL2.out⟩
          · have hs2 : ¬ scap = 1 := hs1
            have HR := Lib.hid (R.left (Nat.le_succ _) (Nat.lt_succ_self _) (some ⟨p.block, p.off + 5, none⟩) (scap - 1) (segO_tail hS))
            have HL2 : Hid (farW f (⟨some ⟨p.block, p.off + 5, none⟩, scap - 1, ts⟩ :: rest) < leastOf (EndAt w wr lo (w.heap.size + 1) (w.heap.size + 2) t (Value.slice (some ⟨g, 0, none⟩) (rest.length + 1) c))) := by unfold Hid; rw [HL.out]; exact far_left hf
            rw [hf] at hlook
            clear R hwz hshort hsl hc1 hc2 hgl hgs hrb hg hz0 hz1 hz2 hi0 HL hS h5 hfresh hf
            go_wp2
            exact ⟨⟨_, _, _, _, HR.out, rfl⟩, EndAt.less HR.out HL2.out⟩

end Go.Proofs.Ytdbkifndhkmfgaa.val
