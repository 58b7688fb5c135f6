/-
  What spec.l02Copy returns: the value in new memory.
-/
import Derived.Test.YtdbkifndhkmfgaaTree
import Derived.Test.YtdbkifndhkmfgaaValTell
namespace Go.Proofs.Ytdbkifndhkmfgaa.val
open Go.ChangeShapes Go.WideShapes Go.ChangeAt Go.RowKit
set_option maxRecDepth 100000

/-- A value in new memory. -/
structure Fresh (w' w'' : World) (t t' : LT) : Prop where
  er : er t' = er t
  tr : Tr w'' t'
  new : ∀ b, b ∈ t'.blks → w'.heap.size ≤ b
  nodup : t'.blks.Nodup
  below : Below w'.heap.size w' w''
def CopyC (w : World) (B : Nat) (t : LT) : Prop := t.nodes ≤ 2000000 → ∀ w', Below B w w' → B ≤ w'.heap.size → Calls Try.prog 41 #[.agg #[.int .i64 t.k, .int .i64 t.n, .int .i64 t.e, .string t.s, t.row]] w' fun e w'' => ∃ t' : LT, e = .returned (.agg #[.int .i64 t'.k, .int .i64 t'.n, .int .i64 t'.e, .string t'.s, t'.row]) ∧ Fresh w' w'' t t'
/-- The copies made so far. -/
structure CMade (w' wr : World) (g c : Nat) (kids done : List LT) : Prop where
  row : OwnR wr w'.heap.size (.slice (some ⟨g, 0, none⟩) done.length c) done
  ers : done.map er = (kids.take done.length).map er
  trs : ∀ i (h : i < done.length), Tr wr done[i]
  new : ∀ b, b ∈ LT.blksL done → w'.heap.size ≤ b
  nodup : (g :: LT.blksL done).Nodup
  below : Below w'.heap.size w' wr
theorem blksL_append (a b : List LT) : LT.blksL (a ++ b) = LT.blksL a ++ LT.blksL b := by
  induction a with
  | nil => rw [LT.blksL]; rfl
  | cons t ts ih => rw [List.cons_append, LT.blksL, LT.blksL, ih, List.append_assoc]
theorem blksL_one (t : LT) : LT.blksL [t] = t.blks := by rw [LT.blksL, LT.blksL, List.append_nil]
theorem CMade.lt {w' wr : World} {g c : Nat} {kids done : List LT} (h : CMade w' wr g c kids done) : ∀ b, b ∈ LT.blksL done → b < wr.heap.size := fun b hb => by
  obtain ⟨i, hi, hbb⟩ := mem_blksL_iff hb
  exact (h.trs i hi).lt b hbb
theorem CMade.step {w' wr w1 w3 : World} {g c g' c' : Nat} {kids done : List LT} {t' : LT} {o : Obj} (h : CMade w' wr g c kids done) (hlt : done.length < kids.length) (hF : Fresh wr w1 kids[done.length] t')
    (ho : OwnR w3 w'.heap.size (.slice (some ⟨g', 0, none⟩) (done.length + 1) c') (done ++ [t'])) (hg : (w1.alloc o).grownBy w3 (some g)) (hg' : g' = g ∨ g' = (w1.alloc o).heap.size) : CMade w' w3 g' c' kids (done ++ [t']) := by
  have hgl := (h.row.lt g rfl)
  have hz1 := hF.below.size
  have hk : ∀ b, b < w1.heap.size → b ≠ g → w3.heap[b]? = w1.heap[b]? := fun b hb hne => by
    rw [hg.block b (by simp; omega) (fun e => hne (by injection e)), Below.heap_alloc _ _ _ hb]
  have hgn : g ∉ LT.blksL done := (List.nodup_cons.1 h.nodup).1
  have htn : ∀ b, b ∈ t'.blks → b ≠ g := fun b hb e => by have := hF.new b hb; omega
  refine ⟨by rw [List.length_append]; exact ho, ?_, ?_, ?_, ?_, ?_⟩
  · rw [List.map_append, h.ers, List.length_append, List.length_singleton, List.take_succ_eq_append_getElem hlt, List.map_append]
    simp [hF.er]
  · intro i hi
    rw [List.length_append, List.length_singleton] at hi
    by_cases hd : i < done.length
    · rw [List.getElem_append_left hd]
      exact ((h.trs i hd).behind hF.below).kept fun b hb => hk b (by have := (h.trs i hd).lt b hb; omega) (fun e => hgn (e ▸ mem_blksL hd hb))
    · have e : i = done.length := by omega
      subst e
      rw [List.getElem_append_right (Nat.le_refl _)]
      simp only [Nat.sub_self, List.getElem_cons_zero]
      exact hF.tr.kept fun b hb => hk b (hF.tr.lt b hb) (htn b hb)
  · intro b hb
    rw [blksL_append, blksL_one] at hb
    rcases List.mem_append.1 hb with hb | hb
    · exact h.new b hb
    · have := hF.new b hb; have := h.below.size; omega
  · rw [blksL_append, blksL_one]
    have hg1 : ∀ b, b ∈ LT.blksL done ++ t'.blks → g' ≠ b := fun b hb e => by
      rcases hg' with rfl | rfl
      · rcases List.mem_append.1 hb with hb | hb
        · exact hgn (e ▸ hb)
        · exact htn b hb e.symm
      · rcases List.mem_append.1 hb with hb | hb
        · have := h.lt b hb; simp at e; omega
        · have := hF.tr.lt b hb; simp at e; omega
    refine List.nodup_cons.2 ⟨fun hm => hg1 g' hm rfl, List.nodup_append.2 ⟨(List.nodup_cons.1 h.nodup).2, hF.nodup, fun a ha b hb e => ?_⟩⟩
    have := h.lt a ha
    have := hF.new b hb
    omega
  · have hb1 : Below w'.heap.size w' w1 := h.below.trans (hF.below.mono h.below.size)
    exact (hb1.alloc hb1.size o).grown hg (by simp; have := hb1.size; omega) (fun k hk => by injection hk with hk; omega)
theorem CMade.start (w' : World) (kids : List LT) : CMade w' (w'.alloc (.cells #[] 36)) w'.heap.size 0 kids [] :=
  ⟨OwnR.empty w' _ (Nat.le_refl _), by simp, fun i h => by simp at h, fun b hb => by simp [LT.blksL] at hb, by simp [LT.blksL], (Below.refl _ _).alloc (Nat.le_refl _) _⟩

set_option maxHeartbeats 2000000 in
theorem copyAll (w : World) (B : Nat) (a : Option Addr) (cap : Nat) (kids : List LT) (hzk : LT.nodesL kids ≤ 2000000) (hl : kids.length ≤ 2000000) (hc : ∀ i (h : i < kids.length), ∃ x, a = some x ∧ x.block < B ∧ At5 w (x.add (i * 5)) kids[i]) (ih : ∀ i (h : i < kids.length), CopyC w B kids[i]) (w' : World) (hb : Below B w w') (hB : B ≤ w'.heap.size) :
    Calls Try.prog 52 #[.slice a kids.length cap] w' fun e w'' => ∃ g c done, e = .returned (.slice (some ⟨g, 0, none⟩) kids.length c) ∧ done.length = kids.length ∧ CMade w' w'' g c kids done := by
  obtain ⟨i0, hi0, hz0, hz1, hz2⟩ := info_parts infoV
  have HC := Lib.hid hc
  have IH := Lib.hid ih
  have HB := Lib.hid hb
  have HS := Lib.hid (CMade.start w' kids)
  have HZK := Lib.hid hzk
  clear hc ih hb hzk
  go_enter Try.func52, Try.ntmps52
  go_wp2_with fail
  go_loopw [3, 4] (fun v i wr => ∃ (j g c : Nat) (done : List LT), i = .int .i64 j ∧ j ≤ kids.length ∧ v = .slice (some ⟨g, 0, none⟩) j c ∧ Hid (done.length = j) ∧ w'.heap.size ≤ wr.heap.size ∧ Hid (CMade w' wr g c kids done)) (fun _ i _ => kids.length - (intOf i).toNat)
  case atStart => exact ⟨0, w'.heap.size, 0, [], rfl, by omega, rfl, rfl, by simp, HS⟩
  case round =>
    clear HS
    obtain ⟨j, g, c, done, rfl, hj, rfl, HD, hwz, HM⟩ := hrel
    by_cases hlt : j < kids.length
    · have hj0 : (0 : Int) ≤ (j : Int) := by omega
      have hj1 : (j : Int) < (kids.length : Int) := by omega
      obtain ⟨x, rfl, hx, h5⟩ := HC.out j hlt
      have hbr := HB.out.trans (HM.out.below.mono hB)
      obtain ⟨c0, c1, c2, c3, c4⟩ := h5.below (by rw [add_block]; exact hx) hbr
      have hkn := kid_nodes kids j hlt
      have C := IH.out j hlt (by have := HZK.out; omega) wr hbr (by omega)
      have HST : Hid (∀ w1 w3 g' c' t' o, Fresh wr w1 kids[j] t' → OwnR w3 w'.heap.size (.slice (some ⟨g', 0, none⟩) (j + 1) c') (done ++ [t']) → (w1.alloc o).grownBy w3 (some g) → (g' = g ∨ g' = (w1.alloc o).heap.size) → CMade w' w3 g' c' kids (done ++ [t'])) := by
        obtain rfl := HD.out
        exact fun w1 w3 g' c' t' o h1 h2 h3 h4 => HM.out.step hlt h1 h2 h3 h4
      have HRW : Hid (OwnR wr w'.heap.size (.slice (some ⟨g, 0, none⟩) j c) done) := by
        have := HM.out.row
        rw [HD.out] at this
        exact this
      have hgl : g < wr.heap.size := (HRW.out.lt g rfl).2
      generalize kids[j] = t at *
      have hrow : t.row = .slice t.a t.kids.length t.cap := rfl
      rw [hrow] at C c4
      replace C := Lib.hid C
      clear h5 hbr hkn HC IH HB hrow HM
      go_wp2_with fail
      with_reducible refine C.out.mono ?_
      rintro e w1 ⟨t', rfl, hF⟩
      have HF := Lib.hid hF
      have hz1' := Nat.le_trans hwz hF.below.size
      have HR1 : Hid (OwnR w1 w'.heap.size (.slice (some ⟨g, 0, none⟩) j c) done) := HRW.out.same (fun k hk => hF.below.block k (HRW.out.lt k hk).2)
      have HLT : Hid (∀ i (h : i < [t'].length), At5 (w1.alloc (.cells #[.int .i64 t'.k, .int .i64 t'.n, .int .i64 t'.e, .string t'.s, t'.row] 36)) ((⟨w1.heap.size, 0, none⟩ : Addr).add (i * 5)) [t'][i]) := fun i hi => by
        obtain rfl : i = 0 := by simp at hi; omega
        have hb := Box.new w1 t' 36
        rw [Nat.zero_mul, add0]
        exact ⟨hb.b0, hb.b1, hb.b2, hb.b3, hb.b4⟩
      have hrow' : t'.row = .slice t'.a t'.kids.length t'.cap := rfl
      rw [hrow'] at HLT ⊢
      clear C hF c0 c1 c2 c3 c4 HRW hrow'
      have HR2 := Lib.hid (HR1.out.same (w' := w1.alloc (.cells #[.int .i64 t'.k, .int .i64 t'.n, .int .i64 t'.e, .string t'.s, .slice t'.a t'.kids.length t'.cap] 36)) (fun k hk => Below.heap_alloc _ _ _ (HR1.out.lt k hk).2))
      go_wp2_with (at_builtin; refine wpList_appR (by rfl) _ _ (by rfl) Try.underlying34 i0 _ hi0 hz0 hz1 hz2 rfl w'.heap.size g c done [t'] j 1 HD.out rfl (by rfl) HR2.out ⟨w1.heap.size, 0, none⟩ 1 (by rfl) HLT.out (by omega) (by simp; omega) ?_; intro g' c' w3 ho3 hg3 hg3')
      have HM3 := Lib.hid (HST.out w1 w3 g' c' t' _ HF.out ho3 hg3 hg3')
      have hz3 : w'.heap.size ≤ w3.heap.size := by have := hg3.size; simp at this; omega
      have HD3 : Hid ((done ++ [t']).length = j + 1) := by unfold Hid; rw [List.length_append, HD.out]; rfl
      clear ho3 hg3 hg3' HST HR2 HLT HF HR1
      go_wp2
      go_roundw
      case rel => exact ⟨j + 1, g', c', done ++ [t'], by go_num, by omega, rfl, HD3, hz3, HM3⟩
      case measure => simp [intOf]; omega
    · have hj1 : ¬ (j : Int) < (kids.length : Int) := by omega
      have he : j = kids.length := by omega
      subst he
      clear HC IH HB
      go_wp2
      go_ret
      exact ⟨g, c, rfl, done, HD.out, HM.out⟩

/-- What l02Copy has made, behind its own stores. -/
theorem copy_own {w' wc w1 wf : World} {k n e : Int} {s : ByteArray} {a : Option Addr} {cap g c : Nat} {kids done : List LT} (hk : InI k) (hn : InI n) (he : InI e) (hs : s.size ≤ 9223372036854775807)
    (hwc : Below w'.heap.size w' wc) (hc3 : wc.heap.size = w'.heap.size + 3) (hm : CMade wc w1 g c kids done) (hd : done.length = kids.length)
    (hb : Below w'.heap.size w1 wf) (hk2 : ∀ b, b ≠ w'.heap.size + 1 → b ≠ w'.heap.size + 1 + 1 → wf.heap[b]? = w1.heap[b]?) :
    Fresh w' wf (.mk k n e s a cap kids) (.mk k n e s (some ⟨g, 0, none⟩) c done) := by
  have hgl := hm.row.lt g rfl
  have hg := hk2 g (by omega) (by omega)
  obtain ⟨⟨cs, hcs, hcz⟩, hb1, _, hlc, hcm, h5⟩ := hm.row.at5
  unfold maxLen at hcm
  refine ⟨?_, ?_, ?_, ?_, (hwc.trans (hm.below.mono (by omega))).trans hb⟩
  · simp only [er, erL_map]
    congr 1
    rw [hm.ers, hd, List.take_of_length_le (by omega)]
  · exact .mk cs hk hn he hs ⟨hlc, hcm⟩ (hg.trans hcs) hcz (fun i hi => (h5 i hi).of_block hg) (fun i hi => (hm.trs i hi).kept fun b hbb => hk2 b (by have := hm.new b (mem_blksL hi hbb); omega) (by have := hm.new b (mem_blksL hi hbb); omega))
  · intro b hbb
    rw [blks_some] at hbb
    rcases List.mem_cons.1 hbb with rfl | hbb
    · omega
    · have := hm.new b hbb; omega
  · rw [blks_some]
    exact hm.nodup

set_option maxHeartbeats 2000000 in
theorem copy_any {w : World} {B : Nat} {t : LT} (h : In w B t) : CopyC w B t := by
  induction h with
  | mk hk hn he hs hl hc hkids ih =>
    rename_i k n e s a cap kids
    intro hz w' hb hB
    have hzk : LT.nodesL kids ≤ 2000000 := by rw [LT.nodes] at hz; omega
    have hkl : kids.length ≤ 2000000 := by
      have : ∀ l : List LT, l.length ≤ LT.nodesL l := by
        intro l
        induction l with
        | nil => simp
        | cons t ts ih => rw [LT.nodesL, List.length_cons]; have := nodes_mk t; omega
      have := this kids
      omega
    have C := Lib.hid (fun w2 (h1 : Below B w w2) (h2 : B ≤ w2.heap.size) => copyAll w B a cap kids hzk hkl hc ih w2 h1 h2)
    have HH := Lib.hid (And.intro hk (And.intro hn (And.intro he (And.intro hs hl))))
    have HB := Lib.hid hb
    unfold LT.row
    simp only [LT.k, LT.n, LT.e, LT.s, LT.a, LT.cap, LT.kids]
    clear hc hkids ih hb hz hk hn he hs hl hzk
    go_enter Try.func41, Try.ntmps41
    go_wp2_with fail
    with_reducible refine (C.out _ (((HB.out.alloc hB _).alloc (by simp; omega) _).alloc (by simp; omega) _) (by simp; omega)).mono ?_
    rintro e1 w1 ⟨g, c, done, rfl, hd, hm⟩
    obtain ⟨t3, t1, t2⟩ := three w' (.cells #[.int .i64 k, .int .i64 n, .int .i64 e, .string s, .slice a kids.length cap] 36) (.cells #[.int .i64 0, .int .i64 0, .int .i64 0, .string ⟨#[]⟩, .slice none 0 0] 36) (.cells #[.int .i64 k, .int .i64 n, .int .i64 e, .string s, .slice a kids.length cap] 36)
    have HWC : Hid (Below w'.heap.size w' (((w'.alloc (.cells #[.int .i64 k, .int .i64 n, .int .i64 e, .string s, .slice a kids.length cap] 36)).alloc (.cells #[.int .i64 0, .int .i64 0, .int .i64 0, .string ⟨#[]⟩, .slice none 0 0] 36)).alloc (.cells #[.int .i64 k, .int .i64 n, .int .i64 e, .string s, .slice a kids.length cap] 36))) := (((Below.refl _ _).alloc (Nat.le_refl _) _).alloc (by simp) _).alloc (by simp; omega) _
    generalize (((w'.alloc (.cells #[.int .i64 k, .int .i64 n, .int .i64 e, .string s, .slice a kids.length cap] 36)).alloc (.cells #[.int .i64 0, .int .i64 0, .int .i64 0, .string ⟨#[]⟩, .slice none 0 0] 36)).alloc (.cells #[.int .i64 k, .int .i64 n, .int .i64 e, .string s, .slice a kids.length cap] 36)) = wc at *
    have HM := Lib.hid hm
    have r1 : w1.heap[w'.heap.size + 1]? = some (.cells #[.int .i64 0, .int .i64 0, .int .i64 0, .string ⟨#[]⟩, .slice none 0 0] 36 (0, 0)) := (hm.below.block _ (by omega)).trans t1
    have r2 : w1.heap[w'.heap.size + 1 + 1]? = some (.cells #[.int .i64 k, .int .i64 n, .int .i64 e, .string s, .slice a kids.length cap] 36 (0, 0)) := (hm.below.block _ (by omega)).trans t2
    clear hm t1 t2 C
    have f0 := fun o => frozen_of_row w1 _ o _ _ r1
    have f1 := fun o => frozen_of_row w1 _ o _ _ r2
    have d0 : w1.cell? ⟨w'.heap.size + 1, 0, none⟩ = some (.int .i64 0) := cell_of_row w1 _ 0 _ _ (0, 0) r1
    have d1 : w1.cell? ⟨w'.heap.size + 1, 1, none⟩ = some (.int .i64 0) := cell_of_row w1 _ 1 _ _ (0, 0) r1
    have d2 : w1.cell? ⟨w'.heap.size + 1, 2, none⟩ = some (.int .i64 0) := cell_of_row w1 _ 2 _ _ (0, 0) r1
    have d3 : w1.cell? ⟨w'.heap.size + 1, 3, none⟩ = some (.string ⟨#[]⟩) := cell_of_row w1 _ 3 _ _ (0, 0) r1
    have d4 : w1.cell? ⟨w'.heap.size + 1, 4, none⟩ = some (.slice none 0 0) := cell_of_row w1 _ 4 _ _ (0, 0) r1
    have g0 : w1.cell? ⟨w'.heap.size + 1 + 1, 0, none⟩ = some (.int .i64 k) := cell_of_row w1 _ 0 _ _ (0, 0) r2
    have g1 : w1.cell? ⟨w'.heap.size + 1 + 1, 1, none⟩ = some (.int .i64 n) := cell_of_row w1 _ 1 _ _ (0, 0) r2
    have g2 : w1.cell? ⟨w'.heap.size + 1 + 1, 2, none⟩ = some (.int .i64 e) := cell_of_row w1 _ 2 _ _ (0, 0) r2
    have g3 : w1.cell? ⟨w'.heap.size + 1 + 1, 3, none⟩ = some (.string s) := cell_of_row w1 _ 3 _ _ (0, 0) r2
    have g4 : w1.cell? ⟨w'.heap.size + 1 + 1, 4, none⟩ = some (.slice a kids.length cap) := cell_of_row w1 _ 4 _ _ (0, 0) r2
    clear r1 r2
    have HD := Lib.hid hd
    have HT3 := Lib.hid t3
    clear hd
    go_wp2
    refine bodyPost_ret (v := .agg #[.int .i64 k, .int .i64 n, .int .i64 e, .string s, .slice (some ⟨g, 0, none⟩) kids.length c]) (by simp [results, Try.results41, go_sem, d0, d1, d2, d3, d4]) rfl ?_
    have hF := copy_own (a := a) (cap := cap) HH.out.1 HH.out.2.1 HH.out.2.2.1 HH.out.2.2.2.1 HWC.out HT3.out HM.out HD.out (six_below w1 w'.heap.size (.slice (some ⟨g, 0, none⟩) kids.length c) (.int .i64 k) (.int .i64 n) (.int .i64 e) (.string s) (.slice (some ⟨g, 0, none⟩) kids.length c)) (six_other _ _ _ _ _ _ _ _)
    refine ⟨_, ?_, hF⟩
    show Ending.returned (.agg #[.int .i64 k, .int .i64 n, .int .i64 e, .string s, .slice (some ⟨g, 0, none⟩) kids.length c]) = .returned (.agg #[.int .i64 k, .int .i64 n, .int .i64 e, .string s, .slice (some ⟨g, 0, none⟩) done.length c])
    rw [HD.out]

end Go.Proofs.Ytdbkifndhkmfgaa.val
