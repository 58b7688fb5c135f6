/-
  What impl.Compare returns: the order of two values.
-/
import Derived.Deep.CutRange
import Derived.Test.YtlkfaehfkapfnaaCmpStack
namespace Go.Proofs.Ytlkfaehfkapfnaa.val
open Go.ChangeShapes Go.WideShapes Go.ChangeAt Go.RowKit
set_option maxRecDepth 100000

theorem cell_al {w : World} {a : Addr} {v : Value} (h : w.cell? a = some v) (o : Obj) : (w.alloc o).cell? a = some v := (World.cell?_of_block (Below.heap_alloc _ _ _ (World.block_lt_of_cell? w _ h))).trans h
theorem cell_al2 {w : World} {a : Addr} {v : Value} (h : w.cell? a = some v) (o o' : Obj) : ((w.alloc o).alloc o').cell? a = some v := cell_al (cell_al h o) o'
theorem infoP : (Try.prog.info? 56).map (fun i => (i.zero, i.size, i.bytes)) = some (some (.agg #[.slice none 0 0, .slice none 0 0]), 2, 48) := by kernel_rfl
theorem small_bytes48 {n : Nat} (h : n ≤ 2000000) : (n + 1 + 1) * 48 ≤ 140737488355328 := by omega
theorem cmp_cells {w1 wc : World} {g a b : Nat} {A B : Value} (h : wc = ((w1.setCell ⟨g, a, none⟩ A).setCell ⟨g, b, none⟩ B).drew) : ∀ k, k ≠ g → wc.heap[k]? = w1.heap[k]? := by
  subst h
  intro k hk
  show ((w1.setCell ⟨g, a, none⟩ A).setCell ⟨g, b, none⟩ B).heap[k]? = _
  rw [blk_other _ hk, blk_other _ hk]
theorem cell_two_new (w : World) (A B : Value) (T : TypeId) : ∀ j u, [A, B][j]? = some u → (w.alloc (.cells #[A, B] T)).cell? ((⟨w.heap.size, 0, none⟩ : Addr).add j) = some u := by
  intro j u hu
  have hb := heap_alloc_new w (.cells #[A, B] T)
  rw [add0, cell_of_row _ _ j _ _ (0, 0) hb, ← hu]
  simp
theorem cmp_after {w1 wc w3 : World} {g g1 n c : Nat} {o : Obj} (hK : ∀ k, k ≠ g → wc.heap[k]? = w1.heap[k]?) (hsz : wc.heap.size = w1.heap.size) (hg : (wc.alloc o).grownBy w3 (Value.slice (some ⟨g, 0, none⟩) n c).ownBlock) (hgl : g1 ≤ g) (hs : g1 ≤ w1.heap.size) : ∀ k, k < g1 → w3.heap[k]? = w1.heap[k]? := by
  intro k hk
  rw [hg.block k (by simp; omega) (by simp [Value.ownBlock]; omega), Below.heap_alloc _ _ _ (by omega)]
  exact hK k (by omega)
/-- Two values copied into boxes of their own. -/
structure CmpXY (wr wx : World) (y z : LT) (a b : Value) : Prop where
  ex : ∃ na nb, a = .pointer (some ⟨na, 0, none⟩) ∧ b = .pointer (some ⟨nb, 0, none⟩) ∧ Box wx na y ∧ Box wx nb z ∧ wr.heap.size ≤ na ∧ wr.heap.size ≤ nb
  low : Below wr.heap.size wr wx
theorem CmpXY.one {wr : World} {y z : LT} : CmpXY wr ((wr.alloc (.cells #[.int .i64 y.k, .int .i64 y.n, .int .i64 y.e, .string y.s, .slice y.a y.kids.length y.cap] 29)).alloc (.cells #[.int .i64 z.k, .int .i64 z.n, .int .i64 z.e, .string z.s, .slice z.a z.kids.length z.cap] 29)).drew y z (.pointer (some ⟨wr.heap.size, 0, none⟩)) (.pointer (some ⟨wr.heap.size + 1, 0, none⟩)) := by
  have h := Box2.new wr y z 29
  exact ⟨⟨_, _, rfl, rfl, h.b1.of_block rfl, h.b2.of_block rfl, Nat.le_refl _, Nat.le_succ _⟩, below_drew (((Below.refl _ _).alloc (Nat.le_refl _) _).alloc (by simp) _)⟩
theorem CmpXY.two {wr : World} {y z : LT} : CmpXY wr ((wr.alloc (.cells #[.int .i64 z.k, .int .i64 z.n, .int .i64 z.e, .string z.s, .slice z.a z.kids.length z.cap] 29)).alloc (.cells #[.int .i64 y.k, .int .i64 y.n, .int .i64 y.e, .string y.s, .slice y.a y.kids.length y.cap] 29)).drew y z (.pointer (some ⟨wr.heap.size + 1, 0, none⟩)) (.pointer (some ⟨wr.heap.size, 0, none⟩)) := by
  have h := Box2.new wr z y 29
  exact ⟨⟨_, _, rfl, rfl, h.b2.of_block rfl, h.b1.of_block rfl, Nat.le_succ _, Nat.le_refl _⟩, below_drew (((Below.refl _ _).alloc (Nat.le_refl _) _).alloc (by simp) _)⟩
theorem cmp_facts (n c : Nat) (hb : n ≤ 2000000) (hc : n + 1 ≤ c) : wrap64 (n : Int) = (n : Int) ∧ (0 : Int) ≤ (n : Int) ∧ (n : Int) < ((n + 1 : Nat) : Int) ∧ (n : Int) ≤ (c : Int) := ⟨wrap_small n hb, by omega, by omega, by omega⟩

set_option maxHeartbeats 4000000 in
theorem impl_cmp {w : World} {x u : LT} (hx : Mine w x) (hu : Mine w u) (hzx : x.nodes ≤ 2000000) (hzu : u.nodes ≤ 2000000) :
    Calls Try.prog 15 #[.agg #[.int .i64 x.k, .int .i64 x.n, .int .i64 x.e, .string x.s, x.row], .agg #[.int .i64 u.k, .int .i64 u.n, .int .i64 u.e, .string u.s, u.row]] w fun e w' => e = .returned (.int .i64 (cmpV (er x) (er u))) ∧ Below w.heap.size w w' := by
  have hrx : x.row = .slice x.a x.kids.length x.cap := rfl
  have hru : u.row = .slice u.a u.kids.length u.cap := rfl
  simp only [hrx, hru]
  have FX : Hid (∀ W, Below w.heap.size w W → Calls Try.prog 42 #[.agg #[.int .i64 x.k, .int .i64 x.n, .int .i64 x.e, .string x.s, .slice x.a x.kids.length x.cap]] W fun e w' => e = .returned (.agg #[.int .i64 x.k, .int .i64 x.n, .int .i64 x.e, .string x.s, .slice x.a x.kids.length x.cap]) ∧ Below W.heap.size W w') := fun W hb => fin_run hx hzx hb
  have FU : Hid (∀ W, Below w.heap.size w W → Calls Try.prog 42 #[.agg #[.int .i64 u.k, .int .i64 u.n, .int .i64 u.e, .string u.s, .slice u.a u.kids.length u.cap]] W fun e w' => e = .returned (.agg #[.int .i64 u.k, .int .i64 u.n, .int .i64 u.e, .string u.s, .slice u.a u.kids.length u.cap]) ∧ Below W.heap.size W w') := fun W hb => fin_run hu hzu hb
  clear hrx hru
  obtain ⟨R, hR⟩ : ∃ R, R = cmpV (er x) (er u) := ⟨_, rfl⟩
  rw [← hR]
  have HB0 : Hid (Below w.heap.size w ((w.alloc (.cells #[.int .i64 x.k, .int .i64 x.n, .int .i64 x.e, .string x.s, .slice x.a x.kids.length x.cap] 29)).alloc (.cells #[.int .i64 u.k, .int .i64 u.n, .int .i64 u.e, .string u.s, .slice u.a u.kids.length u.cap] 29)).drew) := below_drew (((Below.refl _ _).alloc (Nat.le_refl _) _).alloc (by simp) _)
  have HK0 : Hid (∀ w1, Below ((w.alloc (.cells #[.int .i64 x.k, .int .i64 x.n, .int .i64 x.e, .string x.s, .slice x.a x.kids.length x.cap] 29)).alloc (.cells #[.int .i64 u.k, .int .i64 u.n, .int .i64 u.e, .string u.s, .slice u.a u.kids.length u.cap] 29)).drew.heap.size ((w.alloc (.cells #[.int .i64 x.k, .int .i64 x.n, .int .i64 x.e, .string x.s, .slice x.a x.kids.length x.cap] 29)).alloc (.cells #[.int .i64 u.k, .int .i64 u.n, .int .i64 u.e, .string u.s, .slice u.a u.kids.length u.cap] 29)).drew w1 → Below w.heap.size w w1 ∧ w.heap.size + 2 ≤ w1.heap.size ∧ Box w1 (w.heap.size + 1) u ∧ ∀ o, Box (w1.alloc o) (w.heap.size + 1) u) := fun w1 hb => by
    have hs : ((w.alloc (.cells #[.int .i64 x.k, .int .i64 x.n, .int .i64 x.e, .string x.s, .slice x.a x.kids.length x.cap] 29)).alloc (.cells #[.int .i64 u.k, .int .i64 u.n, .int .i64 u.e, .string u.s, .slice u.a u.kids.length u.cap] 29)).drew.heap.size = w.heap.size + 2 := by show ((w.alloc _).alloc _).heap.size = _; simp
    have h1 := hb.size
    have hx : Box w1 (w.heap.size + 1) u := ((Box2.new w x u 29).b2.of_block (w' := ((w.alloc (.cells #[.int .i64 x.k, .int .i64 x.n, .int .i64 x.e, .string x.s, .slice x.a x.kids.length x.cap] 29)).alloc (.cells #[.int .i64 u.k, .int .i64 u.n, .int .i64 u.e, .string u.s, .slice u.a u.kids.length u.cap] 29)).drew) rfl).of_block (hb.block _ (by rw [hs]; omega))
    exact ⟨HB0.out.trans (hb.mono (by rw [hs]; omega)), by omega, hx, fun o => hx.of_block (Below.heap_alloc _ _ _ hx.lt)⟩
  go_enter Try.func15, Try.ntmps15
  go_upto_region 1 with fail
  go_cut [5] from 10 (fun v wx => CmpAt w wx x u v)
  case first =>
    obtain ⟨W0, hW0⟩ : ∃ W0, W0 = (w.alloc (.cells #[.int .i64 x.k, .int .i64 x.n, .int .i64 x.e, .string x.s, .slice x.a x.kids.length x.cap] 29)).alloc (.cells #[.int .i64 u.k, .int .i64 u.n, .int .i64 u.e, .string u.s, .slice u.a u.kids.length u.cap] 29) := ⟨_, rfl⟩
    rw [← hW0]
    rw [← hW0] at HB0 HK0
    obtain ⟨⟨p0, p1, p2, p3, p4⟩, ⟨q0, q1, q2, q3, q4⟩⟩ : Box2 W0 w.heap.size x u := by subst hW0; exact Box2.new w x u 29
    unfold LT.row at p4 q4
    clear hW0 hx hu hzx hzu
    have CX := Lib.hid (FX.out W0.drew HB0.out)
    clear FX
    go_region_with (first
    | (go_at_call 42; refine CX.out.mono ?_; rintro e w1 ⟨rfl, hb1⟩
       obtain ⟨hl1, hz1, ⟨q0, q1, q2, q3, q4⟩, hq⟩ := HK0.out w1 hb1
       have r0 := fun o => (hq o).b0
       have r1 := fun o => (hq o).b1
       have r2 := fun o => (hq o).b2
       have r3 := fun o => (hq o).b3
       have r4 := fun o => (hq o).b4
       unfold LT.row at q4 r4
       have HL1 := Lib.hid hl1
       have HL1a := Lib.hid (hl1.alloc (Nat.le_of_succ_le (Nat.le_of_succ_le hz1)) (.cells #[.int .i64 x.k, .int .i64 x.n, .int .i64 x.e, .string x.s, .slice x.a x.kids.length x.cap] 29))
       have HZ1 := Lib.hid hz1
       have CU := Lib.hid (FU.out w1 hl1)
       have CUa := Lib.hid (FU.out _ HL1a.out)
       clear hb1 hq hl1 hz1 CX)
    | (go_at_call 42; refine CU.out.mono ?_; rintro e w2 ⟨rfl, hb2⟩; have HB2 := Lib.hid hb2; clear hb2)
    | (go_at_call 42; refine CUa.out.mono ?_; rintro e w2 ⟨rfl, hb2⟩; have HB2 := Lib.hid hb2; clear hb2))
    all_goals
      go_wp2_with fail
      go_meet
      case rel => first | exact cmpA HL1.out HZ1.out HB2.out | exact cmpB HL1.out HZ1.out HB2.out | exact cmpC HL1.out HZ1.out HB2.out
  case rest =>
    obtain ⟨⟨na, nb, g1, rfl, bxa, bxb, hg1, h1, h2, h3, h4⟩, hlow⟩ := hcut
    have HS := Lib.hid (CmpRel.start hx.isIn hu.isIn bxa bxb hg1 hlow)
    have HN : Hid (x.nodes + 1 ≤ 2000001) := Nat.succ_le_succ hzx
    have HNA := Lib.hid (And.intro h1 (And.intro h2 (And.intro h3 h4)))
    rw [← hR] at HS
    clear hR
    clear HB0 HK0 FX FU hx hu hzx hzu bxa bxb hg1 hlow h1 h2 h3 h4
    go_wp2
    go_loopw [5] (fun v wr => ∃ k, CmpFar w wr na nb g1 (x.nodes + 1) R v k) (fun v wr => leastOf (CmpFar w wr na nb g1 (x.nodes + 1) R v))
    case atStart => exact ⟨_, _, HS.out, rfl⟩
    case round =>
      clear HS
      obtain ⟨st, Rl, hlk⟩ := CmpFar.least hrel
      have HL := Lib.hid hlk
      clear hlk hrel
      cases st with
      | nil =>
        obtain ⟨a, c, rfl, _, _, _⟩ := row_shape Rl.own
        have HR : Hid (R = 0) := Rl.eq
        have HB := Lib.hid Rl.low
        clear Rl
        go_wp2
        go_ret
        exact ⟨by rw [HR.out]; rfl, HB.out⟩
      | cons s rest =>
        obtain ⟨a, c, hv, hc1, hc2, hg⟩ := row_shape Rl.own
        simp only [List.length_cons] at hv hc1 hg
        subst hv
        obtain ⟨g, rfl, hgl, hgs⟩ := hg (Nat.succ_pos _)
        have hrb : rest.length ≤ 2000000 := by have h5 := Rl.few; simp only [List.length_cons] at h5; have := HN.out; omega
        obtain ⟨hwr, hd0, hd1, hd2⟩ := cmp_facts rest.length c hrb hc1
        have hca : wr.cell? ⟨g, rest.length * 2, none⟩ = some s.a.enc := row_cell Rl.own _ (by rw [encs2_cons, List.getElem?_append_right (by rw [encs2_len]; exact Nat.le_refl _), encs2_len]; simp [encP])
        have hcb : wr.cell? ⟨g, rest.length * 2 + 1, none⟩ = some s.b.enc := row_cell Rl.own _ (by rw [encs2_cons, List.getElem?_append_right (by rw [encs2_len]; exact Nat.le_succ _), encs2_len]; simp [encP])
        obtain ⟨⟨pa, ca, ts⟩, ⟨pb, cb, us⟩⟩ := s
        have hlen := Rl.len _ (List.mem_cons_self ..)
        simp only at hlen
        unfold Seg.enc at hca hcb
        simp only at hca hcb
        cases ts with
        | nil =>
          have HR := Lib.hid (Rl.pop rfl)
          have HL2 : Hid (2 * remN rest + rest.length < leastOf (CmpFar w wr na nb g1 (x.nodes + 1) R (Value.slice (some ⟨g, 0, none⟩) (rest.length + 1) c))) := by
            unfold Hid
            have := HL.out
            simp only [List.length_cons, remN, LT.nodesL] at this
            rw [this]
            omega
          simp only [List.length_nil] at hca
          clear Rl HL hc1 hc2 hg hgl hgs hrb hlen hcb
          go_wp2
          exact ⟨⟨_, _, HR.out, rfl⟩, CmpFar.less HR.out HL2.out⟩
        | cons y ts =>
          cases us with
          | nil => simp at hlen
          | cons z us =>
            have hA := Rl.sa _ (List.mem_cons_self ..)
            have hB := Rl.sb _ (List.mem_cons_self ..)
            obtain ⟨p, hp, _, h5⟩ := hA.at5 0 (by simp)
            obtain ⟨q, hq, _, h6⟩ := hB.at5 0 (by simp)
            simp only at hp hq
            subst hp hq
            have e0 : p.add (0 * 5) = p := by unfold Addr.add; simp
            have e1 : q.add (0 * 5) = q := by unfold Addr.add; simp
            rw [e0] at h5
            rw [e1] at h6
            simp only [List.getElem_cons_zero] at h5 h6
            obtain ⟨c0, c1, c2, c3, c4⟩ := h5
            obtain ⟨d0, d1, d2, d3, d4⟩ := h6
            unfold LT.row at c4 d4
            simp only [List.length_cons] at hca hcb
            have hla : (0 : Int) < ((ts.length + 1 : Nat) : Int) := Int.ofNat_lt.2 (Nat.succ_pos _)
            have hlb : (0 : Int) < ((us.length + 1 : Nat) : Int) := Int.ofNat_lt.2 (Nat.succ_pos _)
            have HRl := Lib.hid Rl
            have HRB := Lib.hid hrb
            have HGS := Lib.hid hgs
            have HGL := Lib.hid hgl
            have hla0 : (((ts.length + 1 : Nat) : Int) == 0) = false := by rw [beq_eq_false_iff_ne]; exact Int.ne_of_gt hla
            clear Rl hc1 hc2 hg hgl hgs hrb hlen hA hB e0 e1
            go_upto_region 6 with fail
            go_cut [7, 8] from 37 to 48 (fun a b wx => CmpXY wr wx y z a b)
            case first =>
              clear HL HRl
              have hcaa := cell_al hca
              have hcab := cell_al2 hca
              have hcba := cell_al hcb
              have hcbb := cell_al2 hcb
              have c0a := cell_al c0
              have c0b := cell_al2 c0
              have c1a := cell_al c1
              have c1b := cell_al2 c1
              have c2a := cell_al c2
              have c2b := cell_al2 c2
              have c3a := cell_al c3
              have c3b := cell_al2 c3
              have c4a := cell_al c4
              have c4b := cell_al2 c4
              have d0a := cell_al d0
              have d0b := cell_al2 d0
              have d1a := cell_al d1
              have d1b := cell_al2 d1
              have d2a := cell_al d2
              have d2b := cell_al2 d2
              have d3a := cell_al d3
              have d3b := cell_al2 d3
              have d4a := cell_al d4
              have d4b := cell_al2 d4
              go_region
              all_goals
                go_wp2_with fail
                go_meet
                case rel => first | exact CmpXY.one | exact CmpXY.two
            case rest =>
              obtain ⟨⟨my, mz, rfl, rfl, by1, bz1, hmy, hmz⟩, hlow⟩ := hcut
              have HMM := Lib.hid (And.intro hmy hmz)
              clear hmy hmz
              have HBY := Lib.hid (And.intro by1 bz1)
              have HLO := Lib.hid hlow
              obtain ⟨k0, k1, k2, k3, k4⟩ := by1
              obtain ⟨l0, l1, l2, l3, l4⟩ := bz1
              unfold LT.row at k4 l4
              rename_i wx _ _ _ _ _ _
              have CF := Lib.hid (fun W => fields_any y z W)
              unfold LT.row at CF
              clear hlow hca hcb c0 c1 c2 c3 c4 d0 d1 d2 d3 d4
              go_wp2_with fail
              with_reducible refine (CF.out _).mono ?_
              rintro e w1 ⟨rfl, hb1⟩
              by_cases hc0 : cmpF y z = 0
              · have HB1 : Hid (Below wr.heap.size wr w1) := HLO.out.trans (hb1.mono HLO.out.size)
                have HR1 := Lib.hid (HRl.out.kept HB1.out HNA.out.2.2.1 HNA.out.2.2.2)
                have ky := (HBY.out.1.behind hb1).b4
                have kz := (HBY.out.2.behind hb1).b4
                unfold LT.row at ky kz
                have hca : w1.cell? ⟨g, rest.length * 2, none⟩ = some (.slice (some p) (ts.length + 1) ca) := row_cell HR1.out.own _ (by rw [encs2_cons, List.getElem?_append_right (by rw [encs2_len]; exact Nat.le_refl _), encs2_len]; simp [encP, Seg.enc])
                have hcb : w1.cell? ⟨g, rest.length * 2 + 1, none⟩ = some (.slice (some q) (us.length + 1) cb) := row_cell HR1.out.own _ (by rw [encs2_cons, List.getElem?_append_right (by rw [encs2_len]; exact Nat.le_succ _), encs2_len]; simp [encP, Seg.enc])
                have hfa : w1.frozen? ⟨g, rest.length * 2, none⟩ = false := World.ownsRow.frozenAt HR1.out.own _
                have hfb : w1.frozen? ⟨g, rest.length * 2 + 1, none⟩ = false := World.ownsRow.frozenAt HR1.out.own _
                rw [hc0]
                clear hb1 HBY HLO k0 k1 k2 k3 k4 l0 l1 l2 l3 l4 CF
                go_upto_region 10 with fail
                go_cut [9] from 55 to 70 (fun _ wx => wx = ((w1.setCell ⟨g, rest.length * 2, none⟩ (.slice (some (tl p ca)) ts.length (ca - 1))).setCell ⟨g, rest.length * 2 + 1, none⟩ (.slice (some (tl q cb)) us.length (cb - 1))).drew)
                case first =>
                  clear HL HRl HR1 HB1
                  by_cases h1 : ca = 1 <;> by_cases h2 : cb = 1
                  all_goals
                    try subst h1
                    try subst h2
                    go_region
                    all_goals
                      go_wp2_with fail
                      go_meet
                      case rel => simp [tl, *]
                case rest =>
                  obtain ⟨i2, hi2, hy0, hy1, hy2⟩ := info_parts infoP
                  have HI2 := Lib.hid (And.intro hi2 (And.intro hy0 (And.intro hy1 hy2)))
                  clear hi2 hy0 hy1 hy2
                  have HK := Lib.hid (cmp_cells hcut)
                  have HO : Hid (wc.ownsRow g1 56 2 (.slice (some ⟨g, 0, none⟩) (rest.length + 1) c) (rest.length + 1) (encs2 (⟨⟨some (tl p ca), ca - 1, ts⟩, ⟨some (tl q cb), cb - 1, us⟩⟩ :: rest))) := by rw [hcut]; exact HR1.out.cut
                  have HSZ : Hid (wc.heap.size = w1.heap.size) := by unfold Hid; rw [hcut]; exact (set_size _).trans (set_size _)
                  have HOS : Hid (wc.os = w1.os ∧ wc.tape = w1.tape ∧ wc.output = w1.output) := by rw [hcut]; exact ⟨rfl, rfl, rfl⟩
                  have ky1 : wc.cell? ⟨my, 4, none⟩ = some (.slice y.a y.kids.length y.cap) := (World.cell?_of_block (a := ⟨my, 4, none⟩) (HK.out my (Nat.ne_of_gt (Nat.lt_of_lt_of_le HGS.out HMM.out.1)))).trans ky
                  have kz1 : wc.cell? ⟨mz, 4, none⟩ = some (.slice z.a z.kids.length z.cap) := (World.cell?_of_block (a := ⟨mz, 4, none⟩) (HK.out mz (Nat.ne_of_gt (Nat.lt_of_lt_of_le HGS.out HMM.out.2)))).trans kz
                  have hk1 : rest.length + 1 + 1 ≤ maxLen := small_len HRB.out
                  have hk2 : (rest.length + 1 + 1) * 48 ≤ 140737488355328 := small_bytes48 HRB.out
                  have hk3 : ∀ o, g1 ≤ (wc.alloc o).heap.size := fun o => by rw [World.size_alloc, HSZ.out]; exact Nat.le_succ_of_le HR1.out.size
                  clear hcut hca hcb hfa hfb ky kz
                  go_wp2_with (at_builtin; refine wpList_append_own _ rfl _ _ 57 rfl g1 56 i2 (.agg #[.slice none 0 0, .slice none 0 0]) 2 48 Try.underlying57 HI2.out.1 HI2.out.2.1 HI2.out.2.2.1 HI2.out.2.2.2 rfl (by decide) _ _ _ rfl (World.ownsRow.alloc HO.out _) ⟨wc.heap.size, 0, none⟩ 1 1 [.slice y.a y.kids.length y.cap, .slice z.a z.kids.length z.cap] rfl rfl (cell_two_new _ _ _ _) (by simp [Value.oneCell']) hk1 hk2 (hk3 _) ?_; intro v' w3 hown' hgrow _)
                  have hK3 := cmp_after HK.out HSZ.out hgrow HGL.out HR1.out.size
                  have hs3 : w1.heap.size ≤ w3.heap.size := by have h := hgrow.size; rw [World.size_alloc, HSZ.out] at h; exact Nat.le_of_succ_le h
                  have hb3 : Below w.heap.size w1 w3 := ⟨hgrow.os.trans HOS.out.1, hgrow.tape.trans HOS.out.2.1, hgrow.output.trans HOS.out.2.2, hs3, fun k hk => hK3 k (Nat.lt_of_lt_of_le hk (Nat.le_of_lt (Nat.lt_of_le_of_lt HNA.out.1 HNA.out.2.2.1)))⟩
                  have hR := HR1.out.push hc0 hb3 (hK3 na HNA.out.2.2.1) (hK3 nb HNA.out.2.2.2) hown' hs3
                  exact ⟨⟨_, _, hR, rfl⟩, CmpFar.less hR (by rw [HL.out]; exact far_cmp _ _ _ _)⟩
              · have HR : Hid (R = cmpF y z) := by unfold Hid; rw [HRl.out.eq]; exact remC_stop rfl rfl hc0 rest
                have HB := Lib.hid ((HRl.out.low.trans (HLO.out.mono HRl.out.low.size)).trans (hb1.mono (Nat.le_trans HRl.out.low.size HLO.out.size)))
                have hc1 : (cmpF y z != 0) = true := by simp [hc0]
                clear hb1 HBY HLO HRl HL k0 k1 k2 k3 k4 l0 l1 l2 l3 l4
                generalize cmpF y z = C at *
                go_wp2
                go_ret
                exact ⟨by rw [HR.out]; rfl, HB.out⟩

end Go.Proofs.Ytlkfaehfkapfnaa.val
