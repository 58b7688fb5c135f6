/-
  impl's reader of CBOR: values one behind the other.
-/
import Derived.Test.YtnaghafmpncdkaaDoorGetCborJ33
namespace Go.Proofs.YtnaghafmpncdkaaDoor.cbor
open Go.ChangeShapes Go.WideShapes Go.ChangeAt Go.RowKit
open Go.Proofs.YtnaghafmpncdkaaDoor.val Go.Proofs.YtnaghafmpncdkaaDoor.head
set_option maxRecDepth 100000

theorem only_young {W w1 w2 : World} {b g : Nat} (h : W.grownBy w1 (some b)) (k : w1.grownBy w2 (some g)) (hg : W.heap.size ≤ g) : W.grownBy w2 (some b) :=
  ⟨k.os.trans h.os, k.tape.trans h.tape, k.output.trans h.output, Nat.le_trans h.size k.size, fun x hx hn => (k.block x (Nat.lt_of_lt_of_le hx h.size) (fun e => by injection e with e; omega)).trans (h.block x hx hn)⟩
/-- The values read so far, in a row of their own. -/
structure KMade (W wr : World) (b g c : Nat) (done : List LT) : Prop where
  row : OwnR wr W.heap.size (.slice (some ⟨g, 0, none⟩) done.length c) done
  trs : ∀ i (h : i < done.length), Tr wr done[i]
  new : ∀ k, k ∈ LT.blksL done → W.heap.size ≤ k
  nodup : (g :: LT.blksL done).Nodup
  only : W.grownBy wr (some b)
theorem blksL_append (a b : List LT) : LT.blksL (a ++ b) = LT.blksL a ++ LT.blksL b := by
  induction a with
  | nil => rw [LT.blksL]; rfl
  | cons t ts ih => rw [List.cons_append, LT.blksL, LT.blksL, ih, List.append_assoc]
theorem blksL_one (t : LT) : LT.blksL [t] = t.blks := by rw [LT.blksL, LT.blksL, List.append_nil]
theorem KMade.lt {W wr : World} {b g c : Nat} {done : List LT} (h : KMade W wr b g c done) : ∀ k, k ∈ LT.blksL done → k < wr.heap.size := fun k hk => by
  obtain ⟨i, hi, hbb⟩ := mem_blksL_iff hk
  exact (h.trs i hi).lt k hbb
/-- The row behind the reading of one value more. -/
theorem KMade.behind {W wr w1 : World} {b g c : Nat} {done : List LT} (h : KMade W wr b g c done) (hb : b < W.heap.size) (hg : wr.grownBy w1 (some b)) : OwnR w1 W.heap.size (.slice (some ⟨g, 0, none⟩) done.length c) done :=
  h.row.same fun k hk => by
    have := h.row.lt k hk
    exact hg.block k this.2 (fun e => by injection e with e; omega)
theorem KMade.step {W wr w1 w3 : World} {b g c g' c' : Nat} {done : List LT} {t' : LT} {o : Obj} (h : KMade W wr b g c done) (hb : b < W.heap.size) (hF : FreshO wr w1 b t')
    (ho : OwnR w3 W.heap.size (.slice (some ⟨g', 0, none⟩) (done.length + 1) c') (done ++ [t'])) (hg : (w1.alloc o).grownBy w3 (some g)) (hg' : g' = g ∨ g' = (w1.alloc o).heap.size) : KMade W w3 b g' c' (done ++ [t']) := by
  have hgl := (h.row.lt g rfl)
  have hz0 := h.only.size
  have hzF := hF.only.size
  have hk : ∀ k, k < w1.heap.size → k ≠ g → w3.heap[k]? = w1.heap[k]? := fun k hk hne => by
    rw [hg.block k (by simp; omega) (fun e => hne (by injection e)), Below.heap_alloc _ _ _ hk]
  have hk1 : ∀ k, k < wr.heap.size → k ≠ b → w1.heap[k]? = wr.heap[k]? := fun k h1 h2 => hF.only.block k h1 (fun e => h2 (by injection e))
  have hgn : g ∉ LT.blksL done := (List.nodup_cons.1 h.nodup).1
  have htn : ∀ k, k ∈ t'.blks → k ≠ g := fun k hk e => by have := hF.new k hk; omega
  refine ⟨by rw [List.length_append]; exact ho, ?_, ?_, ?_, ?_⟩
  · intro i hi
    rw [List.length_append, List.length_singleton] at hi
    by_cases hd : i < done.length
    · rw [List.getElem_append_left hd]
      refine ((h.trs i hd).kept (w' := w1) fun k hkk => ?_).kept fun k hkk => hk k ?_ (fun e => hgn (e ▸ mem_blksL hd hkk))
      · have h1 := (h.trs i hd).lt k hkk
        have h2 := h.new k (mem_blksL hd hkk)
        exact hk1 k h1 (by omega)
      · have := (h.trs i hd).lt k hkk; omega
    · have e : i = done.length := by omega
      subst e
      rw [List.getElem_append_right (Nat.le_refl _)]
      simp only [Nat.sub_self, List.getElem_cons_zero]
      exact hF.tr.kept fun k hkk => hk k (hF.tr.lt k hkk) (htn k hkk)
  · intro k hkk
    rw [blksL_append, blksL_one] at hkk
    rcases List.mem_append.1 hkk with h1 | h1
    · exact h.new k h1
    · have := hF.new k h1; omega
  · rw [blksL_append, blksL_one]
    have hg1 : ∀ k, k ∈ LT.blksL done ++ t'.blks → g' ≠ k := fun k hkk e => by
      rcases hg' with rfl | rfl
      · rcases List.mem_append.1 hkk with h1 | h1
        · exact hgn (e ▸ h1)
        · exact htn k h1 e.symm
      · rcases List.mem_append.1 hkk with h1 | h1
        · have := h.lt k h1; simp at e; omega
        · have := hF.tr.lt k h1; simp at e; omega
    refine List.nodup_cons.2 ⟨fun hm => hg1 g' hm rfl, List.nodup_append.2 ⟨(List.nodup_cons.1 h.nodup).2, hF.nodup, fun x hx y hy e => ?_⟩⟩
    have := h.lt x hx
    have := hF.new y hy
    omega
  · exact only_young (only_below (only_trans h.only hF.only) ((Below.refl _ w1).alloc (Nat.le_refl _) o)) hg (by omega)
theorem KMade.start (W : World) (b : Nat) : KMade W (W.alloc (.cells #[] 24)) b W.heap.size 0 [] :=
  ⟨OwnR.empty W _ (Nat.le_refl _), fun i h => by simp at h, fun k hk => by simp [LT.blksL] at hk, by simp [LT.blksL], only_of ((Below.refl _ _).alloc (Nat.le_refl _) _)⟩
theorem OwnR.mono {w : World} {base base' : Nat} {v : Value} {l : List LT} (h : OwnR w base v l) (hb : base' ≤ base) : OwnR w base' v l := by
  obtain ⟨h1, h2⟩ := h
  refine ⟨h1, ?_⟩
  rcases h2 with h2 | ⟨g, cap, cur, h2, h3, h4⟩
  · exact .inl h2
  · exact .inr ⟨g, cap, cur, h2, Nat.le_trans hb h3, h4⟩
theorem KMade.out {W w' : World} {b g c : Nat} {done : List LT} {o : Obj} (h : KMade (W.alloc o) w' b g c done) : KMade W w' b g c done :=
  ⟨OwnR.mono h.row (by simp), h.trs, fun k hk => by have := h.new k hk; simp at this; omega, h.nodup, only_out h.only⟩
def lenOf : Value → Nat
  | .slice _ n _ => n
  | _ => 0
theorem szL_snoc (l : List LT) (t : LT) : LT.szL (l ++ [t]) = LT.szL l + 1 + t.sz := by
  induction l with
  | nil => simp [LT.szL]
  | cons x l ih => rw [List.cons_append, LT.szL, LT.szL, ih]; omega
/-- A number read has no other fields; a list read has none of its own. -/
def IntP : VT → Prop
  | .mk k _ e s l => k = 3 → e = 0 ∧ s = ⟨#[]⟩ ∧ l = []
def ListP : VT → Prop
  | .mk k n e s l => k = 7 → n = 0 ∧ e = 0 ∧ s = ⟨#[]⟩ ∧ ∀ x ∈ l, IntP x
/-- What getValue returns, from i with c values begun. -/
structure GRet (W w' : World) (b : Nat) (s : ByteArray) (i c : Nat) (e : Ending) : Prop where
  ex : ∃ (t : LT) (J : Int) (c' : Nat) (bad : Bool), e = .returned (.agg #[.int .i64 t.k, .int .i64 t.n, .int .i64 t.e, .string t.s, t.row]) ∧ FreshO W w' b t ∧ CR w' b s J bad c' ∧ Got s i c (er t) J.toNat c' bad ∧
    (bad = false → (i : Int) < J ∧ J ≤ s.size ∧ (t.sz : Int) + 1 ≤ J - i ∧ c < c' ∧ c' ≤ Lim ∧ IntP (er t) ∧ ListP (er t))
/-- getValue's contract where so many values may still be begun. -/
def GV (K : Nat) : Prop := ∀ (W : World) (b : Nat) (s : ByteArray) (i c : Nat), s.size ≤ 1048576 → i ≤ s.size → c ≤ Lim → Lim ≤ c + K → CR W b s i false c → simpTab.Tab W → 0 ≠ b →
  Calls Tryd.prog 27 #[.pointer (some ⟨b, 0, none⟩)] W fun e w' => GRet W w' b s i c e
/-- What getKids returns. -/
structure KRet (W w' : World) (b : Nat) (s : ByteArray) (i c N : Nat) (e : Ending) : Prop where
  ex : (∃ (g cap : Nat) (done : List LT) (J c' : Nat), e = .returned (.slice (some ⟨g, 0, none⟩) N cap) ∧ done.length = N ∧ KMade W w' b g cap done ∧ CR w' b s J false c' ∧ Many s i c (done.map er) J c' false ∧ i ≤ J ∧ J ≤ s.size ∧ LT.szL done ≤ J - i ∧ c ≤ c' ∧ c' ≤ Lim ∧ ∀ x ∈ done, IntP (er x)) ∨
    (∃ (J : Int) (j c' : Nat) (l : List VT), e = .returned (.slice none 0 0) ∧ CRet W w' b s J true c' ∧ Many s i c l j c' true ∧ l.length ≤ N)
set_option maxHeartbeats 4000000 in
theorem kids_any {K : Nat} (HG : GV K) (W : World) (b : Nat) (s : ByteArray) (i c m n e N : Nat) (hs : s.size ≤ 1048576) (hi : i ≤ s.size) (hc : c ≤ Lim) (hK : Lim ≤ c + K) (h : CR W b s i false c) (hT : simpTab.Tab W) (hb : 0 ≠ b)
    (hn : n ≤ 300) (he : (e = 1 ∧ N = n) ∨ (e = 2 ∧ N = 2 * n)) :
    Calls Tryd.prog 82 #[.pointer (some ⟨b, 0, none⟩), .agg #[.int .i64 m, .int .u64 n, .bool false], .int .u64 e] W fun r w' => KRet W w' b s i c N r := by
  have hlt := h.lt
  have HGG := Lib.hid HG
  have HH := Lib.hid (Hd.new W m n false)
  have HA := Lib.hid (h.alloc (.cells #[.int .i64 m, .int .u64 n, .bool false] 87))
  have hnn : ¬ (300 : Int) < (n : Int) := by omega
  have HS0 := Lib.hid (KMade.start (W.alloc (.cells #[.int .i64 m, .int .u64 n, .bool false] 87)) b)
  have HT := Lib.hid (hT.alloc (.cells #[.int .i64 m, .int .u64 n, .bool false] 87))
  have hN : N ≤ 600 := by omega
  obtain ⟨i0, hi0, hz0, hz1, hz2⟩ := info_parts infoV
  clear HG h hT
  rcases he with ⟨rfl, hNn⟩ | ⟨rfl, hNn⟩
  all_goals
    go_enter Tryd.func82, Tryd.ntmps82
    go_wp2_with fail
    generalize hW0 : W.alloc (.cells #[.int .i64 m, .int .u64 n, .bool false] 87) = W0 at *
    have hz00 : W0.heap.size = W.heap.size + 1 := by rw [← hW0]; simp
    have HW0 := Lib.hid hW0
    rw [← hz00]
    clear hW0
    have hstart : Hid (CR (W0.alloc (.cells #[] 24)) b s i false c) := HA.out.alloc _
  · go_loopw [7] (fun v wr => ∃ (g cap L : Nat) (done : List LT) (J : Int) (c' : Nat) (bad : Bool), v = .slice (some ⟨g, 0, none⟩) L cap ∧ Hid (done.length = L) ∧ L ≤ N ∧ Hid (KMade W0 wr b g cap done) ∧ Hid (CR wr b s J bad c') ∧ Hid (Many s i c (done.map er) J.toNat c' bad) ∧ Hid (bad = false → (i : Int) ≤ J ∧ J ≤ s.size ∧ (LT.szL done : Int) ≤ J - i ∧ c ≤ c' ∧ c' ≤ Lim ∧ ∀ x ∈ done, IntP (er x))) (fun v _ => N + 1 - lenOf v)
    case atStart => exact ⟨W0.heap.size, 0, 0, [], i, c, false, rfl, rfl, Nat.zero_le _, HS0, hstart, Many.start s i c, fun _ => ⟨by omega, by omega, by simp [LT.szL], Nat.le_refl _, hc, fun x hx => by simp at hx⟩⟩
    case round =>
      clear HS0 hstart
      obtain ⟨g, cap, L, done, J, c', bad, rfl, HD, hL, HM, HC, HMA, HBD⟩ := hrel
      have r2 := HC.out.c2
      have hzr := HM.out.only.size
      obtain ⟨e0, e1, e2, e3⟩ := (HH.out.only HM.out.only (by omega)).cells
      cases bad with
      | true =>
        have HF : Hid (KRet W wr b s i c N (.returned (.slice none 0 0))) := ⟨.inr ⟨J, J.toNat, c', done.map er, rfl, ⟨HC.out, only_out (by rw [HW0.out]; exact HM.out.only)⟩, HMA.out, by rw [List.length_map, HD.out]; exact hL⟩⟩
        clear HM HC HMA HBD HD HGG HH HA HT
        go_wp2
        go_ret
        exact HF.out
      | false =>
        by_cases hLN : L = N
        · have HF : Hid (KRet W wr b s i c N (.returned (.slice (some ⟨g, 0, none⟩) L cap))) := by
            obtain ⟨b1, b2, b3, b4, b5, b6⟩ := HBD.out rfl
            obtain ⟨j, rfl⟩ : ∃ j : Nat, J = j := ⟨J.toNat, by omega⟩
            refine ⟨.inl ⟨g, cap, done, j, c', by rw [hLN], by rw [HD.out, hLN], KMade.out (by rw [HW0.out]; exact HM.out), HC.out, HMA.out, by omega, by omega, by omega, b4, b5, b6⟩⟩
          have q0 : ((L : Int) == (n : Int)) = true := by rw [beq_iff_eq]; omega
          clear HM HC HMA HBD HD HGG HH HA HT
          go_wp2
          go_ret
          exact HF.out
        · have q0 : ((L : Int) == (n : Int)) = false := by rw [beq_eq_false_iff_ne]; omega
          obtain ⟨b1, b2, b3, b4, b5, b6⟩ := HBD.out rfl
          obtain ⟨j, rfl⟩ : ∃ j : Nat, J = j := ⟨J.toNat, by omega⟩
          have hbW : b < W0.heap.size := by omega
          have CG := Lib.hid (HGG.out wr b s j c' hs (by omega) b5 (by omega) HC.out (HT.out.only HM.out.only hb) hb)
          have HMA2 : Hid (Many s i c (done.map er) j c' false) := by have := HMA.out; rw [Int.toNat_natCast] at this; exact this
          have HSZ := Lib.hid (And.intro b1 (And.intro b3 b4))
          have HI6 := Lib.hid b6
          have hgl : g < wr.heap.size ∧ W0.heap.size ≤ g := by have := HM.out.row.lt g rfl; exact ⟨this.2, this.1⟩
          clear b1 b2 b3 b4 b5 b6 HMA HBD HC
          replace hz00 := Lib.hid hz00
          go_wp2_with fail
          with_reducible refine CG.out.mono ?_
          rintro r w1 ⟨t', J2, c2, bad2, rfl, hF, hC2, hG2, hB2⟩
          have hzF := hF.only.size
          have HR1 : Hid (OwnR w1 W0.heap.size (.slice (some ⟨g, 0, none⟩) L cap) done) := by
            have := HM.out.behind hbW hF.only
            rw [HD.out] at this
            exact this
          have HLT : Hid (∀ i (h : i < [t'].length), At5 (w1.alloc (.cells #[.int .i64 t'.k, .int .i64 t'.n, .int .i64 t'.e, .string t'.s, t'.row] 24)) ((⟨w1.heap.size, 0, none⟩ : Addr).add (i * 5)) [t'][i]) := fun i hi => by
            obtain rfl : i = 0 := by simp at hi; omega
            have hb := Box.new w1 t' 24
            rw [Nat.zero_mul, add0]
            exact ⟨hb.b0, hb.b1, hb.b2, hb.b3, hb.b4⟩
          have HST : Hid (∀ w3 g' c3 o, OwnR w3 W0.heap.size (.slice (some ⟨g', 0, none⟩) (L + 1) c3) (done ++ [t']) → (w1.alloc o).grownBy w3 (some g) → (g' = g ∨ g' = (w1.alloc o).heap.size) → KMade W0 w3 b g' c3 (done ++ [t'])) := by
            have hD := HD.out
            subst hD
            exact fun w3 g' c3 o h2 h3 h4 => HM.out.step hbW hF h2 h3 h4
          have HCC : Hid (∀ w3 o, (w1.alloc o).grownBy w3 (some g) → CR w3 b s J2 bad2 c2) := fun w3 o hg3 =>
            ⟨(hg3.block b (by simp; omega) (fun e => by injection e with e; omega)).trans ((Below.heap_alloc _ _ _ (by omega)).trans hC2.row)⟩
          have HMB : Hid (Many s i c ((done ++ [t']).map er) J2.toNat c2 bad2) := by
            unfold Hid
            rw [List.map_append]
            exact HMA2.out.step hG2
          have HBB : Hid (bad2 = false → (i : Int) ≤ J2 ∧ J2 ≤ s.size ∧ (LT.szL (done ++ [t']) : Int) ≤ J2 - i ∧ c ≤ c2 ∧ c2 ≤ Lim ∧ ∀ x ∈ done ++ [t'], IntP (er x)) := fun hbad => by
            obtain ⟨d1, d2, d3, d4, d5, d6, _⟩ := hB2 hbad
            have := HSZ.out
            rw [szL_snoc]
            refine ⟨by omega, d2, by omega, by omega, d5, fun x hx => ?_⟩
            rcases List.mem_append.1 hx with hx | hx
            · exact HI6.out x hx
            · obtain rfl := List.mem_singleton.1 hx; exact d6
          have HD3 : Hid ((done ++ [t']).length = L + 1) := by unfold Hid; rw [List.length_append, HD.out]; rfl
          have hrow' : t'.row = .slice t'.a t'.kids.length t'.cap := rfl
          rw [hrow'] at HLT ⊢
          have hLT2 : L < N := by omega
          have HR2 := Lib.hid (HR1.out.same (w' := w1.alloc (.cells #[.int .i64 t'.k, .int .i64 t'.n, .int .i64 t'.e, .string t'.s, .slice t'.a t'.kids.length t'.cap] 24)) (fun k hk => Below.heap_alloc _ _ _ (HR1.out.lt k hk).2))
          have HDL := Lib.hid HD.out
          clear CG hF hC2 hG2 hB2 HM HMA2 HR1 HSZ HGG HH HT HA hrow' e0 e1 e2 e3 r2 q0 hLN
          go_wp2_with (at_builtin; refine wpList_appR (by rfl) _ _ (by rfl) Tryd.underlying22 i0 _ hi0 hz0 hz1 hz2 rfl W0.heap.size g cap done [t'] L 1 HDL.out rfl (by rfl) HR2.out ⟨w1.heap.size, 0, none⟩ 1 (by rfl) HLT.out (by omega) (by simp; omega) ?_; intro g' c3 w3 ho3 hg3 hg3')
          have HM3 := Lib.hid (HST.out w3 g' c3 _ ho3 hg3 hg3')
          have HC3 := Lib.hid (HCC.out w3 _ hg3)
          clear ho3 hg3 hg3' HST HCC HR2 HLT
          go_wp2
          go_roundw
          case rel => exact ⟨g', c3, L + 1, done ++ [t'], J2, c2, bad2, rfl, HD3, by omega, HM3, HC3, HMB, HBB⟩
          case measure => simp [lenOf]; omega
  · go_loopw [7] (fun v wr => ∃ (g cap L : Nat) (done : List LT) (J : Int) (c' : Nat) (bad : Bool), v = .slice (some ⟨g, 0, none⟩) L cap ∧ Hid (done.length = L) ∧ L ≤ N ∧ Hid (KMade W0 wr b g cap done) ∧ Hid (CR wr b s J bad c') ∧ Hid (Many s i c (done.map er) J.toNat c' bad) ∧ Hid (bad = false → (i : Int) ≤ J ∧ J ≤ s.size ∧ (LT.szL done : Int) ≤ J - i ∧ c ≤ c' ∧ c' ≤ Lim ∧ ∀ x ∈ done, IntP (er x))) (fun v _ => N + 1 - lenOf v)
    case atStart => exact ⟨W0.heap.size, 0, 0, [], i, c, false, rfl, rfl, Nat.zero_le _, HS0, hstart, Many.start s i c, fun _ => ⟨by omega, by omega, by simp [LT.szL], Nat.le_refl _, hc, fun x hx => by simp at hx⟩⟩
    case round =>
      clear HS0 hstart
      obtain ⟨g, cap, L, done, J, c', bad, rfl, HD, hL, HM, HC, HMA, HBD⟩ := hrel
      have r2 := HC.out.c2
      have hzr := HM.out.only.size
      obtain ⟨e0, e1, e2, e3⟩ := (HH.out.only HM.out.only (by omega)).cells
      cases bad with
      | true =>
        have HF : Hid (KRet W wr b s i c N (.returned (.slice none 0 0))) := ⟨.inr ⟨J, J.toNat, c', done.map er, rfl, ⟨HC.out, only_out (by rw [HW0.out]; exact HM.out.only)⟩, HMA.out, by rw [List.length_map, HD.out]; exact hL⟩⟩
        clear HM HC HMA HBD HD HGG HH HA HT
        go_wp2
        go_ret
        exact HF.out
      | false =>
        by_cases hLN : L = N
        · have HF : Hid (KRet W wr b s i c N (.returned (.slice (some ⟨g, 0, none⟩) L cap))) := by
            obtain ⟨b1, b2, b3, b4, b5, b6⟩ := HBD.out rfl
            obtain ⟨j, rfl⟩ : ∃ j : Nat, J = j := ⟨J.toNat, by omega⟩
            refine ⟨.inl ⟨g, cap, done, j, c', by rw [hLN], by rw [HD.out, hLN], KMade.out (by rw [HW0.out]; exact HM.out), HC.out, HMA.out, by omega, by omega, by omega, b4, b5, b6⟩⟩
          have q0 : ((L : Int) == 2 * (n : Int)) = true := by rw [beq_iff_eq]; omega
          clear HM HC HMA HBD HD HGG HH HA HT
          go_wp2
          go_ret
          exact HF.out
        · have q0 : ((L : Int) == 2 * (n : Int)) = false := by rw [beq_eq_false_iff_ne]; omega
          obtain ⟨b1, b2, b3, b4, b5, b6⟩ := HBD.out rfl
          obtain ⟨j, rfl⟩ : ∃ j : Nat, J = j := ⟨J.toNat, by omega⟩
          have hbW : b < W0.heap.size := by omega
          have CG := Lib.hid (HGG.out wr b s j c' hs (by omega) b5 (by omega) HC.out (HT.out.only HM.out.only hb) hb)
          have HMA2 : Hid (Many s i c (done.map er) j c' false) := by have := HMA.out; rw [Int.toNat_natCast] at this; exact this
          have HSZ := Lib.hid (And.intro b1 (And.intro b3 b4))
          have HI6 := Lib.hid b6
          have hgl : g < wr.heap.size ∧ W0.heap.size ≤ g := by have := HM.out.row.lt g rfl; exact ⟨this.2, this.1⟩
          clear b1 b2 b3 b4 b5 b6 HMA HBD HC
          replace hz00 := Lib.hid hz00
          go_wp2_with fail
          with_reducible refine CG.out.mono ?_
          rintro r w1 ⟨t', J2, c2, bad2, rfl, hF, hC2, hG2, hB2⟩
          have hzF := hF.only.size
          have HR1 : Hid (OwnR w1 W0.heap.size (.slice (some ⟨g, 0, none⟩) L cap) done) := by
            have := HM.out.behind hbW hF.only
            rw [HD.out] at this
            exact this
          have HLT : Hid (∀ i (h : i < [t'].length), At5 (w1.alloc (.cells #[.int .i64 t'.k, .int .i64 t'.n, .int .i64 t'.e, .string t'.s, t'.row] 24)) ((⟨w1.heap.size, 0, none⟩ : Addr).add (i * 5)) [t'][i]) := fun i hi => by
            obtain rfl : i = 0 := by simp at hi; omega
            have hb := Box.new w1 t' 24
            rw [Nat.zero_mul, add0]
            exact ⟨hb.b0, hb.b1, hb.b2, hb.b3, hb.b4⟩
          have HST : Hid (∀ w3 g' c3 o, OwnR w3 W0.heap.size (.slice (some ⟨g', 0, none⟩) (L + 1) c3) (done ++ [t']) → (w1.alloc o).grownBy w3 (some g) → (g' = g ∨ g' = (w1.alloc o).heap.size) → KMade W0 w3 b g' c3 (done ++ [t'])) := by
            have hD := HD.out
            subst hD
            exact fun w3 g' c3 o h2 h3 h4 => HM.out.step hbW hF h2 h3 h4
          have HCC : Hid (∀ w3 o, (w1.alloc o).grownBy w3 (some g) → CR w3 b s J2 bad2 c2) := fun w3 o hg3 =>
            ⟨(hg3.block b (by simp; omega) (fun e => by injection e with e; omega)).trans ((Below.heap_alloc _ _ _ (by omega)).trans hC2.row)⟩
          have HMB : Hid (Many s i c ((done ++ [t']).map er) J2.toNat c2 bad2) := by
            unfold Hid
            rw [List.map_append]
            exact HMA2.out.step hG2
          have HBB : Hid (bad2 = false → (i : Int) ≤ J2 ∧ J2 ≤ s.size ∧ (LT.szL (done ++ [t']) : Int) ≤ J2 - i ∧ c ≤ c2 ∧ c2 ≤ Lim ∧ ∀ x ∈ done ++ [t'], IntP (er x)) := fun hbad => by
            obtain ⟨d1, d2, d3, d4, d5, d6, _⟩ := hB2 hbad
            have := HSZ.out
            rw [szL_snoc]
            refine ⟨by omega, d2, by omega, by omega, d5, fun x hx => ?_⟩
            rcases List.mem_append.1 hx with hx | hx
            · exact HI6.out x hx
            · obtain rfl := List.mem_singleton.1 hx; exact d6
          have HD3 : Hid ((done ++ [t']).length = L + 1) := by unfold Hid; rw [List.length_append, HD.out]; rfl
          have hrow' : t'.row = .slice t'.a t'.kids.length t'.cap := rfl
          rw [hrow'] at HLT ⊢
          have hLT2 : L < N := by omega
          have HR2 := Lib.hid (HR1.out.same (w' := w1.alloc (.cells #[.int .i64 t'.k, .int .i64 t'.n, .int .i64 t'.e, .string t'.s, .slice t'.a t'.kids.length t'.cap] 24)) (fun k hk => Below.heap_alloc _ _ _ (HR1.out.lt k hk).2))
          have HDL := Lib.hid HD.out
          clear CG hF hC2 hG2 hB2 HM HMA2 HR1 HSZ HGG HH HT HA hrow' e0 e1 e2 e3 r2 q0 hLN
          go_wp2_with (at_builtin; refine wpList_appR (by rfl) _ _ (by rfl) Tryd.underlying22 i0 _ hi0 hz0 hz1 hz2 rfl W0.heap.size g cap done [t'] L 1 HDL.out rfl (by rfl) HR2.out ⟨w1.heap.size, 0, none⟩ 1 (by rfl) HLT.out (by omega) (by simp; omega) ?_; intro g' c3 w3 ho3 hg3 hg3')
          have HM3 := Lib.hid (HST.out w3 g' c3 _ ho3 hg3 hg3')
          have HC3 := Lib.hid (HCC.out w3 _ hg3)
          clear ho3 hg3 hg3' HST HCC HR2 HLT
          go_wp2
          go_roundw
          case rel => exact ⟨g', c3, L + 1, done ++ [t'], J2, c2, bad2, rfl, HD3, by omega, HM3, HC3, HMB, HBB⟩
          case measure => simp [lenOf]; omega
set_option maxHeartbeats 2000000 in
theorem kids_far (W : World) (b : Nat) (s : ByteArray) (i c : Int) (m n e : Nat) (h : CR W b s i false c) (hn : 300 < n) :
    Calls Tryd.prog 82 #[.pointer (some ⟨b, 0, none⟩), .agg #[.int .i64 m, .int .u64 n, .bool false], .int .u64 e] W fun r w' => r = .returned (.slice none 0 0) ∧ CRet W w' b s i true c := by
  have hlt := h.lt
  have hnn : (300 : Int) < (n : Int) := by omega
  have c2 := h.c2
  have f2 := h.fr 2
  have d2 := h.spoil.rd.c2
  have HS := Lib.hid ((h.spoil.more (.cells #[.int .i64 m, .int .u64 n, .bool false] 87)).more (.cells #[] 24))
  clear h hn
  go_enter Tryd.func82, Tryd.ntmps82
  go_wp2_with fail
  refine wp_loop_rounds 1 ?_
  rw [rounds_succ]
  go_wp2
  go_ret
  exact ⟨rfl, HS.out⟩
end Go.Proofs.YtnaghafmpncdkaaDoor.cbor
