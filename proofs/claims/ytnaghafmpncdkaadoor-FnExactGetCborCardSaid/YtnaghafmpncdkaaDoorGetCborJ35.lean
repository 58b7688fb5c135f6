/-
  spec's reader of CBOR: values one behind the other.
-/
import Derived.Test.YtnaghafmpncdkaaDoorGetCborJ32
import Derived.Test.YtnaghafmpncdkaaDoorGetCborJ34
namespace Go.Proofs.YtnaghafmpncdkaaDoor.cbor
open Go.ChangeShapes Go.WideShapes Go.ChangeAt Go.RowKit
open Go.Proofs.YtnaghafmpncdkaaDoor.val Go.Proofs.YtnaghafmpncdkaaDoor.head
set_option maxRecDepth 100000

/-- What l05Get returns. -/
structure SRet (W w' : World) (b : Nat) (s : ByteArray) (i left deep : Nat) (e : Ending) : Prop where
  ex : ∃ (t : LT) (next left' : Int), e = .returned (.tuple #[.agg #[.int .i64 t.k, .int .i64 t.n, .int .i64 t.e, .string t.s, t.row], .int .i64 next]) ∧ SR w' b s left' ∧ W.grownBy w' (some b) ∧ Whole s i left deep (er t) next left' ∧
    (next = -1 ∨ ((i : Int) < next ∧ next ≤ s.size ∧ FreshO W w' b t ∧ (t.sz : Int) + 1 ≤ next - i ∧ 0 ≤ left' ∧ left' < left))
/-- Its contract at a depth. -/
def SG (d : Nat) : Prop := ∀ (W : World) (b : Nat) (s : ByteArray) (i left : Nat), s.size ≤ 1048576 → i ≤ s.size → left ≤ 2000 → SR W b s left →
  Calls Tryd.prog 24 #[.pointer (some ⟨b, 0, none⟩), .int .i64 i, .int .i64 d] W fun e w' => SRet W w' b s i left d e
/-- What l05Kids returns. -/
structure SKRet (W w' : World) (b : Nat) (s : ByteArray) (i left deep N : Nat) (e : Ending) : Prop where
  ex : (∃ (g cap : Nat) (done : List LT) (j l : Nat), e = .returned (.tuple #[.slice (some ⟨g, 0, none⟩) N cap, .int .i64 j]) ∧ done.length = N ∧ KMade W w' b g cap done ∧ SR w' b s l ∧ ManyS s i left deep (done.map er) j l ∧ i ≤ j ∧ j ≤ s.size ∧ LT.szL done ≤ j - i ∧ l ≤ left) ∨
    (∃ l : Int, e = .returned (.tuple #[.slice none 0 0, .int .i64 (-1)]) ∧ SR w' b s l ∧ W.grownBy w' (some b) ∧ NoMany s i left deep N)
theorem FreshO.behind {W w1 w2 : World} {b : Nat} {t : LT} (h : FreshO W w1 b t) (hb : Below w1.heap.size w1 w2) : FreshO W w2 b t := ⟨h.tr.behind hb, h.new, h.nodup, only_below h.only hb⟩
set_option maxHeartbeats 4000000 in
theorem skids_any {d : Nat} (hd : d ≤ 100) (HG : SG (d + 1)) (W : World) (b : Nat) (s : ByteArray) (i left N : Nat) (hs : s.size ≤ 1048576) (hi : i ≤ s.size) (hl : left ≤ 2000) (h : SR W b s left) (hN : N ≤ 600) :
    Calls Tryd.prog 48 #[.pointer (some ⟨b, 0, none⟩), .int .i64 i, .int .i64 N, .int .i64 d] W fun e w' => SKRet W w' b s i left d N e := by
  have hlt := h.lt
  have HGG := Lib.hid HG
  have HS0 := Lib.hid (KMade.start W b)
  have HR0 := Lib.hid (h.alloc (.cells #[] 24))
  obtain ⟨i0, hi0, hz0, hz1, hz2⟩ := info_parts infoV
  have hd1 : (0 : Int) ≤ (d : Int) + 1 := by omega
  have hd2 : (d : Int) + 1 ≤ 9223372036854775807 := by omega
  clear HG h
  go_enter Tryd.func48, Tryd.ntmps48
  go_wp2_with fail
  go_loopw [1, 10, 11] (fun ii v kk wr => ∃ (k g cap j l : Nat) (done : List LT), ii = .int .i64 j ∧ kk = .int .i64 k ∧ k ≤ N ∧ v = .slice (some ⟨g, 0, none⟩) k cap ∧ Hid (done.length = k) ∧ Hid (KMade W wr b g cap done) ∧ Hid (SR wr b s l) ∧ Hid (ManyS s i left d (done.map er) j l) ∧ Hid (i ≤ j ∧ j ≤ s.size ∧ LT.szL done ≤ j - i ∧ l ≤ left)) (fun _ _ kk _ => N - (intOf kk).toNat)
  case atStart => exact ⟨0, W.heap.size, 0, i, left, [], rfl, rfl, Nat.zero_le _, rfl, rfl, HS0, HR0, ManyS.start s i left d, ⟨Nat.le_refl _, hi, by simp [LT.szL], Nat.le_refl _⟩⟩
  case round =>
    clear HS0 HR0
    obtain ⟨k, g, cap, j, l, done, rfl, rfl, hk, rfl, HD, HM, HR, HMA, HB⟩ := hrel
    by_cases hkN : k < N
    · have hk0 : (0 : Int) ≤ (k : Int) := by omega
      have hk1 : (k : Int) < (N : Int) := by omega
      obtain ⟨b1, b2, b3, b4⟩ := HB.out
      have CG := Lib.hid (HGG.out wr b s j l hs b2 (by omega) HR.out)
      have hzr := HM.out.only.size
      have hgl : W.heap.size ≤ g ∧ g < wr.heap.size := HM.out.row.lt g rfl
      have HBX := HB
      rw [show ((d + 1 : Nat) : Int) = (d : Int) + 1 by omega] at CG
      clear b1 b2 b3 b4 HB HGG HR
      go_wp2_with fail
      with_reducible refine CG.out.mono ?_
      rintro r w1 ⟨t', next, left', rfl, hR2, hO2, hW2, hx⟩
      have HW2 := Lib.hid hW2
      have hrow' : t'.row = .slice t'.a t'.kids.length t'.cap := rfl
      have hAL : Below w1.heap.size w1 (w1.alloc (.cells #[.int .i64 t'.k, .int .i64 t'.n, .int .i64 t'.e, .string t'.s, .slice t'.a t'.kids.length t'.cap] 24)) := (Below.refl _ w1).alloc (Nat.le_refl _) _
      rcases hx with rfl | ⟨n1, n2, n3, n4, n5, n6⟩
      · have HF : Hid (SKRet W (w1.alloc (.cells #[.int .i64 t'.k, .int .i64 t'.n, .int .i64 t'.e, .string t'.s, .slice t'.a t'.kids.length t'.cap] 24)) b s i left d N (.returned (.tuple #[.slice none 0 0, .int .i64 (-1)]))) :=
          ⟨.inr ⟨left', rfl, hR2.behind hAL, only_below (only_trans HM.out.only hO2) hAL, HMA.out.fail HW2.out (by rw [List.length_map, HD.out]; exact hkN)⟩⟩
        clear HM HMA HBX HD hR2 hO2 hW2 HW2 CG hAL
        rw [hrow']
        clear hrow'
        go_wp2
        go_ret2
        exact HF.out
      · obtain ⟨l2, rfl⟩ : ∃ l2 : Nat, left' = l2 := ⟨left'.toNat, by omega⟩
        obtain ⟨j2, rfl⟩ : ∃ j2 : Nat, next = j2 := ⟨next.toNat, by omega⟩
        have hbW : b < W.heap.size := hlt
        have hF' : FreshO wr (w1.alloc (.cells #[.int .i64 t'.k, .int .i64 t'.n, .int .i64 t'.e, .string t'.s, .slice t'.a t'.kids.length t'.cap] 24)) b t' := n3.behind hAL
        have hzF := hF'.only.size
        have hR2' := hR2.behind hAL
        have HB0 := Lib.hid (Box.new w1 t' 24)
        rw [hrow'] at HB0 ⊢
        have hzw : (w1.alloc (.cells #[.int .i64 t'.k, .int .i64 t'.n, .int .i64 t'.e, .string t'.s, .slice t'.a t'.kids.length t'.cap] 24)).heap.size = w1.heap.size + 1 := by simp
        have HR1 : Hid (OwnR (w1.alloc (.cells #[.int .i64 t'.k, .int .i64 t'.n, .int .i64 t'.e, .string t'.s, .slice t'.a t'.kids.length t'.cap] 24)) W.heap.size (.slice (some ⟨g, 0, none⟩) k cap) done) := by
          have := HM.out.behind hbW hF'.only
          rw [HD.out] at this
          exact this
        have HLT : Hid (∀ i (h : i < [t'].length), At5 ((w1.alloc (.cells #[.int .i64 t'.k, .int .i64 t'.n, .int .i64 t'.e, .string t'.s, .slice t'.a t'.kids.length t'.cap] 24)).alloc (.cells #[.int .i64 t'.k, .int .i64 t'.n, .int .i64 t'.e, .string t'.s, .slice t'.a t'.kids.length t'.cap] 24)) ((⟨w1.heap.size + 1, 0, none⟩ : Addr).add (i * 5)) [t'][i]) := fun i hi => by
          obtain rfl : i = 0 := by simp at hi; omega
          have hb := Box.new (w1.alloc (.cells #[.int .i64 t'.k, .int .i64 t'.n, .int .i64 t'.e, .string t'.s, .slice t'.a t'.kids.length t'.cap] 24)) t' 24
          rw [hzw, hrow'] at hb
          rw [Nat.zero_mul, add0]
          exact ⟨hb.b0, hb.b1, hb.b2, hb.b3, hb.b4⟩
        have HST : Hid (∀ w3 g' c3 o, OwnR w3 W.heap.size (.slice (some ⟨g', 0, none⟩) (k + 1) c3) (done ++ [t']) → ((w1.alloc (.cells #[.int .i64 t'.k, .int .i64 t'.n, .int .i64 t'.e, .string t'.s, .slice t'.a t'.kids.length t'.cap] 24)).alloc o).grownBy w3 (some g) → (g' = g ∨ g' = ((w1.alloc (.cells #[.int .i64 t'.k, .int .i64 t'.n, .int .i64 t'.e, .string t'.s, .slice t'.a t'.kids.length t'.cap] 24)).alloc o).heap.size) → KMade W w3 b g' c3 (done ++ [t'])) := by
          have hD := HD.out
          subst hD
          exact fun w3 g' c3 o h2 h3 h4 => HM.out.step hbW hF' h2 h3 h4
        have HCC : Hid (∀ w3 o, ((w1.alloc (.cells #[.int .i64 t'.k, .int .i64 t'.n, .int .i64 t'.e, .string t'.s, .slice t'.a t'.kids.length t'.cap] 24)).alloc o).grownBy w3 (some g) → SR w3 b s l2) := fun w3 o hg3 =>
          ⟨(hg3.block b (by simp; omega) (fun e => by injection e with e; omega)).trans ((Below.heap_alloc _ _ _ (by omega)).trans hR2'.row)⟩
        have HMB : Hid (ManyS s i left d ((done ++ [t']).map er) j2 l2) := by
          unfold Hid
          rw [List.map_append]
          exact HMA.out.step HW2.out
        have HBB : Hid (i ≤ j2 ∧ j2 ≤ s.size ∧ LT.szL (done ++ [t']) ≤ j2 - i ∧ l2 ≤ left) := by
          have := HBX.out
          unfold Hid
          rw [szL_snoc]
          omega
        have HD3 : Hid ((done ++ [t']).length = k + 1) := by unfold Hid; rw [List.length_append, HD.out]; rfl
        have HR3 := Lib.hid (HR1.out.same (w' := (w1.alloc (.cells #[.int .i64 t'.k, .int .i64 t'.n, .int .i64 t'.e, .string t'.s, .slice t'.a t'.kids.length t'.cap] 24)).alloc (.cells #[.int .i64 t'.k, .int .i64 t'.n, .int .i64 t'.e, .string t'.s, .slice t'.a t'.kids.length t'.cap] 24)) (fun k hk => Below.heap_alloc _ _ _ (HR1.out.lt k hk).2))
        have HDL := Lib.hid HD.out
        have hkk : k < N := by omega
        have hnn : ¬ ((j2 : Int) < 0) := by omega
        have ⟨e0, e1, e2, e3, e4⟩ := HB0.out
        clear CG hO2 hW2 HW2 hR2 hR2' HM HMA HBX HR1 hAL n1 n2 n3 n4 n5 n6 HB0 hF'
        rw [hrow'] at e4
        have hzl : W.heap.size ≤ w1.heap.size + 1 := by omega
        clear hrow' hzw
        clear hd1 hd2 hs hl hi hk0 hk1
        go_wp2_with (at_builtin; refine wpList_appR (by rfl) _ _ (by rfl) Tryd.underlying22 i0 _ hi0 hz0 hz1 hz2 rfl W.heap.size g cap done [t'] k 1 HDL.out rfl (by rfl) HR3.out ⟨w1.heap.size + 1, 0, none⟩ 1 (by rfl) HLT.out (by omega) (by simp; omega) ?_; intro g' c3 w3 ho3 hg3 hg3')
        have HM3 := Lib.hid (HST.out w3 g' c3 _ ho3 hg3 hg3')
        have HC3 := Lib.hid (HCC.out w3 _ hg3)
        clear ho3 hg3 hg3' HST HCC HR3 HLT
        go_wp2
        go_roundw
        case rel => exact ⟨k + 1, g', c3, j2, l2, done ++ [t'], rfl, rfl, by omega, rfl, HD3, HM3, HC3, HMB, HBB⟩
        case measure => simp [intOf]; omega
    · have e : k = N := by omega
      subst e
      have hk1 : ¬ (k : Int) < (k : Int) := by omega
      have HF : Hid (SKRet W wr b s i left d k (.returned (.tuple #[.slice (some ⟨g, 0, none⟩) k cap, .int .i64 j]))) := by
        obtain ⟨b1, b2, b3, b4⟩ := HB.out
        exact ⟨.inl ⟨g, cap, done, j, l, rfl, HD.out, HM.out, HR.out, HMA.out, b1, b2, b3, b4⟩⟩
      clear HM HMA HB HD HR HGG
      go_wp2
      go_ret2
      exact HF.out
end Go.Proofs.YtnaghafmpncdkaaDoor.cbor
/-
  impl's reader of CBOR behind the head of a list, a map.
-/
namespace Go.Proofs.YtnaghafmpncdkaaDoor.cbor
open Go.ChangeShapes Go.WideShapes Go.ChangeAt Go.RowKit
open Go.Proofs.YtnaghafmpncdkaaDoor.val Go.Proofs.YtnaghafmpncdkaaDoor.head
set_option maxRecDepth 100000

/-- What is returned behind the head of major m with number n, from i with c values begun. -/
structure BRet (W w' : World) (b : Nat) (s : ByteArray) (m n i c : Nat) (e : Ending) : Prop where
  ex : ∃ (t : LT) (J : Int) (c' : Nat) (bad : Bool), e = .returned (.agg #[.int .i64 t.k, .int .i64 t.n, .int .i64 t.e, .string t.s, t.row]) ∧ FreshO W w' b t ∧ CR w' b s J bad c' ∧ Body s m n i c (er t) J.toNat c' bad ∧
    (bad = false → (i : Int) ≤ J ∧ J ≤ s.size ∧ (t.sz : Int) ≤ J - i ∧ c ≤ c' ∧ c' ≤ Lim ∧ IntP (er t) ∧ ListP (er t))
theorem szL_kids (k n e : Int) (s : ByteArray) (a : Option Addr) (cap : Nat) (kids : List LT) : (val.LT.mk k n e s a cap kids).sz = s.size + LT.szL kids := by rw [val.LT.sz]
/-- A row behind the store into a young block. -/
theorem KMade.put {W w1 : World} {b g cap N : Nat} {done : List LT} (h : KMade W w1 b g cap done) (hN : W.heap.size ≤ N) (hg : g ≠ N) (hd : N ∉ LT.blksL done) (x0 x1 x2 x3 x4 : Value) : KMade W (put5v w1 N x0 x1 x2 x3 x4) b g cap done := by
  have ho : ∀ k, k ≠ N → (put5v w1 N x0 x1 x2 x3 x4).heap[k]? = w1.heap[k]? := fun k hk => put5v_other w1 N k x0 x1 x2 x3 x4 hk
  refine ⟨h.row.same (fun k hk => by
    have e : g = k := by simpa [Value.ownBlock] using hk
    exact ho k (by omega)), fun i hi => (h.trs i hi).kept fun k hk => ho k (fun e => hd (e ▸ mem_blksL hi hk)), h.new, h.nodup, ?_⟩
  unfold put5v
  exact only_set (only_set (only_set (only_set (only_set h.only hN _) hN _) hN _) hN _) hN _
/-- A list made of such a row. -/
theorem KMade.list {W w1 : World} {b g cap : Nat} {done : List LT} (h : KMade W w1 b g cap done) (k : Int) (hk : InI k) : FreshO W w1 b (.mk k 0 0 ⟨#[]⟩ (some ⟨g, 0, none⟩) cap done) := by
  obtain ⟨⟨cs, h1, h2⟩, h3, h4, h5, h6, h7⟩ := h.row.at5
  refine ⟨.mk cs hk (by unfold InI; decide) (by unfold InI; decide) (by decide) ⟨h5, by unfold maxLen at h6; exact h6⟩ h1 h2 h7 h.trs, fun x hx => ?_, ?_, h.only⟩
  · rw [blks_some] at hx
    rcases List.mem_cons.1 hx with rfl | hx
    · exact h3
    · exact h.new x hx
  · rw [blks_some]; exact h.nodup
set_option maxHeartbeats 2000000 in
theorem list_any {K : Nat} (HG : GV K) (W : World) (b : Nat) (s : ByteArray) (i c n : Nat) (hs : s.size ≤ 1048576) (hi : i ≤ s.size) (hc : c ≤ Lim) (hK : Lim ≤ c + K) (h : CR W b s i false c) (hT : simpTab.Tab W) (hb : 0 ≠ b) (hn : n ≤ 300) :
    Calls Tryd.prog 57 #[.pointer (some ⟨b, 0, none⟩), .agg #[.int .i64 4, .int .u64 n, .bool false]] W fun r w' => BRet W w' b s 4 n i c r := by
  have hlt := h.lt
  have hA := (h.alloc (.cells #[.int .i64 4, .int .u64 n, .bool false] 87)).alloc (.cells #[.int .i64 0, .int .i64 0, .int .i64 0, .string ⟨#[]⟩, .slice none 0 0] 24)
  have hTA := (hT.alloc (.cells #[.int .i64 4, .int .u64 n, .bool false] 87)).alloc (.cells #[.int .i64 0, .int .i64 0, .int .i64 0, .string ⟨#[]⟩, .slice none 0 0] 24)
  have C : Hid (Calls Tryd.prog 82 #[.pointer (some ⟨b, 0, none⟩), .agg #[.int .i64 4, .int .u64 n, .bool false], .int .u64 1] ((W.alloc (.cells #[.int .i64 4, .int .u64 n, .bool false] 87)).alloc (.cells #[.int .i64 0, .int .i64 0, .int .i64 0, .string ⟨#[]⟩, .slice none 0 0] 24)) fun r w' => KRet ((W.alloc (.cells #[.int .i64 4, .int .u64 n, .bool false] 87)).alloc (.cells #[.int .i64 0, .int .i64 0, .int .i64 0, .string ⟨#[]⟩, .slice none 0 0] 24)) w' b s i c n r) :=
    kids_any HG _ b s i c 4 n 1 n hs hi hc hK hA hTA hb hn (.inl ⟨rfl, rfl⟩)
  have HR := Lib.hid (V5.new (W.alloc (.cells #[.int .i64 4, .int .u64 n, .bool false] 87)) (.int .i64 0) (.int .i64 0) (.int .i64 0) (.string ⟨#[]⟩) (.slice none 0 0))
  rw [show (W.alloc (.cells #[.int .i64 4, .int .u64 n, .bool false] 87)).heap.size = W.heap.size + 1 by simp] at HR
  clear HG h hT hA hTA hs hi hc hK
  go_enter Tryd.func57, Tryd.ntmps57
  go_wp2_with fail
  with_reducible refine C.out.mono ?_
  rintro r w1 ⟨hk⟩
  clear C
  have hz2 : ((W.alloc (.cells #[.int .i64 4, .int .u64 n, .bool false] 87)).alloc (.cells #[.int .i64 0, .int .i64 0, .int .i64 0, .string ⟨#[]⟩, .slice none 0 0] 24)).heap.size = W.heap.size + 2 := by simp
  rcases hk with ⟨g, cap, done, J, c', rfl, hd, hm, hc1, hmm, b1, b2, b3, b4, b5, b6⟩ | ⟨J, j, c', l, rfl, hr, hmm, hl⟩
  · replace HR := Lib.hid (HR.out.only hm.only (by omega))
    have hgg := (hm.row.lt g rfl).1
    have hnew := hm.new
    rw [hz2] at hgg hnew
    have HM2 := Lib.hid ((hm.out.out).put (N := W.heap.size + 1) (by omega) (by omega) (fun hx => by have := hnew _ hx; omega) (.int .i64 7) (.int .i64 0) (.int .i64 0) (.string ⟨#[]⟩) (.slice (some ⟨g, 0, none⟩) n cap))
    have HC2 : Hid (CR (put5v w1 (W.heap.size + 1) (.int .i64 7) (.int .i64 0) (.int .i64 0) (.string ⟨#[]⟩) (.slice (some ⟨g, 0, none⟩) n cap)) b s J false c') := ⟨(put5v_other _ _ _ _ _ _ _ _ (by omega)).trans hc1.row⟩
    have HBD : Hid (Body s 4 n i c (er (.mk 7 0 0 ⟨#[]⟩ (some ⟨g, 0, none⟩) cap done)) J c' false) := by
      unfold Hid
      rw [er_mk]
      exact body_list (by rw [List.length_map]; exact hd) hmm
    have HF := Lib.hid (HR.out.put (.int .i64 7) (.int .i64 0) (.int .i64 0) (.string ⟨#[]⟩) (.slice (some ⟨g, 0, none⟩) n cap))
    have HBB := Lib.hid (And.intro b1 (And.intro b2 (And.intro b3 (And.intro b4 (And.intro b5 b6)))))
    have HDD := Lib.hid hd
    obtain ⟨q0, q1, q2, q3, q4, qf⟩ := HR.out.c
    obtain ⟨k0, k1, k2, k3, k4, _⟩ := HF.out.c
    clear hm hc1 hmm b1 b2 b3 b4 b5 b6 hd HR hnew hgg hz2
    unfold put5v at k0 k1 k2 k3 k4 HM2 HC2
    go_wp2
    refine bodyPost_ret (v := .agg #[.int .i64 7, .int .i64 0, .int .i64 0, .string ⟨#[]⟩, .slice (some ⟨g, 0, none⟩) n cap]) (by simp [results, Tryd.results57, go_sem, k0, k1, k2, k3, k4]) rfl ?_
    refine ⟨.mk 7 0 0 ⟨#[]⟩ (some ⟨g, 0, none⟩) cap done, J, c', false, ?_, HM2.out.list 7 (by unfold InI; decide), HC2.out, by rw [Int.toNat_natCast]; exact HBD.out, fun _ => ?_⟩
    · rw [show (val.LT.mk 7 0 0 ⟨#[]⟩ (some ⟨g, 0, none⟩) cap done).row = .slice (some ⟨g, 0, none⟩) done.length cap from rfl, HDD.out]; rfl
    · obtain ⟨b1, b2, b3, b4, b5, b6⟩ := HBB.out
      rw [szL_kids, er_mk]
      have e0 : (⟨#[]⟩ : ByteArray).size = 0 := rfl
      refine ⟨by omega, by omega, by rw [e0]; omega, b4, b5, fun hx => ?_, fun _ => ?_⟩
      · have hx : (7 : Int) = 3 := hx
        omega
      · refine ⟨rfl, rfl, rfl, fun x hx => ?_⟩
        obtain ⟨y, hy, rfl⟩ := List.mem_map.1 hx
        exact b6 y hy
  · replace HR := Lib.hid (HR.out.only hr.only (by omega))
    have HC := Lib.hid (ret_put ((hr.out (by simp; omega)).out hlt) (N := W.heap.size + 1) (by omega) hlt (.int .i64 7) (.int .i64 0) (.int .i64 0) (.string ⟨#[]⟩) (.slice none 0 0))
    have HF := Lib.hid (HR.out.put (.int .i64 7) (.int .i64 0) (.int .i64 0) (.string ⟨#[]⟩) (.slice none 0 0))
    have HBD : Hid (Body s 4 n i c (er (.mk 7 0 0 ⟨#[]⟩ none 0 [])) J.toNat c' true) := body_list_no hl hmm _ _ _
    obtain ⟨q0, q1, q2, q3, q4, qf⟩ := HR.out.c
    obtain ⟨k0, k1, k2, k3, k4, _⟩ := HF.out.c
    clear hr hmm hl HR hz2
    unfold put5v at k0 k1 k2 k3 k4 HC
    go_wp2
    refine bodyPost_ret (v := .agg #[.int .i64 7, .int .i64 0, .int .i64 0, .string ⟨#[]⟩, .slice none 0 0]) (by simp [results, Tryd.results57, go_sem, k0, k1, k2, k3, k4]) rfl ?_
    exact ⟨.mk 7 0 0 ⟨#[]⟩ none 0 [], J, c', true, rfl, FreshO.leaf (by unfold InI; decide) (by unfold InI; decide) (by unfold InI; decide) (by decide) HC.out.only, HC.out.rd, HBD.out, fun hx => by cases hx⟩
set_option maxHeartbeats 2000000 in
theorem map_any {K : Nat} (HG : GV K) (W : World) (b : Nat) (s : ByteArray) (i c n : Nat) (hs : s.size ≤ 1048576) (hi : i ≤ s.size) (hc : c ≤ Lim) (hK : Lim ≤ c + K) (h : CR W b s i false c) (hT : simpTab.Tab W) (hb : 0 ≠ b) (hn : n ≤ 300) :
    Calls Tryd.prog 58 #[.pointer (some ⟨b, 0, none⟩), .agg #[.int .i64 5, .int .u64 n, .bool false]] W fun r w' => BRet W w' b s 5 n i c r := by
  have hlt := h.lt
  have hA := (h.alloc (.cells #[.int .i64 5, .int .u64 n, .bool false] 87)).alloc (.cells #[.int .i64 0, .int .i64 0, .int .i64 0, .string ⟨#[]⟩, .slice none 0 0] 24)
  have hTA := (hT.alloc (.cells #[.int .i64 5, .int .u64 n, .bool false] 87)).alloc (.cells #[.int .i64 0, .int .i64 0, .int .i64 0, .string ⟨#[]⟩, .slice none 0 0] 24)
  have C : Hid (Calls Tryd.prog 82 #[.pointer (some ⟨b, 0, none⟩), .agg #[.int .i64 5, .int .u64 n, .bool false], .int .u64 2] ((W.alloc (.cells #[.int .i64 5, .int .u64 n, .bool false] 87)).alloc (.cells #[.int .i64 0, .int .i64 0, .int .i64 0, .string ⟨#[]⟩, .slice none 0 0] 24)) fun r w' => KRet ((W.alloc (.cells #[.int .i64 5, .int .u64 n, .bool false] 87)).alloc (.cells #[.int .i64 0, .int .i64 0, .int .i64 0, .string ⟨#[]⟩, .slice none 0 0] 24)) w' b s i c (2 * n) r) :=
    kids_any HG _ b s i c 5 n 2 (2 * n) hs hi hc hK hA hTA hb hn (.inr ⟨rfl, rfl⟩)
  have HR := Lib.hid (V5.new (W.alloc (.cells #[.int .i64 5, .int .u64 n, .bool false] 87)) (.int .i64 0) (.int .i64 0) (.int .i64 0) (.string ⟨#[]⟩) (.slice none 0 0))
  rw [show (W.alloc (.cells #[.int .i64 5, .int .u64 n, .bool false] 87)).heap.size = W.heap.size + 1 by simp] at HR
  clear HG h hT hA hTA hs hi hc hK
  go_enter Tryd.func58, Tryd.ntmps58
  go_wp2_with fail
  with_reducible refine C.out.mono ?_
  rintro r w1 ⟨hk⟩
  clear C
  have hz2 : ((W.alloc (.cells #[.int .i64 5, .int .u64 n, .bool false] 87)).alloc (.cells #[.int .i64 0, .int .i64 0, .int .i64 0, .string ⟨#[]⟩, .slice none 0 0] 24)).heap.size = W.heap.size + 2 := by simp
  rcases hk with ⟨g, cap, done, J, c', rfl, hd, hm, hc1, hmm, b1, b2, b3, b4, b5, b6⟩ | ⟨J, j, c', l, rfl, hr, hmm, hl⟩
  · replace HR := Lib.hid (HR.out.only hm.only (by omega))
    have hgg := (hm.row.lt g rfl).1
    have hnew := hm.new
    rw [hz2] at hgg hnew
    have HM2 := Lib.hid ((hm.out.out).put (N := W.heap.size + 1) (by omega) (by omega) (fun hx => by have := hnew _ hx; omega) (.int .i64 8) (.int .i64 0) (.int .i64 0) (.string ⟨#[]⟩) (.slice (some ⟨g, 0, none⟩) (2 * n) cap))
    have HC2 : Hid (CR (put5v w1 (W.heap.size + 1) (.int .i64 8) (.int .i64 0) (.int .i64 0) (.string ⟨#[]⟩) (.slice (some ⟨g, 0, none⟩) (2 * n) cap)) b s J false c') := ⟨(put5v_other _ _ _ _ _ _ _ _ (by omega)).trans hc1.row⟩
    have HBD : Hid (Body s 5 n i c (er (.mk 8 0 0 ⟨#[]⟩ (some ⟨g, 0, none⟩) cap done)) J c' false) := by
      unfold Hid
      rw [er_mk]
      exact body_map (by rw [List.length_map]; exact hd) hmm
    have HF := Lib.hid (HR.out.put (.int .i64 8) (.int .i64 0) (.int .i64 0) (.string ⟨#[]⟩) (.slice (some ⟨g, 0, none⟩) (2 * n) cap))
    have HBB := Lib.hid (And.intro b1 (And.intro b2 (And.intro b3 (And.intro b4 (And.intro b5 b6)))))
    have HDD := Lib.hid hd
    obtain ⟨q0, q1, q2, q3, q4, qf⟩ := HR.out.c
    obtain ⟨k0, k1, k2, k3, k4, _⟩ := HF.out.c
    clear hm hc1 hmm b1 b2 b3 b4 b5 b6 hd HR hnew hgg hz2
    unfold put5v at k0 k1 k2 k3 k4 HM2 HC2
    go_wp2
    refine bodyPost_ret (v := .agg #[.int .i64 8, .int .i64 0, .int .i64 0, .string ⟨#[]⟩, .slice (some ⟨g, 0, none⟩) (2 * n) cap]) (by simp [results, Tryd.results58, go_sem, k0, k1, k2, k3, k4]) rfl ?_
    refine ⟨.mk 8 0 0 ⟨#[]⟩ (some ⟨g, 0, none⟩) cap done, J, c', false, ?_, HM2.out.list 8 (by unfold InI; decide), HC2.out, by rw [Int.toNat_natCast]; exact HBD.out, fun _ => ?_⟩
    · rw [show (val.LT.mk 8 0 0 ⟨#[]⟩ (some ⟨g, 0, none⟩) cap done).row = .slice (some ⟨g, 0, none⟩) done.length cap from rfl, HDD.out]; rfl
    · obtain ⟨b1, b2, b3, b4, b5, b6⟩ := HBB.out
      rw [szL_kids, er_mk]
      have e0 : (⟨#[]⟩ : ByteArray).size = 0 := rfl
      refine ⟨by omega, by omega, by rw [e0]; omega, b4, b5, fun hx => ?_, fun _ => ?_⟩
      · have hx : (8 : Int) = 3 := hx
        omega
      · rename_i hx
        have hx : (8 : Int) = 7 := hx
        omega
        
        
  · replace HR := Lib.hid (HR.out.only hr.only (by omega))
    have HC := Lib.hid (ret_put ((hr.out (by simp; omega)).out hlt) (N := W.heap.size + 1) (by omega) hlt (.int .i64 8) (.int .i64 0) (.int .i64 0) (.string ⟨#[]⟩) (.slice none 0 0))
    have HF := Lib.hid (HR.out.put (.int .i64 8) (.int .i64 0) (.int .i64 0) (.string ⟨#[]⟩) (.slice none 0 0))
    have HBD : Hid (Body s 5 n i c (er (.mk 8 0 0 ⟨#[]⟩ none 0 [])) J.toNat c' true) := body_map_no hl hmm _ _ _
    obtain ⟨q0, q1, q2, q3, q4, qf⟩ := HR.out.c
    obtain ⟨k0, k1, k2, k3, k4, _⟩ := HF.out.c
    clear hr hmm hl HR hz2
    unfold put5v at k0 k1 k2 k3 k4 HC
    go_wp2
    refine bodyPost_ret (v := .agg #[.int .i64 8, .int .i64 0, .int .i64 0, .string ⟨#[]⟩, .slice none 0 0]) (by simp [results, Tryd.results58, go_sem, k0, k1, k2, k3, k4]) rfl ?_
    exact ⟨.mk 8 0 0 ⟨#[]⟩ none 0 [], J, c', true, rfl, FreshO.leaf (by unfold InI; decide) (by unfold InI; decide) (by unfold InI; decide) (by decide) HC.out.only, HC.out.rd, HBD.out, fun hx => by cases hx⟩
set_option maxHeartbeats 2000000 in
theorem list_far (W : World) (b : Nat) (s : ByteArray) (i c n : Nat) (h : CR W b s i false c) (hn : 300 < n) :
    Calls Tryd.prog 57 #[.pointer (some ⟨b, 0, none⟩), .agg #[.int .i64 4, .int .u64 n, .bool false]] W fun r w' => BRet W w' b s 4 n i c r := by
  have hlt := h.lt
  have hA := (h.alloc (.cells #[.int .i64 4, .int .u64 n, .bool false] 87)).alloc (.cells #[.int .i64 0, .int .i64 0, .int .i64 0, .string ⟨#[]⟩, .slice none 0 0] 24)
  have C : Hid (Calls Tryd.prog 82 #[.pointer (some ⟨b, 0, none⟩), .agg #[.int .i64 4, .int .u64 n, .bool false], .int .u64 1] ((W.alloc (.cells #[.int .i64 4, .int .u64 n, .bool false] 87)).alloc (.cells #[.int .i64 0, .int .i64 0, .int .i64 0, .string ⟨#[]⟩, .slice none 0 0] 24)) fun r w' => r = .returned (.slice none 0 0) ∧ CRet ((W.alloc (.cells #[.int .i64 4, .int .u64 n, .bool false] 87)).alloc (.cells #[.int .i64 0, .int .i64 0, .int .i64 0, .string ⟨#[]⟩, .slice none 0 0] 24)) w' b s i true c) :=
    kids_far _ b s i c 4 n 1 hA hn
  have HR := Lib.hid (V5.new (W.alloc (.cells #[.int .i64 4, .int .u64 n, .bool false] 87)) (.int .i64 0) (.int .i64 0) (.int .i64 0) (.string ⟨#[]⟩) (.slice none 0 0))
  rw [show (W.alloc (.cells #[.int .i64 4, .int .u64 n, .bool false] 87)).heap.size = W.heap.size + 1 by simp] at HR
  have HBD : Hid (Body s 4 n i c (er (.mk 7 0 0 ⟨#[]⟩ none 0 [])) (i : Int).toNat c true) := body_far (by omega) hn _ _ _
  clear h hA hn
  go_enter Tryd.func57, Tryd.ntmps57
  go_wp2_with fail
  with_reducible refine C.out.mono ?_
  rintro r w1 ⟨rfl, hr⟩
  clear C
  have hz2 : ((W.alloc (.cells #[.int .i64 4, .int .u64 n, .bool false] 87)).alloc (.cells #[.int .i64 0, .int .i64 0, .int .i64 0, .string ⟨#[]⟩, .slice none 0 0] 24)).heap.size = W.heap.size + 2 := by simp
  replace HR := Lib.hid (HR.out.only hr.only (by omega))
  have HC := Lib.hid (ret_put ((hr.out (by simp; omega)).out hlt) (N := W.heap.size + 1) (by omega) hlt (.int .i64 7) (.int .i64 0) (.int .i64 0) (.string ⟨#[]⟩) (.slice none 0 0))
  have HF := Lib.hid (HR.out.put (.int .i64 7) (.int .i64 0) (.int .i64 0) (.string ⟨#[]⟩) (.slice none 0 0))
  obtain ⟨q0, q1, q2, q3, q4, qf⟩ := HR.out.c
  obtain ⟨k0, k1, k2, k3, k4, _⟩ := HF.out.c
  clear hr HR hz2
  unfold put5v at k0 k1 k2 k3 k4 HC
  go_wp2
  refine bodyPost_ret (v := .agg #[.int .i64 7, .int .i64 0, .int .i64 0, .string ⟨#[]⟩, .slice none 0 0]) (by simp [results, Tryd.results57, go_sem, k0, k1, k2, k3, k4]) rfl ?_
  exact ⟨.mk 7 0 0 ⟨#[]⟩ none 0 [], i, c, true, rfl, FreshO.leaf (by unfold InI; decide) (by unfold InI; decide) (by unfold InI; decide) (by decide) HC.out.only, HC.out.rd, HBD.out, fun hx => by cases hx⟩
set_option maxHeartbeats 2000000 in
theorem map_far (W : World) (b : Nat) (s : ByteArray) (i c n : Nat) (h : CR W b s i false c) (hn : 300 < n) :
    Calls Tryd.prog 58 #[.pointer (some ⟨b, 0, none⟩), .agg #[.int .i64 5, .int .u64 n, .bool false]] W fun r w' => BRet W w' b s 5 n i c r := by
  have hlt := h.lt
  have hA := (h.alloc (.cells #[.int .i64 5, .int .u64 n, .bool false] 87)).alloc (.cells #[.int .i64 0, .int .i64 0, .int .i64 0, .string ⟨#[]⟩, .slice none 0 0] 24)
  have C : Hid (Calls Tryd.prog 82 #[.pointer (some ⟨b, 0, none⟩), .agg #[.int .i64 5, .int .u64 n, .bool false], .int .u64 2] ((W.alloc (.cells #[.int .i64 5, .int .u64 n, .bool false] 87)).alloc (.cells #[.int .i64 0, .int .i64 0, .int .i64 0, .string ⟨#[]⟩, .slice none 0 0] 24)) fun r w' => r = .returned (.slice none 0 0) ∧ CRet ((W.alloc (.cells #[.int .i64 5, .int .u64 n, .bool false] 87)).alloc (.cells #[.int .i64 0, .int .i64 0, .int .i64 0, .string ⟨#[]⟩, .slice none 0 0] 24)) w' b s i true c) :=
    kids_far _ b s i c 5 n 2 hA hn
  have HR := Lib.hid (V5.new (W.alloc (.cells #[.int .i64 5, .int .u64 n, .bool false] 87)) (.int .i64 0) (.int .i64 0) (.int .i64 0) (.string ⟨#[]⟩) (.slice none 0 0))
  rw [show (W.alloc (.cells #[.int .i64 5, .int .u64 n, .bool false] 87)).heap.size = W.heap.size + 1 by simp] at HR
  have HBD : Hid (Body s 5 n i c (er (.mk 8 0 0 ⟨#[]⟩ none 0 [])) (i : Int).toNat c true) := body_far (by omega) hn _ _ _
  clear h hA hn
  go_enter Tryd.func58, Tryd.ntmps58
  go_wp2_with fail
  with_reducible refine C.out.mono ?_
  rintro r w1 ⟨rfl, hr⟩
  clear C
  have hz2 : ((W.alloc (.cells #[.int .i64 5, .int .u64 n, .bool false] 87)).alloc (.cells #[.int .i64 0, .int .i64 0, .int .i64 0, .string ⟨#[]⟩, .slice none 0 0] 24)).heap.size = W.heap.size + 2 := by simp
  replace HR := Lib.hid (HR.out.only hr.only (by omega))
  have HC := Lib.hid (ret_put ((hr.out (by simp; omega)).out hlt) (N := W.heap.size + 1) (by omega) hlt (.int .i64 8) (.int .i64 0) (.int .i64 0) (.string ⟨#[]⟩) (.slice none 0 0))
  have HF := Lib.hid (HR.out.put (.int .i64 8) (.int .i64 0) (.int .i64 0) (.string ⟨#[]⟩) (.slice none 0 0))
  obtain ⟨q0, q1, q2, q3, q4, qf⟩ := HR.out.c
  obtain ⟨k0, k1, k2, k3, k4, _⟩ := HF.out.c
  clear hr HR hz2
  unfold put5v at k0 k1 k2 k3 k4 HC
  go_wp2
  refine bodyPost_ret (v := .agg #[.int .i64 8, .int .i64 0, .int .i64 0, .string ⟨#[]⟩, .slice none 0 0]) (by simp [results, Tryd.results58, go_sem, k0, k1, k2, k3, k4]) rfl ?_
  exact ⟨.mk 8 0 0 ⟨#[]⟩ none 0 [], i, c, true, rfl, FreshO.leaf (by unfold InI; decide) (by unfold InI; decide) (by unfold InI; decide) (by decide) HC.out.only, HC.out.rd, HBD.out, fun hx => by cases hx⟩
end Go.Proofs.YtnaghafmpncdkaaDoor.cbor
