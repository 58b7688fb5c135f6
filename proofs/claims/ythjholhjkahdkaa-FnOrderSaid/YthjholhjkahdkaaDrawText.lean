/-
  The drawing functions of the laws, further: a text of n bytes. (That it comes to an end: Luck.)
-/
import Derived.Test.YthjholhjkahdkaaDrawSome
import Derived.Deep.LoopGhost
import Derived.Deep.RegionWith
namespace Go.Proofs.Ythjholhjkahdkaa.draw
open Go.ChangeShapes Go.WideShapes Go.ChangeAt Go.RowKit
set_option maxRecDepth 100000

theorem infoB : (Try.prog.info? 5).map (fun i => (i.zero, i.size, i.bytes)) = some (some (.int .u8 0), 1, 1) := by kernel_rfl
theorem oneB (x : UInt8) : (encB x).oneCell' = true := rfl

/-- So many rounds at most are to come before a text grows. -/
def Fuel (len i : Nat) (h : Int) (m : Nat) : Prop := (i < len ∧ m = (len - i + 1) * 18446744073709551619) ∨ (i = len ∧ m < 18446744073709551619 ∧ Lucky h m)
theorem fuel_any (len i : Nat) (h : Int) (hi : i ≤ len) : ∃ m, m ≤ (len - i + 1) * 18446744073709551619 ∧ (i = len → m < 18446744073709551619) ∧ Fuel len i h m := by
  by_cases hl : i < len
  · exact ⟨_, Nat.le_refl _, fun e => by omega, .inl ⟨hl, rfl⟩⟩
  · obtain ⟨m, hm, hk⟩ := lucky h
    exact ⟨m, by omega, fun _ => hm, .inr ⟨by omega, hm, hk⟩⟩
theorem fuel_far {len i j : Nat} {h h' : Int} {m : Nat} (hf : Fuel len i h m) (hi : i < len) (hj : i < j) (hl : j ≤ len) : ∃ m', m' < m ∧ Fuel len j h' m' := by
  obtain ⟨m', h1, h2, h3⟩ := fuel_any len j h' hl
  rcases hf with ⟨_, rfl⟩ | ⟨e, _⟩
  · refine ⟨m', ?_, h3⟩
    by_cases hjl : j = len
    · have := h2 hjl; omega
    · omega
  · omega
theorem not_good {x : Nat} {h : Int} (hx : x = 1 ∨ x = 2) (hv : (x : Int) = outB (next h) % 5) : ¬ Good (next h) := by
  unfold Good
  omega
theorem fuel_step1 {len i : Nat} {h : Int} {m x : Nat} (hf : Fuel len i h m) (hi : i ≤ len) (hx : x = 1 ∨ x = 2) (hv : i = len → (x : Int) = outB (next h) % 5) : ∃ m', m' < m ∧ Fuel len (min len (i + 1)) (next h) m' := by
  by_cases hl : i < len
  · exact fuel_far hf hl (by omega) (by omega)
  · rcases hf with ⟨e, _⟩ | ⟨e, hm, hk⟩
    · omega
    · have hg := not_good hx (hv e)
      by_cases h2 : m ≤ 2
      · exact absurd (hk.now h2) hg
      · obtain ⟨m', rfl⟩ : ∃ q, m = q + 1 := ⟨m - 1, by omega⟩
        exact ⟨m', by omega, .inr ⟨by omega, by omega, hk.step⟩⟩
theorem fuel_step3 {len i : Nat} {h : Int} {m x : Nat} (hf : Fuel len i h m) (hi : i ≤ len) (hx : x = 1 ∨ x = 2) (hv : i = len → (x : Int) = outB (next h) % 5) : ∃ m', m' < m ∧ Fuel len (min len (min len (min len (i + 1) + 1) + 1)) (next (next (next h))) m' := by
  by_cases hl : i < len
  · exact fuel_far hf hl (by omega) (by omega)
  · rcases hf with ⟨e, _⟩ | ⟨e, hm, hk⟩
    · omega
    · have hg := not_good hx (hv e)
      by_cases h2 : m ≤ 2
      · exact absurd (hk.now h2) hg
      · obtain ⟨m', rfl⟩ : ∃ q, m = q + 3 := ⟨m - 3, by omega⟩
        exact ⟨m', by omega, .inr ⟨by omega, by omega, hk.step3⟩⟩

/-- What the loop of l01Text keeps: the bytes so far, the cursor, how far the end is. -/
structure TextRel (w wr : World) (g : Nat) (a : Option Addr) (len cap n : Nat) (v : Value) (l : List UInt8) (gk : Nat) : Prop where
  own : OwnL wr w.heap.size 5 encB v l
  long : l.length ≤ n + 20
  grown : w.grownBy wr (some g)
  state : ∃ (i : Nat) (h : Int) (m : Nat), DrawS wr g a len cap i h ∧ Fuel len i h m ∧ gk = (n - l.length) * 38685626227668133596889088 + m

theorem own_draw {w wr w2 : World} {g : Nat} {v : Value} {l : List UInt8} (h : OwnL wr w.heap.size 5 encB v l) (hg : g < w.heap.size) (hd : wr.grownBy w2 (some g)) : OwnL w2 w.heap.size 5 encB v l := by
  refine World.ownsRow.kept h hd ?_
  cases hv : v.ownBlock with
  | none => exact .inl rfl
  | some k => exact .inr (by have := h.base_le k hv; simp; omega)
theorem grown_row {w wr w2 : World} {g : Nat} {v : Value} {l : List UInt8} (h : OwnL wr w.heap.size 5 encB v l) (hw : w.grownBy wr (some g)) (hg : wr.grownBy w2 v.ownBlock) : w.grownBy w2 (some g) :=
  ⟨hg.os.trans hw.os, hg.tape.trans hw.tape, hg.output.trans hw.output, Nat.le_trans hw.size hg.size, fun k hk hn => by
    rw [hg.block k (Nat.lt_of_lt_of_le hk hw.size) (fun e => by have := h.base_le k e.symm; omega)]
    exact hw.block k hk hn⟩
theorem draw_row {w wr w2 : World} {g : Nat} {a : Option Addr} {len cap i : Nat} {h : Int} {v : Value} {l : List UInt8} (d : DrawS wr g a len cap i h) (hgw : g < w.heap.size) (ho : OwnL wr w.heap.size 5 encB v l) (hg : wr.grownBy w2 v.ownBlock) : DrawS w2 g a len cap i h :=
  d.kept fun k hk => hg.block k (by have := d.lt; omega) (fun e => by have := ho.base_le k e.symm; omega)

theorem TextRel.grew {w wr : World} {g : Nat} {a : Option Addr} {len cap n i m : Nat} {h : Int} {v : Value} {l l' : List UInt8} {gk : Nat} (hlt : l.length < n) (hl : l.length < l'.length) (hgk : gk = (n - l.length) * 38685626227668133596889088 + m)
    (own : OwnL wr w.heap.size 5 encB v l') (long : l'.length ≤ n + 20) (grown : w.grownBy wr (some g)) (d : DrawS wr g a len cap i h) : ∃ gk', gk' < gk ∧ TextRel w wr g a len cap n v l' gk' := by
  obtain ⟨m', h1, _, h3⟩ := fuel_any len i h d.le
  have hs := d.code.small
  exact ⟨(n - l'.length) * 38685626227668133596889088 + m', by omega, own, long, grown, i, h, m', d, h3, rfl⟩
theorem TextRel.same {w wr : World} {g : Nat} {a : Option Addr} {len cap n i m m' : Nat} {h : Int} {v : Value} {l l' : List UInt8} {gk : Nat} (he : l'.length = l.length) (hgk : gk = (n - l.length) * 38685626227668133596889088 + m) (hm : m' < m) (hf : Fuel len i h m')
    (own : OwnL wr w.heap.size 5 encB v l') (long : l'.length ≤ n + 20) (grown : w.grownBy wr (some g)) (d : DrawS wr g a len cap i h) : ∃ gk', gk' < gk ∧ TextRel w wr g a len cap n v l' gk' :=
  ⟨(n - l'.length) * 38685626227668133596889088 + m', by omega, own, long, grown, i, h, m', d, hf, rfl⟩
theorem str_take {w : World} {base e : Nat} {a : Option Addr} {n' cap' : Nat} {l : List UInt8} (n : Nat) (hn : n ≤ l.length) (h : OwnL w base e encB (.slice a n' cap') l) : OwnL w base e encB (.slice a n cap') (l.take n) := by
  obtain ⟨_, h2⟩ := h
  refine ⟨by simp, ?_⟩
  rcases h2 with ⟨h0, hz⟩ | ⟨g, cap, cur, h0, hb, hg, hc, hm, hs, ht⟩
  · injection h0 with h1 h2 h3
    have : n = 0 := by omega
    subst this; subst h1; subst h3
    exact .inl ⟨rfl, by simp⟩
  · injection h0 with h1 h2 h3
    subst h1; subst h3
    have hl : (l.take n).length = n := by rw [List.length_take]; omega
    refine .inr ⟨g, _, cur, by rw [hl], hb, hg, by omega, hm, hs, ?_⟩
    rw [hl, List.map_take, ← ht, List.take_take]
    congr 1
    omega

set_option maxHeartbeats 8000000 in
theorem text_pos (w : World) (g : Nat) (a : Option Addr) (len cap n : Nat) (hp : 0 < n) (hn : n ≤ 200) (hd : Draw w g a len cap) :
    Calls Try.prog 49 #[.pointer (some ⟨g, 0, none⟩), .int .i64 n] w fun e w' => ∃ s : ByteArray, s.size = n ∧ e = .returned (.string s) ∧ Draw w' g a len cap ∧ w.grownBy w' (some g) := by
  obtain ⟨i0, hi0, hz0, hz1, hz2⟩ := info_parts infoB
  have hgw := hd.lt
  obtain ⟨i, h, hs⟩ := hd.state
  obtain ⟨m, hm1, _, hm3⟩ := fuel_any len i h hs.le
  have HS : Hid (TextRel w (w.alloc (.cells #[] 5)) g a len cap n (.slice (some ⟨w.heap.size, 0, none⟩) 0 0) [] ((n - ([] : List UInt8).length) * 38685626227668133596889088 + m)) :=
    ⟨OwnL.empty _ _ _ (Nat.le_refl _), by simp, World.grownBy_alloc _ _ _, i, h, m, hs.below ((Below.refl _ _).alloc (Nat.le_refl _) _), hm3, rfl⟩
  clear hd hs hm1 hm3
  go_enter Try.func49, Try.ntmps49
  go_wp2_with fail
  go_loopg [5] ((n - ([] : List UInt8).length) * 38685626227668133596889088 + m) (fun gk v wr => ∃ l : List UInt8, Hid (TextRel w wr g a len cap n v l gk))
  case atStart => exact ⟨_, HS⟩
  case round =>
    clear HS
    obtain ⟨l, HR⟩ := hrel
    have hlong := HR.out.long
    obtain ⟨va, vc, hv, hvc1, hvc2, hvs⟩ := HR.out.own.shape
    subst hv
    obtain ⟨i, h, m, hs, hf, hgk⟩ := HR.out.state
    have HO := Lib.hid HR.out.own
    have HG := Lib.hid HR.out.grown
    have HF := Lib.hid hf
    have HK := Lib.hid hgk
    have C := Lib.hid (below_step wr g a len cap i h 5 (by omega) (by omega) hs)
    have hi := hs.le
    clear HR hf hgk
    by_cases hlt : l.length < n
    · have hlt' : (l.length : Int) < (n : Int) := by omega
      clear hs hvs
      go_wp2_with fail
      with_reducible refine C.out.mono ?_
      rintro e w1 ⟨x, hx, hxv, rfl, hd1, hg1⟩
      have HO1 := Lib.hid (own_draw HO.out hgw hg1)
      have HG1 := Lib.hid (HG.out.trans hg1)
      have HX := Lib.hid hxv
      have HD1 := Lib.hid hd1
      have hz1' := hg1.size
      have hz0' := HG.out.size
      clear C HO HG hxv hd1 hg1
      by_cases x0 : x = 0
      · have e0 : ((x : Int) == 0) = true := by rw [x0]; rfl
        have C1 := Lib.hid (byte_step w1 g a len cap _ _ HD1.out)
        clear x0
        go_wp2_with fail
        with_reducible refine C1.out.mono ?_
        rintro e w2 ⟨y, hy, _, rfl, hd2, hg2⟩
        obtain ⟨b, rfl⟩ : ∃ b : UInt8, y = b.toNat := ⟨UInt8.ofNat y, by simp; omega⟩
        have HO2 := Lib.hid (own_draw HO1.out hgw hg2)
        have HG2 := Lib.hid (HG1.out.trans hg2)
        have HD2 := Lib.hid hd2
        have hz2' := hg2.size
        clear C1 HO1 HG1 HD1 hd2 hg2
        go_wp2_with (first
          | (at_builtin; refine wpList_app (by rfl) _ _ _ (by rfl) w.heap.size 5 encB i0 _ 1 Try.underlying22 hi0 hz0 hz1 hz2 rfl oneB _ l (by rfl) (HO2.out.alloc _) w2.heap.size 1 1 [b] (by rfl) (by rfl) _ (heap_alloc_new w2 _) (by rfl) (by unfold maxLen; omega) (by omega) (by simp; omega) ?_; intro v1 w3 hown3 hg3))
        obtain ⟨gk', hk, HR'⟩ := TextRel.grew hlt (l' := l ++ [b]) (by simp) HK.out hown3 (by simp; omega) (grown_row (HO2.out.alloc _) (HG2.out.trans (World.grownBy_alloc _ _ _)) hg3) (draw_row (HD2.out.below ((Below.refl _ _).alloc (Nat.le_refl _) _)) hgw (HO2.out.alloc _) hg3)
        go_roundg gk'
        case rel => exact ⟨_, HR'⟩
        case measure => exact hk
      have e0 : ((x : Int) == 0) = false := by simp; omega
      by_cases x1 : x = 1
      · have e1 : ((x : Int) == 1) = true := by rw [x1]; rfl
        have C1 := Lib.hid (below_step w1 g a len cap _ _ 9 (by omega) (by omega) HD1.out)
        have HX3 : Hid (∃ m', m' < m ∧ Fuel len (min len (min len (min len (i + 1) + 1) + 1)) (next (next (next h))) m') := fuel_step3 HF.out hi (.inl x1) HX.out
        clear x0 x1
        go_wp2_with fail
        with_reducible refine C1.out.mono ?_
        rintro e w2 ⟨k, hk9, _, rfl, hd2, hg2⟩
        have HO2 := Lib.hid (own_draw HO1.out hgw hg2)
        have HG2 := Lib.hid (HG1.out.trans hg2)
        have C2 := Lib.hid (below_step w2 g a len cap _ _ 4 (by omega) (by omega) hd2)
        have hz2' := hg2.size
        clear C1 HO1 HG1 HD1 hd2 hg2
        go_wp2_with fail
        with_reducible refine C2.out.mono ?_
        rintro e w3 ⟨y, hy, _, rfl, hd3, hg3⟩
        have HO3 := Lib.hid (own_draw HO2.out hgw hg3)
        have HG3 := Lib.hid (HG2.out.trans hg3)
        obtain ⟨I, H, HD3, HF3⟩ : ∃ I H, Hid (DrawS w3 g a len cap I H) ∧ Hid (∃ m', m' < m ∧ Fuel len I H m') := ⟨_, _, hd3, HX3.out⟩
        obtain ⟨b, hb8⟩ : ∃ b : UInt8, 97 + (y : Int) = (b.toNat : Int) := ⟨UInt8.ofNat (97 + y), by simp; omega⟩
        have hb9 := b.toNat_lt
        have hz3' := hg3.size
        clear C2 HO2 HG2 hd3 hg3 HX3
        go_wp2_with fail
        go_loopw [5, 8] (fun v q wz => ∃ (l' : List UInt8) (j : Nat), q = .int .i64 (j : Int) ∧ j ≤ k ∧ l'.length = l.length + j ∧ w.heap.size ≤ wz.heap.size ∧ Hid (OwnL wz w.heap.size 5 encB v l') ∧ Hid (w.grownBy wz (some g)) ∧ Hid (DrawS wz g a len cap I H)) (fun _ q _ => k - (intOf q).toNat)
        case atStart => exact ⟨l, 0, rfl, by omega, by omega, by omega, HO3, HG3, HD3⟩
        case round =>
          clear HO3 HG3 HD3
          obtain ⟨l', j, rfl, hj, hl', hwz, HO, HG, HD⟩ := hrel
          by_cases hjk : j < k
          · have hjk' : (j : Int) < (k : Int) := by omega
            go_wp2_with (first
              | (at_builtin; refine wpList_app (by rfl) _ _ _ (by rfl) w.heap.size 5 encB i0 _ 1 Try.underlying22 hi0 hz0 hz1 hz2 rfl oneB _ l' (by rfl) (HO.out.alloc _) wr.heap.size 1 1 [b] (by rfl) (by rfl) _ (heap_alloc_new wr _) (by rfl) (by unfold maxLen; omega) (by omega) (by simp; omega) ?_; intro v1 w3 hown3 hg3))
            have HO4 := Lib.hid hown3
            have HG4 := Lib.hid (grown_row (HO.out.alloc _) (HG.out.trans (World.grownBy_alloc _ _ _)) hg3)
            have HD4 := Lib.hid (draw_row (HD.out.below ((Below.refl _ _).alloc (Nat.le_refl _) _)) hgw (HO.out.alloc _) hg3)
            have hz4 : wr.heap.size ≤ w3.heap.size := by have := hg3.size; simp at this; omega
            clear hown3 hg3 HO HG HD
            go_wp2
            go_roundw
            case rel => exact ⟨l' ++ [b], j + 1, by go_num, by omega, by simp; omega, by omega, HO4, HG4, HD4⟩
            case measure => simp [intOf]; omega
          · have hjk' : ¬ (j : Int) < (k : Int) := by omega
            have hR : ∃ gk', gk' < gk ∧ TextRel w wr g a len cap n u5 l' gk' := by
              by_cases hk0 : k = 0
              · obtain ⟨m', hm', hf'⟩ := HF3.out
                exact TextRel.same (by omega) HK.out hm' hf' HO.out (by omega) HG.out HD.out
              · exact TextRel.grew hlt (by omega) HK.out HO.out (by omega) HG.out HD.out
            obtain ⟨gk', hk, HR'⟩ := hR
            have HR2 := Lib.hid HR'
            clear HR' HO HG HD
            go_wp2
            go_roundg gk'
            case rel => exact ⟨_, HR2⟩
            case measure => exact hk
      have e1 : ((x : Int) == 1) = false := by simp; omega
      by_cases x2 : x = 2
      · have e2 : ((x : Int) == 2) = true := by rw [x2]; rfl
        have HX1 : Hid (∃ m', m' < m ∧ Fuel len (min len (i + 1)) (next h) m') := fuel_step1 HF.out hi (.inr x2) HX.out
        have HX3 : Hid (∃ m', m' < m ∧ Fuel len (min len (min len (min len (i + 1) + 1) + 1)) (next (next (next h))) m') := fuel_step3 HF.out hi (.inr x2) HX.out
        clear x0 x1 x2
        by_cases hl0 : l.length = 0
        · have hl0' : ¬ (0 : Int) < (l.length : Int) := by omega
          have HR' : Hid (∃ gk', gk' < gk ∧ TextRel w w1 g a len cap n (.slice va l.length vc) l gk') := by
            obtain ⟨m', hm', hf'⟩ := HX1.out
            exact TextRel.same rfl HK.out hm' hf' HO1.out (by omega) HG1.out HD1.out
          clear HX1 HX3 HO1 HG1 HD1
          go_wp2
          obtain ⟨gk', hk, HR2⟩ := HR'.out
          rw [hl0] at HR2
          go_roundg gk'
          case rel => exact ⟨l, HR2⟩
          case measure => exact hk
        · have hl0' : (0 : Int) < (l.length : Int) := by omega
          have C1 := Lib.hid (below_step w1 g a len cap _ _ (l.length : Int) (by omega) (by omega) HD1.out)
          go_wp2_with fail
          with_reducible refine C1.out.mono ?_
          rintro e w2 ⟨fr, hfr, _, rfl, hd2, hg2⟩
          have HO2 := Lib.hid (own_draw HO1.out hgw hg2)
          have HG2 := Lib.hid (HG1.out.trans hg2)
          have C2 := Lib.hid (below_step w2 g a len cap _ _ 20 (by omega) (by omega) hd2)
          have hz2' := hg2.size
          clear C1 HO1 HG1 HD1 hd2 hg2 HX1
          go_wp2_with fail
          with_reducible refine C2.out.mono ?_
          rintro e w3 ⟨k, hk9, _, rfl, hd3, hg3⟩
          have HO3 := Lib.hid (own_draw HO2.out hgw hg3)
          have HG3 := Lib.hid (HG2.out.trans hg3)
          obtain ⟨I, H, HD3, HF3⟩ : ∃ I H, Hid (DrawS w3 g a len cap I H) ∧ Hid (∃ m', m' < m ∧ Fuel len I H m') := ⟨_, _, hd3, HX3.out⟩
          have hz3' := hg3.size
          clear C2 HO2 HG2 hd3 hg3 HX3
          go_wp2_with fail
          go_loopw [5, 11] (fun v q wz => ∃ (l' : List UInt8) (j : Nat) (ga vc' : Nat), q = .int .i64 (j : Int) ∧ v = .slice (some ⟨ga, 0, none⟩) l'.length vc' ∧ j ≤ k ∧ l'.length = l.length + j ∧ w.heap.size ≤ wz.heap.size ∧ Hid (OwnL wz w.heap.size 5 encB v l') ∧ Hid (w.grownBy wz (some g)) ∧ Hid (DrawS wz g a len cap I H)) (fun _ q _ => k - (intOf q).toNat)
          case atStart =>
            obtain ⟨va', vc', e, _, _, hs⟩ := HO3.out.shape
            obtain ⟨ga, rfl, _⟩ := hs (by omega)
            exact ⟨l, 0, ga, _, rfl, e, by omega, by omega, by omega, HO3, HG3, HD3⟩
          case round =>
            clear HO3 HG3 HD3
            obtain ⟨l', j, ga, vc', rfl, rfl, hj, hl', hwz, HO, HG, HD⟩ := hrel
            by_cases hjk : j < k
            · have hjk' : (j : Int) < (k : Int) := by omega
              have hq0 : (0 : Int) ≤ (fr : Int) + (j : Int) := by omega
              have hq1 : (fr : Int) + (j : Int) < (l'.length : Int) := by omega
              have hqt : ((fr : Int) + (j : Int)).toNat = fr + j := by omega
              obtain ⟨b, hcell⟩ : ∃ b : UInt8, wr.cell? ⟨ga, fr + j, none⟩ = some (.int .u8 (b.toNat : Int)) := ⟨_, HO.out.cell (fr + j) (by omega)⟩
              have hb9 := b.toNat_lt
              go_wp2_with (first
                | (at_builtin; refine wpList_app (by rfl) _ _ _ (by rfl) w.heap.size 5 encB i0 _ 1 Try.underlying22 hi0 hz0 hz1 hz2 rfl oneB _ l' (by rfl) (HO.out.alloc _) wr.heap.size 1 1 [b] (by rfl) (by rfl) _ (heap_alloc_new wr _) (by rfl) (by unfold maxLen; omega) (by omega) (by simp; omega) ?_; intro v1 w3 hown3 hg3))
              have hsh := hown3.shape
              have HO4 := Lib.hid hown3
              have HG4 := Lib.hid (grown_row (HO.out.alloc _) (HG.out.trans (World.grownBy_alloc _ _ _)) hg3)
              have HD4 := Lib.hid (draw_row (HD.out.below ((Below.refl _ _).alloc (Nat.le_refl _) _)) hgw (HO.out.alloc _) hg3)
              have hz4 : wr.heap.size ≤ w3.heap.size := by have := hg3.size; simp at this; omega
              obtain ⟨va2, vc2, e4, _, _, hs4⟩ := hsh
              obtain ⟨ga2, e5, _⟩ := hs4 (by simp)
              subst e5
              subst e4
              clear hown3 hg3 HO HG HD hs4
              go_wp2
              go_roundw
              case rel => exact ⟨l' ++ [b], j + 1, ga2, vc2, by go_num, rfl, by omega, by simp; omega, by omega, HO4, HG4, HD4⟩
              case measure => simp [intOf]; omega
            · have hjk' : ¬ (j : Int) < (k : Int) := by omega
              have hR : ∃ gk', gk' < gk ∧ TextRel w wr g a len cap n (.slice (some ⟨ga, 0, none⟩) l'.length vc') l' gk' := by
                by_cases hk0 : k = 0
                · obtain ⟨m', hm', hf'⟩ := HF3.out
                  exact TextRel.same (by omega) HK.out hm' hf' HO.out (by omega) HG.out HD.out
                · exact TextRel.grew hlt (by omega) HK.out HO.out (by omega) HG.out HD.out
              obtain ⟨gk', hk, HR'⟩ := hR
              rw [hl'] at HR'
              have HR2 := Lib.hid HR'
              clear HR' HO HG HD
              go_wp2
              go_roundg gk'
              case rel => exact ⟨l', HR2⟩
              case measure => exact hk
      · have e2 : ((x : Int) == 2) = false := by simp; omega
        have C1 := Lib.hid (below_step w1 g a len cap _ _ 26 (by omega) (by omega) HD1.out)
        clear x0 x1 x2
        go_wp2_with fail
        with_reducible refine C1.out.mono ?_
        rintro e w2 ⟨y, hy, _, rfl, hd2, hg2⟩
        obtain ⟨b, hb8⟩ : ∃ b : UInt8, 97 + (y : Int) = (b.toNat : Int) := ⟨UInt8.ofNat (97 + y), by simp; omega⟩
        have hb9 := b.toNat_lt
        have HO2 := Lib.hid (own_draw HO1.out hgw hg2)
        have HG2 := Lib.hid (HG1.out.trans hg2)
        have HD2 := Lib.hid hd2
        have hz2' := hg2.size
        clear C1 HO1 HG1 HD1 hd2 hg2
        go_wp2_with (first
          | (at_builtin; refine wpList_app (by rfl) _ _ _ (by rfl) w.heap.size 5 encB i0 _ 1 Try.underlying22 hi0 hz0 hz1 hz2 rfl oneB _ l (by rfl) (HO2.out.alloc _) w2.heap.size 1 1 [b] (by rfl) (by rfl) _ (heap_alloc_new w2 _) (by rfl) (by unfold maxLen; omega) (by omega) (by simp; omega) ?_; intro v1 w3 hown3 hg3))
        obtain ⟨gk', hk, HR'⟩ := TextRel.grew hlt (l' := l ++ [b]) (by simp) HK.out hown3 (by simp; omega) (grown_row (HO2.out.alloc _) (HG2.out.trans (World.grownBy_alloc _ _ _)) hg3) (draw_row (HD2.out.below ((Below.refl _ _).alloc (Nat.le_refl _) _)) hgw (HO2.out.alloc _) hg3)
        go_roundg gk'
        case rel => exact ⟨_, HR'⟩
        case measure => exact hk
    · have hlt' : ¬ (l.length : Int) < (n : Int) := by omega
      have hn0 : (0 : Int) ≤ (n : Int) := by omega
      have hn1 : (n : Int) ≤ (vc : Int) := by omega
      have HD0 := Lib.hid hs.draw
      clear C hs
      obtain ⟨ga, rfl, _⟩ := hvs (by omega)
      have hc := run_string_own (P := Try.prog) 22 5 9 Try.underlying22 Try.underlying5 Try.underlying9 (str_take n (by omega) HO.out)
      clear hvs
      go_wp2
      go_ret
      exact ⟨_, by show (List.take n l).toArray.size = n; simp; omega, rfl, HD0.out, HG.out⟩

set_option maxHeartbeats 1000000 in
theorem text_zero (w : World) (g : Nat) (a : Option Addr) (len cap : Nat) (hd : Draw w g a len cap) :
    Calls Try.prog 49 #[.pointer (some ⟨g, 0, none⟩), .int .i64 0] w fun e w' => ∃ s : ByteArray, s.size = 0 ∧ e = .returned (.string s) ∧ Draw w' g a len cap ∧ w.grownBy w' (some g) := by
  have HD0 := Lib.hid (hd.below ((Below.refl _ _).alloc (Nat.le_refl _) (.cells #[] 5)))
  have HG : Hid (w.grownBy (w.alloc (.cells #[] 5)) (some g)) := World.grownBy_alloc _ _ _
  have hc := run_string_own (P := Try.prog) 22 5 9 Try.underlying22 Try.underlying5 Try.underlying9 (OwnL.empty (base := w.heap.size) w 5 encB (Nat.le_refl _))
  clear hd
  go_enter Try.func49, Try.ntmps49
  go_wp2_with fail
  go_loopw [5] (fun v wr => v = .slice (some ⟨w.heap.size, 0, none⟩) 0 0 ∧ wr = w.alloc (.cells #[] 5)) (fun _ _ => 0)
  case atStart => exact ⟨rfl, rfl⟩
  case round =>
    obtain ⟨rfl, rfl⟩ := hrel
    go_wp2
    go_ret
    exact ⟨⟨#[]⟩, rfl, rfl, HD0.out, HG.out⟩

theorem text_any (w : World) (g : Nat) (a : Option Addr) (len cap n : Nat) (hn : n ≤ 200) (hd : Draw w g a len cap) :
    Calls Try.prog 49 #[.pointer (some ⟨g, 0, none⟩), .int .i64 n] w fun e w' => ∃ s : ByteArray, s.size = n ∧ e = .returned (.string s) ∧ Draw w' g a len cap ∧ w.grownBy w' (some g) := by
  by_cases h : 0 < n
  · exact text_pos w g a len cap n h hn hd
  · have h0 : n = 0 := by omega
    subst h0
    exact text_zero w g a len cap hd

end Go.Proofs.Ythjholhjkahdkaa.draw
