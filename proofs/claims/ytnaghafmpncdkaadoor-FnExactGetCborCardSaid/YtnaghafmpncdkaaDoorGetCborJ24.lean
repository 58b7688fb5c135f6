/-
  What spec.l05Put returns at every value of which CBOR has one form; spec.PutCbor at every value.
-/
import Derived.Test.YtnaghafmpncdkaaDoorGetCborJ22
import Derived.Test.YtnaghafmpncdkaaDoorGetCborJ23
import Derived.Test.YtnaghafmpncdkaaDoorGetCborJ6
import Derived.Deep.RegionHeld3
namespace Go.Proofs.YtnaghafmpncdkaaDoor.cbor
open Go.ChangeShapes Go.WideShapes Go.ChangeAt Go.RowKit
open Go.Proofs.YtnaghafmpncdkaaDoor.val Go.Proofs.YtnaghafmpncdkaaDoor.head
set_option maxRecDepth 100000

theorem fitVL_at : ∀ (l : List LT), FitVL (l.map er) → ∀ i (h : i < l.length), FitV (er l[i])
  | [], _, i, h => by simp at h
  | t :: ts, hf, i, h => by
    rw [List.map_cons, FitVL] at hf
    cases i with
    | zero => exact hf.1
    | succ i => exact fitVL_at ts hf.2 i (by simpa using h)
theorem cborT_0 (n e : Int) (s : ByteArray) (l : List VT) : cborT (.mk 0 n e s l) = headL 7 22 := by rw [cborT, if_pos rfl]
theorem cborT_1 (n e : Int) (s : ByteArray) (l : List VT) : cborT (.mk 1 n e s l) = headL 7 20 := by rw [cborT, if_neg (by decide), if_pos rfl]
theorem cborT_2 (n e : Int) (s : ByteArray) (l : List VT) : cborT (.mk 2 n e s l) = headL 7 21 := by rw [cborT, if_neg (by decide), if_neg (by decide), if_pos rfl]
theorem cborT_3 (n e : Int) (s : ByteArray) (l : List VT) : cborT (.mk 3 n e s l) = intL n := by rw [cborT, if_neg (by decide), if_neg (by decide), if_neg (by decide), if_pos rfl]
theorem cborT_4 (n e : Int) (s : ByteArray) (l : List VT) : cborT (.mk 4 n e s l) = headL 6 4 ++ (headL 4 2 ++ (intL e ++ intL n)) := by rw [cborT, if_neg (by decide), if_neg (by decide), if_neg (by decide), if_neg (by decide), if_pos rfl]
theorem cborT_5 (n e : Int) (s : ByteArray) (l : List VT) : cborT (.mk 5 n e s l) = headL 3 s.size ++ s.data.toList := by rw [cborT, if_neg (by decide), if_neg (by decide), if_neg (by decide), if_neg (by decide), if_neg (by decide), if_pos rfl]
theorem cborT_6 (n e : Int) (s : ByteArray) (l : List VT) : cborT (.mk 6 n e s l) = headL 2 s.size ++ s.data.toList := by rw [cborT, if_neg (by decide), if_neg (by decide), if_neg (by decide), if_neg (by decide), if_neg (by decide), if_neg (by decide), if_pos rfl]
theorem cborT_7 (n e : Int) (s : ByteArray) (l : List VT) : cborT (.mk 7 n e s l) = headL 4 l.length ++ cborTL l := by rw [cborT, if_neg (by decide), if_neg (by decide), if_neg (by decide), if_neg (by decide), if_neg (by decide), if_neg (by decide), if_neg (by decide), if_pos rfl]
theorem cborT_8 (n e : Int) (s : ByteArray) (l : List VT) : cborT (.mk 8 n e s l) = headL 5 (l.length / 2) ++ cborTL l := by rw [cborT, if_neg (by decide), if_neg (by decide), if_neg (by decide), if_neg (by decide), if_neg (by decide), if_neg (by decide), if_neg (by decide), if_neg (by decide), if_pos rfl]
theorem cborT_9 (n e : Int) (s : ByteArray) (l : List VT) : cborT (.mk 9 n e s l) = headL 6 n.toNat ++ cborTL l := by rw [cborT, if_neg (by decide), if_neg (by decide), if_neg (by decide), if_neg (by decide), if_neg (by decide), if_neg (by decide), if_neg (by decide), if_neg (by decide), if_neg (by decide)]
theorem put_any {w : World} {B : Nat} {t : LT} (h : In w B t) : CPutC w B t := by
  induction h with
  | mk hk hn he hs hl hc hkids ih =>
    rename_i k n e s a cap kids
    intro hf hz w' hb hB
    have hzk : LT.szL kids ≤ 1048576 := by rw [LT.sz] at hz; omega
    have hss : s.size ≤ 1048576 := by rw [LT.sz] at hz; omega
    rw [er_mk] at hf ⊢
    simp only [LT.k, LT.n, LT.e, LT.s, LT.a, LT.cap, LT.kids] at hf ⊢
    unfold LT.row
    simp only [LT.a, LT.cap, LT.kids]
    rw [FitV] at hf
    obtain ⟨hN, hL⟩ := hf
    have hfk := fitVL_at kids hL
    have hml : (kids.map er).length = kids.length := List.length_map ..
    generalize hm : (kids.map er).length = m at hN
    cases hN with
    | word hk hs =>
      rcases hk with rfl | rfl | rfl
      · rw [cborT_0]; exact put_word w' 0 22 (.inl ⟨rfl, rfl⟩)
      · rw [cborT_1]; exact put_word w' 1 20 (.inr (.inl ⟨rfl, rfl⟩))
      · rw [cborT_2]; exact put_word w' 2 21 (.inr (.inr ⟨rfl, rfl⟩))
    | int hn hs => rw [cborT_3]; exact put_int w' hn
    | dec hn he hs => rw [cborT_4]; exact put_dec w' hn he
    | text hs => rw [cborT_5]; exact put_text w' hss
    | bytes hs => rw [cborT_6]; exact put_bytes w' hss
    | list hs hm => rw [cborT_7, hml]; exact put_list hc ih hfk hzk w' hb hB
    | map hs hm h2 => rw [cborT_8, hml]; exact put_map hc ih hfk hzk w' hb hB
    | tag h0 h1 h4 hs => rw [cborT_9]; exact put_tag hc ih hfk hzk ⟨h0, h1⟩ w' hb hB
/-- What spec.PutCbor returns: the bytes of a value that fits, else none. -/
def PutR (w : World) (t : LT) (r : Ending) (w' : World) : Prop := ∃ L : List UInt8, r = .returned (.string ⟨L.toArray⟩) ∧ (FitsC t → L = cborT (er t)) ∧ (¬ FitsC t → L = []) ∧ Below w.heap.size w w'
set_option maxHeartbeats 1000000 in
theorem spec_putcbor {w : World} {B : Nat} {t : LT} (h : In w B t) (hz : t.sz ≤ 1048576) (w' : World) (hb : Below B w w') (hB : B ≤ w'.heap.size) :
    Calls Tryd.prog 25 #[.agg #[.int .i64 t.k, .int .i64 t.n, .int .i64 t.e, .string t.s, t.row]] w' (PutR w' t) := by
  have hrow : t.row = .slice t.a t.kids.length t.cap := rfl
  have HA : Hid (Below w'.heap.size w' (w'.alloc (.cells #[.int .i64 t.k, .int .i64 t.n, .int .i64 t.e, .string t.s, .slice t.a t.kids.length t.cap] 24))) := (Below.refl _ _).alloc (Nat.le_refl _) _
  have HX : Hid (val.Box (w'.alloc (.cells #[.int .i64 t.k, .int .i64 t.n, .int .i64 t.e, .string t.s, .slice t.a t.kids.length t.cap] 24)) w'.heap.size t) := val.Box.new w' t 24
  have CF : Hid (∀ W, Below w'.heap.size w' W → Calls Tryd.prog 32 #[.agg #[.int .i64 t.k, .int .i64 t.n, .int .i64 t.e, .string t.s, t.row]] W (node.OwnR (FitsC t) W)) := fun W hW => node.spec_fits h hz W (hb.trans (hW.mono hB)) (Nat.le_trans hB hW.size)
  have CP : Hid (FitsC t → ∀ W, Below w'.heap.size w' W → PutS 51 #[.agg #[.int .i64 t.k, .int .i64 t.n, .int .i64 t.e, .string t.s, t.row]] (cborT (er t)) W) := fun hf W hW => put_any h (fits_fit h hf) hz W (hb.trans (hW.mono hB)) (Nat.le_trans hB hW.size)
  simp only [hrow] at CF CP ⊢
  unfold PutR
  unfold PutS at CP
  generalize cborT (er t) = T at *
  generalize FitsC t = V at *
  clear h hz hb hB hrow
  go_enter Tryd.func25, Tryd.ntmps25
  go_wp2_with fail
  with_reducible refine (CF.out _ HA.out).mono ?_
  rintro r w1 ⟨b, rfl, hbi, hb1⟩
  replace HX := Lib.hid (HX.out.behind hb1)
  replace HA := Lib.hid (below_of2 HA.out hb1)
  clear hb1 CF
  obtain ⟨p0, p1, p2, p3, p4⟩ := HX.out
  unfold LT.row at p4
  cases b with
  | false =>
    have HF : Hid (¬ V) := fun hv => by have := hbi.2 hv; cases this
    clear hbi
    go_wp2
    go_ret
    exact ⟨[], rfl, fun h => (HF.out h).elim, fun _ => rfl, HA.out⟩
  | true =>
    have HP : Hid V := hbi.1 rfl
    clear hbi
    have C := Lib.hid (CP.out HP.out w1 HA.out)
    clear CP
    go_wp2_with fail
    with_reducible refine C.out.mono ?_
    rintro r w2 ⟨rfl, hb2⟩
    replace HA := Lib.hid (below_of2 HA.out hb2)
    clear hb2 C p0 p1 p2 p3 p4
    go_wp2
    go_ret
    exact ⟨T, rfl, fun _ => rfl, fun h => (h HP.out).elim, HA.out⟩
end Go.Proofs.YtnaghafmpncdkaaDoor.cbor
/-
  What spec.GetHead returns: the head at a place of a text if it is the shortest form.
-/
namespace Go.Proofs.YtnaghafmpncdkaaDoor.head
open Go.ChangeShapes Go.WideShapes Go.ChangeAt Go.RowKit
set_option maxRecDepth 100000

/-- What spec.l05Any returns. -/
def anyHead (s : ByteArray) (i : Int) : Int × Nat × Int := if 0 ≤ i ∧ anyOk s i.toNat then ((maj s i.toNat : Int), num s i.toNat, i + 1 + many s i.toNat) else (-1, 0, -1)
def triple (p : Int × Nat × Int) : Value := .tuple #[.int .i64 p.1, .int .u64 p.2.1, .int .i64 p.2.2]

set_option maxHeartbeats 1000000 in
theorem any_out (s : ByteArray) (i : Int) (w : World) (hs : s.size ≤ 1048576) (h : ¬ (0 ≤ i ∧ i < s.size)) :
    Calls Tryd.prog 75 #[.string s, .int .i64 i] w fun e w' => e = .returned (triple (-1, 0, -1)) ∧ Below w.heap.size w w' := by
  by_cases h1 : i < 0
  · go_enter Tryd.func75, Tryd.ntmps75
    go_wp2
    go_ret3
    exact ⟨rfl, Below.refl _ _⟩
  · have h2 : (s.size : Int) ≤ i := by omega
    go_enter Tryd.func75, Tryd.ntmps75
    go_wp2
    go_ret3
    exact ⟨rfl, Below.refl _ _⟩
/-- The first byte. -/
structure First (s : ByteArray) (i b : Nat) : Prop where
  maj : maj s i = b / 32
  low : low s i = b % 32
theorem first_of (s : ByteArray) (i : Nat) (h : i < s.size) : ∃ b : Nat, s[i].toNat = b ∧ First s i b ∧ b < 256 := ⟨_, rfl, ⟨by unfold head.maj; rw [at_eq s i h], by unfold head.low; rw [at_eq s i h]⟩, s[i].toNat_lt⟩
set_option maxHeartbeats 1000000 in
theorem any_small (s : ByteArray) (i : Nat) (w : World) (hs : s.size ≤ 1048576) (h : i < s.size) (hl : low s i < 24) :
    Calls Tryd.prog 75 #[.string s, .int .i64 i] w fun e w' => e = .returned (triple ((maj s i : Int), low s i, (i : Int) + 1)) ∧ Below w.heap.size w w' := by
  have h0 : (0 : Int) ≤ (i : Int) := by omega
  have h1 : (i : Int) < (s.size : Int) := by omega
  obtain ⟨b, hb, hF, hb256⟩ := first_of s i h
  rw [hF.low] at hl ⊢
  rw [hF.maj]
  clear hF
  go_enter Tryd.func75, Tryd.ntmps75
  go_wp2
  go_region
  all_goals go_wp2
  all_goals go_ret3
  all_goals exact ⟨by unfold triple; simp, belowN (Below.refl _ _) 1⟩
set_option maxHeartbeats 1000000 in
theorem any_bad (s : ByteArray) (i : Nat) (w : World) (hs : s.size ≤ 1048576) (h : i < s.size) (hl : 28 ≤ low s i) :
    Calls Tryd.prog 75 #[.string s, .int .i64 i] w fun e w' => e = .returned (triple (-1, 0, -1)) ∧ Below w.heap.size w w' := by
  have h0 : (0 : Int) ≤ (i : Int) := by omega
  have h1 : (i : Int) < (s.size : Int) := by omega
  obtain ⟨b, hb, hF, hb256⟩ := first_of s i h
  rw [hF.low] at hl
  clear hF
  go_enter Tryd.func75, Tryd.ntmps75
  go_wp2
  go_region
  all_goals go_wp2
  all_goals go_ret3
  all_goals exact ⟨rfl, belowN (Below.refl _ _) 1⟩
theorem tail_step (s : ByteArray) (i M k : Nat) (hk : 1 ≤ k) (hM : k ≤ M) (h : i + 1 + M ≤ s.size) : ((s.data.toList.drop (i + 1)).take M).take k = ((s.data.toList.drop (i + 1)).take M).take (k - 1) ++ [s[i + k]] := by
  obtain ⟨j, rfl⟩ : ∃ j, k = j + 1 := ⟨k - 1, by omega⟩
  have e : s.data.toList.length = s.size := by simp
  have hl : j < ((s.data.toList.drop (i + 1)).take M).length := by rw [List.length_take, List.length_drop]; omega
  rw [List.take_succ_eq_append_getElem hl, Nat.add_sub_cancel]
  congr 2
  rw [List.getElem_take, List.getElem_drop]
  have : i + 1 + j = i + (j + 1) := by omega
  simp only [this]
  rfl
/-- The number so far, and how great it may be. -/
structure Sofar (s : ByteArray) (i M k N : Nat) : Prop where
  eq : N = beN (((s.data.toList.drop (i + 1)).take M).take (k - 1))
  lt : N < 256 ^ (k - 1)
theorem Sofar.start (s : ByteArray) (i M : Nat) : Sofar s i M 1 0 := ⟨by simp [beN], by simp⟩
theorem Sofar.step {s : ByteArray} {i M k N : Nat} (h : Sofar s i M k N) (hk : 1 ≤ k) (hM : k ≤ M) (hs : i + 1 + M ≤ s.size) : Sofar s i M (k + 1) (256 * N + s[i + k].toNat) := by
  refine ⟨?_, ?_⟩
  · rw [Nat.add_sub_cancel, tail_step s i M k hk hM hs, beN_snoc, ← h.eq]
  · have := h.lt
    have hb := (s[i + k]).toNat_lt
    have e : 256 ^ k = 256 ^ (k - 1) * 256 := by rw [← Nat.pow_succ]; congr 1; omega
    rw [Nat.add_sub_cancel, e]
    omega
theorem Sofar.small {s : ByteArray} {i M k N : Nat} (h : Sofar s i M k N) (hk : k ≤ 8) : N < 72057594037927936 := by
  have h1 : 256 ^ (k - 1) ≤ 256 ^ 7 := Nat.pow_le_pow_right (by omega) (by omega)
  have := h.lt
  omega
theorem any_yes {s : ByteArray} {i M N : Nat} (h : i < s.size) (hl : 24 ≤ low s i) (hl2 : low s i < 28) (hm : 2 ^ (low s i - 24) = M) (hs : i + 1 + M ≤ s.size) (hN : Sofar s i M (M + 1) N) : anyHead s i = ((maj s i : Int), N, (i : Int) + 1 + M) := by
  have e1 : many s i = M := by unfold many; rw [if_neg (by omega), hm]
  have e2 : num s i = N := by
    unfold num
    rw [if_neg (by omega), hN.eq, Nat.add_sub_cancel, List.take_take, Nat.min_self]
    unfold tail
    rw [e1]
  unfold anyHead
  rw [Int.toNat_natCast, if_pos ⟨by omega, h, hl2, by omega⟩, e1, e2]
theorem any_no {s : ByteArray} {i M : Nat} (hl : 24 ≤ low s i) (hm : 2 ^ (low s i - 24) = M) (hs : ¬ i + 1 + M ≤ s.size) : anyHead s i = (-1, 0, -1) := by
  have e1 : many s i = M := by unfold many; rw [if_neg (by omega), hm]
  unfold anyHead
  rw [Int.toNat_natCast, if_neg (fun h => hs (by have := h.2.2.2; omega))]
set_option maxHeartbeats 1000000 in
theorem any_1 (s : ByteArray) (i : Nat) (w : World) (hs : s.size ≤ 1048576) (h : i < s.size) (hl : low s i = 24) :
    Calls Tryd.prog 75 #[.string s, .int .i64 i] w fun e w' => e = .returned (triple (anyHead s i)) ∧ Below w.heap.size w w' := by
  have h0 : (0 : Int) ≤ (i : Int) := by omega
  have h1 : (i : Int) < (s.size : Int) := by omega
  obtain ⟨b, hb, hF, hb256⟩ := first_of s i h
  have HB : Hid (Below w.heap.size w (w.alloc (.cells #[.int .i64 1, .int .i64 2, .int .i64 4, .int .i64 8] 3)).drew) := belowN ((Below.refl _ _).alloc (Nat.le_refl _) _) 1
  by_cases hz : i + 1 + 1 ≤ s.size
  · have HY : Hid (∀ N, Sofar s i 1 (1 + 1) N → anyHead s i = (((b / 32 : Nat) : Int), N, (i : Int) + 1 + 1)) := fun N hN => by
      have := any_yes h (by omega) (by omega) (by rw [hl]) hz hN
      rw [this, hF.maj]; rfl
    have hz' : ¬ (s.size : Int) - i - 1 < 1 := by omega
    have hl' : b % 32 = 24 := by rw [← hF.low]; exact hl
    generalize anyHead s i = R at *
    clear hF hl
    go_enter Tryd.func75, Tryd.ntmps75
    go_wp2
    go_region
    all_goals go_wp2
    all_goals
      go_loop [10, 11] (fun x y => ∃ k N : Nat, y = .int .i64 k ∧ x = .int .u64 N ∧ 1 ≤ k ∧ k ≤ 1 + 1 ∧ Hid (Sofar s i 1 k N)) (fun _ y => 1 + 1 - (intOf y).toNat)
      case atStart => exact ⟨1, 0, rfl, rfl, by omega, by omega, Sofar.start s i 1⟩
      case round =>
        obtain ⟨k, N, rfl, rfl, hk1, hk2, HN⟩ := hrel
        by_cases hk : k ≤ 1
        · have hN := HN.out.small (by omega)
          have HN2 := Lib.hid (HN.out.step hk1 hk hz)
          have q0 : (0 : Int) ≤ (i : Int) + k := by omega
          have q1 : (i : Int) + k < (s.size : Int) := by omega
          have qt : ((i : Int) + k).toNat = i + k := by omega
          obtain ⟨c, hc, hc256⟩ : ∃ c : Nat, s[i + k].toNat = c ∧ c < 256 := ⟨_, rfl, s[i + k].toNat_lt⟩
          rw [hc] at HN2
          clear hb hb256 hl' h1 hz'
          go_wp2
          exact ⟨⟨k + 1, 256 * N + c, by go_num, by go_num, by omega, by omega, HN2⟩, by simp [intOf]; omega⟩
        · have ek : k = 1 + 1 := by omega
          subst ek
          have HR := Lib.hid (HY.out N HN.out)
          clear HY HN hb hb256 hl'
          go_wp2
          go_ret3
          exact ⟨by rw [HR.out]; rfl, HB.out⟩
  · have HY : Hid (anyHead s i = (-1, 0, -1)) := any_no (by omega) (by rw [hl]) hz
    have hz' : (s.size : Int) - i - 1 < 1 := by omega
    have hl' : b % 32 = 24 := by rw [← hF.low]; exact hl
    generalize anyHead s i = R at *
    clear hF hl
    go_enter Tryd.func75, Tryd.ntmps75
    go_wp2
    go_region
    all_goals go_wp2
    all_goals go_ret3
    all_goals exact ⟨by rw [HY.out]; rfl, HB.out⟩

set_option maxHeartbeats 1000000 in
theorem any_2 (s : ByteArray) (i : Nat) (w : World) (hs : s.size ≤ 1048576) (h : i < s.size) (hl : low s i = 25) :
    Calls Tryd.prog 75 #[.string s, .int .i64 i] w fun e w' => e = .returned (triple (anyHead s i)) ∧ Below w.heap.size w w' := by
  have h0 : (0 : Int) ≤ (i : Int) := by omega
  have h1 : (i : Int) < (s.size : Int) := by omega
  obtain ⟨b, hb, hF, hb256⟩ := first_of s i h
  have HB : Hid (Below w.heap.size w (w.alloc (.cells #[.int .i64 1, .int .i64 2, .int .i64 4, .int .i64 8] 3)).drew) := belowN ((Below.refl _ _).alloc (Nat.le_refl _) _) 1
  by_cases hz : i + 1 + 2 ≤ s.size
  · have HY : Hid (∀ N, Sofar s i 2 (2 + 1) N → anyHead s i = (((b / 32 : Nat) : Int), N, (i : Int) + 1 + 2)) := fun N hN => by
      have := any_yes h (by omega) (by omega) (by rw [hl]) hz hN
      rw [this, hF.maj]; rfl
    have hz' : ¬ (s.size : Int) - i - 1 < 2 := by omega
    have hl' : b % 32 = 25 := by rw [← hF.low]; exact hl
    generalize anyHead s i = R at *
    clear hF hl
    go_enter Tryd.func75, Tryd.ntmps75
    go_wp2
    go_region
    all_goals go_wp2
    all_goals
      go_loop [10, 11] (fun x y => ∃ k N : Nat, y = .int .i64 k ∧ x = .int .u64 N ∧ 1 ≤ k ∧ k ≤ 2 + 1 ∧ Hid (Sofar s i 2 k N)) (fun _ y => 2 + 1 - (intOf y).toNat)
      case atStart => exact ⟨1, 0, rfl, rfl, by omega, by omega, Sofar.start s i 2⟩
      case round =>
        obtain ⟨k, N, rfl, rfl, hk1, hk2, HN⟩ := hrel
        by_cases hk : k ≤ 2
        · have hN := HN.out.small (by omega)
          have HN2 := Lib.hid (HN.out.step hk1 hk hz)
          have q0 : (0 : Int) ≤ (i : Int) + k := by omega
          have q1 : (i : Int) + k < (s.size : Int) := by omega
          have qt : ((i : Int) + k).toNat = i + k := by omega
          obtain ⟨c, hc, hc256⟩ : ∃ c : Nat, s[i + k].toNat = c ∧ c < 256 := ⟨_, rfl, s[i + k].toNat_lt⟩
          rw [hc] at HN2
          clear hb hb256 hl' h1 hz'
          go_wp2
          exact ⟨⟨k + 1, 256 * N + c, by go_num, by go_num, by omega, by omega, HN2⟩, by simp [intOf]; omega⟩
        · have ek : k = 2 + 1 := by omega
          subst ek
          have HR := Lib.hid (HY.out N HN.out)
          clear HY HN hb hb256 hl'
          go_wp2
          go_ret3
          exact ⟨by rw [HR.out]; rfl, HB.out⟩
  · have HY : Hid (anyHead s i = (-1, 0, -1)) := any_no (by omega) (by rw [hl]) hz
    have hz' : (s.size : Int) - i - 1 < 2 := by omega
    have hl' : b % 32 = 25 := by rw [← hF.low]; exact hl
    generalize anyHead s i = R at *
    clear hF hl
    go_enter Tryd.func75, Tryd.ntmps75
    go_wp2
    go_region
    all_goals go_wp2
    all_goals go_ret3
    all_goals exact ⟨by rw [HY.out]; rfl, HB.out⟩

set_option maxHeartbeats 1000000 in
theorem any_4 (s : ByteArray) (i : Nat) (w : World) (hs : s.size ≤ 1048576) (h : i < s.size) (hl : low s i = 26) :
    Calls Tryd.prog 75 #[.string s, .int .i64 i] w fun e w' => e = .returned (triple (anyHead s i)) ∧ Below w.heap.size w w' := by
  have h0 : (0 : Int) ≤ (i : Int) := by omega
  have h1 : (i : Int) < (s.size : Int) := by omega
  obtain ⟨b, hb, hF, hb256⟩ := first_of s i h
  have HB : Hid (Below w.heap.size w (w.alloc (.cells #[.int .i64 1, .int .i64 2, .int .i64 4, .int .i64 8] 3)).drew) := belowN ((Below.refl _ _).alloc (Nat.le_refl _) _) 1
  by_cases hz : i + 1 + 4 ≤ s.size
  · have HY : Hid (∀ N, Sofar s i 4 (4 + 1) N → anyHead s i = (((b / 32 : Nat) : Int), N, (i : Int) + 1 + 4)) := fun N hN => by
      have := any_yes h (by omega) (by omega) (by rw [hl]) hz hN
      rw [this, hF.maj]; rfl
    have hz' : ¬ (s.size : Int) - i - 1 < 4 := by omega
    have hl' : b % 32 = 26 := by rw [← hF.low]; exact hl
    generalize anyHead s i = R at *
    clear hF hl
    go_enter Tryd.func75, Tryd.ntmps75
    go_wp2
    go_region
    all_goals go_wp2
    all_goals
      go_loop [10, 11] (fun x y => ∃ k N : Nat, y = .int .i64 k ∧ x = .int .u64 N ∧ 1 ≤ k ∧ k ≤ 4 + 1 ∧ Hid (Sofar s i 4 k N)) (fun _ y => 4 + 1 - (intOf y).toNat)
      case atStart => exact ⟨1, 0, rfl, rfl, by omega, by omega, Sofar.start s i 4⟩
      case round =>
        obtain ⟨k, N, rfl, rfl, hk1, hk2, HN⟩ := hrel
        by_cases hk : k ≤ 4
        · have hN := HN.out.small (by omega)
          have HN2 := Lib.hid (HN.out.step hk1 hk hz)
          have q0 : (0 : Int) ≤ (i : Int) + k := by omega
          have q1 : (i : Int) + k < (s.size : Int) := by omega
          have qt : ((i : Int) + k).toNat = i + k := by omega
          obtain ⟨c, hc, hc256⟩ : ∃ c : Nat, s[i + k].toNat = c ∧ c < 256 := ⟨_, rfl, s[i + k].toNat_lt⟩
          rw [hc] at HN2
          clear hb hb256 hl' h1 hz'
          go_wp2
          exact ⟨⟨k + 1, 256 * N + c, by go_num, by go_num, by omega, by omega, HN2⟩, by simp [intOf]; omega⟩
        · have ek : k = 4 + 1 := by omega
          subst ek
          have HR := Lib.hid (HY.out N HN.out)
          clear HY HN hb hb256 hl'
          go_wp2
          go_ret3
          exact ⟨by rw [HR.out]; rfl, HB.out⟩
  · have HY : Hid (anyHead s i = (-1, 0, -1)) := any_no (by omega) (by rw [hl]) hz
    have hz' : (s.size : Int) - i - 1 < 4 := by omega
    have hl' : b % 32 = 26 := by rw [← hF.low]; exact hl
    generalize anyHead s i = R at *
    clear hF hl
    go_enter Tryd.func75, Tryd.ntmps75
    go_wp2
    go_region
    all_goals go_wp2
    all_goals go_ret3
    all_goals exact ⟨by rw [HY.out]; rfl, HB.out⟩

set_option maxHeartbeats 1000000 in
theorem any_8 (s : ByteArray) (i : Nat) (w : World) (hs : s.size ≤ 1048576) (h : i < s.size) (hl : low s i = 27) :
    Calls Tryd.prog 75 #[.string s, .int .i64 i] w fun e w' => e = .returned (triple (anyHead s i)) ∧ Below w.heap.size w w' := by
  have h0 : (0 : Int) ≤ (i : Int) := by omega
  have h1 : (i : Int) < (s.size : Int) := by omega
  obtain ⟨b, hb, hF, hb256⟩ := first_of s i h
  have HB : Hid (Below w.heap.size w (w.alloc (.cells #[.int .i64 1, .int .i64 2, .int .i64 4, .int .i64 8] 3)).drew) := belowN ((Below.refl _ _).alloc (Nat.le_refl _) _) 1
  by_cases hz : i + 1 + 8 ≤ s.size
  · have HY : Hid (∀ N, Sofar s i 8 (8 + 1) N → anyHead s i = (((b / 32 : Nat) : Int), N, (i : Int) + 1 + 8)) := fun N hN => by
      have := any_yes h (by omega) (by omega) (by rw [hl]) hz hN
      rw [this, hF.maj]; rfl
    have hz' : ¬ (s.size : Int) - i - 1 < 8 := by omega
    have hl' : b % 32 = 27 := by rw [← hF.low]; exact hl
    generalize anyHead s i = R at *
    clear hF hl
    go_enter Tryd.func75, Tryd.ntmps75
    go_wp2
    go_region
    all_goals go_wp2
    all_goals
      go_loop [10, 11] (fun x y => ∃ k N : Nat, y = .int .i64 k ∧ x = .int .u64 N ∧ 1 ≤ k ∧ k ≤ 8 + 1 ∧ Hid (Sofar s i 8 k N)) (fun _ y => 8 + 1 - (intOf y).toNat)
      case atStart => exact ⟨1, 0, rfl, rfl, by omega, by omega, Sofar.start s i 8⟩
      case round =>
        obtain ⟨k, N, rfl, rfl, hk1, hk2, HN⟩ := hrel
        by_cases hk : k ≤ 8
        · have hN := HN.out.small (by omega)
          have HN2 := Lib.hid (HN.out.step hk1 hk hz)
          have q0 : (0 : Int) ≤ (i : Int) + k := by omega
          have q1 : (i : Int) + k < (s.size : Int) := by omega
          have qt : ((i : Int) + k).toNat = i + k := by omega
          obtain ⟨c, hc, hc256⟩ : ∃ c : Nat, s[i + k].toNat = c ∧ c < 256 := ⟨_, rfl, s[i + k].toNat_lt⟩
          rw [hc] at HN2
          clear hb hb256 hl' h1 hz'
          go_wp2
          exact ⟨⟨k + 1, 256 * N + c, by go_num, by go_num, by omega, by omega, HN2⟩, by simp [intOf]; omega⟩
        · have ek : k = 8 + 1 := by omega
          subst ek
          have HR := Lib.hid (HY.out N HN.out)
          clear HY HN hb hb256 hl'
          go_wp2
          go_ret3
          exact ⟨by rw [HR.out]; rfl, HB.out⟩
  · have HY : Hid (anyHead s i = (-1, 0, -1)) := any_no (by omega) (by rw [hl]) hz
    have hz' : (s.size : Int) - i - 1 < 8 := by omega
    have hl' : b % 32 = 27 := by rw [← hF.low]; exact hl
    generalize anyHead s i = R at *
    clear hF hl
    go_enter Tryd.func75, Tryd.ntmps75
    go_wp2
    go_region
    all_goals go_wp2
    all_goals go_ret3
    all_goals exact ⟨by rw [HY.out]; rfl, HB.out⟩

theorem any_all (s : ByteArray) (i : Int) (w : World) (hs : s.size ≤ 1048576) : Calls Tryd.prog 75 #[.string s, .int .i64 i] w fun e w' => e = .returned (triple (anyHead s i)) ∧ Below w.heap.size w w' := by
  by_cases h : 0 ≤ i ∧ i < s.size
  · obtain ⟨k, rfl⟩ : ∃ k : Nat, i = k := ⟨i.toNat, by omega⟩
    have hk : k < s.size := by omega
    by_cases h1 : low s k < 24
    · have e : anyHead s k = ((maj s k : Int), low s k, (k : Int) + 1) := by
        have em : many s k = 0 := if_pos h1
        unfold anyHead num
        rw [Int.toNat_natCast, if_pos ⟨by omega, hk, by omega, by omega⟩, if_pos h1, em]
        simp
      rw [e]
      exact any_small s k w hs hk h1
    by_cases h2 : low s k < 28
    · rcases (show low s k = 24 ∨ low s k = 25 ∨ low s k = 26 ∨ low s k = 27 by omega) with h3 | h3 | h3 | h3
      · exact any_1 s k w hs hk h3
      · exact any_2 s k w hs hk h3
      · exact any_4 s k w hs hk h3
      · exact any_8 s k w hs hk h3
    · have e : anyHead s k = (-1, 0, -1) := by
        unfold anyHead
        rw [Int.toNat_natCast, if_neg (fun h => h2 h.2.2.1)]
      rw [e]
      exact any_bad s k w hs hk (by omega)
  · have e : anyHead s i = (-1, 0, -1) := by
      unfold anyHead
      rw [if_neg (fun h' => h ⟨h'.1, by have := h'.2.1; omega⟩)]
    rw [e]
    exact any_out s i w hs h

end Go.Proofs.YtnaghafmpncdkaaDoor.head
/-
  What spec.GetHead returns: the head at a place of a text if it is the shortest form.
-/
namespace Go.Proofs.YtnaghafmpncdkaaDoor.head
open Go.ChangeShapes Go.WideShapes Go.ChangeAt Go.RowKit
set_option maxRecDepth 100000

theorem cut_list (s : ByteArray) (i X M : Nat) (h : X = i + 1 + M) : (s.extract i X).toList = (s.data.toList.drop i).take (1 + M) := by
  rw [ByteArray.toList_eq, ByteArray.data_extract, Array.toList_extract, List.extract_eq_take_drop]
  congr 1
  omega
theorem beq_dec (a b : List UInt8) : (a == b) = decide (a = b) := by
  by_cases h : a = b
  · subst h; simp
  · rw [decide_eq_false h]; simpa using h
theorem num_lt {s : ByteArray} {i : Nat} (h : anyOk s i) : num s i < 18446744073709551616 := by
  unfold num
  split
  · have : low s i < 32 := Nat.mod_lt _ (by omega)
    omega
  · have h1 := beN_lt (tail s i)
    rw [tail_len h] at h1
    have h2 : many s i ≤ 8 := by
      have := h.2.1
      unfold many
      split
      · omega
      · have : 2 ^ (low s i - 24) ≤ 2 ^ 3 := Nat.pow_le_pow_right (by omega) (by omega)
        omega
    have h3 : 256 ^ many s i ≤ 256 ^ 8 := Nat.pow_le_pow_right (by omega) h2
    omega
set_option maxHeartbeats 4000000 in
theorem get_spec_yes (s : ByteArray) (i : Nat) (w : World) (hs : s.size ≤ 1048576) (h : anyOk s i) :
    Calls Tryd.prog 65 #[.string s, .int .i64 i] w fun e w' => e = .returned (triple (getHead s i)) ∧ Below w.heap.size w w' := by
  have CA := fun W => any_all s i W hs
  obtain ⟨X, hX, hX1, hX2⟩ : ∃ X : Nat, X = i + 1 + many s i ∧ i ≤ X ∧ X ≤ s.size := ⟨_, rfl, by omega, h.2.2⟩
  have e1 : anyHead s i = ((maj s i : Int), num s i, (X : Int)) := by unfold anyHead; rw [Int.toNat_natCast, if_pos ⟨by omega, h⟩, hX]; simp
  rw [e1] at CA
  unfold triple at CA
  simp only at CA
  replace CA := Lib.hid CA
  have CP := Lib.hid (fun W => spec_nat (maj s i) (num s i) (maj_lt s i) (num_lt h) W)
  have x0 : ¬ (X : Int) < 0 := by omega
  have x1 : (i : Int) ≤ (X : Int) := by omega
  have x2 : (X : Int) ≤ (s.size : Int) := by omega
  have HG : Hid (getHead s i = if headL (maj s i) (num s i) = (s.data.toList.drop i).take (1 + many s i) then ((maj s i : Int), num s i, (X : Int)) else (-1, 0, -1)) := by
    unfold Hid getHead
    rw [Int.toNat_natCast]
    by_cases hq : short s i
    · rw [if_pos ⟨by omega, h, hq⟩, if_pos ((short_iff h).2 hq), hX]; simp
    · rw [if_neg (fun h' => hq h'.2.2), if_neg (fun h' => hq ((short_iff h).1 h'))]
  have HX := Lib.hid hX
  generalize getHead s i = R at *
  generalize headL (maj s i) (num s i) = L at *
  generalize maj s i = m at *
  generalize num s i = n at *
  generalize many s i = M at *
  clear h hX e1 hX1 hX2
  go_enter Tryd.func65, Tryd.ntmps65
  go_wp2_with fail
  with_reducible refine (CA.out _).mono ?_
  rintro r w1 ⟨rfl, hb⟩
  have HB := Lib.hid hb
  clear hb CA
  go_wp2_with fail
  have hd : decide ((X : Int) < 0) = false := decide_eq_false (by omega)
  have hi : (0 : Int) ≤ (i : Int) := by omega
  clear x0
  have HE : Hid ((L == (s.extract i X).toList) = decide (L = (s.data.toList.drop i).take (1 + M))) := by unfold Hid; rw [cut_list s i X M HX.out]; exact beq_dec L _
  clear hs
  go_region_held3 (fun _ => True) (trivial) (first | (go_at_call 77; with_reducible refine (CP.out _).mono ?_; rintro r w2 ⟨rfl, hb2⟩))
  all_goals
    have HB2 := Lib.hid (HB.out.trans ((belowN (Below.refl _ _) 1).trans (hb2.mono HB.out.size)))
    by_cases hq : L = (s.data.toList.drop i).take (1 + M)
    · have he : (!(L == (s.extract i X).toList)) = false := by rw [HE.out, decide_eq_true hq]; rfl
      have HG2 : Hid (R = ((m : Int), n, (X : Int))) := by rw [HG.out, if_pos hq]; rfl
      clear hq HG HE HB hb2
      go_wp2
      all_goals first
        | (exfalso; rename_i hx; rw [he] at hx; cases hx; done)
        | (go_ret3; exact ⟨by rw [HG2.out]; rfl, HB2.out⟩)
    · have he : (!(L == (s.extract i X).toList)) = true := by rw [HE.out, decide_eq_false hq]; rfl
      have HG2 : Hid (R = (-1, 0, -1)) := by rw [HG.out, if_neg hq]; rfl
      clear hq HG HE HB hb2
      go_wp2
      all_goals first
        | (exfalso; rename_i hx; rw [he] at hx; cases hx; done)
        | (go_ret3; exact ⟨by rw [HG2.out]; rfl, HB2.out⟩)
set_option maxHeartbeats 1000000 in
theorem get_spec_no (s : ByteArray) (i : Int) (w : World) (hs : s.size ≤ 1048576) (h : ¬ (0 ≤ i ∧ anyOk s i.toNat)) :
    Calls Tryd.prog 65 #[.string s, .int .i64 i] w fun e w' => e = .returned (triple (getHead s i)) ∧ Below w.heap.size w w' := by
  have CA := fun W => any_all s i W hs
  have e1 : anyHead s i = (-1, 0, -1) := by unfold anyHead; rw [if_neg h]
  have HG : Hid (getHead s i = (-1, 0, -1)) := by unfold Hid getHead; rw [if_neg (fun h' => h ⟨h'.1, h'.2.1⟩)]
  rw [e1] at CA
  unfold triple at CA
  simp only at CA
  replace CA := Lib.hid CA
  generalize getHead s i = R at *
  clear h hs e1
  go_enter Tryd.func65, Tryd.ntmps65
  go_wp2_with fail
  with_reducible refine (CA.out _).mono ?_
  rintro r w1 ⟨rfl, hb⟩
  have HB := Lib.hid hb
  clear hb CA
  go_wp2_with fail
  go_region
  all_goals
    go_wp2
    go_ret3
    exact ⟨by rw [HG.out]; rfl, belowN HB.out 1⟩
theorem get_spec (s : ByteArray) (i : Int) (w : World) (hs : s.size ≤ 1048576) : Calls Tryd.prog 65 #[.string s, .int .i64 i] w fun e w' => e = .returned (triple (getHead s i)) ∧ Below w.heap.size w w' := by
  by_cases h : 0 ≤ i ∧ anyOk s i.toNat
  · obtain ⟨k, rfl⟩ : ∃ k : Nat, i = k := ⟨i.toNat, by omega⟩
    exact get_spec_yes s k w hs (by simpa using h.2)
  · exact get_spec_no s i w hs h

end Go.Proofs.YtnaghafmpncdkaaDoor.head
